/- litmuslaw01.NatParses answers true at every input, and changes nothing that was there: its walk. -/
import Derived.Test.YthjgonfohjgfaaaWParseR
import Derived.Test.YthjgonfohjgfaaaMF
namespace Go.Proofs.Ythjgonfohjgfaaa
open Go.RowKit
set_option linter.unusedVariables false

set_option maxRecDepth 100000 in
set_option maxHeartbeats 4000000 in
theorem natParses_few (s : ByteArray) (x y : Nat) (w : World) (hx : x < 256) (hy : y < 256) (hsz : (s.size : Int) < 100) (hmx : s.size ≤ maxLen) :
    Calls Try.prog 3 #[.string s, .agg #[.int .u8 (x : Int), .int .u8 (y : Int)]] w fun e w' => e = .returned (.bool true) ∧ Below w.heap.size w w' := by
  have htz : (s).size ≤ 100 := by omega
  obtain ⟨n, hn⟩ : ∃ n, n = (s).size := ⟨_, rfl⟩
  obtain ⟨w1, c, hconv, by1, bl1, hs1⟩ := conv_bytes (w.alloc (.cells #[.int .u8 (x : Int), .int .u8 (y : Int)] 22)) (s)
  have hz1 : (w.alloc (.cells #[.int .u8 (x : Int), .int .u8 (y : Int)] 22)).heap.size = w.heap.size + 1 := by simp
  have hrow : w1.heap[w.heap.size]? = some (.cells #[.int .u8 (x : Int), .int .u8 (y : Int)] 22 (0, 0)) := by
    rw [bl1.block _ (by rw [hz1]; omega)]
    exact heap_alloc_new w _
  have cx : w1.cell? ⟨w.heap.size, 0, none⟩ = some (.int .u8 (x : Int)) := by
    rw [cell_of_row w1 w.heap.size 0 _ _ _ hrow]
    rfl
  have cy : w1.cell? ⟨w.heap.size, 1, none⟩ = some (.int .u8 (y : Int)) := by
    rw [cell_of_row w1 w.heap.size 1 _ _ _ hrow]
    rfl
  have hbb := bl_trans (bl_alloc w (.cells #[.int .u8 (x : Int), .int .u8 (y : Int)] 22)) bl1
  have hlen := M.bytes_len (s)
  rw [← hn] at hconv htz hlen
  rw [hz1] at hconv by1
  unfold maxLen at hmx
  have HBY := Lib.hid by1
  have HBB := Lib.hid hbb
  have HL := Lib.hid hlen
  have HNE := Lib.hid hn
  have HTZ := Lib.hid (show (s).size ≤ 1000 by omega)
  clear by1 bl1 hs1 hbb hz1 hrow hlen hn
  by_cases ht0 : n = 0
  · subst ht0
    obtain ⟨u, hu, hback⟩ := HBY.out.back 0 c HL.out
    have HU := Lib.hid (show u.size ≤ 1000 by omega)
    have HB2 := HBB
    clear hu cx cy
    go_enter Try.func3, Try.ntmps3
    go_wp2
    go_loopw [36] (fun p wr => ∃ k : Nat, k ≤ 2 ∧ p = .int .i64 (k : Int) ∧ Below w.heap.size w wr) (fun p _ => 2 - (intOf p).toNat)
    case atStart => exact ⟨0, by omega, rfl, HB2.out⟩
    case round =>
      obtain ⟨k, hk, rfl, hbk⟩ := hrel
      have HBK := Lib.hid hbk
      clear hbk
      rcases (show k = 0 ∨ k = 1 ∨ k = 2 by omega) with rfl | rfl | rfl
      · obtain ⟨b, xs, hxl, hN, hR⟩ := parses_both (s) HTZ.out
        have hidx := (index_a2 wr (s) u).1
        go_wp2_with fail
        refine (hN _).mono ?_
        rintro e w3 ⟨A3, c3, rfl, o3, b3⟩
        have H3 := Lib.hid o3.rd
        have HB3 := Lib.hid (bl_trans HBK.out b3)
        clear o3 b3
        go_wp2_with fail
        refine (hR _).mono ?_
        rintro e w4 ⟨A4, c4, rfl, o4, b4⟩
        have H4 := Lib.hid o4.rd
        replace H3 := Lib.hid (H3.out.below b4)
        have HB4 := Lib.hid (bl_trans HB3.out b4)
        clear o4 b4 hN hR HB3
        have hbne : (b != b) = false := by cases b <;> rfl
        go_wp2_with fail
        refine (Same_any _ _ _ _ _ _ _ _ _ H3.out H4.out hxl hxl).mono ?_
        rintro e w5 ⟨rfl, b5⟩
        have hself : decide (xs = xs) = true := decide_eq_true rfl
        have HB5 := Lib.hid (bl_trans HB4.out b5)
        rw [hself]
        clear b5 H3 H4 HB4 hself
        go_wp2
        go_roundw
        case rel => exact ⟨1, by omega, rfl, HB5.out⟩
        case measure => simp [intOf]
      · obtain ⟨b, xs, hxl, hN, hR⟩ := parses_both u HU.out
        have hidx := (index_a2 wr (s) u).2
        go_wp2_with fail
        refine (hN _).mono ?_
        rintro e w3 ⟨A3, c3, rfl, o3, b3⟩
        have H3 := Lib.hid o3.rd
        have HB3 := Lib.hid (bl_trans HBK.out b3)
        clear o3 b3
        go_wp2_with fail
        refine (hR _).mono ?_
        rintro e w4 ⟨A4, c4, rfl, o4, b4⟩
        have H4 := Lib.hid o4.rd
        replace H3 := Lib.hid (H3.out.below b4)
        have HB4 := Lib.hid (bl_trans HB3.out b4)
        clear o4 b4 hN hR HB3
        have hbne : (b != b) = false := by cases b <;> rfl
        go_wp2_with fail
        refine (Same_any _ _ _ _ _ _ _ _ _ H3.out H4.out hxl hxl).mono ?_
        rintro e w5 ⟨rfl, b5⟩
        have hself : decide (xs = xs) = true := decide_eq_true rfl
        have HB5 := Lib.hid (bl_trans HB4.out b5)
        rw [hself]
        clear b5 H3 H4 HB4 hself
        go_wp2
        go_roundw
        case rel => exact ⟨2, by omega, rfl, HB5.out⟩
        case measure => simp [intOf]
      · go_wp2_with fail
        refine (works_any _).mono ?_
        rintro e w6 ⟨rfl, b6⟩
        have HB6 := Lib.hid (bl_trans HBK.out b6)
        clear b6
        go_wp2
        go_ret
        exact ⟨rfl, HB6.out⟩
  · have htp : 0 < n := by omega
    obtain ⟨k, hk⟩ : ∃ k, k = x % n := ⟨_, rfl⟩
    have hkn : k < n := by rw [hk]; exact Nat.mod_lt _ htp
    have hki : (x : Int).tmod (n : Int) = k := by rw [hk]; exact tmod_nat x n
    have hkm : (x : Int) % (n : Int) = k := by rw [hk]; exact (Int.natCast_emod x n).symm
    obtain ⟨z, hz⟩ : ∃ z, (M.bytes (s))[k]? = some z := ⟨_, List.getElem?_eq_getElem (by rw [HL.out]; exact hkn)⟩
    have ck := HBY.out.cell hz
    have fk := HBY.out.fr (i := k) (by rw [HL.out]; exact hkn)
    obtain ⟨u, hu, hback⟩ := (HBY.out.set k y).drew.back n c (by rw [List.length_set]; exact HL.out)
    have HU := Lib.hid (show u.size ≤ 1000 by omega)
    have HB2 := Lib.hid ((HBB.out.setCell (p := ⟨w.heap.size + 1, k, none⟩) (by simp) (.int .u8 (y : Int))).drew)
    clear hz hu hk
    go_enter Try.func3, Try.ntmps3
    go_wp2
    go_region
    go_wp2
    go_loopw [36] (fun p wr => ∃ k : Nat, k ≤ 2 ∧ p = .int .i64 (k : Int) ∧ Below w.heap.size w wr) (fun p _ => 2 - (intOf p).toNat)
    case atStart => exact ⟨0, by omega, rfl, HB2.out⟩
    case round =>
      obtain ⟨k, hk, rfl, hbk⟩ := hrel
      have HBK := Lib.hid hbk
      clear hbk
      rcases (show k = 0 ∨ k = 1 ∨ k = 2 by omega) with rfl | rfl | rfl
      · obtain ⟨b, xs, hxl, hN, hR⟩ := parses_both (s) HTZ.out
        have hidx := (index_a2 wr (s) u).1
        go_wp2_with fail
        refine (hN _).mono ?_
        rintro e w3 ⟨A3, c3, rfl, o3, b3⟩
        have H3 := Lib.hid o3.rd
        have HB3 := Lib.hid (bl_trans HBK.out b3)
        clear o3 b3
        go_wp2_with fail
        refine (hR _).mono ?_
        rintro e w4 ⟨A4, c4, rfl, o4, b4⟩
        have H4 := Lib.hid o4.rd
        replace H3 := Lib.hid (H3.out.below b4)
        have HB4 := Lib.hid (bl_trans HB3.out b4)
        clear o4 b4 hN hR HB3
        have hbne : (b != b) = false := by cases b <;> rfl
        go_wp2_with fail
        refine (Same_any _ _ _ _ _ _ _ _ _ H3.out H4.out hxl hxl).mono ?_
        rintro e w5 ⟨rfl, b5⟩
        have hself : decide (xs = xs) = true := decide_eq_true rfl
        have HB5 := Lib.hid (bl_trans HB4.out b5)
        rw [hself]
        clear b5 H3 H4 HB4 hself
        go_wp2
        go_roundw
        case rel => exact ⟨1, by omega, rfl, HB5.out⟩
        case measure => simp [intOf]
      · obtain ⟨b, xs, hxl, hN, hR⟩ := parses_both u HU.out
        have hidx := (index_a2 wr (s) u).2
        go_wp2_with fail
        refine (hN _).mono ?_
        rintro e w3 ⟨A3, c3, rfl, o3, b3⟩
        have H3 := Lib.hid o3.rd
        have HB3 := Lib.hid (bl_trans HBK.out b3)
        clear o3 b3
        go_wp2_with fail
        refine (hR _).mono ?_
        rintro e w4 ⟨A4, c4, rfl, o4, b4⟩
        have H4 := Lib.hid o4.rd
        replace H3 := Lib.hid (H3.out.below b4)
        have HB4 := Lib.hid (bl_trans HB3.out b4)
        clear o4 b4 hN hR HB3
        have hbne : (b != b) = false := by cases b <;> rfl
        go_wp2_with fail
        refine (Same_any _ _ _ _ _ _ _ _ _ H3.out H4.out hxl hxl).mono ?_
        rintro e w5 ⟨rfl, b5⟩
        have hself : decide (xs = xs) = true := decide_eq_true rfl
        have HB5 := Lib.hid (bl_trans HB4.out b5)
        rw [hself]
        clear b5 H3 H4 HB4 hself
        go_wp2
        go_roundw
        case rel => exact ⟨2, by omega, rfl, HB5.out⟩
        case measure => simp [intOf]
      · go_wp2_with fail
        refine (works_any _).mono ?_
        rintro e w6 ⟨rfl, b6⟩
        have HB6 := Lib.hid (bl_trans HBK.out b6)
        clear b6
        go_wp2
        go_ret
        exact ⟨rfl, HB6.out⟩

set_option maxRecDepth 100000 in
set_option maxHeartbeats 4000000 in
theorem natParses_many (s : ByteArray) (x y : Nat) (w : World) (hx : x < 256) (hy : y < 256) (hsz : (100 : Int) < s.size) (hmx : s.size ≤ maxLen) :
    Calls Try.prog 3 #[.string s, .agg #[.int .u8 (x : Int), .int .u8 (y : Int)]] w fun e w' => e = .returned (.bool true) ∧ Below w.heap.size w w' := by
  have htz : (s.extract 0 100).size ≤ 100 := by rw [ByteArray.size_extract]; omega
  obtain ⟨n, hn⟩ : ∃ n, n = (s.extract 0 100).size := ⟨_, rfl⟩
  obtain ⟨w1, c, hconv, by1, bl1, hs1⟩ := conv_bytes (w.alloc (.cells #[.int .u8 (x : Int), .int .u8 (y : Int)] 22)) (s.extract 0 100)
  have hz1 : (w.alloc (.cells #[.int .u8 (x : Int), .int .u8 (y : Int)] 22)).heap.size = w.heap.size + 1 := by simp
  have hrow : w1.heap[w.heap.size]? = some (.cells #[.int .u8 (x : Int), .int .u8 (y : Int)] 22 (0, 0)) := by
    rw [bl1.block _ (by rw [hz1]; omega)]
    exact heap_alloc_new w _
  have cx : w1.cell? ⟨w.heap.size, 0, none⟩ = some (.int .u8 (x : Int)) := by
    rw [cell_of_row w1 w.heap.size 0 _ _ _ hrow]
    rfl
  have cy : w1.cell? ⟨w.heap.size, 1, none⟩ = some (.int .u8 (y : Int)) := by
    rw [cell_of_row w1 w.heap.size 1 _ _ _ hrow]
    rfl
  have hbb := bl_trans (bl_alloc w (.cells #[.int .u8 (x : Int), .int .u8 (y : Int)] 22)) bl1
  have hlen := M.bytes_len (s.extract 0 100)
  rw [← hn] at hconv htz hlen
  rw [hz1] at hconv by1
  unfold maxLen at hmx
  have HBY := Lib.hid by1
  have HBB := Lib.hid hbb
  have HL := Lib.hid hlen
  have HNE := Lib.hid hn
  have HTZ := Lib.hid (show (s.extract 0 100).size ≤ 1000 by omega)
  clear by1 bl1 hs1 hbb hz1 hrow hlen hn
  by_cases ht0 : n = 0
  · subst ht0
    obtain ⟨u, hu, hback⟩ := HBY.out.back 0 c HL.out
    have HU := Lib.hid (show u.size ≤ 1000 by omega)
    have HB2 := HBB
    clear hu cx cy
    go_enter Try.func3, Try.ntmps3
    go_wp2
    go_loopw [36] (fun p wr => ∃ k : Nat, k ≤ 2 ∧ p = .int .i64 (k : Int) ∧ Below w.heap.size w wr) (fun p _ => 2 - (intOf p).toNat)
    case atStart => exact ⟨0, by omega, rfl, HB2.out⟩
    case round =>
      obtain ⟨k, hk, rfl, hbk⟩ := hrel
      have HBK := Lib.hid hbk
      clear hbk
      rcases (show k = 0 ∨ k = 1 ∨ k = 2 by omega) with rfl | rfl | rfl
      · obtain ⟨b, xs, hxl, hN, hR⟩ := parses_both (s.extract 0 100) HTZ.out
        have hidx := (index_a2 wr (s.extract 0 100) u).1
        go_wp2_with fail
        refine (hN _).mono ?_
        rintro e w3 ⟨A3, c3, rfl, o3, b3⟩
        have H3 := Lib.hid o3.rd
        have HB3 := Lib.hid (bl_trans HBK.out b3)
        clear o3 b3
        go_wp2_with fail
        refine (hR _).mono ?_
        rintro e w4 ⟨A4, c4, rfl, o4, b4⟩
        have H4 := Lib.hid o4.rd
        replace H3 := Lib.hid (H3.out.below b4)
        have HB4 := Lib.hid (bl_trans HB3.out b4)
        clear o4 b4 hN hR HB3
        have hbne : (b != b) = false := by cases b <;> rfl
        go_wp2_with fail
        refine (Same_any _ _ _ _ _ _ _ _ _ H3.out H4.out hxl hxl).mono ?_
        rintro e w5 ⟨rfl, b5⟩
        have hself : decide (xs = xs) = true := decide_eq_true rfl
        have HB5 := Lib.hid (bl_trans HB4.out b5)
        rw [hself]
        clear b5 H3 H4 HB4 hself
        go_wp2
        go_roundw
        case rel => exact ⟨1, by omega, rfl, HB5.out⟩
        case measure => simp [intOf]
      · obtain ⟨b, xs, hxl, hN, hR⟩ := parses_both u HU.out
        have hidx := (index_a2 wr (s.extract 0 100) u).2
        go_wp2_with fail
        refine (hN _).mono ?_
        rintro e w3 ⟨A3, c3, rfl, o3, b3⟩
        have H3 := Lib.hid o3.rd
        have HB3 := Lib.hid (bl_trans HBK.out b3)
        clear o3 b3
        go_wp2_with fail
        refine (hR _).mono ?_
        rintro e w4 ⟨A4, c4, rfl, o4, b4⟩
        have H4 := Lib.hid o4.rd
        replace H3 := Lib.hid (H3.out.below b4)
        have HB4 := Lib.hid (bl_trans HB3.out b4)
        clear o4 b4 hN hR HB3
        have hbne : (b != b) = false := by cases b <;> rfl
        go_wp2_with fail
        refine (Same_any _ _ _ _ _ _ _ _ _ H3.out H4.out hxl hxl).mono ?_
        rintro e w5 ⟨rfl, b5⟩
        have hself : decide (xs = xs) = true := decide_eq_true rfl
        have HB5 := Lib.hid (bl_trans HB4.out b5)
        rw [hself]
        clear b5 H3 H4 HB4 hself
        go_wp2
        go_roundw
        case rel => exact ⟨2, by omega, rfl, HB5.out⟩
        case measure => simp [intOf]
      · go_wp2_with fail
        refine (works_any _).mono ?_
        rintro e w6 ⟨rfl, b6⟩
        have HB6 := Lib.hid (bl_trans HBK.out b6)
        clear b6
        go_wp2
        go_ret
        exact ⟨rfl, HB6.out⟩
  · have htp : 0 < n := by omega
    obtain ⟨k, hk⟩ : ∃ k, k = x % n := ⟨_, rfl⟩
    have hkn : k < n := by rw [hk]; exact Nat.mod_lt _ htp
    have hki : (x : Int).tmod (n : Int) = k := by rw [hk]; exact tmod_nat x n
    have hkm : (x : Int) % (n : Int) = k := by rw [hk]; exact (Int.natCast_emod x n).symm
    obtain ⟨z, hz⟩ : ∃ z, (M.bytes (s.extract 0 100))[k]? = some z := ⟨_, List.getElem?_eq_getElem (by rw [HL.out]; exact hkn)⟩
    have ck := HBY.out.cell hz
    have fk := HBY.out.fr (i := k) (by rw [HL.out]; exact hkn)
    obtain ⟨u, hu, hback⟩ := (HBY.out.set k y).drew.back n c (by rw [List.length_set]; exact HL.out)
    have HU := Lib.hid (show u.size ≤ 1000 by omega)
    have HB2 := Lib.hid ((HBB.out.setCell (p := ⟨w.heap.size + 1, k, none⟩) (by simp) (.int .u8 (y : Int))).drew)
    clear hz hu hk
    go_enter Try.func3, Try.ntmps3
    go_wp2
    go_region
    go_wp2
    go_loopw [36] (fun p wr => ∃ k : Nat, k ≤ 2 ∧ p = .int .i64 (k : Int) ∧ Below w.heap.size w wr) (fun p _ => 2 - (intOf p).toNat)
    case atStart => exact ⟨0, by omega, rfl, HB2.out⟩
    case round =>
      obtain ⟨k, hk, rfl, hbk⟩ := hrel
      have HBK := Lib.hid hbk
      clear hbk
      rcases (show k = 0 ∨ k = 1 ∨ k = 2 by omega) with rfl | rfl | rfl
      · obtain ⟨b, xs, hxl, hN, hR⟩ := parses_both (s.extract 0 100) HTZ.out
        have hidx := (index_a2 wr (s.extract 0 100) u).1
        go_wp2_with fail
        refine (hN _).mono ?_
        rintro e w3 ⟨A3, c3, rfl, o3, b3⟩
        have H3 := Lib.hid o3.rd
        have HB3 := Lib.hid (bl_trans HBK.out b3)
        clear o3 b3
        go_wp2_with fail
        refine (hR _).mono ?_
        rintro e w4 ⟨A4, c4, rfl, o4, b4⟩
        have H4 := Lib.hid o4.rd
        replace H3 := Lib.hid (H3.out.below b4)
        have HB4 := Lib.hid (bl_trans HB3.out b4)
        clear o4 b4 hN hR HB3
        have hbne : (b != b) = false := by cases b <;> rfl
        go_wp2_with fail
        refine (Same_any _ _ _ _ _ _ _ _ _ H3.out H4.out hxl hxl).mono ?_
        rintro e w5 ⟨rfl, b5⟩
        have hself : decide (xs = xs) = true := decide_eq_true rfl
        have HB5 := Lib.hid (bl_trans HB4.out b5)
        rw [hself]
        clear b5 H3 H4 HB4 hself
        go_wp2
        go_roundw
        case rel => exact ⟨1, by omega, rfl, HB5.out⟩
        case measure => simp [intOf]
      · obtain ⟨b, xs, hxl, hN, hR⟩ := parses_both u HU.out
        have hidx := (index_a2 wr (s.extract 0 100) u).2
        go_wp2_with fail
        refine (hN _).mono ?_
        rintro e w3 ⟨A3, c3, rfl, o3, b3⟩
        have H3 := Lib.hid o3.rd
        have HB3 := Lib.hid (bl_trans HBK.out b3)
        clear o3 b3
        go_wp2_with fail
        refine (hR _).mono ?_
        rintro e w4 ⟨A4, c4, rfl, o4, b4⟩
        have H4 := Lib.hid o4.rd
        replace H3 := Lib.hid (H3.out.below b4)
        have HB4 := Lib.hid (bl_trans HB3.out b4)
        clear o4 b4 hN hR HB3
        have hbne : (b != b) = false := by cases b <;> rfl
        go_wp2_with fail
        refine (Same_any _ _ _ _ _ _ _ _ _ H3.out H4.out hxl hxl).mono ?_
        rintro e w5 ⟨rfl, b5⟩
        have hself : decide (xs = xs) = true := decide_eq_true rfl
        have HB5 := Lib.hid (bl_trans HB4.out b5)
        rw [hself]
        clear b5 H3 H4 HB4 hself
        go_wp2
        go_roundw
        case rel => exact ⟨2, by omega, rfl, HB5.out⟩
        case measure => simp [intOf]
      · go_wp2_with fail
        refine (works_any _).mono ?_
        rintro e w6 ⟨rfl, b6⟩
        have HB6 := Lib.hid (bl_trans HBK.out b6)
        clear b6
        go_wp2
        go_ret
        exact ⟨rfl, HB6.out⟩

set_option maxRecDepth 100000 in
set_option maxHeartbeats 4000000 in
theorem natParses_just (s : ByteArray) (x y : Nat) (w : World) (hx : x < 256) (hy : y < 256) (hsz : s.size = 100) (hmx : s.size ≤ maxLen) :
    Calls Try.prog 3 #[.string s, .agg #[.int .u8 (x : Int), .int .u8 (y : Int)]] w fun e w' => e = .returned (.bool true) ∧ Below w.heap.size w w' := by
  have htz : (s.extract 0 100).size ≤ 100 := by rw [ByteArray.size_extract]; omega
  obtain ⟨n, hn⟩ : ∃ n, n = (s.extract 0 100).size := ⟨_, rfl⟩
  obtain ⟨w1, c, hconv, by1, bl1, hs1⟩ := conv_bytes (w.alloc (.cells #[.int .u8 (x : Int), .int .u8 (y : Int)] 22)) (s.extract 0 100)
  have hz1 : (w.alloc (.cells #[.int .u8 (x : Int), .int .u8 (y : Int)] 22)).heap.size = w.heap.size + 1 := by simp
  have hrow : w1.heap[w.heap.size]? = some (.cells #[.int .u8 (x : Int), .int .u8 (y : Int)] 22 (0, 0)) := by
    rw [bl1.block _ (by rw [hz1]; omega)]
    exact heap_alloc_new w _
  have cx : w1.cell? ⟨w.heap.size, 0, none⟩ = some (.int .u8 (x : Int)) := by
    rw [cell_of_row w1 w.heap.size 0 _ _ _ hrow]
    rfl
  have cy : w1.cell? ⟨w.heap.size, 1, none⟩ = some (.int .u8 (y : Int)) := by
    rw [cell_of_row w1 w.heap.size 1 _ _ _ hrow]
    rfl
  have hbb := bl_trans (bl_alloc w (.cells #[.int .u8 (x : Int), .int .u8 (y : Int)] 22)) bl1
  have hlen := M.bytes_len (s.extract 0 100)
  rw [← hn] at hconv htz hlen
  rw [hz1] at hconv by1
  unfold maxLen at hmx
  have HBY := Lib.hid by1
  have HBB := Lib.hid hbb
  have HL := Lib.hid hlen
  have HNE := Lib.hid hn
  have HTZ := Lib.hid (show (s.extract 0 100).size ≤ 1000 by omega)
  clear by1 bl1 hs1 hbb hz1 hrow hlen hn
  by_cases ht0 : n = 0
  · subst ht0
    obtain ⟨u, hu, hback⟩ := HBY.out.back 0 c HL.out
    have HU := Lib.hid (show u.size ≤ 1000 by omega)
    have HB2 := HBB
    clear hu cx cy
    go_enter Try.func3, Try.ntmps3
    go_wp2
    go_loopw [36] (fun p wr => ∃ k : Nat, k ≤ 2 ∧ p = .int .i64 (k : Int) ∧ Below w.heap.size w wr) (fun p _ => 2 - (intOf p).toNat)
    case atStart => exact ⟨0, by omega, rfl, HB2.out⟩
    case round =>
      obtain ⟨k, hk, rfl, hbk⟩ := hrel
      have HBK := Lib.hid hbk
      clear hbk
      rcases (show k = 0 ∨ k = 1 ∨ k = 2 by omega) with rfl | rfl | rfl
      · obtain ⟨b, xs, hxl, hN, hR⟩ := parses_both (s.extract 0 100) HTZ.out
        have hidx := (index_a2 wr (s.extract 0 100) u).1
        go_wp2_with fail
        refine (hN _).mono ?_
        rintro e w3 ⟨A3, c3, rfl, o3, b3⟩
        have H3 := Lib.hid o3.rd
        have HB3 := Lib.hid (bl_trans HBK.out b3)
        clear o3 b3
        go_wp2_with fail
        refine (hR _).mono ?_
        rintro e w4 ⟨A4, c4, rfl, o4, b4⟩
        have H4 := Lib.hid o4.rd
        replace H3 := Lib.hid (H3.out.below b4)
        have HB4 := Lib.hid (bl_trans HB3.out b4)
        clear o4 b4 hN hR HB3
        have hbne : (b != b) = false := by cases b <;> rfl
        go_wp2_with fail
        refine (Same_any _ _ _ _ _ _ _ _ _ H3.out H4.out hxl hxl).mono ?_
        rintro e w5 ⟨rfl, b5⟩
        have hself : decide (xs = xs) = true := decide_eq_true rfl
        have HB5 := Lib.hid (bl_trans HB4.out b5)
        rw [hself]
        clear b5 H3 H4 HB4 hself
        go_wp2
        go_roundw
        case rel => exact ⟨1, by omega, rfl, HB5.out⟩
        case measure => simp [intOf]
      · obtain ⟨b, xs, hxl, hN, hR⟩ := parses_both u HU.out
        have hidx := (index_a2 wr (s.extract 0 100) u).2
        go_wp2_with fail
        refine (hN _).mono ?_
        rintro e w3 ⟨A3, c3, rfl, o3, b3⟩
        have H3 := Lib.hid o3.rd
        have HB3 := Lib.hid (bl_trans HBK.out b3)
        clear o3 b3
        go_wp2_with fail
        refine (hR _).mono ?_
        rintro e w4 ⟨A4, c4, rfl, o4, b4⟩
        have H4 := Lib.hid o4.rd
        replace H3 := Lib.hid (H3.out.below b4)
        have HB4 := Lib.hid (bl_trans HB3.out b4)
        clear o4 b4 hN hR HB3
        have hbne : (b != b) = false := by cases b <;> rfl
        go_wp2_with fail
        refine (Same_any _ _ _ _ _ _ _ _ _ H3.out H4.out hxl hxl).mono ?_
        rintro e w5 ⟨rfl, b5⟩
        have hself : decide (xs = xs) = true := decide_eq_true rfl
        have HB5 := Lib.hid (bl_trans HB4.out b5)
        rw [hself]
        clear b5 H3 H4 HB4 hself
        go_wp2
        go_roundw
        case rel => exact ⟨2, by omega, rfl, HB5.out⟩
        case measure => simp [intOf]
      · go_wp2_with fail
        refine (works_any _).mono ?_
        rintro e w6 ⟨rfl, b6⟩
        have HB6 := Lib.hid (bl_trans HBK.out b6)
        clear b6
        go_wp2
        go_ret
        exact ⟨rfl, HB6.out⟩
  · have htp : 0 < n := by omega
    obtain ⟨k, hk⟩ : ∃ k, k = x % n := ⟨_, rfl⟩
    have hkn : k < n := by rw [hk]; exact Nat.mod_lt _ htp
    have hki : (x : Int).tmod (n : Int) = k := by rw [hk]; exact tmod_nat x n
    have hkm : (x : Int) % (n : Int) = k := by rw [hk]; exact (Int.natCast_emod x n).symm
    obtain ⟨z, hz⟩ : ∃ z, (M.bytes (s.extract 0 100))[k]? = some z := ⟨_, List.getElem?_eq_getElem (by rw [HL.out]; exact hkn)⟩
    have ck := HBY.out.cell hz
    have fk := HBY.out.fr (i := k) (by rw [HL.out]; exact hkn)
    obtain ⟨u, hu, hback⟩ := (HBY.out.set k y).drew.back n c (by rw [List.length_set]; exact HL.out)
    have HU := Lib.hid (show u.size ≤ 1000 by omega)
    have HB2 := Lib.hid ((HBB.out.setCell (p := ⟨w.heap.size + 1, k, none⟩) (by simp) (.int .u8 (y : Int))).drew)
    clear hz hu hk
    go_enter Try.func3, Try.ntmps3
    go_wp2
    go_region
    go_wp2
    go_loopw [36] (fun p wr => ∃ k : Nat, k ≤ 2 ∧ p = .int .i64 (k : Int) ∧ Below w.heap.size w wr) (fun p _ => 2 - (intOf p).toNat)
    case atStart => exact ⟨0, by omega, rfl, HB2.out⟩
    case round =>
      obtain ⟨k, hk, rfl, hbk⟩ := hrel
      have HBK := Lib.hid hbk
      clear hbk
      rcases (show k = 0 ∨ k = 1 ∨ k = 2 by omega) with rfl | rfl | rfl
      · obtain ⟨b, xs, hxl, hN, hR⟩ := parses_both (s.extract 0 100) HTZ.out
        have hidx := (index_a2 wr (s.extract 0 100) u).1
        go_wp2_with fail
        refine (hN _).mono ?_
        rintro e w3 ⟨A3, c3, rfl, o3, b3⟩
        have H3 := Lib.hid o3.rd
        have HB3 := Lib.hid (bl_trans HBK.out b3)
        clear o3 b3
        go_wp2_with fail
        refine (hR _).mono ?_
        rintro e w4 ⟨A4, c4, rfl, o4, b4⟩
        have H4 := Lib.hid o4.rd
        replace H3 := Lib.hid (H3.out.below b4)
        have HB4 := Lib.hid (bl_trans HB3.out b4)
        clear o4 b4 hN hR HB3
        have hbne : (b != b) = false := by cases b <;> rfl
        go_wp2_with fail
        refine (Same_any _ _ _ _ _ _ _ _ _ H3.out H4.out hxl hxl).mono ?_
        rintro e w5 ⟨rfl, b5⟩
        have hself : decide (xs = xs) = true := decide_eq_true rfl
        have HB5 := Lib.hid (bl_trans HB4.out b5)
        rw [hself]
        clear b5 H3 H4 HB4 hself
        go_wp2
        go_roundw
        case rel => exact ⟨1, by omega, rfl, HB5.out⟩
        case measure => simp [intOf]
      · obtain ⟨b, xs, hxl, hN, hR⟩ := parses_both u HU.out
        have hidx := (index_a2 wr (s.extract 0 100) u).2
        go_wp2_with fail
        refine (hN _).mono ?_
        rintro e w3 ⟨A3, c3, rfl, o3, b3⟩
        have H3 := Lib.hid o3.rd
        have HB3 := Lib.hid (bl_trans HBK.out b3)
        clear o3 b3
        go_wp2_with fail
        refine (hR _).mono ?_
        rintro e w4 ⟨A4, c4, rfl, o4, b4⟩
        have H4 := Lib.hid o4.rd
        replace H3 := Lib.hid (H3.out.below b4)
        have HB4 := Lib.hid (bl_trans HB3.out b4)
        clear o4 b4 hN hR HB3
        have hbne : (b != b) = false := by cases b <;> rfl
        go_wp2_with fail
        refine (Same_any _ _ _ _ _ _ _ _ _ H3.out H4.out hxl hxl).mono ?_
        rintro e w5 ⟨rfl, b5⟩
        have hself : decide (xs = xs) = true := decide_eq_true rfl
        have HB5 := Lib.hid (bl_trans HB4.out b5)
        rw [hself]
        clear b5 H3 H4 HB4 hself
        go_wp2
        go_roundw
        case rel => exact ⟨2, by omega, rfl, HB5.out⟩
        case measure => simp [intOf]
      · go_wp2_with fail
        refine (works_any _).mono ?_
        rintro e w6 ⟨rfl, b6⟩
        have HB6 := Lib.hid (bl_trans HBK.out b6)
        clear b6
        go_wp2
        go_ret
        exact ⟨rfl, HB6.out⟩

theorem natParses_walk (s : ByteArray) (x y : Nat) (w : World) (hx : x < 256) (hy : y < 256) (hmx : s.size ≤ maxLen) :
    Calls Try.prog 3 #[.string s, .agg #[.int .u8 (x : Int), .int .u8 (y : Int)]] w fun e w' => e = .returned (.bool true) ∧ Below w.heap.size w w' := by
  rcases Nat.lt_trichotomy s.size 100 with h | h | h
  · exact natParses_few s x y w hx hy (by omega) hmx
  · exact natParses_just s x y w hx hy h hmx
  · exact natParses_many s x y w hx hy (by omega) hmx

end Go.Proofs.Ythjgonfohjgfaaa
