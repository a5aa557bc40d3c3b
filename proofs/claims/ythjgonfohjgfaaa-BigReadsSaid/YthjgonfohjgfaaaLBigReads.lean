/- litmuslaw02.BigReads answers true at every input, and changes nothing that was there: its walk. -/
import Derived.Test.YthjgonfohjgfaaaZRefE
import Derived.Test.YthjgonfohjgfaaaZY
namespace Go.Proofs.Ythjgonfohjgfaaa
open Go.RowKit
set_option linter.unusedVariables false
set_option maxRecDepth 100000

/-- Whatever text: both answer the same. -/
theorem reads_both (u : ByteArray) (hu : u.size ≤ 1000) : ∃ (z : Int) (k : Nat) (o : Bool), k ≤ 1000 ∧ (∀ w, Calls Try.prog 41 #[.string u] w (Ans w fun w' v => IsZB w.heap.size w' v z k o)) ∧ ∀ w, Calls Try.prog 42 #[.string u] w (Ans w fun w' v => IsTB w' v z k o) := by
  by_cases h : isZ u
  · have hv : (valZ u).natAbs < M.R ^ u.size := by
      unfold valZ
      rw [zv_abs]
      have h1 := M.dec_lt h.1.2.2
      have h2 : (10 : Nat) ^ (M.bytes (cutP u)).length ≤ 10 ^ u.size := Nat.pow_le_pow_right (by omega) (by rw [M.bytes_len]; exact cut_size u)
      have h3 : (10 : Nat) ^ u.size ≤ M.R ^ u.size := Nat.pow_le_pow_left (by rw [M.R_eq]; omega) _
      omega
    exact ⟨valZ u, u.size, true, hu, fun w => cParse u (by omega) h hv (Nat.le_refl _), fun w => cRefParse u hu h hv hu⟩
  · exact ⟨0, 0, false, by omega, fun w => cParse_no u (by omega) h (Nat.le_refl _), fun w => cRefParse_no u hu h⟩

theorem index_a4 (w : World) (a b c d : ByteArray) : (Instr.index 55 (.agg #[.string a, .string b, .string c, .string d]) (.int .i64 0)).run Try.prog w = .ok (.string a) w ∧ (Instr.index 55 (.agg #[.string a, .string b, .string c, .string d]) (.int .i64 1)).run Try.prog w = .ok (.string b) w ∧ (Instr.index 55 (.agg #[.string a, .string b, .string c, .string d]) (.int .i64 2)).run Try.prog w = .ok (.string c) w ∧ (Instr.index 55 (.agg #[.string a, .string b, .string c, .string d]) (.int .i64 3)).run Try.prog w = .ok (.string d) w := by
  refine ⟨?_, ?_, ?_, ?_⟩ <;> simp [Instr.index, run_underlying Try.underlying55, asIntOf, go_sem]

set_option maxHeartbeats 4000000 in
theorem bigReads_few (s : ByteArray) (sa : Bool) (Aa : Option Addr) (na ca : Nat) (xa : List Nat) (x y : Nat) (w : World) (ha : Rd w Aa na ca xa) (ga : na ≤ maxLen) (hx : x < 256) (hy : y < 256) (hsz : ¬ (100 : Int) < s.size) (hmx : s.size ≤ maxLen) :
    Calls Try.prog 6 #[.string s, .agg #[.bool sa, .slice Aa na ca], .agg #[.int .u8 (x : Int), .int .u8 (y : Int)]] w fun e w' => e = .returned (.bool true) ∧ Below w.heap.size w w' := by
  have htz : (s).size ≤ 100 := by omega
  obtain ⟨za, hza⟩ : ∃ za, za = zv sa (M.val (xa.take (min na 15))) := ⟨_, rfl⟩
  have HTZ := Lib.hid htz
  have Ha := Lib.hid ha
  have Ga := Lib.hid ga
  have HZa := Lib.hid hza
  unfold maxLen at hmx
  have hmin : min (s.size : Int) 100 = (s.size : Int) := by omega
  have hmin2 : (if (100 : Int) < s.size then (100 : Int) else s.size) = (s.size : Int) := by split <;> omega
  have Pa := ((Bz.new w sa Aa na ca).alloc (.cells #[.int .u8 (x : Int), .int .u8 (y : Int)] 22)).drew
  have hrow : ((w.alloc (.cells #[.bool sa, .slice Aa na ca] 32)).alloc (.cells #[.int .u8 (x : Int), .int .u8 (y : Int)] 22)).drew.heap[w.heap.size + 1]? = some (.cells #[.int .u8 (x : Int), .int .u8 (y : Int)] 22 (0, 0)) := by
    have := heap_alloc_new (w.alloc (.cells #[.bool sa, .slice Aa na ca] 32)) (.cells #[.int .u8 (x : Int), .int .u8 (y : Int)] 22)
    rw [hs_alloc] at this
    exact this
  have BB := Below.drew (bl_trans (bl_alloc w (.cells #[.bool sa, .slice Aa na ca] 32)) (bl_alloc _ (.cells #[.int .u8 (x : Int), .int .u8 (y : Int)] 22)))
  have Fa := Lib.hid (show ∀ W, Below w.heap.size w W → Calls Try.prog 13 #[.agg #[.bool sa, .slice Aa na ca], .int .i64 15] W (Ans W fun _ v => v = .agg #[.bool sa, .slice Aa (min na 15) ca]) from fun W h => cFew (Ha.out.below h) Ga.out 15 _ rfl (by omega))
  have hlt2 : w.heap.size + 1 < ((w.alloc (.cells #[.bool sa, .slice Aa na ca] 32)).alloc (.cells #[.int .u8 (x : Int), .int .u8 (y : Int)] 22)).drew.heap.size := by
    show w.heap.size + 1 < ((w.alloc (.cells #[.bool sa, .slice Aa na ca] 32)).alloc (.cells #[.int .u8 (x : Int), .int .u8 (y : Int)] 22)).heap.size
    rw [hs_alloc, hs_alloc]
    omega
  have HR := Lib.hid hrow
  have HR2 := Lib.hid hlt2
  clear htz ha ga hza hrow hlt2
  go_enter Try.func6, Try.ntmps6
  go_wp2_with fail
  have Pa_0 := Pa.c0
  have Pa_1 := Pa.c1
  go_region_with (first
      | (go_at_call 13; refine (Fa.out _ BB).mono ?_; rintro e w1 ⟨_, rfl, hb1, rfl⟩; replace HR := Lib.hid ((hb1.block _ HR2.out).trans HR.out); replace HR2 := Lib.hid (Nat.lt_of_lt_of_le HR2.out hb1.size); replace Pa := Pa.below hb1; replace BB := bl_trans BB hb1; have r0 := Pa.c0; have r1 := Pa.c1; have f0 := Pa.f 0; have f1 := Pa.f 1; clear hb1))
  all_goals
    have hr2 : ((w1.setCell ⟨w.heap.size, 0, none⟩ (.bool sa)).setCell ⟨w.heap.size, 1, none⟩ (.slice Aa (min na 15) ca)).heap[w.heap.size + 1]? = some (.cells #[.int .u8 (x : Int), .int .u8 (y : Int)] 22 (0, 0)) := by
      rw [heap_setCell_other _ ⟨w.heap.size, 1, none⟩ _ _ (by simp), heap_setCell_other _ ⟨w.heap.size, 0, none⟩ _ _ (by simp)]
      exact HR.out
    have hl2 : w.heap.size + 1 < ((w1.setCell ⟨w.heap.size, 0, none⟩ (.bool sa)).setCell ⟨w.heap.size, 1, none⟩ (.slice Aa (min na 15) ca)).heap.size := by simp only [World.setCell, Array.size_modify]; exact HR2.out
    replace Pa := st_P (t := sa) (B := Aa) (m := min na 15) (d := ca) Pa
    replace BB := st_B BB (Nat.le_refl _) (.bool sa) (.slice Aa (min na 15) ca)
    have Qa : IsM ((w1.setCell ⟨w.heap.size, 0, none⟩ (.bool sa)).setCell ⟨w.heap.size, 1, none⟩ (.slice Aa (min na 15) ca)) (.agg #[.bool sa, .slice Aa (min na 15) ca]) za 15 := ⟨_, _, _, _, rfl, by rw [HZa.out]; exact few_zm (Ha.out.below BB) 15⟩
    clear r0 r1 f0 f1 HR HR2 Pa_0 Pa_1
    generalize ((w1.setCell ⟨w.heap.size, 0, none⟩ (.bool sa)).setCell ⟨w.heap.size, 1, none⟩ (.slice Aa (min na 15) ca)) = W at hr2 hl2 Pa BB Qa ⊢
    have hlt : za.natAbs < M.R ^ 15 := by
      obtain ⟨_, _, _, _, _, Z⟩ := Qa
      exact Z.lt
    have HR := Lib.hid hr2
    have HR2 := Lib.hid hl2
    have HLT := Lib.hid hlt
    have Pa_0 := Pa.c0
    have Pa_1 := Pa.c1
    clear Ha Ga HZa Fa hr2 hl2 hlt
    go_wp2_with fail
    refine (cRefText Qa (by omega)).mono ?_
    rintro e w2 ⟨_, rfl, hb2, own, rfl, hown⟩
    clear Pa_0 Pa_1
    have hosz : own.size ≤ 152 := txtZ_size hown HLT.out
    obtain ⟨no, hno⟩ : ∃ no, no = own.size := ⟨_, rfl⟩
    have hno0 : 0 < no := by
      rw [hno, ← M.bytes_len, hown]
      refine List.length_pos_iff.2 fun e => ?_
      have := (txtZ_is hown).1.1.1
      have h2 := cut_size own
      rw [← hown] at e
      have h3 : own.size = 0 := by rw [← M.bytes_len, e]; rfl
      exact this (List.eq_nil_of_length_eq_zero (by rw [M.bytes_len]; omega))
    obtain ⟨w3, c3, hconv, by3, bl3, hs3⟩ := conv_bytes w2 own
    have hb23 := bl_trans hb2 bl3
    have hrow : w3.heap[w.heap.size + 1]? = some (.cells #[.int .u8 (x : Int), .int .u8 (y : Int)] 22 (0, 0)) := (hb23.block _ HR2.out).trans HR.out
    have hlt3 : w.heap.size + 1 < w2.heap.size := Nat.lt_of_lt_of_le HR2.out hb2.size
    have hwle : w.heap.size ≤ w2.heap.size := by omega
    have cx : w3.cell? ⟨w.heap.size + 1, 0, none⟩ = some (.int .u8 (x : Int)) := by
      rw [cell_of_row w3 (w.heap.size + 1) 0 _ _ _ hrow]
      rfl
    have cy : w3.cell? ⟨w.heap.size + 1, 1, none⟩ = some (.int .u8 (y : Int)) := by
      rw [cell_of_row w3 (w.heap.size + 1) 1 _ _ _ hrow]
      rfl
    obtain ⟨g, hg⟩ : ∃ g, g = w2.heap.size := ⟨_, rfl⟩
    rw [← hg] at hconv by3 hwle
    rw [← hno] at hconv
    have hpg : w.heap.size < g := by omega
    have hlen := M.bytes_len own
    rw [← hno] at hlen
    obtain ⟨k, hk⟩ : ∃ k, k = x % no := ⟨_, rfl⟩
    have hkn : k < no := by rw [hk]; exact Nat.mod_lt _ hno0
    have hki : (x : Int).tmod (no : Int) = k := by rw [hk]; exact tmod_nat x no
    have hkm : (x : Int) % (no : Int) = k := by rw [hk]; exact (Int.natCast_emod x no).symm
    obtain ⟨z, hz⟩ : ∃ z, (M.bytes own)[k]? = some z := ⟨_, List.getElem?_eq_getElem (by rw [hlen]; exact hkn)⟩
    have ck := by3.cell hz
    have fk := by3.fr (i := k) (by rw [hlen]; exact hkn)
    obtain ⟨u, hu, hback⟩ := (by3.set k y).drew.back no c3 (by rw [List.length_set]; exact hlen)
    have hb3s : Below w2.heap.size w2 (w3.setCell ⟨g, k, none⟩ (.int .u8 (y : Int))).drew := (bl3.setCell (p := ⟨g, k, none⟩) (by simp only; omega) (.int .u8 (y : Int))).drew
    have QP := (Pa.below hb2).below hb3s
    have QQ := (Qa.below hb2).below hb3s
    have HB3 := bl_trans (bl_trans BB hb2) hb3s
    have HU := Lib.hid (show u.size ≤ 1000 by omega)
    have HOW := Lib.hid (show own.size ≤ 1000 by omega)
    have HOT := Lib.hid hown
    have HTM := Lib.hid (show (⟨#[45]⟩ ++ s : ByteArray).size ≤ 1000 by
      rw [← M.bytes_len, bytes_minus, List.length_cons, M.bytes_len]
      have := HTZ.out
      omega)
    have HT0 := Lib.hid (show (s).size ≤ 1000 by have := HTZ.out; omega)
    clear hb2 hb23 bl3 hb3s by3 hs3 hrow hlt3 Pa Qa BB hz hu hk HR HR2 hown hno hg hlen
    go_wp2
    go_region
    go_wp2
    go_loopw [43] (fun p wr => ∃ k : Nat, k ≤ 4 ∧ p = .int .i64 (k : Int) ∧ Bz wr w.heap.size sa Aa (min na 15) ca ∧ IsM wr (.agg #[.bool sa, .slice Aa (min na 15) ca]) za 15 ∧ Below w.heap.size w wr) (fun p _ => 4 - (intOf p).toNat)
    case atStart => exact ⟨0, by omega, rfl, QP, QQ, HB3⟩
    case round =>
      clear hconv hback cx cy ck fk QP QQ HB3
      obtain ⟨k', hk', rfl, Pa, Qa, BB⟩ := hrel
      rcases (show k' = 0 ∨ k' = 1 ∨ k' = 2 ∨ k' = 3 ∨ k' = 4 by omega) with rfl | rfl | rfl | rfl | rfl
      · obtain ⟨zu, ku, ou, hku, hN, hR⟩ := reads_both (s) HT0.out
        have hidx := (index_a4 wr (s) own u (⟨#[45]⟩ ++ s)).1
        go_wp2_with fail
        refine (hN _).mono ?_
        rintro e w3 ⟨_, rfl, hb3, b3, A3, n3, c3, rfl, Z3⟩
        have q3 : IsT w3 (.agg #[.bool b3, .slice A3 n3 c3]) zu ku := IsZ.t ⟨_, _, _, _, rfl, Z3⟩
        have P3 := Bz.new w3 b3 A3 n3 c3
        replace q3 := q3.below (bl_alloc w3 (.cells #[.bool b3, .slice A3 n3 c3] 32))
        have hb3' := bl_trans hb3 (bl_alloc w3 (.cells #[.bool b3, .slice A3 n3 c3] 32))
        replace Pa := Pa.below hb3'
        replace Qa := Qa.below hb3'
        replace BB := bl_trans BB hb3'
        clear hb3 hb3' Z3
        go_wp2_with fail
        refine (hR _).mono ?_
        rintro e w4 ⟨_, rfl, hb4, b4, A4, n4, c4, rfl, q4⟩
        have P4 := Bz.new w4 b4 A4 n4 c4
        replace q4 := q4.below (bl_alloc w4 (.cells #[.bool b4, .slice A4 n4 c4] 32))
        have hb4' := bl_trans hb4 (bl_alloc w4 (.cells #[.bool b4, .slice A4 n4 c4] 32))
        replace Pa := Pa.below hb4'
        replace Qa := Qa.below hb4'
        replace BB := bl_trans BB hb4'
        replace q3 := q3.below hb4'
        replace P3 := P3.below hb4'
        have g0 := P3.c0
        have g1 := P3.c1
        have g2 := P4.c0
        have g3 := P4.c1
        have hbne : (ou != ou) = false := by cases ou <;> rfl
        clear hb4 hb4' hN hR
        go_wp2_with fail
        refine (cSameR q3 q4 hku hku).mono ?_
        rintro e w5 ⟨_, rfl, hb5, rfl⟩
        replace Pa := Pa.below hb5
        replace Qa := Qa.below hb5
        replace BB := bl_trans BB hb5
        have hself : decide (zu = zu) = true := decide_eq_true rfl
        rw [hself]
        clear hb5 hself g0 g1 g2 g3 P3 P4 q3 q4
        go_wp2
        go_roundw
        case rel => exact ⟨1, by omega, rfl, Pa, Qa, BB⟩
        case measure => simp [intOf]
      · obtain ⟨zu, ku, ou, hku, hN, hR⟩ := reads_both own HOW.out
        have hidx := (index_a4 wr (s) own u (⟨#[45]⟩ ++ s)).2.1
        go_wp2_with fail
        refine (hN _).mono ?_
        rintro e w3 ⟨_, rfl, hb3, b3, A3, n3, c3, rfl, Z3⟩
        have q3 : IsT w3 (.agg #[.bool b3, .slice A3 n3 c3]) zu ku := IsZ.t ⟨_, _, _, _, rfl, Z3⟩
        have P3 := Bz.new w3 b3 A3 n3 c3
        replace q3 := q3.below (bl_alloc w3 (.cells #[.bool b3, .slice A3 n3 c3] 32))
        have hb3' := bl_trans hb3 (bl_alloc w3 (.cells #[.bool b3, .slice A3 n3 c3] 32))
        replace Pa := Pa.below hb3'
        replace Qa := Qa.below hb3'
        replace BB := bl_trans BB hb3'
        clear hb3 hb3' Z3
        go_wp2_with fail
        refine (hR _).mono ?_
        rintro e w4 ⟨_, rfl, hb4, b4, A4, n4, c4, rfl, q4⟩
        have P4 := Bz.new w4 b4 A4 n4 c4
        replace q4 := q4.below (bl_alloc w4 (.cells #[.bool b4, .slice A4 n4 c4] 32))
        have hb4' := bl_trans hb4 (bl_alloc w4 (.cells #[.bool b4, .slice A4 n4 c4] 32))
        replace Pa := Pa.below hb4'
        replace Qa := Qa.below hb4'
        replace BB := bl_trans BB hb4'
        replace q3 := q3.below hb4'
        replace P3 := P3.below hb4'
        have g0 := P3.c0
        have g1 := P3.c1
        have g2 := P4.c0
        have g3 := P4.c1
        have hbne : (ou != ou) = false := by cases ou <;> rfl
        clear hb4 hb4' hN hR
        go_wp2_with fail
        refine (cSameR q3 q4 hku hku).mono ?_
        rintro e w5 ⟨_, rfl, hb5, rfl⟩
        replace Pa := Pa.below hb5
        replace Qa := Qa.below hb5
        replace BB := bl_trans BB hb5
        have hself : decide (zu = zu) = true := decide_eq_true rfl
        rw [hself]
        clear hb5 hself g0 g1 g2 g3 P3 P4 q3 q4
        go_wp2
        go_roundw
        case rel => exact ⟨2, by omega, rfl, Pa, Qa, BB⟩
        case measure => simp [intOf]
      · obtain ⟨zu, ku, ou, hku, hN, hR⟩ := reads_both u HU.out
        have hidx := (index_a4 wr (s) own u (⟨#[45]⟩ ++ s)).2.2.1
        go_wp2_with fail
        refine (hN _).mono ?_
        rintro e w3 ⟨_, rfl, hb3, b3, A3, n3, c3, rfl, Z3⟩
        have q3 : IsT w3 (.agg #[.bool b3, .slice A3 n3 c3]) zu ku := IsZ.t ⟨_, _, _, _, rfl, Z3⟩
        have P3 := Bz.new w3 b3 A3 n3 c3
        replace q3 := q3.below (bl_alloc w3 (.cells #[.bool b3, .slice A3 n3 c3] 32))
        have hb3' := bl_trans hb3 (bl_alloc w3 (.cells #[.bool b3, .slice A3 n3 c3] 32))
        replace Pa := Pa.below hb3'
        replace Qa := Qa.below hb3'
        replace BB := bl_trans BB hb3'
        clear hb3 hb3' Z3
        go_wp2_with fail
        refine (hR _).mono ?_
        rintro e w4 ⟨_, rfl, hb4, b4, A4, n4, c4, rfl, q4⟩
        have P4 := Bz.new w4 b4 A4 n4 c4
        replace q4 := q4.below (bl_alloc w4 (.cells #[.bool b4, .slice A4 n4 c4] 32))
        have hb4' := bl_trans hb4 (bl_alloc w4 (.cells #[.bool b4, .slice A4 n4 c4] 32))
        replace Pa := Pa.below hb4'
        replace Qa := Qa.below hb4'
        replace BB := bl_trans BB hb4'
        replace q3 := q3.below hb4'
        replace P3 := P3.below hb4'
        have g0 := P3.c0
        have g1 := P3.c1
        have g2 := P4.c0
        have g3 := P4.c1
        have hbne : (ou != ou) = false := by cases ou <;> rfl
        clear hb4 hb4' hN hR
        go_wp2_with fail
        refine (cSameR q3 q4 hku hku).mono ?_
        rintro e w5 ⟨_, rfl, hb5, rfl⟩
        replace Pa := Pa.below hb5
        replace Qa := Qa.below hb5
        replace BB := bl_trans BB hb5
        have hself : decide (zu = zu) = true := decide_eq_true rfl
        rw [hself]
        clear hb5 hself g0 g1 g2 g3 P3 P4 q3 q4
        go_wp2
        go_roundw
        case rel => exact ⟨3, by omega, rfl, Pa, Qa, BB⟩
        case measure => simp [intOf]
      · obtain ⟨zu, ku, ou, hku, hN, hR⟩ := reads_both (⟨#[45]⟩ ++ s) HTM.out
        have hidx := (index_a4 wr (s) own u (⟨#[45]⟩ ++ s)).2.2.2
        go_wp2_with fail
        refine (hN _).mono ?_
        rintro e w3 ⟨_, rfl, hb3, b3, A3, n3, c3, rfl, Z3⟩
        have q3 : IsT w3 (.agg #[.bool b3, .slice A3 n3 c3]) zu ku := IsZ.t ⟨_, _, _, _, rfl, Z3⟩
        have P3 := Bz.new w3 b3 A3 n3 c3
        replace q3 := q3.below (bl_alloc w3 (.cells #[.bool b3, .slice A3 n3 c3] 32))
        have hb3' := bl_trans hb3 (bl_alloc w3 (.cells #[.bool b3, .slice A3 n3 c3] 32))
        replace Pa := Pa.below hb3'
        replace Qa := Qa.below hb3'
        replace BB := bl_trans BB hb3'
        clear hb3 hb3' Z3
        go_wp2_with fail
        refine (hR _).mono ?_
        rintro e w4 ⟨_, rfl, hb4, b4, A4, n4, c4, rfl, q4⟩
        have P4 := Bz.new w4 b4 A4 n4 c4
        replace q4 := q4.below (bl_alloc w4 (.cells #[.bool b4, .slice A4 n4 c4] 32))
        have hb4' := bl_trans hb4 (bl_alloc w4 (.cells #[.bool b4, .slice A4 n4 c4] 32))
        replace Pa := Pa.below hb4'
        replace Qa := Qa.below hb4'
        replace BB := bl_trans BB hb4'
        replace q3 := q3.below hb4'
        replace P3 := P3.below hb4'
        have g0 := P3.c0
        have g1 := P3.c1
        have g2 := P4.c0
        have g3 := P4.c1
        have hbne : (ou != ou) = false := by cases ou <;> rfl
        clear hb4 hb4' hN hR
        go_wp2_with fail
        refine (cSameR q3 q4 hku hku).mono ?_
        rintro e w5 ⟨_, rfl, hb5, rfl⟩
        replace Pa := Pa.below hb5
        replace Qa := Qa.below hb5
        replace BB := bl_trans BB hb5
        have hself : decide (zu = zu) = true := decide_eq_true rfl
        rw [hself]
        clear hb5 hself g0 g1 g2 g3 P3 P4 q3 q4
        go_wp2
        go_roundw
        case rel => exact ⟨4, by omega, rfl, Pa, Qa, BB⟩
        case measure => simp [intOf]
      · have Pa_0 := Pa.c0
        have Pa_1 := Pa.c1
        go_wp2_with fail
        refine (cText Qa (by omega)).mono ?_
        rintro e w6 ⟨_, rfl, hb6, t6, rfl, ht6⟩
        obtain rfl : own = t6 := M.bytes_inj (HOT.out.trans ht6.symm)
        have hself : (own.toList == own.toList) = true := by simp
        replace BB := bl_trans BB hb6
        clear hb6 ht6 Pa_0 Pa_1
        go_wp2_with fail
        refine (cWorks _).mono ?_
        rintro e w7 ⟨_, rfl, hb7, rfl⟩
        replace BB := bl_trans BB hb7
        clear hb7
        go_wp2
        go_ret
        exact ⟨rfl, BB⟩

set_option maxHeartbeats 4000000 in
theorem bigReads_many (s : ByteArray) (sa : Bool) (Aa : Option Addr) (na ca : Nat) (xa : List Nat) (x y : Nat) (w : World) (ha : Rd w Aa na ca xa) (ga : na ≤ maxLen) (hx : x < 256) (hy : y < 256) (hsz : (100 : Int) < s.size) (hmx : s.size ≤ maxLen) :
    Calls Try.prog 6 #[.string s, .agg #[.bool sa, .slice Aa na ca], .agg #[.int .u8 (x : Int), .int .u8 (y : Int)]] w fun e w' => e = .returned (.bool true) ∧ Below w.heap.size w w' := by
  have htz : (s.extract 0 100).size ≤ 100 := by rw [ByteArray.size_extract]; omega
  obtain ⟨za, hza⟩ : ∃ za, za = zv sa (M.val (xa.take (min na 15))) := ⟨_, rfl⟩
  have HTZ := Lib.hid htz
  have Ha := Lib.hid ha
  have Ga := Lib.hid ga
  have HZa := Lib.hid hza
  unfold maxLen at hmx
  have hmin : min (s.size : Int) 100 = 100 := by omega
  have hmin2 : (if (100 : Int) < s.size then (100 : Int) else s.size) = 100 := by split <;> omega
  have Pa := ((Bz.new w sa Aa na ca).alloc (.cells #[.int .u8 (x : Int), .int .u8 (y : Int)] 22)).drew
  have hrow : ((w.alloc (.cells #[.bool sa, .slice Aa na ca] 32)).alloc (.cells #[.int .u8 (x : Int), .int .u8 (y : Int)] 22)).drew.heap[w.heap.size + 1]? = some (.cells #[.int .u8 (x : Int), .int .u8 (y : Int)] 22 (0, 0)) := by
    have := heap_alloc_new (w.alloc (.cells #[.bool sa, .slice Aa na ca] 32)) (.cells #[.int .u8 (x : Int), .int .u8 (y : Int)] 22)
    rw [hs_alloc] at this
    exact this
  have BB := Below.drew (bl_trans (bl_alloc w (.cells #[.bool sa, .slice Aa na ca] 32)) (bl_alloc _ (.cells #[.int .u8 (x : Int), .int .u8 (y : Int)] 22)))
  have Fa := Lib.hid (show ∀ W, Below w.heap.size w W → Calls Try.prog 13 #[.agg #[.bool sa, .slice Aa na ca], .int .i64 15] W (Ans W fun _ v => v = .agg #[.bool sa, .slice Aa (min na 15) ca]) from fun W h => cFew (Ha.out.below h) Ga.out 15 _ rfl (by omega))
  have hlt2 : w.heap.size + 1 < ((w.alloc (.cells #[.bool sa, .slice Aa na ca] 32)).alloc (.cells #[.int .u8 (x : Int), .int .u8 (y : Int)] 22)).drew.heap.size := by
    show w.heap.size + 1 < ((w.alloc (.cells #[.bool sa, .slice Aa na ca] 32)).alloc (.cells #[.int .u8 (x : Int), .int .u8 (y : Int)] 22)).heap.size
    rw [hs_alloc, hs_alloc]
    omega
  have HR := Lib.hid hrow
  have HR2 := Lib.hid hlt2
  clear htz ha ga hza hrow hlt2
  go_enter Try.func6, Try.ntmps6
  go_wp2_with fail
  have Pa_0 := Pa.c0
  have Pa_1 := Pa.c1
  go_region_with (first
      | (go_at_call 13; refine (Fa.out _ BB).mono ?_; rintro e w1 ⟨_, rfl, hb1, rfl⟩; replace HR := Lib.hid ((hb1.block _ HR2.out).trans HR.out); replace HR2 := Lib.hid (Nat.lt_of_lt_of_le HR2.out hb1.size); replace Pa := Pa.below hb1; replace BB := bl_trans BB hb1; have r0 := Pa.c0; have r1 := Pa.c1; have f0 := Pa.f 0; have f1 := Pa.f 1; clear hb1))
  all_goals
    have hr2 : ((w1.setCell ⟨w.heap.size, 0, none⟩ (.bool sa)).setCell ⟨w.heap.size, 1, none⟩ (.slice Aa (min na 15) ca)).heap[w.heap.size + 1]? = some (.cells #[.int .u8 (x : Int), .int .u8 (y : Int)] 22 (0, 0)) := by
      rw [heap_setCell_other _ ⟨w.heap.size, 1, none⟩ _ _ (by simp), heap_setCell_other _ ⟨w.heap.size, 0, none⟩ _ _ (by simp)]
      exact HR.out
    have hl2 : w.heap.size + 1 < ((w1.setCell ⟨w.heap.size, 0, none⟩ (.bool sa)).setCell ⟨w.heap.size, 1, none⟩ (.slice Aa (min na 15) ca)).heap.size := by simp only [World.setCell, Array.size_modify]; exact HR2.out
    replace Pa := st_P (t := sa) (B := Aa) (m := min na 15) (d := ca) Pa
    replace BB := st_B BB (Nat.le_refl _) (.bool sa) (.slice Aa (min na 15) ca)
    have Qa : IsM ((w1.setCell ⟨w.heap.size, 0, none⟩ (.bool sa)).setCell ⟨w.heap.size, 1, none⟩ (.slice Aa (min na 15) ca)) (.agg #[.bool sa, .slice Aa (min na 15) ca]) za 15 := ⟨_, _, _, _, rfl, by rw [HZa.out]; exact few_zm (Ha.out.below BB) 15⟩
    clear r0 r1 f0 f1 HR HR2 Pa_0 Pa_1
    generalize ((w1.setCell ⟨w.heap.size, 0, none⟩ (.bool sa)).setCell ⟨w.heap.size, 1, none⟩ (.slice Aa (min na 15) ca)) = W at hr2 hl2 Pa BB Qa ⊢
    have hlt : za.natAbs < M.R ^ 15 := by
      obtain ⟨_, _, _, _, _, Z⟩ := Qa
      exact Z.lt
    have HR := Lib.hid hr2
    have HR2 := Lib.hid hl2
    have HLT := Lib.hid hlt
    have Pa_0 := Pa.c0
    have Pa_1 := Pa.c1
    clear Ha Ga HZa Fa hr2 hl2 hlt
    go_wp2_with fail
    refine (cRefText Qa (by omega)).mono ?_
    rintro e w2 ⟨_, rfl, hb2, own, rfl, hown⟩
    clear Pa_0 Pa_1
    have hosz : own.size ≤ 152 := txtZ_size hown HLT.out
    obtain ⟨no, hno⟩ : ∃ no, no = own.size := ⟨_, rfl⟩
    have hno0 : 0 < no := by
      rw [hno, ← M.bytes_len, hown]
      refine List.length_pos_iff.2 fun e => ?_
      have := (txtZ_is hown).1.1.1
      have h2 := cut_size own
      rw [← hown] at e
      have h3 : own.size = 0 := by rw [← M.bytes_len, e]; rfl
      exact this (List.eq_nil_of_length_eq_zero (by rw [M.bytes_len]; omega))
    obtain ⟨w3, c3, hconv, by3, bl3, hs3⟩ := conv_bytes w2 own
    have hb23 := bl_trans hb2 bl3
    have hrow : w3.heap[w.heap.size + 1]? = some (.cells #[.int .u8 (x : Int), .int .u8 (y : Int)] 22 (0, 0)) := (hb23.block _ HR2.out).trans HR.out
    have hlt3 : w.heap.size + 1 < w2.heap.size := Nat.lt_of_lt_of_le HR2.out hb2.size
    have hwle : w.heap.size ≤ w2.heap.size := by omega
    have cx : w3.cell? ⟨w.heap.size + 1, 0, none⟩ = some (.int .u8 (x : Int)) := by
      rw [cell_of_row w3 (w.heap.size + 1) 0 _ _ _ hrow]
      rfl
    have cy : w3.cell? ⟨w.heap.size + 1, 1, none⟩ = some (.int .u8 (y : Int)) := by
      rw [cell_of_row w3 (w.heap.size + 1) 1 _ _ _ hrow]
      rfl
    obtain ⟨g, hg⟩ : ∃ g, g = w2.heap.size := ⟨_, rfl⟩
    rw [← hg] at hconv by3 hwle
    rw [← hno] at hconv
    have hpg : w.heap.size < g := by omega
    have hlen := M.bytes_len own
    rw [← hno] at hlen
    obtain ⟨k, hk⟩ : ∃ k, k = x % no := ⟨_, rfl⟩
    have hkn : k < no := by rw [hk]; exact Nat.mod_lt _ hno0
    have hki : (x : Int).tmod (no : Int) = k := by rw [hk]; exact tmod_nat x no
    have hkm : (x : Int) % (no : Int) = k := by rw [hk]; exact (Int.natCast_emod x no).symm
    obtain ⟨z, hz⟩ : ∃ z, (M.bytes own)[k]? = some z := ⟨_, List.getElem?_eq_getElem (by rw [hlen]; exact hkn)⟩
    have ck := by3.cell hz
    have fk := by3.fr (i := k) (by rw [hlen]; exact hkn)
    obtain ⟨u, hu, hback⟩ := (by3.set k y).drew.back no c3 (by rw [List.length_set]; exact hlen)
    have hb3s : Below w2.heap.size w2 (w3.setCell ⟨g, k, none⟩ (.int .u8 (y : Int))).drew := (bl3.setCell (p := ⟨g, k, none⟩) (by simp only; omega) (.int .u8 (y : Int))).drew
    have QP := (Pa.below hb2).below hb3s
    have QQ := (Qa.below hb2).below hb3s
    have HB3 := bl_trans (bl_trans BB hb2) hb3s
    have HU := Lib.hid (show u.size ≤ 1000 by omega)
    have HOW := Lib.hid (show own.size ≤ 1000 by omega)
    have HOT := Lib.hid hown
    have HTM := Lib.hid (show (⟨#[45]⟩ ++ s.extract 0 100 : ByteArray).size ≤ 1000 by
      rw [← M.bytes_len, bytes_minus, List.length_cons, M.bytes_len]
      have := HTZ.out
      omega)
    have HT0 := Lib.hid (show (s.extract 0 100).size ≤ 1000 by have := HTZ.out; omega)
    clear hb2 hb23 bl3 hb3s by3 hs3 hrow hlt3 Pa Qa BB hz hu hk HR HR2 hown hno hg hlen
    go_wp2
    go_region
    go_wp2
    go_loopw [43] (fun p wr => ∃ k : Nat, k ≤ 4 ∧ p = .int .i64 (k : Int) ∧ Bz wr w.heap.size sa Aa (min na 15) ca ∧ IsM wr (.agg #[.bool sa, .slice Aa (min na 15) ca]) za 15 ∧ Below w.heap.size w wr) (fun p _ => 4 - (intOf p).toNat)
    case atStart => exact ⟨0, by omega, rfl, QP, QQ, HB3⟩
    case round =>
      clear hconv hback cx cy ck fk QP QQ HB3
      obtain ⟨k', hk', rfl, Pa, Qa, BB⟩ := hrel
      rcases (show k' = 0 ∨ k' = 1 ∨ k' = 2 ∨ k' = 3 ∨ k' = 4 by omega) with rfl | rfl | rfl | rfl | rfl
      · obtain ⟨zu, ku, ou, hku, hN, hR⟩ := reads_both (s.extract 0 100) HT0.out
        have hidx := (index_a4 wr (s.extract 0 100) own u (⟨#[45]⟩ ++ s.extract 0 100)).1
        go_wp2_with fail
        refine (hN _).mono ?_
        rintro e w3 ⟨_, rfl, hb3, b3, A3, n3, c3, rfl, Z3⟩
        have q3 : IsT w3 (.agg #[.bool b3, .slice A3 n3 c3]) zu ku := IsZ.t ⟨_, _, _, _, rfl, Z3⟩
        have P3 := Bz.new w3 b3 A3 n3 c3
        replace q3 := q3.below (bl_alloc w3 (.cells #[.bool b3, .slice A3 n3 c3] 32))
        have hb3' := bl_trans hb3 (bl_alloc w3 (.cells #[.bool b3, .slice A3 n3 c3] 32))
        replace Pa := Pa.below hb3'
        replace Qa := Qa.below hb3'
        replace BB := bl_trans BB hb3'
        clear hb3 hb3' Z3
        go_wp2_with fail
        refine (hR _).mono ?_
        rintro e w4 ⟨_, rfl, hb4, b4, A4, n4, c4, rfl, q4⟩
        have P4 := Bz.new w4 b4 A4 n4 c4
        replace q4 := q4.below (bl_alloc w4 (.cells #[.bool b4, .slice A4 n4 c4] 32))
        have hb4' := bl_trans hb4 (bl_alloc w4 (.cells #[.bool b4, .slice A4 n4 c4] 32))
        replace Pa := Pa.below hb4'
        replace Qa := Qa.below hb4'
        replace BB := bl_trans BB hb4'
        replace q3 := q3.below hb4'
        replace P3 := P3.below hb4'
        have g0 := P3.c0
        have g1 := P3.c1
        have g2 := P4.c0
        have g3 := P4.c1
        have hbne : (ou != ou) = false := by cases ou <;> rfl
        clear hb4 hb4' hN hR
        go_wp2_with fail
        refine (cSameR q3 q4 hku hku).mono ?_
        rintro e w5 ⟨_, rfl, hb5, rfl⟩
        replace Pa := Pa.below hb5
        replace Qa := Qa.below hb5
        replace BB := bl_trans BB hb5
        have hself : decide (zu = zu) = true := decide_eq_true rfl
        rw [hself]
        clear hb5 hself g0 g1 g2 g3 P3 P4 q3 q4
        go_wp2
        go_roundw
        case rel => exact ⟨1, by omega, rfl, Pa, Qa, BB⟩
        case measure => simp [intOf]
      · obtain ⟨zu, ku, ou, hku, hN, hR⟩ := reads_both own HOW.out
        have hidx := (index_a4 wr (s.extract 0 100) own u (⟨#[45]⟩ ++ s.extract 0 100)).2.1
        go_wp2_with fail
        refine (hN _).mono ?_
        rintro e w3 ⟨_, rfl, hb3, b3, A3, n3, c3, rfl, Z3⟩
        have q3 : IsT w3 (.agg #[.bool b3, .slice A3 n3 c3]) zu ku := IsZ.t ⟨_, _, _, _, rfl, Z3⟩
        have P3 := Bz.new w3 b3 A3 n3 c3
        replace q3 := q3.below (bl_alloc w3 (.cells #[.bool b3, .slice A3 n3 c3] 32))
        have hb3' := bl_trans hb3 (bl_alloc w3 (.cells #[.bool b3, .slice A3 n3 c3] 32))
        replace Pa := Pa.below hb3'
        replace Qa := Qa.below hb3'
        replace BB := bl_trans BB hb3'
        clear hb3 hb3' Z3
        go_wp2_with fail
        refine (hR _).mono ?_
        rintro e w4 ⟨_, rfl, hb4, b4, A4, n4, c4, rfl, q4⟩
        have P4 := Bz.new w4 b4 A4 n4 c4
        replace q4 := q4.below (bl_alloc w4 (.cells #[.bool b4, .slice A4 n4 c4] 32))
        have hb4' := bl_trans hb4 (bl_alloc w4 (.cells #[.bool b4, .slice A4 n4 c4] 32))
        replace Pa := Pa.below hb4'
        replace Qa := Qa.below hb4'
        replace BB := bl_trans BB hb4'
        replace q3 := q3.below hb4'
        replace P3 := P3.below hb4'
        have g0 := P3.c0
        have g1 := P3.c1
        have g2 := P4.c0
        have g3 := P4.c1
        have hbne : (ou != ou) = false := by cases ou <;> rfl
        clear hb4 hb4' hN hR
        go_wp2_with fail
        refine (cSameR q3 q4 hku hku).mono ?_
        rintro e w5 ⟨_, rfl, hb5, rfl⟩
        replace Pa := Pa.below hb5
        replace Qa := Qa.below hb5
        replace BB := bl_trans BB hb5
        have hself : decide (zu = zu) = true := decide_eq_true rfl
        rw [hself]
        clear hb5 hself g0 g1 g2 g3 P3 P4 q3 q4
        go_wp2
        go_roundw
        case rel => exact ⟨2, by omega, rfl, Pa, Qa, BB⟩
        case measure => simp [intOf]
      · obtain ⟨zu, ku, ou, hku, hN, hR⟩ := reads_both u HU.out
        have hidx := (index_a4 wr (s.extract 0 100) own u (⟨#[45]⟩ ++ s.extract 0 100)).2.2.1
        go_wp2_with fail
        refine (hN _).mono ?_
        rintro e w3 ⟨_, rfl, hb3, b3, A3, n3, c3, rfl, Z3⟩
        have q3 : IsT w3 (.agg #[.bool b3, .slice A3 n3 c3]) zu ku := IsZ.t ⟨_, _, _, _, rfl, Z3⟩
        have P3 := Bz.new w3 b3 A3 n3 c3
        replace q3 := q3.below (bl_alloc w3 (.cells #[.bool b3, .slice A3 n3 c3] 32))
        have hb3' := bl_trans hb3 (bl_alloc w3 (.cells #[.bool b3, .slice A3 n3 c3] 32))
        replace Pa := Pa.below hb3'
        replace Qa := Qa.below hb3'
        replace BB := bl_trans BB hb3'
        clear hb3 hb3' Z3
        go_wp2_with fail
        refine (hR _).mono ?_
        rintro e w4 ⟨_, rfl, hb4, b4, A4, n4, c4, rfl, q4⟩
        have P4 := Bz.new w4 b4 A4 n4 c4
        replace q4 := q4.below (bl_alloc w4 (.cells #[.bool b4, .slice A4 n4 c4] 32))
        have hb4' := bl_trans hb4 (bl_alloc w4 (.cells #[.bool b4, .slice A4 n4 c4] 32))
        replace Pa := Pa.below hb4'
        replace Qa := Qa.below hb4'
        replace BB := bl_trans BB hb4'
        replace q3 := q3.below hb4'
        replace P3 := P3.below hb4'
        have g0 := P3.c0
        have g1 := P3.c1
        have g2 := P4.c0
        have g3 := P4.c1
        have hbne : (ou != ou) = false := by cases ou <;> rfl
        clear hb4 hb4' hN hR
        go_wp2_with fail
        refine (cSameR q3 q4 hku hku).mono ?_
        rintro e w5 ⟨_, rfl, hb5, rfl⟩
        replace Pa := Pa.below hb5
        replace Qa := Qa.below hb5
        replace BB := bl_trans BB hb5
        have hself : decide (zu = zu) = true := decide_eq_true rfl
        rw [hself]
        clear hb5 hself g0 g1 g2 g3 P3 P4 q3 q4
        go_wp2
        go_roundw
        case rel => exact ⟨3, by omega, rfl, Pa, Qa, BB⟩
        case measure => simp [intOf]
      · obtain ⟨zu, ku, ou, hku, hN, hR⟩ := reads_both (⟨#[45]⟩ ++ s.extract 0 100) HTM.out
        have hidx := (index_a4 wr (s.extract 0 100) own u (⟨#[45]⟩ ++ s.extract 0 100)).2.2.2
        go_wp2_with fail
        refine (hN _).mono ?_
        rintro e w3 ⟨_, rfl, hb3, b3, A3, n3, c3, rfl, Z3⟩
        have q3 : IsT w3 (.agg #[.bool b3, .slice A3 n3 c3]) zu ku := IsZ.t ⟨_, _, _, _, rfl, Z3⟩
        have P3 := Bz.new w3 b3 A3 n3 c3
        replace q3 := q3.below (bl_alloc w3 (.cells #[.bool b3, .slice A3 n3 c3] 32))
        have hb3' := bl_trans hb3 (bl_alloc w3 (.cells #[.bool b3, .slice A3 n3 c3] 32))
        replace Pa := Pa.below hb3'
        replace Qa := Qa.below hb3'
        replace BB := bl_trans BB hb3'
        clear hb3 hb3' Z3
        go_wp2_with fail
        refine (hR _).mono ?_
        rintro e w4 ⟨_, rfl, hb4, b4, A4, n4, c4, rfl, q4⟩
        have P4 := Bz.new w4 b4 A4 n4 c4
        replace q4 := q4.below (bl_alloc w4 (.cells #[.bool b4, .slice A4 n4 c4] 32))
        have hb4' := bl_trans hb4 (bl_alloc w4 (.cells #[.bool b4, .slice A4 n4 c4] 32))
        replace Pa := Pa.below hb4'
        replace Qa := Qa.below hb4'
        replace BB := bl_trans BB hb4'
        replace q3 := q3.below hb4'
        replace P3 := P3.below hb4'
        have g0 := P3.c0
        have g1 := P3.c1
        have g2 := P4.c0
        have g3 := P4.c1
        have hbne : (ou != ou) = false := by cases ou <;> rfl
        clear hb4 hb4' hN hR
        go_wp2_with fail
        refine (cSameR q3 q4 hku hku).mono ?_
        rintro e w5 ⟨_, rfl, hb5, rfl⟩
        replace Pa := Pa.below hb5
        replace Qa := Qa.below hb5
        replace BB := bl_trans BB hb5
        have hself : decide (zu = zu) = true := decide_eq_true rfl
        rw [hself]
        clear hb5 hself g0 g1 g2 g3 P3 P4 q3 q4
        go_wp2
        go_roundw
        case rel => exact ⟨4, by omega, rfl, Pa, Qa, BB⟩
        case measure => simp [intOf]
      · have Pa_0 := Pa.c0
        have Pa_1 := Pa.c1
        go_wp2_with fail
        refine (cText Qa (by omega)).mono ?_
        rintro e w6 ⟨_, rfl, hb6, t6, rfl, ht6⟩
        obtain rfl : own = t6 := M.bytes_inj (HOT.out.trans ht6.symm)
        have hself : (own.toList == own.toList) = true := by simp
        replace BB := bl_trans BB hb6
        clear hb6 ht6 Pa_0 Pa_1
        go_wp2_with fail
        refine (cWorks _).mono ?_
        rintro e w7 ⟨_, rfl, hb7, rfl⟩
        replace BB := bl_trans BB hb7
        clear hb7
        go_wp2
        go_ret
        exact ⟨rfl, BB⟩

theorem bigReads_walk (s : ByteArray) (sa : Bool) (Aa : Option Addr) (na ca : Nat) (xa : List Nat) (x y : Nat) (w : World) (ha : Rd w Aa na ca xa) (ga : na ≤ maxLen) (hx : x < 256) (hy : y < 256) (hmx : s.size ≤ maxLen) :
    Calls Try.prog 6 #[.string s, .agg #[.bool sa, .slice Aa na ca], .agg #[.int .u8 (x : Int), .int .u8 (y : Int)]] w fun e w' => e = .returned (.bool true) ∧ Below w.heap.size w w' := by
  by_cases h : (100 : Int) < s.size
  · exact bigReads_many s sa Aa na ca xa x y w ha ga hx hy h hmx
  · exact bigReads_few s sa Aa na ca xa x y w ha ga hx hy h hmx

end Go.Proofs.Ythjgonfohjgfaaa
