import Derived.IntWalk
import Derived.Test.YthhkpoobcnmdgaaDoorBZ1
import Derived.Test.YthhkpoobcnmdgaaDoorXBackB
import Derived.Test.YthhkpoobcnmdgaaDoorLLexJoinsB
import Derived.Test.YthhkpoobcnmdgaaDoorLOpenYB
/-
  LexBack: walked.
-/
namespace Go.Proofs.YthhkpoobcnmdgaaDoor
open Go.RowKit
set_option linter.unusedVariables false

theorem few300 (s : ByteArray) (w : World) : Calls Tryd.prog 8 #[.string s, .int .i64 300] w fun e w' => (∃ u : ByteArray, e = .returned (.string u) ∧ u.size ≤ 300) ∧ w = w' := few_c s 300 300 w rfl (by omega)
/-- The literal row of gaps. -/
def gapsV : Array Value := #[.string ⟨#[32]⟩, .string ⟨#[9, 9]⟩, .string ⟨#[13, 10, 32]⟩, .string ⟨#[32, 59, 32, 40, 110, 111, 32, 34, 32, 10]⟩, .string ⟨#[59, 59, 10]⟩]
theorem gapsV_at {j : Nat} (h : j < 5) : gapsV[j]? = some (.string (gapS j)) := by
  rcases (show j = 0 ∨ j = 1 ∨ j = 2 ∨ j = 3 ∨ j = 4 by omega) with rfl | rfl | rfl | rfl | rfl <;> rfl
/-- Which gap stands ahead of a token. -/
def gapN (xs : List Nat) (i : Nat) : Nat := if xs = [] then 0 else (xs.getD (i % xs.length) 0) % 5

set_option maxRecDepth 20000 in
set_option maxHeartbeats 4000000 in
theorem back_walk (w : World) (s : ByteArray) (S : Option Addr) (m cp : Nat) (hS : ∃ xs, RdK kU8 w S m cp xs ∧ m ≤ maxLen) (hg : w.cell? ⟨0, 0, none⟩ = some handle) : Calls Tryd.prog 4 #[.string s, .slice S m cp] w fun e w' => e = .returned (.bool true) ∧ Below w.heap.size w w' := by
  obtain ⟨xs, hxs, hm⟩ := hS
  have hm2 : m ≤ 9223372036854775807 := by unfold maxLen at hm; omega
  have HG := Lib.hid hg
  have XS := Lib.hid hxs
  clear hg hxs hm
  go_enter Tryd.func4, Tryd.ntmps4
  go_wp2_with (first
    | (go_at_call 13; refine (cWorks5 _ HG.out).mono ?_; rintro _ w1 ⟨rfl, hl⟩; have HB1 := Lib.hid hl; clear hl)
    | (go_at_call 8; refine (few300 _ _).mono ?_; rintro _ _ ⟨⟨s1, rfl, hs1⟩, rfl⟩))
  refine (tokens_c s1 (by omega) _).mono ?_
  rintro e w2 ⟨ts, r, hl, hb, (⟨rfl, es, A, c, rfl, rfl, ho⟩ | ⟨k, c, rfl, rfl, hc, h4, hx⟩)⟩
  · have L1 := Lib.hid hl
    have AL := Lib.hid hl.all
    have HB2 := Lib.hid (bl_trans HB1.out hb)
    have RA := Lib.hid ho.rd
    have hn : es.length ≤ 300 := by have := hl.count; rw [List.length_map] at this; omega
    clear hl hb ho
    go_wp2
    go_loopw [7, 8, 9, 10] (fun p q i u wr => ∃ (k : Nat) (P W : ByteArray), k ≤ es.length ∧ i = .int .i64 k ∧ p = .string P ∧ q = .string W ∧ w2.heap.size ≤ wr.heap.size ∧ Below w2.heap.size w2 wr ∧
      M.bytes P = plainB ((es.map TE.tk).take k) ∧ M.bytes W = wideB (fun i => M.bytes (gapS (gapN xs i))) 0 ((es.map TE.tk).take k) ∧ P.size ≤ 1300 * k ∧ W.size ≤ 1300 * k) (fun _ _ i _ _ => es.length - (intOf i).toNat)
    case atStart => exact ⟨0, _, _, Nat.zero_le _, rfl, rfl, rfl, Nat.le_refl _, Below.refl _ _, rfl, rfl, by decide, by decide⟩
    case round =>
      obtain ⟨k, P, W, hk, rfl, rfl, rfl, hsz, hb, hP, hW, hP2, hW2⟩ := hrel
      have HB := Lib.hid hb
      have HP := Lib.hid hP
      have HW := Lib.hid hW
      clear hb hP hW
      by_cases hkn : k < es.length
      · obtain ⟨⟨d, t, ek⟩, he⟩ : ∃ e, es[k]? = some e := ⟨_, List.getElem?_eq_getElem hkn⟩
        have htk : (es.map TE.tk)[k]? = some ⟨d, M.bytes t, ek⟩ := by rw [List.getElem?_map, he]; rfl
        obtain ⟨_, hts, hek⟩ := AL.out.1 _ (List.mem_of_getElem? htk)
        have hts : t.size ≤ s1.size := by rw [← M.bytes_len]; exact hts
        have hek : ek < s1.size := hek
        have HE := Lib.hid he
        have HT := Lib.hid htk
        clear he htk
        by_cases hm0 : m = 0
        · have hxe : xs = [] := List.eq_nil_of_length_eq_zero (by rw [XS.out.len]; exact hm0)
          obtain ⟨G, hG⟩ : ∃ G, G = 0 := ⟨_, rfl⟩
          have HGN := Lib.hid (show gapN xs k = G by unfold gapN; rw [if_pos hxe, hG])
          have HSP := Lib.hid (show (⟨#[32]⟩ : ByteArray) = gapS G by rw [hG]; rfl)
          have HBg := HB
          clear hG hxe
          subst hm0
          generalize hWg : wr = Wg at *
          clear hWg
          by_cases hkp : 0 < k
          · have c0 := (RA.out.below HBg.out).cell k _ HE.out
            obtain ⟨g, o, hA, hgl, c0, c1, c2⟩ := c0
            subst hA
            dsimp only at c0 c1 c2
            clear hgl
            go_wp2_with fail
            refine (laid_c d t ek (by omega) _).mono ?_
            rintro e wa ⟨⟨u, rfl, hu⟩, hba⟩
            have HBa := Lib.hid (HBg.out.trans (hba.mono HBg.out.size))
            have hus : u.size ≤ 1202 := by
              have := laid_len ⟨d, M.bytes t, ek⟩
              rw [← M.bytes_len, hu]
              have h2 : (⟨d, M.bytes t, ek⟩ : Tk).l.length = t.size := M.bytes_len t
              omega
            have hPs : P.size ≤ 390000 := by omega
            have hGs : (gapS G).size ≤ 10 := (gap_ok G).2.2
            have hWs : W.size ≤ 390000 := by omega
            have HU := Lib.hid hu
            clear hba hu c0 c1 c2
            obtain ⟨g', o', hA, hgl, c0, c1, c2⟩ := (RA.out.below HBa.out).cell k _ HE.out
            injection hA with hA
            injection hA with hA1 hA2
            subst hA1 hA2
            dsimp only at c0 c1 c2
            clear hgl
            go_wp2_with fail
            refine (laid_c d t ek (by omega) _).mono ?_
            rintro e wb ⟨⟨u', rfl, hu⟩, hbb⟩
            obtain rfl : u = u' := M.bytes_inj (HU.out.trans hu.symm)
            have HBb := Lib.hid (HBa.out.trans (hbb.mono HBa.out.size))
            clear hbb hu c0 c1 c2
            obtain ⟨g', o', hA, hgl, c0, c1, c2⟩ := (RA.out.below HBb.out).cell k _ HE.out
            injection hA with hA
            injection hA with hA1 hA2
            subst hA1 hA2
            dsimp only at c0 c1 c2
            clear hgl
            have n1 : decide ((ek : Int) < 0) = false := decide_eq_false (by omega)
            have n2 : decide ((s1.size : Int) ≤ (ek : Int)) = false := decide_eq_false (by omega)
            have n3 : decide ((0 : Int) < (k : Int)) = true := decide_eq_true (by omega)
            obtain ⟨k', hk'⟩ : ∃ k', k' + 1 = k := ⟨k - 1, by omega⟩
            have n4 : ((k : Int) - 1) = (k' : Int) := by omega
            have n6 : IntKind.i64.wrap ((k : Int) - 1) = (k' : Int) := by rw [n4]; exact IntWalk.i64_in _ (by omega)
            have n7 : IntKind.i64.wrap (k' : Int) = (k' : Int) := IntWalk.i64_in _ (by omega)
            have n8 : decide (0 < k) = true := decide_eq_true (by omega)
            obtain ⟨⟨d', t', ek'⟩, he'⟩ : ∃ e, es[k']? = some e := ⟨_, List.getElem?_eq_getElem (by omega)⟩
            obtain ⟨g', o', hA, hgl, b0, b1, b2⟩ := (RA.out.below HBb.out).cell k' _ he'
            injection hA with hA
            injection hA with hA1 hA2
            subst hA1 hA2
            dsimp only at b0 b1 b2
            have hlt : ek' < ek := AL.out.2 k' ⟨d', M.bytes t', ek'⟩ ⟨d, M.bytes t, ek⟩ (by rw [List.getElem?_map, he']; rfl) (by rw [hk', List.getElem?_map, HE.out]; rfl)
            have n5 : decide ((ek : Int) ≤ (ek' : Int)) = false := decide_eq_false (by omega)
            have hk2 : k' < es.length := by omega
            have hk3 : k' < k := by omega
            clear hgl he' hk'
            go_wp2
            go_quiet (fail)
            go_wp2
            go_roundw
            case rel =>
              refine ⟨k + 1, (P ++ u) ++ (⟨#[32]⟩ : ByteArray), (W ++ (⟨#[32]⟩ : ByteArray)) ++ u, by omega, by go_num, rfl, rfl, ?_, below_drewN HBb.out _, ?_, ?_, ?_, ?_⟩
              · exact HBb.out.size
              · rw [bytes_app, bytes_app, HP.out, HU.out]
                exact (plain_snoc (HT.out)).symm
              · rw [bytes_app, bytes_app, HW.out, HU.out, HSP.out, ← HGN.out]
                exact (wide_snoc (fun i => M.bytes (gapS (gapN xs i))) HT.out).symm
              · rw [ByteArray.size_append, ByteArray.size_append]
                have : (⟨#[32]⟩ : ByteArray).size = 1 := rfl
                omega
              · rw [ByteArray.size_append, ByteArray.size_append]
                have : (⟨#[32]⟩ : ByteArray).size = 1 := rfl
                omega
            case measure => simp [intOf]; omega
          · have c0 := (RA.out.below HBg.out).cell k _ HE.out
            obtain ⟨g, o, hA, hgl, c0, c1, c2⟩ := c0
            subst hA
            dsimp only at c0 c1 c2
            clear hgl
            go_wp2_with fail
            refine (laid_c d t ek (by omega) _).mono ?_
            rintro e wa ⟨⟨u, rfl, hu⟩, hba⟩
            have HBa := Lib.hid (HBg.out.trans (hba.mono HBg.out.size))
            have hus : u.size ≤ 1202 := by
              have := laid_len ⟨d, M.bytes t, ek⟩
              rw [← M.bytes_len, hu]
              have h2 : (⟨d, M.bytes t, ek⟩ : Tk).l.length = t.size := M.bytes_len t
              omega
            have hPs : P.size ≤ 390000 := by omega
            have hGs : (gapS G).size ≤ 10 := (gap_ok G).2.2
            have hWs : W.size ≤ 390000 := by omega
            have HU := Lib.hid hu
            clear hba hu c0 c1 c2
            obtain ⟨g', o', hA, hgl, c0, c1, c2⟩ := (RA.out.below HBa.out).cell k _ HE.out
            injection hA with hA
            injection hA with hA1 hA2
            subst hA1 hA2
            dsimp only at c0 c1 c2
            clear hgl
            go_wp2_with fail
            refine (laid_c d t ek (by omega) _).mono ?_
            rintro e wb ⟨⟨u', rfl, hu⟩, hbb⟩
            obtain rfl : u = u' := M.bytes_inj (HU.out.trans hu.symm)
            have HBb := Lib.hid (HBa.out.trans (hbb.mono HBa.out.size))
            clear hbb hu c0 c1 c2
            obtain ⟨g', o', hA, hgl, c0, c1, c2⟩ := (RA.out.below HBb.out).cell k _ HE.out
            injection hA with hA
            injection hA with hA1 hA2
            subst hA1 hA2
            dsimp only at c0 c1 c2
            clear hgl
            have n1 : decide ((ek : Int) < 0) = false := decide_eq_false (by omega)
            have n2 : decide ((s1.size : Int) ≤ (ek : Int)) = false := decide_eq_false (by omega)
            have n3 : decide ((0 : Int) < (k : Int)) = false := decide_eq_false (by omega)
            go_wp2
            go_quiet (fail)
            go_wp2
            go_roundw
            case rel =>
              refine ⟨k + 1, (P ++ u) ++ (⟨#[32]⟩ : ByteArray), (W ++ (⟨#[32]⟩ : ByteArray)) ++ u, by omega, by go_num, rfl, rfl, ?_, below_drewN HBb.out _, ?_, ?_, ?_, ?_⟩
              · exact HBb.out.size
              · rw [bytes_app, bytes_app, HP.out, HU.out]
                exact (plain_snoc (HT.out)).symm
              · rw [bytes_app, bytes_app, HW.out, HU.out, HSP.out, ← HGN.out]
                exact (wide_snoc (fun i => M.bytes (gapS (gapN xs i))) HT.out).symm
              · rw [ByteArray.size_append, ByteArray.size_append]
                have : (⟨#[32]⟩ : ByteArray).size = 1 := rfl
                omega
              · rw [ByteArray.size_append, ByteArray.size_append]
                have : (⟨#[32]⟩ : ByteArray).size = 1 := rfl
                omega
            case measure => simp [intOf]; omega
        · have hmp : 0 < m := by omega
          have hmz : decide ((0 : Int) < (m : Int)) = true := decide_eq_true (by omega)
          obtain ⟨r, hr⟩ : ∃ r, k % m = r := ⟨_, rfl⟩
          have hrm : r < m := by rw [← hr]; exact Nat.mod_lt _ hmp
          have HR := Lib.hid hr
          have hr1 : ((k : Int) % (m : Int)) = (r : Int) := by rw [← hr]; push_cast; rfl
          obtain ⟨sg, so, x, hA, hx, hx2, hcx⟩ := ((XS.out.below (bl_trans HB2.out HB.out)).alloc (.cells #[.string ⟨#[32]⟩, .string ⟨#[9, 9]⟩, .string ⟨#[13, 10, 32]⟩, .string ⟨#[32, 59, 32, 40, 110, 111, 32, 34, 32, 10]⟩, .string ⟨#[59, 59, 10]⟩] 9)).at_ hrm
          subst hA
          replace hcx : (wr.alloc (.cells #[.string ⟨#[32]⟩, .string ⟨#[9, 9]⟩, .string ⟨#[13, 10, 32]⟩, .string ⟨#[32, 59, 32, 40, 110, 111, 32, 34, 32, 10]⟩, .string ⟨#[59, 59, 10]⟩] 9)).cell? ⟨sg, so + r, none⟩ = some (.int .u8 (x : Int)) := hcx
          have hx3 : x < 256 := hx2
          obtain ⟨G, hG⟩ : ∃ G, x % 5 = G := ⟨_, rfl⟩
          have hG5 : G < 5 := by omega
          have hj1 : ((x : Int) % 5) = (G : Int) := by rw [← hG]; push_cast; rfl
          have HGN := Lib.hid (show gapN xs k = G by
            unfold gapN
            rw [if_neg (by intro e; rw [e] at hx; cases hx), XS.out.len, HR.out, List.getD_eq_getElem?_getD, hx]
            exact hG)
          have hcj : (wr.alloc (.cells #[.string ⟨#[32]⟩, .string ⟨#[9, 9]⟩, .string ⟨#[13, 10, 32]⟩, .string ⟨#[32, 59, 32, 40, 110, 111, 32, 34, 32, 10]⟩, .string ⟨#[59, 59, 10]⟩] 9)).cell? ⟨wr.heap.size, G, none⟩ = some (.string (gapS G)) := by
            rw [cell_of_row _ _ _ _ _ _ (heap_alloc_new wr (.cells #[.string ⟨#[32]⟩, .string ⟨#[9, 9]⟩, .string ⟨#[13, 10, 32]⟩, .string ⟨#[32, 59, 32, 40, 110, 111, 32, 34, 32, 10]⟩, .string ⟨#[59, 59, 10]⟩] 9))]
            exact gapsV_at hG5
          have HBg := Lib.hid (HB.out.alloc HB.out.size (.cells #[.string ⟨#[32]⟩, .string ⟨#[9, 9]⟩, .string ⟨#[13, 10, 32]⟩, .string ⟨#[32, 59, 32, 40, 110, 111, 32, 34, 32, 10]⟩, .string ⟨#[59, 59, 10]⟩] 9))
          clear hr hG hx hm0
          by_cases hkp : 0 < k
          · have c0 := (RA.out.below HBg.out).cell k _ HE.out
            obtain ⟨g, o, hA, hgl, c0, c1, c2⟩ := c0
            subst hA
            dsimp only at c0 c1 c2
            clear hgl
            go_wp2_with fail
            refine (laid_c d t ek (by omega) _).mono ?_
            rintro e wa ⟨⟨u, rfl, hu⟩, hba⟩
            have HBa := Lib.hid (HBg.out.trans (hba.mono HBg.out.size))
            have hus : u.size ≤ 1202 := by
              have := laid_len ⟨d, M.bytes t, ek⟩
              rw [← M.bytes_len, hu]
              have h2 : (⟨d, M.bytes t, ek⟩ : Tk).l.length = t.size := M.bytes_len t
              omega
            have hPs : P.size ≤ 390000 := by omega
            have hGs : (gapS G).size ≤ 10 := (gap_ok G).2.2
            have hWs : W.size ≤ 390000 := by omega
            have HU := Lib.hid hu
            clear hba hu c0 c1 c2
            obtain ⟨g', o', hA, hgl, c0, c1, c2⟩ := (RA.out.below HBa.out).cell k _ HE.out
            injection hA with hA
            injection hA with hA1 hA2
            subst hA1 hA2
            dsimp only at c0 c1 c2
            clear hgl
            go_wp2_with fail
            refine (laid_c d t ek (by omega) _).mono ?_
            rintro e wb ⟨⟨u', rfl, hu⟩, hbb⟩
            obtain rfl : u = u' := M.bytes_inj (HU.out.trans hu.symm)
            have HBb := Lib.hid (HBa.out.trans (hbb.mono HBa.out.size))
            clear hbb hu c0 c1 c2
            obtain ⟨g', o', hA, hgl, c0, c1, c2⟩ := (RA.out.below HBb.out).cell k _ HE.out
            injection hA with hA
            injection hA with hA1 hA2
            subst hA1 hA2
            dsimp only at c0 c1 c2
            clear hgl
            have n1 : decide ((ek : Int) < 0) = false := decide_eq_false (by omega)
            have n2 : decide ((s1.size : Int) ≤ (ek : Int)) = false := decide_eq_false (by omega)
            have n3 : decide ((0 : Int) < (k : Int)) = true := decide_eq_true (by omega)
            obtain ⟨k', hk'⟩ : ∃ k', k' + 1 = k := ⟨k - 1, by omega⟩
            have n4 : ((k : Int) - 1) = (k' : Int) := by omega
            have n6 : IntKind.i64.wrap ((k : Int) - 1) = (k' : Int) := by rw [n4]; exact IntWalk.i64_in _ (by omega)
            have n7 : IntKind.i64.wrap (k' : Int) = (k' : Int) := IntWalk.i64_in _ (by omega)
            have n8 : decide (0 < k) = true := decide_eq_true (by omega)
            obtain ⟨⟨d', t', ek'⟩, he'⟩ : ∃ e, es[k']? = some e := ⟨_, List.getElem?_eq_getElem (by omega)⟩
            obtain ⟨g', o', hA, hgl, b0, b1, b2⟩ := (RA.out.below HBb.out).cell k' _ he'
            injection hA with hA
            injection hA with hA1 hA2
            subst hA1 hA2
            dsimp only at b0 b1 b2
            have hlt : ek' < ek := AL.out.2 k' ⟨d', M.bytes t', ek'⟩ ⟨d, M.bytes t, ek⟩ (by rw [List.getElem?_map, he']; rfl) (by rw [hk', List.getElem?_map, HE.out]; rfl)
            have n5 : decide ((ek : Int) ≤ (ek' : Int)) = false := decide_eq_false (by omega)
            have hk2 : k' < es.length := by omega
            have hk3 : k' < k := by omega
            clear hgl he' hk'
            go_wp2
            go_quiet (fail)
            go_wp2
            go_roundw
            case rel =>
              refine ⟨k + 1, (P ++ u) ++ (⟨#[32]⟩ : ByteArray), (W ++ gapS G) ++ u, by omega, by go_num, rfl, rfl, ?_, below_drewN HBb.out _, ?_, ?_, ?_, ?_⟩
              · exact HBb.out.size
              · rw [bytes_app, bytes_app, HP.out, HU.out]
                exact (plain_snoc (HT.out)).symm
              · rw [bytes_app, bytes_app, HW.out, HU.out, ← HGN.out]
                exact (wide_snoc (fun i => M.bytes (gapS (gapN xs i))) HT.out).symm
              · rw [ByteArray.size_append, ByteArray.size_append]
                have : (⟨#[32]⟩ : ByteArray).size = 1 := rfl
                omega
              · rw [ByteArray.size_append, ByteArray.size_append]
                have := (gap_ok G).2.2
                omega
            case measure => simp [intOf]; omega
          · have c0 := (RA.out.below HBg.out).cell k _ HE.out
            obtain ⟨g, o, hA, hgl, c0, c1, c2⟩ := c0
            subst hA
            dsimp only at c0 c1 c2
            clear hgl
            go_wp2_with fail
            refine (laid_c d t ek (by omega) _).mono ?_
            rintro e wa ⟨⟨u, rfl, hu⟩, hba⟩
            have HBa := Lib.hid (HBg.out.trans (hba.mono HBg.out.size))
            have hus : u.size ≤ 1202 := by
              have := laid_len ⟨d, M.bytes t, ek⟩
              rw [← M.bytes_len, hu]
              have h2 : (⟨d, M.bytes t, ek⟩ : Tk).l.length = t.size := M.bytes_len t
              omega
            have hPs : P.size ≤ 390000 := by omega
            have hGs : (gapS G).size ≤ 10 := (gap_ok G).2.2
            have hWs : W.size ≤ 390000 := by omega
            have HU := Lib.hid hu
            clear hba hu c0 c1 c2
            obtain ⟨g', o', hA, hgl, c0, c1, c2⟩ := (RA.out.below HBa.out).cell k _ HE.out
            injection hA with hA
            injection hA with hA1 hA2
            subst hA1 hA2
            dsimp only at c0 c1 c2
            clear hgl
            go_wp2_with fail
            refine (laid_c d t ek (by omega) _).mono ?_
            rintro e wb ⟨⟨u', rfl, hu⟩, hbb⟩
            obtain rfl : u = u' := M.bytes_inj (HU.out.trans hu.symm)
            have HBb := Lib.hid (HBa.out.trans (hbb.mono HBa.out.size))
            clear hbb hu c0 c1 c2
            obtain ⟨g', o', hA, hgl, c0, c1, c2⟩ := (RA.out.below HBb.out).cell k _ HE.out
            injection hA with hA
            injection hA with hA1 hA2
            subst hA1 hA2
            dsimp only at c0 c1 c2
            clear hgl
            have n1 : decide ((ek : Int) < 0) = false := decide_eq_false (by omega)
            have n2 : decide ((s1.size : Int) ≤ (ek : Int)) = false := decide_eq_false (by omega)
            have n3 : decide ((0 : Int) < (k : Int)) = false := decide_eq_false (by omega)
            go_wp2
            go_quiet (fail)
            go_wp2
            go_roundw
            case rel =>
              refine ⟨k + 1, (P ++ u) ++ (⟨#[32]⟩ : ByteArray), (W ++ gapS G) ++ u, by omega, by go_num, rfl, rfl, ?_, below_drewN HBb.out _, ?_, ?_, ?_, ?_⟩
              · exact HBb.out.size
              · rw [bytes_app, bytes_app, HP.out, HU.out]
                exact (plain_snoc (HT.out)).symm
              · rw [bytes_app, bytes_app, HW.out, HU.out, ← HGN.out]
                exact (wide_snoc (fun i => M.bytes (gapS (gapN xs i))) HT.out).symm
              · rw [ByteArray.size_append, ByteArray.size_append]
                have : (⟨#[32]⟩ : ByteArray).size = 1 := rfl
                omega
              · rw [ByteArray.size_append, ByteArray.size_append]
                have := (gap_ok G).2.2
                omega
            case measure => simp [intOf]; omega
      · obtain rfl : k = es.length := by omega
        have hPs : P.size ≤ 1048576 := by omega
        have hWs : W.size ≤ 1048576 := by omega
        have htake : (es.map TE.tk).take es.length = es.map TE.tk := List.take_of_length_le (by rw [List.length_map]; exact Nat.le_refl _)
        obtain ⟨us, hu1, hu2⟩ := plain_lex (es.map TE.tk) (fun t ht => (AL.out.1 t ht).1) 0
        obtain ⟨vs, hv1, hv2⟩ := wide_lex (fun i => M.bytes (gapS (gapN xs i))) (fun i => ⟨(gap_ok _).1, (gap_ok _).2.1⟩) (es.map TE.tk) (fun t ht => (AL.out.1 t ht).1) 0 0
        have LP := Lib.hid (show Lx (M.bytes P) 0 us none by rw [HP.out, htake]; exact hu1)
        have LW := Lib.hid (show Lx (M.bytes W) 0 vs none by rw [HW.out, htake]; exact hv1)
        have HU2 := Lib.hid hu2
        have HV2 := Lib.hid hv2
        clear hu1 hv1 hu2 hv2 htake
        go_wp2_with fail
        refine (tokens_c P hPs _).mono ?_
        rintro e w3 hT
        obtain ⟨hb3, gs, C, d3, hgs, rfl, oc⟩ := tok_none hT LP.out
        have hgl : gs.length = es.length := by have h1 := congrArg List.length hgs; have h2 := congrArg List.length HU2.out; simp only [List.length_map] at h1 h2; omega
        have HB3 := Lib.hid (HB.out.trans (hb3.mono HB.out.size))
        have S1 := Lib.hid (show sameB false gs es = true by rw [same_false, hgs, HU2.out]; exact decide_eq_true rfl)
        have OC := Lib.hid oc.rd
        have hgl2 : gs.length ≤ 8388608 := by omega
        have hel2 : es.length ≤ 8388608 := by omega
        clear hT hgs oc hb3 hgl
        go_wp2_with fail
        refine (tokens_c W hWs _).mono ?_
        rintro e w4 hT
        obtain ⟨hb4, hs, D, d4, hhs, rfl, od⟩ := tok_none hT LW.out
        have hhl : hs.length = es.length := by have h1 := congrArg List.length hhs; have h2 := congrArg List.length HV2.out; simp only [List.length_map] at h1 h2; omega
        have HB4 := Lib.hid (HB3.out.trans (hb4.mono HB3.out.size))
        have OC4 := Lib.hid (OC.out.below hb4)
        have OD := Lib.hid od.rd
        have S2 := Lib.hid (show sameB false hs es = true by rw [same_false, hhs, HV2.out]; exact decide_eq_true rfl)
        have RA4 := Lib.hid (RA.out.below HB4.out)
        have hhl2 : hs.length ≤ 8388608 := by omega
        clear hT hhs od hb4 hhl
        go_wp2_with (first
          | (go_at_call 12; ((with_reducible refine (same_c false C gs.length d3 gs A es.length c es w4 OC4.out RA4.out hgl2 hel2).mono ?_); rw [S1.out]; rintro _ w9 ⟨rfl, q, rfl⟩))
          | (go_at_call 12; refine (same_c false D hs.length d4 hs A es.length c es _ (OD.out.drewN q) (RA4.out.drewN q) hhl2 hel2).mono ?_; rw [S2.out]; rintro _ w9 ⟨rfl, q2, rfl⟩))
        go_ret
        exact ⟨rfl, below_drewN (HB2.out.trans (HB4.out.mono HB2.out.size)) (q + q2)⟩
  · have HB2 := Lib.hid (bl_trans HB1.out hb)
    clear hl hb hc h4 hx
    go_wp2
    go_ret
    exact ⟨rfl, HB2.out⟩
end Go.Proofs.YthhkpoobcnmdgaaDoor
