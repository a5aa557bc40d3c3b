import Derived.Test.YthhkpoobcnmdgaaDoorBZ1
import Derived.Test.YthhkpoobcnmdgaaDoorXTellsB
import Derived.Test.YthhkpoobcnmdgaaDoorLOpenWB
/-
  LexTells: walked.
-/
namespace Go.Proofs.YthhkpoobcnmdgaaDoor
open Go.RowKit
set_option linter.unusedVariables false

set_option maxRecDepth 100000 in
set_option maxHeartbeats 8000000 in
theorem tells_walk (s : ByteArray) (x y : Nat) (w : World) (hx : x < 256) (hy : y < 256) (hg : w.cell? ⟨0, 0, none⟩ = some handle) :
    Calls Tryd.prog 3 #[.string s, .agg #[.int .u8 (x : Int), .int .u8 (y : Int)]] w fun e w' => e = .returned (.bool true) ∧ Below w.heap.size w w' := by
  have HG := Lib.hid hg
  clear hg
  go_enter Tryd.func3, Tryd.ntmps3
  go_wp2_with fail
  refine (few3 _ _).mono ?_
  rintro _ _ ⟨⟨s1, rfl, hs1⟩, rfl⟩
  obtain ⟨n, hn⟩ : ∃ n, n = s1.size := ⟨_, rfl⟩
  obtain ⟨w1, c, hconv, by1, bl1, hz⟩ := convB (w.alloc (.cells #[.int .u8 (x : Int), .int .u8 (y : Int)] 22)) s1
  have hz1 : (w.alloc (.cells #[.int .u8 (x : Int), .int .u8 (y : Int)] 22)).heap.size = w.heap.size + 1 := by simp
  have hrow : w1.heap[w.heap.size]? = some (.cells #[.int .u8 (x : Int), .int .u8 (y : Int)] 22 (0, 0)) := by
    rw [bl1.block _ (by rw [hz1]; omega)]
    exact heap_alloc_new w _
  have cx : w1.cell? ⟨w.heap.size, 0, none⟩ = some (.int .u8 (x : Int)) := by
    rw [cell_of_row w1 w.heap.size 0 _ _ _ hrow]
    rfl
  have cy : w1.cell? ⟨w.heap.size, 1, none⟩ = some (.int .u8 (y : Int)) := by
    rw [cell_of_row w1 w.heap.size 1 _ _ _ hrow]
    rfl
  have hbb := bl_trans (bx_alloc w (.cells #[.int .u8 (x : Int), .int .u8 (y : Int)] 22)) bl1
  have hlen := M.bytes_len s1
  rw [← hn] at hconv hlen
  rw [hz1] at hconv by1
  have HBY := Lib.hid by1
  have HBB := Lib.hid hbb
  have HL0 := Lib.hid hlen
  have hnm : n ≤ 300 := by omega
  have HNE := Lib.hid hn
  clear by1 bl1 hz hbb hz1 hrow hlen hn
  by_cases ht0 : n = 0
  · subst ht0
    obtain ⟨u, hu, hback⟩ := HBY.out.back 0 c HL0.out
    have HU : u.size ≤ 300 := by omega
    have HB2 := HBB
    clear hu cx cy
    go_wp2
    go_loopw [33] (fun p wr => ∃ k : Nat, k ≤ 2 ∧ p = .int .i64 (k : Int) ∧ Below w.heap.size w wr) (fun p _ => 2 - (intOf p).toNat)
    case atStart => exact ⟨0, by omega, rfl, HB2.out⟩
    case round =>
      obtain ⟨k, hk, rfl, hbk⟩ := hrel
      have HBK := Lib.hid hbk
      clear hbk
      rcases (show k = 0 ∨ k = 1 ∨ k = 2 by omega) with rfl | rfl | rfl
      · skip
        have hidx := (idx2 wr s1 u).1
        go_wp2_with fail
        refine (tokens_c s1 (by omega) _).mono ?_
        rintro e w3 ⟨ts, r, hl, hb3, h3⟩
        have HL := Lib.hid hl.list
        have HC := Lib.hid (Nat.le_trans hl.count hs1)
        have HB3 := Lib.hid (bl_trans HBK.out hb3)
        have HG3 := Lib.hid (cell0_below HG.out HB3.out)
        clear hl hb3
        rcases h3 with ⟨rfl, es, A3, c3, rfl, rfl, o3⟩ | ⟨k3, c3, rfl, rfl, hlt, h4, h5⟩
        · have H3 := Lib.hid o3.rd
          have E3 : es.length ≤ 8388608 := by have := HC.out; rw [List.length_map] at this; omega
          clear o3
          go_wp2_with fail
          refine (tokensRef_c s1 (by omega) _).mono ?_
          rintro e w4 ⟨ts', r', hl', hb4, h4⟩
          obtain ⟨e1, e2⟩ := HL.out.uniq hl'
          subst e1 e2
          rcases h4 with ⟨_, fs, A4, c4, hfs, rfl, o4⟩ | ⟨k4, hk4, _⟩
          · have H4 := Lib.hid o4.rd
            have H34 := Lib.hid (H3.out.below hb4)
            have HB4 := Lib.hid (bl_trans HB3.out hb4)
            have HSM := Lib.hid (bigKey hfs)
            have E4 : fs.length ≤ 8388608 := by have := congrArg List.length hfs; rw [List.length_map, List.length_map] at this; omega
            clear hl' hb4 o4 hfs H3
            go_wp2_with fail
            refine (toldE_c _).mono ?_
            rintro _ w5 ⟨rfl, hb5⟩
            have hb45 := bl_trans (bx_alloc w4 _) hb5
            have H45 := Lib.hid (H4.out.below hb45)
            have H35 := Lib.hid (H34.out.below hb45)
            have HB5 := Lib.hid (bl_trans HB4.out hb45)
            clear hb5 hb45
            go_wp2_with fail
            refine (same_c true A3 _ c3 es A4 _ c4 fs _ H35.out H45.out E3 E4).mono ?_
            rintro _ _ ⟨rfl, q, rfl⟩
            rw [HSM.out]
            go_wp2
            go_roundw
            case rel => exact ⟨1, by omega, rfl, below_drewN HB5.out _⟩
            case measure => simp [intOf]
          · cases hk4
        · have h4' := Lib.hid h4
          have h5' := Lib.hid h5
          have hlt' := Lib.hid hlt
          clear h4 h5 hlt
          go_wp2_with fail
          refine (tokensRef_c s1 (by omega) _).mono ?_
          rintro e w4 ⟨ts', r', hl', hb4, h4⟩
          obtain ⟨e1, e2⟩ := HL.out.uniq hl'
          subst e1 e2
          rcases h4 with ⟨hk4, _⟩ | ⟨k4, hk4, rfl⟩
          · cases hk4
          · obtain rfl := Option.some.inj hk4
            have HB4 := Lib.hid (bl_trans HB3.out hb4)
            have C4 := Lib.hid ((hb4.cell (p := ⟨c3, 0, none⟩) hlt'.out).trans h4'.out)
            have C5 := Lib.hid ((hb4.cell (p := ⟨c3, 1, none⟩) hlt'.out).trans h5'.out)
            have L4 := Lib.hid (Nat.lt_of_lt_of_le hlt'.out hb4.size)
            clear hl' hb4 h4' h5' hlt' hk4
            go_wp2_with fail
            refine (toldW_c c3 _ _ _ (cell0_below (cell0_below HG.out HB4.out) (bx_alloc w4 _)) (((bx_alloc w4 _).cell (p := ⟨c3, 0, none⟩) L4.out).trans C4.out) (((bx_alloc w4 _).cell (p := ⟨c3, 1, none⟩) L4.out).trans C5.out)).mono ?_
            rintro _ w5 ⟨rfl, hb5⟩
            have HB5 := Lib.hid (bl_trans HB4.out (bl_trans (bx_alloc w4 _) hb5))
            clear hb5
            rw [show decide ((k3 : Int) = k3) = true from decide_eq_true rfl]
            go_wp2_with fail
            refine (same_c true none 0 0 [] none 0 0 [] _ (RdT.nil _) (RdT.nil _) (by omega) (by omega)).mono ?_
            rintro _ _ ⟨rfl, q, rfl⟩
            rw [show sameB true [] [] = true from bigKey rfl]
            go_wp2
            go_roundw
            case rel => exact ⟨1, by omega, rfl, below_drewN HB5.out _⟩
            case measure => simp [intOf]
      · skip
        have hidx := (idx2 wr s1 u).2
        go_wp2_with fail
        refine (tokens_c u (by omega) _).mono ?_
        rintro e w3 ⟨ts, r, hl, hb3, h3⟩
        have HL := Lib.hid hl.list
        have HC := Lib.hid (Nat.le_trans hl.count HU)
        have HB3 := Lib.hid (bl_trans HBK.out hb3)
        have HG3 := Lib.hid (cell0_below HG.out HB3.out)
        clear hl hb3
        rcases h3 with ⟨rfl, es, A3, c3, rfl, rfl, o3⟩ | ⟨k3, c3, rfl, rfl, hlt, h4, h5⟩
        · have H3 := Lib.hid o3.rd
          have E3 : es.length ≤ 8388608 := by have := HC.out; rw [List.length_map] at this; omega
          clear o3
          go_wp2_with fail
          refine (tokensRef_c u (by omega) _).mono ?_
          rintro e w4 ⟨ts', r', hl', hb4, h4⟩
          obtain ⟨e1, e2⟩ := HL.out.uniq hl'
          subst e1 e2
          rcases h4 with ⟨_, fs, A4, c4, hfs, rfl, o4⟩ | ⟨k4, hk4, _⟩
          · have H4 := Lib.hid o4.rd
            have H34 := Lib.hid (H3.out.below hb4)
            have HB4 := Lib.hid (bl_trans HB3.out hb4)
            have HSM := Lib.hid (bigKey hfs)
            have E4 : fs.length ≤ 8388608 := by have := congrArg List.length hfs; rw [List.length_map, List.length_map] at this; omega
            clear hl' hb4 o4 hfs H3
            go_wp2_with fail
            refine (toldE_c _).mono ?_
            rintro _ w5 ⟨rfl, hb5⟩
            have hb45 := bl_trans (bx_alloc w4 _) hb5
            have H45 := Lib.hid (H4.out.below hb45)
            have H35 := Lib.hid (H34.out.below hb45)
            have HB5 := Lib.hid (bl_trans HB4.out hb45)
            clear hb5 hb45
            go_wp2_with fail
            refine (same_c true A3 _ c3 es A4 _ c4 fs _ H35.out H45.out E3 E4).mono ?_
            rintro _ _ ⟨rfl, q, rfl⟩
            rw [HSM.out]
            go_wp2
            go_roundw
            case rel => exact ⟨2, by omega, rfl, below_drewN HB5.out _⟩
            case measure => simp [intOf]
          · cases hk4
        · have h4' := Lib.hid h4
          have h5' := Lib.hid h5
          have hlt' := Lib.hid hlt
          clear h4 h5 hlt
          go_wp2_with fail
          refine (tokensRef_c u (by omega) _).mono ?_
          rintro e w4 ⟨ts', r', hl', hb4, h4⟩
          obtain ⟨e1, e2⟩ := HL.out.uniq hl'
          subst e1 e2
          rcases h4 with ⟨hk4, _⟩ | ⟨k4, hk4, rfl⟩
          · cases hk4
          · obtain rfl := Option.some.inj hk4
            have HB4 := Lib.hid (bl_trans HB3.out hb4)
            have C4 := Lib.hid ((hb4.cell (p := ⟨c3, 0, none⟩) hlt'.out).trans h4'.out)
            have C5 := Lib.hid ((hb4.cell (p := ⟨c3, 1, none⟩) hlt'.out).trans h5'.out)
            have L4 := Lib.hid (Nat.lt_of_lt_of_le hlt'.out hb4.size)
            clear hl' hb4 h4' h5' hlt' hk4
            go_wp2_with fail
            refine (toldW_c c3 _ _ _ (cell0_below (cell0_below HG.out HB4.out) (bx_alloc w4 _)) (((bx_alloc w4 _).cell (p := ⟨c3, 0, none⟩) L4.out).trans C4.out) (((bx_alloc w4 _).cell (p := ⟨c3, 1, none⟩) L4.out).trans C5.out)).mono ?_
            rintro _ w5 ⟨rfl, hb5⟩
            have HB5 := Lib.hid (bl_trans HB4.out (bl_trans (bx_alloc w4 _) hb5))
            clear hb5
            rw [show decide ((k3 : Int) = k3) = true from decide_eq_true rfl]
            go_wp2_with fail
            refine (same_c true none 0 0 [] none 0 0 [] _ (RdT.nil _) (RdT.nil _) (by omega) (by omega)).mono ?_
            rintro _ _ ⟨rfl, q, rfl⟩
            rw [show sameB true [] [] = true from bigKey rfl]
            go_wp2
            go_roundw
            case rel => exact ⟨2, by omega, rfl, below_drewN HB5.out _⟩
            case measure => simp [intOf]
      · go_wp2_with fail
        refine (cWorks5 _ (cell0_below HG.out HBK.out)).mono ?_
        rintro e w6 ⟨rfl, b6⟩
        have HB6 := Lib.hid (bl_trans HBK.out b6)
        clear b6
        go_wp2
        go_ret
        exact ⟨rfl, HB6.out⟩
  · have htp : 0 < n := by omega
    obtain ⟨k, hk⟩ : ∃ k, k = x % n := ⟨_, rfl⟩
    have hkn : k < n := by rw [hk]; exact Nat.mod_lt _ htp
    have hki : (x : Int).tmod (n : Int) = k := by rw [hk]; exact tmodN x n
    have hkm : (x : Int) % (n : Int) = k := by rw [hk]; exact (Int.natCast_emod x n).symm
    obtain ⟨z, hz⟩ : ∃ z, (M.bytes s1)[k]? = some z := ⟨_, List.getElem?_eq_getElem (by rw [HL0.out]; exact hkn)⟩
    have ck := HBY.out.cell hz
    have fk := HBY.out.fr (i := k) (by rw [HL0.out]; exact hkn)
    obtain ⟨u, hu, hback⟩ := (HBY.out.set k y).drew.back n c (by rw [List.length_set]; exact HL0.out)
    have HU : u.size ≤ 300 := by omega
    have HB2 := Lib.hid ((HBB.out.setCell (p := ⟨w.heap.size + 1, k, none⟩) (by simp) (.int .u8 (y : Int))).drew)
    clear hz hu hk
    go_wp2
    go_region
    go_wp2
    go_loopw [33] (fun p wr => ∃ k : Nat, k ≤ 2 ∧ p = .int .i64 (k : Int) ∧ Below w.heap.size w wr) (fun p _ => 2 - (intOf p).toNat)
    case atStart => exact ⟨0, by omega, rfl, HB2.out⟩
    case round =>
      obtain ⟨k, hk, rfl, hbk⟩ := hrel
      have HBK := Lib.hid hbk
      clear hbk
      rcases (show k = 0 ∨ k = 1 ∨ k = 2 by omega) with rfl | rfl | rfl
      · skip
        have hidx := (idx2 wr s1 u).1
        go_wp2_with fail
        refine (tokens_c s1 (by omega) _).mono ?_
        rintro e w3 ⟨ts, r, hl, hb3, h3⟩
        have HL := Lib.hid hl.list
        have HC := Lib.hid (Nat.le_trans hl.count hs1)
        have HB3 := Lib.hid (bl_trans HBK.out hb3)
        have HG3 := Lib.hid (cell0_below HG.out HB3.out)
        clear hl hb3
        rcases h3 with ⟨rfl, es, A3, c3, rfl, rfl, o3⟩ | ⟨k3, c3, rfl, rfl, hlt, h4, h5⟩
        · have H3 := Lib.hid o3.rd
          have E3 : es.length ≤ 8388608 := by have := HC.out; rw [List.length_map] at this; omega
          clear o3
          go_wp2_with fail
          refine (tokensRef_c s1 (by omega) _).mono ?_
          rintro e w4 ⟨ts', r', hl', hb4, h4⟩
          obtain ⟨e1, e2⟩ := HL.out.uniq hl'
          subst e1 e2
          rcases h4 with ⟨_, fs, A4, c4, hfs, rfl, o4⟩ | ⟨k4, hk4, _⟩
          · have H4 := Lib.hid o4.rd
            have H34 := Lib.hid (H3.out.below hb4)
            have HB4 := Lib.hid (bl_trans HB3.out hb4)
            have HSM := Lib.hid (bigKey hfs)
            have E4 : fs.length ≤ 8388608 := by have := congrArg List.length hfs; rw [List.length_map, List.length_map] at this; omega
            clear hl' hb4 o4 hfs H3
            go_wp2_with fail
            refine (toldE_c _).mono ?_
            rintro _ w5 ⟨rfl, hb5⟩
            have hb45 := bl_trans (bx_alloc w4 _) hb5
            have H45 := Lib.hid (H4.out.below hb45)
            have H35 := Lib.hid (H34.out.below hb45)
            have HB5 := Lib.hid (bl_trans HB4.out hb45)
            clear hb5 hb45
            go_wp2_with fail
            refine (same_c true A3 _ c3 es A4 _ c4 fs _ H35.out H45.out E3 E4).mono ?_
            rintro _ _ ⟨rfl, q, rfl⟩
            rw [HSM.out]
            go_wp2
            go_roundw
            case rel => exact ⟨1, by omega, rfl, below_drewN HB5.out _⟩
            case measure => simp [intOf]
          · cases hk4
        · have h4' := Lib.hid h4
          have h5' := Lib.hid h5
          have hlt' := Lib.hid hlt
          clear h4 h5 hlt
          go_wp2_with fail
          refine (tokensRef_c s1 (by omega) _).mono ?_
          rintro e w4 ⟨ts', r', hl', hb4, h4⟩
          obtain ⟨e1, e2⟩ := HL.out.uniq hl'
          subst e1 e2
          rcases h4 with ⟨hk4, _⟩ | ⟨k4, hk4, rfl⟩
          · cases hk4
          · obtain rfl := Option.some.inj hk4
            have HB4 := Lib.hid (bl_trans HB3.out hb4)
            have C4 := Lib.hid ((hb4.cell (p := ⟨c3, 0, none⟩) hlt'.out).trans h4'.out)
            have C5 := Lib.hid ((hb4.cell (p := ⟨c3, 1, none⟩) hlt'.out).trans h5'.out)
            have L4 := Lib.hid (Nat.lt_of_lt_of_le hlt'.out hb4.size)
            clear hl' hb4 h4' h5' hlt' hk4
            go_wp2_with fail
            refine (toldW_c c3 _ _ _ (cell0_below (cell0_below HG.out HB4.out) (bx_alloc w4 _)) (((bx_alloc w4 _).cell (p := ⟨c3, 0, none⟩) L4.out).trans C4.out) (((bx_alloc w4 _).cell (p := ⟨c3, 1, none⟩) L4.out).trans C5.out)).mono ?_
            rintro _ w5 ⟨rfl, hb5⟩
            have HB5 := Lib.hid (bl_trans HB4.out (bl_trans (bx_alloc w4 _) hb5))
            clear hb5
            rw [show decide ((k3 : Int) = k3) = true from decide_eq_true rfl]
            go_wp2_with fail
            refine (same_c true none 0 0 [] none 0 0 [] _ (RdT.nil _) (RdT.nil _) (by omega) (by omega)).mono ?_
            rintro _ _ ⟨rfl, q, rfl⟩
            rw [show sameB true [] [] = true from bigKey rfl]
            go_wp2
            go_roundw
            case rel => exact ⟨1, by omega, rfl, below_drewN HB5.out _⟩
            case measure => simp [intOf]
      · skip
        have hidx := (idx2 wr s1 u).2
        go_wp2_with fail
        refine (tokens_c u (by omega) _).mono ?_
        rintro e w3 ⟨ts, r, hl, hb3, h3⟩
        have HL := Lib.hid hl.list
        have HC := Lib.hid (Nat.le_trans hl.count HU)
        have HB3 := Lib.hid (bl_trans HBK.out hb3)
        have HG3 := Lib.hid (cell0_below HG.out HB3.out)
        clear hl hb3
        rcases h3 with ⟨rfl, es, A3, c3, rfl, rfl, o3⟩ | ⟨k3, c3, rfl, rfl, hlt, h4, h5⟩
        · have H3 := Lib.hid o3.rd
          have E3 : es.length ≤ 8388608 := by have := HC.out; rw [List.length_map] at this; omega
          clear o3
          go_wp2_with fail
          refine (tokensRef_c u (by omega) _).mono ?_
          rintro e w4 ⟨ts', r', hl', hb4, h4⟩
          obtain ⟨e1, e2⟩ := HL.out.uniq hl'
          subst e1 e2
          rcases h4 with ⟨_, fs, A4, c4, hfs, rfl, o4⟩ | ⟨k4, hk4, _⟩
          · have H4 := Lib.hid o4.rd
            have H34 := Lib.hid (H3.out.below hb4)
            have HB4 := Lib.hid (bl_trans HB3.out hb4)
            have HSM := Lib.hid (bigKey hfs)
            have E4 : fs.length ≤ 8388608 := by have := congrArg List.length hfs; rw [List.length_map, List.length_map] at this; omega
            clear hl' hb4 o4 hfs H3
            go_wp2_with fail
            refine (toldE_c _).mono ?_
            rintro _ w5 ⟨rfl, hb5⟩
            have hb45 := bl_trans (bx_alloc w4 _) hb5
            have H45 := Lib.hid (H4.out.below hb45)
            have H35 := Lib.hid (H34.out.below hb45)
            have HB5 := Lib.hid (bl_trans HB4.out hb45)
            clear hb5 hb45
            go_wp2_with fail
            refine (same_c true A3 _ c3 es A4 _ c4 fs _ H35.out H45.out E3 E4).mono ?_
            rintro _ _ ⟨rfl, q, rfl⟩
            rw [HSM.out]
            go_wp2
            go_roundw
            case rel => exact ⟨2, by omega, rfl, below_drewN HB5.out _⟩
            case measure => simp [intOf]
          · cases hk4
        · have h4' := Lib.hid h4
          have h5' := Lib.hid h5
          have hlt' := Lib.hid hlt
          clear h4 h5 hlt
          go_wp2_with fail
          refine (tokensRef_c u (by omega) _).mono ?_
          rintro e w4 ⟨ts', r', hl', hb4, h4⟩
          obtain ⟨e1, e2⟩ := HL.out.uniq hl'
          subst e1 e2
          rcases h4 with ⟨hk4, _⟩ | ⟨k4, hk4, rfl⟩
          · cases hk4
          · obtain rfl := Option.some.inj hk4
            have HB4 := Lib.hid (bl_trans HB3.out hb4)
            have C4 := Lib.hid ((hb4.cell (p := ⟨c3, 0, none⟩) hlt'.out).trans h4'.out)
            have C5 := Lib.hid ((hb4.cell (p := ⟨c3, 1, none⟩) hlt'.out).trans h5'.out)
            have L4 := Lib.hid (Nat.lt_of_lt_of_le hlt'.out hb4.size)
            clear hl' hb4 h4' h5' hlt' hk4
            go_wp2_with fail
            refine (toldW_c c3 _ _ _ (cell0_below (cell0_below HG.out HB4.out) (bx_alloc w4 _)) (((bx_alloc w4 _).cell (p := ⟨c3, 0, none⟩) L4.out).trans C4.out) (((bx_alloc w4 _).cell (p := ⟨c3, 1, none⟩) L4.out).trans C5.out)).mono ?_
            rintro _ w5 ⟨rfl, hb5⟩
            have HB5 := Lib.hid (bl_trans HB4.out (bl_trans (bx_alloc w4 _) hb5))
            clear hb5
            rw [show decide ((k3 : Int) = k3) = true from decide_eq_true rfl]
            go_wp2_with fail
            refine (same_c true none 0 0 [] none 0 0 [] _ (RdT.nil _) (RdT.nil _) (by omega) (by omega)).mono ?_
            rintro _ _ ⟨rfl, q, rfl⟩
            rw [show sameB true [] [] = true from bigKey rfl]
            go_wp2
            go_roundw
            case rel => exact ⟨2, by omega, rfl, below_drewN HB5.out _⟩
            case measure => simp [intOf]
      · go_wp2_with fail
        refine (cWorks5 _ (cell0_below HG.out HBK.out)).mono ?_
        rintro e w6 ⟨rfl, b6⟩
        have HB6 := Lib.hid (bl_trans HBK.out b6)
        clear b6
        go_wp2
        go_ret
        exact ⟨rfl, HB6.out⟩
end Go.Proofs.YthhkpoobcnmdgaaDoor
