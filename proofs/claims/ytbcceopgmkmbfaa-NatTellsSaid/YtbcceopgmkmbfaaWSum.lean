/- nat.sum adds rows by columns: for one to three rows of limbs; nat.Add. -/
import Derived.Test.YtbcceopgmkmbfaaWSame
namespace Go.Proofs.Ytbcceopgmkmbfaa
open Go.RowKit
set_option linter.unusedVariables false

/-- A slice of limbs, with what it reads as. -/
structure Sl where
  A : Option Addr
  n : Nat
  c : Nat
  xs : List Nat
def Sl.Rd (w : World) (s : Sl) : Prop := RdK kU32 w s.A s.n s.c s.xs

/-- A slice of slices of limbs. -/
structure Rws (w : World) (b : Nat) (rs : List Sl) : Prop where
  cells : ∀ (i : Nat) (s : Sl), rs[i]? = some s → w.cell? ⟨b, i, none⟩ = some (.slice s.A s.n s.c)
  rd : ∀ s ∈ rs, s.Rd w
  few : ∀ s ∈ rs, s.n ≤ 1048576
  lt : b < w.heap.size

def xss (rs : List Sl) : List (List Nat) := rs.map Sl.xs

theorem Rws.below {w w' : World} {b : Nat} {rs : List Sl} (h : Rws w b rs) (hb : Below w.heap.size w w') : Rws w' b rs :=
  ⟨fun i s hs => (hb.cell (p := ⟨b, i, none⟩) h.lt).trans (h.cells i s hs), fun s hs => RdK.below (h.rd s hs) hb, h.few, by have := hb.size; have := h.lt; omega⟩

theorem Rws.limAll {w : World} {b : Nat} {rs : List Sl} (h : Rws w b rs) : ∀ r ∈ xss rs, M.Lim r := by
  intro r hr
  obtain ⟨s, hs, rfl⟩ := List.mem_map.1 hr
  exact (h.rd s hs).lim

set_option maxHeartbeats 2000000 in
theorem sum_any (b : Nat) (rs : List Sl) (cnt : Nat) (w : World) (h : Rws w b rs) (hn : rs.length = cnt) (h1 : 1 ≤ cnt) (h3 : cnt ≤ 3) :
    Calls Try.prog 51 #[.slice (some ⟨b, 0, none⟩) cnt cnt] w (Gives w (M.lims (M.vals (xss rs)))) := by
  have H := Lib.hid h
  have HN := Lib.hid hn
  clear h hn
  go_enter Try.func51, Try.ntmps51
  go_wp2
  go_loop [3, 13] (fun l i => ∃ k m : Nat, k ≤ cnt ∧ i = .int .i64 k ∧ l = .int .i64 m ∧ m ≤ 1048576 ∧ ∀ s ∈ rs.take k, s.n ≤ m) (fun _ i => cnt - (intOf i).toNat)
  case atStart => exact ⟨0, 0, Nat.zero_le _, rfl, rfl, by omega, by simp⟩
  case round =>
    obtain ⟨k, m, hk, rfl, rfl, hm, hall⟩ := hrel
    have HA := Lib.hid hall
    clear hall
    by_cases hkc : k < cnt
    · obtain ⟨s, hs⟩ : ∃ s, rs[k]? = some s := ⟨_, List.getElem?_eq_getElem (by rw [HN.out]; exact hkc)⟩
      have hcell := H.out.cells k s hs
      have hsn := H.out.few s (List.mem_of_getElem? hs)
      have HS := Lib.hid hs
      clear hs
      have key : ∀ m', m ≤ m' → s.n ≤ m' → ∀ s' ∈ rs.take (k + 1), s'.n ≤ m' := by
        intro m' h1 h2 s' hs'
        rw [List.take_add_one, HS.out] at hs'
        rcases List.mem_append.1 hs' with h | h
        · exact Nat.le_trans (HA.out s' h) h1
        · simp at h; subst h; exact h2
      have HK := Lib.hid key
      clear key
      obtain ⟨sA, sn, sc, sxs⟩ := s
      dsimp only at hcell hsn HK
      by_cases hms : (m : Int) < sn
      · go_wp2
        go_round
        case rel => exact ⟨k + 1, sn, by omega, by go_num, rfl, by omega, HK.out _ (by omega) (by omega)⟩
        case measure => simp [intOf]; omega
      · go_wp2
        all_goals
          go_round
          case rel => exact ⟨k + 1, m, by omega, by go_num, by go_num, by omega, HK.out _ (by omega) (by omega)⟩
          case measure => simp [intOf]; omega
    · have hall : ∀ r ∈ xss rs, r.length ≤ m := by
        intro r hr
        obtain ⟨s, hs, rfl⟩ := List.mem_map.1 hr
        have := HA.out s (by rw [List.take_of_length_le (by rw [HN.out]; omega)]; exact hs)
        rw [(H.out.rd s hs).len]
        exact this
      have HAll := Lib.hid hall
      clear hall HA
      go_wp2_with (at_make; refine make_own kU32 _ rfl _ _ rfl .i64 .i64 _ (m + 1) rfl rfl (by omega) (by omega) ?_; intro w1 ho1 hb1; have HO1 := Lib.hid ho1; have HB1 := Lib.hid hb1; clear ho1 hb1)
      go_loopw [6, 7, 26] (fun v q i wr => ∃ (k cy cp : Nat) (A : Option Addr) (ds : List Nat), k ≤ m ∧ i = .int .i64 k ∧ q = .int .u64 cy ∧ cy < cnt ∧ v = .slice A k cp ∧ Own wr w.heap.size A k cp ds ∧
          M.val ds + M.R ^ k * cy = M.tot (xss rs) k ∧ Below w.heap.size w wr) (fun _ _ i _ => m - (intOf i).toNat)
      case atStart => exact ⟨0, 0, m + 1, some ⟨w.heap.size, 0, none⟩, [], Nat.zero_le _, rfl, rfl, by omega, rfl, HO1.out, by rw [M.tot_zero]; rfl, HB1.out⟩
      case round =>
        obtain ⟨k, cy, cp, A, ds, hk, rfl, rfl, hcy, rfl, ho, hv, hb⟩ := hrel
        have HO := Lib.hid ho
        have HV := Lib.hid hv
        have HB := Lib.hid hb
        clear ho hv hb
        have HR := Lib.hid (H.out.below HB.out)
        by_cases hkm : k < m
        · go_wp2
          go_loop [7, 31] (fun q i => ∃ j c' : Nat, j ≤ cnt ∧ i = .int .i64 j ∧ q = .int .u64 c' ∧ c' = cy + M.col (xss (rs.take j)) k) (fun _ i => cnt - (intOf i).toNat)
          case atStart => exact ⟨0, cy, Nat.zero_le _, rfl, rfl, by simp [xss, M.col]⟩
          case round =>
            obtain ⟨j, c', hj, rfl, rfl, hc'⟩ := hrel
            have HC := Lib.hid hc'
            clear hc'
            by_cases hjc : j < cnt
            · obtain ⟨s, hs⟩ : ∃ s, rs[j]? = some s := ⟨_, List.getElem?_eq_getElem (by rw [HN.out]; exact hjc)⟩
              have hcell := HR.out.cells j s hs
              have hsn := HR.out.few s (List.mem_of_getElem? hs)
              have hrd := HR.out.rd s (List.mem_of_getElem? hs)
              have hst : M.col (xss (rs.take (j + 1))) k = M.col (xss (rs.take j)) k + M.limbAt s.xs k := by
                unfold xss
                rw [List.map_take, List.map_take]
                exact M.col_take_succ (by rw [List.getElem?_map, hs]; rfl) k
              have hlim := M.limbAt_lt (RdK.Lim hrd) k
              have hle : M.col (xss (rs.take j)) k + j ≤ j * M.R := by
                have h0 := M.col_le (rs := xss (rs.take j)) (fun r hr => by
                  obtain ⟨s', hs', rfl⟩ := List.mem_map.1 hr
                  exact RdK.Lim (HR.out.rd s' (List.mem_of_mem_take hs'))) k
                have h1 : (xss (rs.take j)).length = j := by unfold xss; rw [List.length_map, List.length_take, HN.out]; omega
                rw [h1] at h0
                exact h0
              have hjR : j * M.R ≤ 3 * M.R := Nat.mul_le_mul_right _ (by omega)
              rw [M.R_eq] at hlim hle hjR
              have hc'b : c' ≤ 12884901900 := by rw [HC.out]; omega
              have HRd := Lib.hid hrd
              have HST := Lib.hid hst
              clear hs hrd hst hle hjR
              obtain ⟨sA, sn, sc, sxs⟩ := s
              dsimp only at hcell hsn HST hlim
              go_wp2_with (go_at_call 62; refine (limb_any _ _ _ sxs _ _ HRd.out (Nat.le_trans hsn (by omega)) (by omega)).mono ?_; rintro e w' ⟨rfl, rfl⟩)
              go_round
              case rel => exact ⟨j + 1, c' + M.limbAt sxs k, by omega, by go_num, by go_num, by rw [HC.out, HST.out]; omega⟩
              case measure => simp [intOf]; omega
            · have hjc' : j = cnt := by omega
              have hc2 : c' = cy + M.col (xss rs) k := by
                rw [HC.out, hjc', List.take_of_length_le (by rw [HN.out]; exact Nat.le_refl _)]
              have hlen : (xss rs).length = cnt := by unfold xss; rw [List.length_map, HN.out]
              have hcq := M.sum_carry HR.out.limAll (i := k) (c := cy) (by rw [hlen]; exact hcy)
              have hstep := M.sum_step HO.out.len HV.out
              have hcle := M.col_le HR.out.limAll k
              rw [hlen] at hcle
              have hcR : cnt * M.R ≤ 3 * M.R := Nat.mul_le_mul_right _ h3
              rw [← hc2] at hcq hstep
              have hcb : c' ≤ 12884901900 := by rw [M.R_eq] at hcle hcR; omega
              have hd : c' % M.R < M.R := Nat.mod_lt _ M.R_pos
              rw [hlen] at hcq
              have HST := Lib.hid hstep
              have HCQ := Lib.hid hcq
              have HD := Lib.hid hd
              clear hc2 hstep hcq hcle hcR hlen HC hjc' hd
              obtain ⟨d, hd⟩ : ∃ d : Nat, d = c' % M.R := ⟨_, rfl⟩
              obtain ⟨q, hq⟩ : ∃ q : Nat, q = c' / M.R := ⟨_, rfl⟩
              rw [← hd, ← hq] at HST
              rw [← hd] at HD
              rw [← hq] at HCQ
              have hd2 : (c' : Int) % 4294967296 = d := by rw [hd, M.R_eq]; omega
              have hq2 : (c' : Int) / 4294967296 = q := by rw [hq, M.R_eq]; omega
              have HMK : k + 1 ≤ 8388608 := by omega
              clear hd hq
              go_wp2_with (at_builtin; refine app_own kU32 _ rfl _ _ rfl w.heap.size A k cp ds rfl (HO.out.alloc _) _ 1 1 [d] rfl (RdK.one _ d HD.out) HMK (by have := HB.out.size; simp; omega) ?_; intro A2 c2 w2 ho2 hg2; have HO2 := Lib.hid ho2; have HG2 := Lib.hid hg2; clear ho2 hg2)
              go_roundw
              case rel => exact ⟨k + 1, q, c2, A2, ds ++ [d], by omega, by go_num, by go_num, HCQ.out, rfl, HO2.out, HST.out, below_app HB.out HB.out.size HO.out HG2.out⟩
              case measure => simp [intOf]; omega
        · obtain rfl : k = m := by omega
          have hcyR : cy < M.R := by rw [M.R_eq]; omega
          have hmod : (cy : Int) % 4294967296 = cy := by omega
          have hval : M.vals (xss rs) = M.val (ds ++ [cy]) := by
            rw [← M.tot_all HAll.out, ← HV.out, M.val_append, HO.out.len]
            simp [M.val]
          have HVAL := Lib.hid hval
          have HCY := Lib.hid hcyR
          clear hval hcyR
          go_wp2_with (first
            | (at_builtin; refine app_own kU32 _ rfl _ _ rfl w.heap.size A k cp ds rfl (HO.out.alloc _) _ 1 1 [cy] rfl (RdK.one _ cy HCY.out) (by omega) (by have := HB.out.size; simp; omega) ?_; intro A2 c2 w2 ho2 hg2; have HO2 := Lib.hid ho2; have HG2 := Lib.hid hg2; clear ho2 hg2)
            | (go_at_call 41; refine (short_any _ _ _ _ _ HO2.out.rd (by omega)).mono ?_; rintro e w' ⟨rfl, rfl⟩))
          go_ret
          have hs := HO2.out.short
          rw [M.tr_eq_lims HO2.out.Lim, ← HVAL.out] at hs
          refine ⟨A2, c2, ?_, hs, below_app HB.out HB.out.size HO.out HG2.out⟩
          rw [HVAL.out, ← M.tr_eq_lims HO2.out.Lim]
          rfl

set_option maxHeartbeats 400000 in
theorem add_any (A : Option Addr) (n c : Nat) (xs : List Nat) (B : Option Addr) (m d : Nat) (ys : List Nat) (w : World) (h : Rd w A n c xs) (k : Rd w B m d ys) (hm : n ≤ 1048576) (hm' : m ≤ 1048576) :
    Calls Try.prog 24 #[.slice A n c, .slice B m d] w (Gives w (M.lims (M.val xs + M.val ys))) := by
  have e : M.val xs + M.val ys = M.vals (xss [⟨A, n, c, xs⟩, ⟨B, m, d, ys⟩]) := by simp [M.vals, xss]
  rw [e]
  have hw : Rws (w.alloc (.cells #[.slice A n c, .slice B m d] 22)) w.heap.size [⟨A, n, c, xs⟩, ⟨B, m, d, ys⟩] := by
    refine ⟨fun i s hs => ?_, fun s hs => ?_, fun s hs => ?_, by simp⟩
    · rw [cell_of_row _ _ _ #[.slice A n c, .slice B m d] 22 (0, 0) (heap_alloc_new w _)]
      match i, hs with
      | 0, hs => simp at hs; subst hs; rfl
      | 1, hs => simp at hs; subst hs; rfl
    · simp at hs
      rcases hs with rfl | rfl
      · exact h.alloc _
      · exact k.alloc _
    · simp at hs
      rcases hs with rfl | rfl
      · exact hm
      · exact hm'
  have HW := Lib.hid hw
  clear hw h k e
  go_enter Try.func24, Try.ntmps24
  go_wp2_with fail
  refine (sum_any _ _ 2 _ HW.out rfl (by omega) (by omega)).mono ?_
  rintro e w1 ⟨A1, c1, rfl, ho1, hb1⟩
  go_wp2
  go_ret
  exact ⟨A1, c1, rfl, ho1.mono (by simp), ((Below.refl _ _).alloc (Nat.le_refl _) _).trans (hb1.mono (by simp))⟩

end Go.Proofs.Ytbcceopgmkmbfaa
