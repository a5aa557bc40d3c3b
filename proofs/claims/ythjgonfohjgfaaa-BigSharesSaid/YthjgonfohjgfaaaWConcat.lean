/- slices.Grow of no row, slices.Concat of rows of limbs, nat.raised. -/
import Derived.Test.YthjgonfohjgfaaaMG
import Derived.Test.YthjgonfohjgfaaaMD
import Derived.Lib.AppendZeros
namespace Go.Proofs.Ythjgonfohjgfaaa
open Go.RowKit
set_option linter.unusedVariables false
set_option maxRecDepth 100000

theorem own_zeros (w : World) (n cap : Nat) (h1 : n ≤ cap) (h2 : cap ≤ maxLen) (z : Value) (hz : z.cells.size = 1) :
    Own (w.drew.alloc (.cells (Builtin.zeroCells z.cells n ++ Builtin.zeroCells z.cells (cap - n)) 63)) w.heap.size (some ⟨w.heap.size, 0, none⟩) 0 cap [] := by
  refine ⟨⟨rfl, .inr ⟨w.heap.size, cap, _, rfl, Nat.le_refl _, heap_alloc_new w.drew _, Nat.zero_le _, h2, ?_, by simp⟩⟩, fun x hx => by cases hx⟩
  simp [Builtin.zeroCells, hz]
  omega

set_option maxHeartbeats 1000000 in
theorem grow_nil (n : Nat) (w : World) (h0 : 0 < n) (hn : n ≤ 4194304) :
    Calls Try.prog 117 #[.slice none 0 0, .int .i64 (n : Int)] w fun e w' => ∃ c, e = .returned (.slice (some ⟨w.heap.size, 0, none⟩) 0 c) ∧ Own w' w.heap.size (some ⟨w.heap.size, 0, none⟩) 0 c [] ∧ Below w.heap.size w w' := by
  obtain ⟨i0, hi, hz0, hz1, hz2⟩ := info_parts kU32.info
  have hr := Lib.run_append_nil_zeros (P := Try.prog) w 25 3 25 63 i0 (kU32.enc kU32.zero) .i64 .i64 Try.underlying25 Try.underlying3 hi hz0 n h0 (by rw [hz1]; decide) (by omega) (by rw [hz2]; show n * 4 ≤ _; omega)
  have hge := grownCap_ge w n 0 63
  have hcm : grownCap w n 0 63 ≤ maxLen := grownCap_le_maxLen w n 0 63 (by unfold maxLen; omega)
  generalize grownCap w n 0 63 = cap at hr hge hcm
  have HR := Lib.hid hr
  have hown := own_zeros w n cap hge hcm (kU32.enc kU32.zero) rfl
  have HO := Lib.hid hown
  have HB := Lib.hid (show Below w.heap.size w (w.drew.alloc (.cells (Builtin.zeroCells (kU32.enc kU32.zero).cells n ++ Builtin.zeroCells (kU32.enc kU32.zero).cells (cap - n)) 63)) from (Below.refl w.heap.size w).drew.alloc (Nat.le_refl _) _)
  clear hr hown hi hz0 hz1 hz2
  go_enter Try.func117, Try.ntmps117
  go_wp2_with (at_builtin; refine Lib.wpList_append_run _ rfl _ _ _ _ rfl _ _ rfl rfl _ _ HR.out ?_)
  go_ret
  exact ⟨cap, rfl, HO.out, HB.out⟩

/-- So many limbs in the first k rows. -/
def szs (rs : List Sl) (k : Nat) : Nat := ((rs.take k).map Sl.n).sum
theorem szs_succ {rs : List Sl} {k : Nat} {s : Sl} (h : rs[k]? = some s) : szs rs (k + 1) = szs rs k + s.n := by
  unfold szs
  rw [List.take_add_one, h]
  simp
theorem szs_len {w : World} {b : Nat} {rs : List Sl} (h : Rws w b rs) (k : Nat) : ((rs.take k).map Sl.xs).flatten.length = szs rs k := by
  induction k with
  | zero => rfl
  | succ k ih =>
    cases hk : rs[k]? with
    | none =>
      have : rs.length ≤ k := List.getElem?_eq_none_iff.1 hk
      unfold szs at *
      rw [List.take_of_length_le (by omega)] at ih ⊢
      exact ih
    | some s =>
      rw [szs_succ hk, ← ih, List.take_add_one, hk]
      have := (h.rd s (List.mem_of_getElem? hk)).len
      simp [this]

set_option maxHeartbeats 2000000 in
theorem concat_any (b : Nat) (rs : List Sl) (cnt : Nat) (w : World) (h : Rws w b rs) (hn : rs.length = cnt) (h3 : cnt ≤ 3) (h0 : 0 < szs rs cnt) :
    Calls Try.prog 116 #[.slice (some ⟨b, 0, none⟩) cnt cnt] w (Gives w (xss rs).flatten) := by
  have hall : ∀ k, szs rs k ≤ k * 1048576 := by
    intro k
    induction k with
    | zero => simp [szs]
    | succ k ih =>
      cases hk : rs[k]? with
      | none =>
        have : rs.length ≤ k := List.getElem?_eq_none_iff.1 hk
        have e : szs rs (k + 1) = szs rs k := by unfold szs; rw [List.take_of_length_le (by omega), List.take_of_length_le (by omega)]
        omega
      | some s =>
        rw [szs_succ hk]
        have := h.few s (List.mem_of_getElem? hk)
        omega
  have H := Lib.hid h
  have HN := Lib.hid hn
  have HA := Lib.hid hall
  clear h hn hall
  go_enter Try.func116, Try.ntmps116
  go_wp2
  go_loop [3, 11] (fun l i => ∃ k m : Nat, k ≤ cnt ∧ i = .int .i64 k ∧ l = .int .i64 m ∧ m = szs rs k) (fun _ i => cnt - (intOf i).toNat)
  case atStart => exact ⟨0, 0, Nat.zero_le _, rfl, rfl, rfl⟩
  case round =>
    obtain ⟨k, m, hk, rfl, rfl, hm⟩ := hrel
    have hml : m ≤ 3145728 := by have := HA.out k; omega
    by_cases hkn : k < cnt
    · obtain ⟨s, hs⟩ : ∃ s, rs[k]? = some s := ⟨rs[k]'(by rw [HN.out]; exact hkn), List.getElem?_eq_getElem _⟩
      have hcell := H.out.cells k s hs
      have hsn := H.out.few s (List.mem_of_getElem? hs)
      have HST := Lib.hid (show m + s.n = szs rs (k + 1) by rw [hm, szs_succ hs])
      clear hm hs
      go_wp2
      go_round
      case rel => exact ⟨k + 1, m + s.n, by omega, by go_num, by go_num, HST.out⟩
      case measure => simp [intOf]; omega
    · obtain rfl : k = cnt := by omega
      have hm0 : 0 < m := by rw [hm]; exact h0
      have HM := Lib.hid hm
      clear hm h0
      go_wp2_with fail
      refine (grow_nil m w hm0 (by omega)).mono ?_
      rintro e w1 ⟨c1, rfl, ho1, hb1⟩
      have HO1 := Lib.hid ho1
      have HB1 := Lib.hid hb1
      clear ho1 hb1
      go_wp2
      go_loopw [6, 27] (fun v i wr => ∃ (j : Nat) (A : Option Addr) (n c : Nat) (ds : List Nat), j ≤ k ∧ i = .int .i64 j ∧ v = .slice A n c ∧ ds = ((rs.take j).map Sl.xs).flatten ∧ Own wr w.heap.size A n c ds ∧ Below w.heap.size w wr) (fun _ i _ => k - (intOf i).toNat)
      case atStart => exact ⟨0, _, 0, c1, [], Nat.zero_le _, rfl, rfl, rfl, HO1.out, HB1.out⟩
      case round =>
        obtain ⟨j, A, n, c, ds, hj, rfl, rfl, hds, ho, hb⟩ := hrel
        have hnl : n ≤ 3145728 := by
          have h1 := ho.len
          have h2 := szs_len H.out j
          have h3 := HA.out j
          rw [hds] at h1
          omega
        have HD := Lib.hid hds
        have HO := Lib.hid ho
        have HB := Lib.hid hb
        clear hds ho hb
        by_cases hjk : j < k
        · obtain ⟨s, hs⟩ : ∃ s, rs[j]? = some s := ⟨rs[j]'(by rw [HN.out]; exact hjk), List.getElem?_eq_getElem _⟩
          have hR := H.out.below HB.out
          have hcell := hR.cells j s hs
          have hsn := H.out.few s (List.mem_of_getElem? hs)
          have hrd : Rd wr s.A s.n s.c s.xs := hR.rd s (List.mem_of_getElem? hs)
          have HRD := Lib.hid hrd
          have HST := Lib.hid (show ds ++ s.xs = ((rs.take (j + 1)).map Sl.xs).flatten by rw [HD.out, List.take_add_one, hs]; simp)
          clear hR hrd hs
          go_wp2_with (at_builtin; refine app_own kU32 _ rfl _ _ rfl w.heap.size A n c ds rfl HO.out s.A s.n s.c s.xs rfl HRD.out (by omega) HB.out.size ?_; intro A2 c2 w2 ho2 hg2; have HO2 := Lib.hid ho2; have HG2 := Lib.hid hg2; clear ho2 hg2)
          go_roundw
          case rel => exact ⟨j + 1, A2, n + s.n, c2, ds ++ s.xs, by omega, by go_num, rfl, HST.out, HO2.out, below_app' HB.out HB.out.size HO.out HG2.out⟩
          case measure => simp [intOf]; omega
        · obtain rfl : j = k := by omega
          have HE := Lib.hid (show ds = (xss rs).flatten by rw [HD.out, List.take_of_length_le (by rw [HN.out]; exact Nat.le_refl _)]; rfl)
          clear HD
          go_wp2
          go_ret
          rw [← HE.out, Gives_len HO.out.len]
          exact ⟨A, c, rfl, HO.out, HB.out⟩

/-- Two, three slices in a new block. -/
theorem rws2 {w : World} {A B : Option Addr} {n c m d : Nat} {xs ys : List Nat} (h : Rd w A n c xs) (k : Rd w B m d ys) (hm : n ≤ 1048576) (hm' : m ≤ 1048576) : Rws (w.alloc (.cells #[.slice A n c, .slice B m d] 25)) w.heap.size [⟨A, n, c, xs⟩, ⟨B, m, d, ys⟩] := by
  refine ⟨fun i s hs => ?_, fun s hs => ?_, fun s hs => ?_, by simp⟩
  · rw [cell_of_row _ _ _ #[.slice A n c, .slice B m d] 25 (0, 0) (heap_alloc_new w _)]
    match i, hs with
    | 0, hs => simp at hs; subst hs; rfl
    | 1, hs => simp at hs; subst hs; rfl
  · simp at hs
    rcases hs with rfl | rfl
    · exact h.alloc _
    · exact k.alloc _
  · simp at hs
    rcases hs with rfl | rfl
    · exact hm
    · exact hm'
theorem rws3 {w : World} {A B C : Option Addr} {n c m d p q : Nat} {xs ys zs : List Nat} (h : Rd w A n c xs) (k : Rd w B m d ys) (l : Rd w C p q zs) (hm : n ≤ 1048576) (hm' : m ≤ 1048576) (hp : p ≤ 1048576) :
    Rws (w.alloc (.cells #[.slice A n c, .slice B m d, .slice C p q] 25)) w.heap.size [⟨A, n, c, xs⟩, ⟨B, m, d, ys⟩, ⟨C, p, q, zs⟩] := by
  refine ⟨fun i s hs => ?_, fun s hs => ?_, fun s hs => ?_, by simp⟩
  · rw [cell_of_row _ _ _ #[.slice A n c, .slice B m d, .slice C p q] 25 (0, 0) (heap_alloc_new w _)]
    match i, hs with
    | 0, hs => simp at hs; subst hs; rfl
    | 1, hs => simp at hs; subst hs; rfl
    | 2, hs => simp at hs; subst hs; rfl
  · simp at hs
    rcases hs with rfl | rfl | rfl
    · exact h.alloc _
    · exact k.alloc _
    · exact l.alloc _
  · simp at hs
    rcases hs with rfl | rfl | rfl
    · exact hm
    · exact hm'
    · exact hp

theorem concat_val (a : Nat) (xs : List Nat) : M.val (List.replicate a 0 ++ xs) = M.R ^ a * M.val xs := by
  rw [M.val_append, M.val_replicate, List.length_replicate, Nat.zero_add]

set_option maxHeartbeats 1000000 in
theorem raised_any (A : Option Addr) (n c by_ : Nat) (xs : List Nat) (w : World) (h : Rd w A n c xs) (hn : n ≤ 1048576) (h0 : 0 < by_) (hb : by_ ≤ 1048576) :
    Calls Try.prog 106 #[.slice A n c, .int .i64 (by_ : Int)] w (Gives w (List.replicate by_ 0 ++ xs)) := by
  have H := Lib.hid h
  clear h
  obtain ⟨l, hl⟩ : ∃ l, l = List.replicate by_ 0 ++ xs := ⟨_, rfl⟩
  rw [← hl]
  have HL := Lib.hid (show (xss [⟨some ⟨w.heap.size, 0, none⟩, by_, by_, List.replicate by_ kU32.zero⟩, ⟨A, n, c, xs⟩]).flatten = l by rw [hl]; simp [xss]; exact .inr rfl)
  clear hl
  go_enter Try.func106, Try.ntmps106
  go_wp2_with (at_make; refine make_full kU32 _ rfl _ _ rfl .i64 .i64 _ _ by_ rfl rfl (by omega) (by omega) (by omega) M.R_pos ?_; intro w1 ho1 hb1; have HO1 := Lib.hid ho1; have HB1 := Lib.hid hb1; clear ho1 hb1)
  refine (concat_any _ _ 2 _ (rws2 HO1.out.rd (H.out.below HB1.out) hb hn) rfl (by omega) (by simp [szs]; omega)).mono ?_
  rw [HL.out]
  rintro e w2 ⟨A2, c2, rfl, ho2, hb2⟩
  go_wp2
  go_ret
  have hbb := bl_trans (bl_trans HB1.out (bl_alloc w1 (.cells #[.slice (some ⟨w.heap.size, 0, none⟩) by_ by_, .slice A n c] 25))) hb2
  have hs : w.heap.size ≤ (w1.alloc (.cells #[.slice (some ⟨w.heap.size, 0, none⟩) by_ by_, .slice A n c] 25)).heap.size := by have := HB1.out.size; simp; omega
  exact ⟨A2, c2, rfl, ho2.mono hs, hbb⟩

end Go.Proofs.Ythjgonfohjgfaaa
