/- nat.pairs: the limbs of two rows side by side, from an iterator: for every loop body that keeps what lay below. -/
import Derived.Test.YtbhgbilhoonopaaGreatMC
import Derived.RangeFuncNested
import Derived.RangeFuncBound
import Derived.RangeFuncCalls
import Derived.RangeFuncLeaves
import Derived.Shelf.Abstract
import Derived.Shelf.RegionOpen
import Derived.OwnWalkIn
import Derived.TacticsInMore
import Derived.LoopNIn
import Derived.LoopIn
import Derived.Maps.AppendAt
import Derived.Test.YtbhgbilhoonopaaGreatME
import Derived.Test.YtbhgbilhoonopaaGreatMF
namespace Go.Proofs.YtbhgbilhoonopaaGreat
open Go.RowKit Go.Shelf
set_option linter.unusedVariables false
attribute [local go_sem] Oper.semAt_some

/-- What has come when k rounds are over. -/
def prs (xs ys : List Nat) (k : Nat) : List (Nat × Nat) := (List.range k).map fun i => (M.limbAt xs i, M.limbAt ys i)
theorem prs_succ (xs ys : List Nat) (k : Nat) : prs xs ys (k + 1) = prs xs ys k ++ [(M.limbAt xs k, M.limbAt ys k)] := by simp [prs, List.range_succ]
theorem prs_length (xs ys : List Nat) (k : Nat) : (prs xs ys k).length = k := by simp [prs]

/-- These blocks lie as they lay. -/
def Keep (S : Nat → Prop) (W W' : World) : Prop := ∀ k, S k → W'.heap[k]? = W.heap[k]?

/-- A pair of limbs. -/
abbrev LL := { x : Nat × Nat // x.1 < M.R ∧ x.2 < M.R }

set_option maxRecDepth 100000 in
set_option maxHeartbeats 2000000 in
theorem pairs1_in (n : Nat) (hn : 1 ≤ n) (l Ba Bb : Nat) (S : Nat → Prop) (A : Option Addr) (na ca : Nat) (xs : List Nat) (B : Option Addr) (nb cb : Nat) (ys : List Nat) (hna : na ≤ 1048576) (hnb : nb ≤ 1048576)
    (hA : ∀ p, A = some p → 0 < na → S p.block) (hB : ∀ p, B = some p → 0 < nb → S p.block) (hBa : S Ba) (hBb : S Bb) (J Jx : List (Nat × Nat) → World → Prop)
    (hY : ∀ pre (x : Nat × Nat) W, x.1 < M.R → x.2 < M.R → J pre W → pre.length < max na nb → YieldAt Fence.wide (n - 1) Tryz.prog l #[.int .u32 (x.1 : Int), .int .u32 (x.2 : Int)] W fun e W' =>
      (e = .returned (.bool true) ∧ J (pre ++ [x]) W' ∧ Keep S W W') ∨ (e = .returned (.bool false) ∧ Jx (pre ++ [x]) W'))
    (hJd : ∀ pre W, J pre W → J pre W.drew)
    (W : World) (ha : W.cell? ⟨Ba, 0, none⟩ = some (.slice A na ca)) (hb : W.cell? ⟨Bb, 0, none⟩ = some (.slice B nb cb)) (hx : Rd W A na ca xs) (hy : Rd W B nb cb ys) (h0 : J [] W) :
    CallsIn Fence.wide n Tryz.prog 154 #[.func (.yield l) #[] #[], .pointer (some ⟨Ba, 0, none⟩), .pointer (some ⟨Bb, 0, none⟩)] W fun e W' => (∃ v, e = .returned v) ∧
      ((∃ zs, zs = prs xs ys (max na nb) ∧ J zs W') ∨ (∃ pre, (∃ k, k ≤ max na nb ∧ pre = prs xs ys k) ∧ Jx pre W')) := by
  refine callsIn_of_wp Tryz.func154 rfl trivial ?_ rfl
  simp only [Tryz.ntmps154, List.size_toArray, List.length_cons, List.length_nil, Nat.reduceAdd, Nat.reduceSub, Array.replicate_succ, Array.replicate_zero, List.push_toArray, List.append_toArray, List.nil_append, List.cons_append]
  have HX := Lib.hid hx
  have HY := Lib.hid hy
  have HYI := Lib.hid hY
  have HJ0 := Lib.hid h0
  have HJD := Lib.hid hJd
  have hmo : Tryz.prog.follows .mixedOrders = true := by kernel_rfl
  clear hx hy hY h0 hJd
  obtain ⟨m, hm⟩ : ∃ m, max na nb = m := ⟨_, rfl⟩
  have hm2 : m ≤ 1048576 := by omega
  have hlen : xs.length ≤ m ∧ ys.length ≤ m := by rw [HX.out.len, HY.out.len]; omega
  have HLEN := Lib.hid hlen
  rw [hm] at HYI ⊢
  clear hlen
  have hcase : ((na : Int) < nb ∧ m = nb) ∨ (na = nb ∧ m = nb) ∨ ((nb : Int) < na ∧ m = na) := by omega
  have HM := Lib.hid hm
  clear hm
  rcases hcase with ⟨hc, he⟩ | ⟨hc, he⟩ | ⟨hc, he⟩
  all_goals subst he
  case' inr.inl => obtain rfl : m = na := hc.symm
  all_goals
    gi_wp2
    gi_loopw [10] (fun i wr => ∃ k : Nat, k ≤ m ∧ i = .int .i64 k ∧ J (prs xs ys k) wr ∧ Keep S W wr) (fun i _ => m - (intOf i).toNat)
    case atStart => exact ⟨0, Nat.zero_le _, rfl, HJ0.out, fun _ _ => rfl⟩
    case round =>
      obtain ⟨k, hk, rfl, hJs, hnx⟩ := hrel
      have HJS := Lib.hid hJs
      have HNX := Lib.hid hnx
      have ha' := (World.cell?_of_block (a := ⟨Ba, 0, none⟩) (hnx Ba hBa)).trans ha
      have hb' := (World.cell?_of_block (a := ⟨Bb, 0, none⟩) (hnx Bb hBb)).trans hb
      clear hJs hnx
      by_cases hkm : k < m
      · have hxr := (HX.out.keep (w' := wr) fun p hp hn' => HNX.out _ (hA p hp hn'))
        have hyr := (HY.out.keep (w' := wr) fun p hp hn' => HNX.out _ (hB p hp hn'))
        have hlx := M.limbAt_lt hxr.Lim k
        have hly := M.limbAt_lt hyr.Lim k
        obtain ⟨fn, tmps, assign, body, hyy, hR⟩ := HYI.out _ (M.limbAt xs k, M.limbAt ys k) wr.drew hlx hly (HJD.out _ _ HJS.out) (by rw [prs_length]; exact hkm)
        dsimp only at hyy
        have HR : Hid (RoundIn Fence.wide (n - 1) Tryz.prog l fn tmps assign body wr.drew fun e W' => ∃ b, e = .returned (.bool b) ∧ ((b = true ∧ J (prs xs ys (k + 1)) W' ∧ Keep S wr.drew W') ∨ (b = false ∧ Jx (prs xs ys (k + 1)) W'))) := by
          refine hR.mono ?_
          rintro e W3 (⟨rfl, hJ3, hk3⟩ | ⟨rfl, hJx3⟩)
          · exact ⟨true, rfl, .inl ⟨rfl, by rw [prs_succ]; exact hJ3, hk3⟩⟩
          · exact ⟨false, rfl, .inr ⟨rfl, by rw [prs_succ]; exact hJx3⟩⟩
        have L1 := Lib.hid (callsIn_wide (n := n - 1) |>.2 (limb_any A _ _ xs (k : Int) _ hxr.drew (by omega) (by omega)))
        have L2 := Lib.hid (callsIn_wide (n := n - 1) |>.2 (limb_any B _ _ ys (k : Int) _ hyr.drew (by omega) (by omega)))
        rw [Int.toNat_natCast] at L1 L2
        clear hR hxr hyr
        gi_wp2
        gi_region_with_o (first
          | (refine ⟨trivial, ?_⟩; gi_at_call 152; ((with_reducible refine L1.out.mono ?_); rintro e w' ⟨rfl, rfl⟩))
          | (refine ⟨trivial, ?_⟩; gi_at_call 152; ((with_reducible refine L2.out.mono ?_); rintro e w' ⟨rfl, rfl⟩))
          | (refine HR.out.mono ?_; rintro e W3 ⟨b, rfl, hb3⟩))
        all_goals
          rcases hb3 with ⟨rfl, hJ3, hk3⟩ | ⟨rfl, hJx3⟩
          · have HJ3 := Lib.hid hJ3
            have HK3 := Lib.hid hk3
            clear hJ3 hk3
            gi_wp2
            go_roundw
            case rel => exact ⟨k + 1, by omega, by go_num, HJ3.out, fun j hj => (HK3.out j hj).trans (HNX.out j hj)⟩
            case measure => simp [intOf]; omega
          · have HJX3 := Lib.hid hJx3
            clear hJx3
            gi_wp2
            refine bodyPost_ret (results_none rfl _ _ _) rfl ?_
            exact ⟨⟨_, rfl⟩, .inr ⟨_, ⟨k + 1, by omega, rfl⟩, HJX3.out⟩⟩
      · obtain rfl : k = m := by omega
        gi_wp2
        go_end0
        exact ⟨⟨_, rfl⟩, .inl ⟨_, rfl, HJS.out⟩⟩

set_option maxHeartbeats 1000000 in
theorem pairs_in (n : Nat) (A : Option Addr) (na ca : Nat) (B : Option Addr) (nb cb : Nat) (w : World) :
    CallsIn Fence.wide n Tryz.prog 136 #[.slice A na ca, .slice B nb cb] w fun e w' =>
      e = .returned (.func (.func 154) #[] #[.pointer (some ⟨w.heap.size, 0, none⟩), .pointer (some ⟨w.heap.size + 1, 0, none⟩)]) ∧ w' = (w.alloc (.cells #[.slice A na ca] 22)).alloc (.cells #[.slice B nb cb] 22) := by
  refine callsIn_of_wp Tryz.func136 rfl trivial ?_ rfl
  simp only [Tryz.ntmps136, List.size_toArray, List.length_cons, List.length_nil, Nat.reduceAdd, Nat.reduceSub, Array.replicate_succ, Array.replicate_zero, List.push_toArray, List.append_toArray, List.nil_append, List.cons_append]
  gi_wp2
  go_ret
  exact ⟨rfl, rfl⟩

/-- What comes, as pairs of numbers. -/
def raw (l : List LL) : List (Nat × Nat) := l.map Subtype.val

theorem pairs_stops (n : Nat) (hn : 1 ≤ n) (Ba Bb : Nat) (S : Nat → Prop) (A : Option Addr) (na ca : Nat) (xs : List Nat) (B : Option Addr) (nb cb : Nat) (ys : List Nat) (hna : na ≤ 1048576) (hnb : nb ≤ 1048576) (w : World)
    (hA : ∀ p, A = some p → 0 < na → S p.block) (hB : ∀ p, B = some p → 0 < nb → S p.block) (hBa : S Ba) (hBb : S Bb) (hS : ∀ k, S k → k < w.heap.size)
    (ha : w.cell? ⟨Ba, 0, none⟩ = some (.slice A na ca)) (hb : w.cell? ⟨Bb, 0, none⟩ = some (.slice B nb cb)) (hx : Rd w A na ca xs) (hy : Rd w B nb cb ys) :
    SeqStopsK Fence.wide n Tryz.prog 154 #[.pointer (some ⟨Ba, 0, none⟩), .pointer (some ⟨Bb, 0, none⟩)] (fun x : LL => #[.int .u32 (x.1.1 : Int), .int .u32 (x.1.2 : Int)]) (Keep S)
      (fun zs => raw zs = prs xs ys (max na nb)) (fun pre => ∃ k, k ≤ max na nb ∧ raw pre = prs xs ys k) (max na nb) w := fun l J Jx W hW hJ hJx hY h0 => by
  refine (pairs1_in n hn l Ba Bb S A na ca xs B nb cb ys hna hnb hA hB hBa hBb (fun zs W => ∃ ls : List LL, raw ls = zs ∧ J ls W) (fun zs W => ∃ ls : List LL, raw ls = zs ∧ Jx ls W) ?_ ?_ W ?_ ?_ (hx.below hW) (hy.below hW) ⟨[], rfl, h0⟩).mono ?_
  · rintro pre x W1 h1 h2 ⟨ls, hls, hJs⟩ hlen
    obtain ⟨fn, tmps, assign, body, hyy, hR⟩ := hY ls ⟨x, h1, h2⟩ W1 hJs (by rw [← hls] at hlen; simpa [raw] using hlen)
    refine ⟨fn, tmps, assign, body, hyy, hR.mono ?_⟩
    rintro e W2 (⟨rfl, hJ2, hk2⟩ | ⟨rfl, hJ2⟩)
    · exact .inl ⟨rfl, ⟨_, by simp [raw, ← hls], hJ2⟩, hk2⟩
    · exact .inr ⟨rfl, ⟨_, by simp [raw, ← hls], hJ2⟩⟩
  · rintro pre W1 ⟨ls, hls, hJs⟩
    exact ⟨ls, hls, hJ ls W1 W1.drew none hJs ⟨rfl, rfl, rfl, Nat.le_refl _, fun _ _ _ => rfl⟩ (fun r e => by cases e)⟩
  · exact (hW.cell (p := ⟨Ba, 0, none⟩) (hS Ba hBa)).trans ha
  · exact (hW.cell (p := ⟨Bb, 0, none⟩) (hS Bb hBb)).trans hb
  · rintro e W2 ⟨he, ⟨zs, rfl, ls, hls, hJ2⟩ | ⟨pre, ⟨k, hk, rfl⟩, ls, hls, hJ2⟩⟩
    · exact ⟨he, .inl ⟨ls, hls, hJ2⟩⟩
    · exact ⟨he, .inr ⟨ls, ⟨k, hk, hls⟩, hJ2⟩⟩

end Go.Proofs.YtbhgbilhoonopaaGreat

/- cmp.Compare of limbs, nat.Cmp: for every two rows of limbs (of 2^20 at most). -/
namespace Go.Proofs.YtbhgbilhoonopaaGreat
open Go.RowKit Go.Shelf
set_option linter.unusedVariables false
attribute [local go_sem] Oper.semAt_some

/-- -1, 0, 1: less, as much, more. -/
def cmpV (x y : Nat) : Int := if x < y then -1 else if x = y then 0 else 1
theorem cmpV_lt {x y : Nat} (h : x < y) : cmpV x y = -1 := if_pos h
theorem cmpV_eq (x : Nat) : cmpV x x = 0 := by unfold cmpV; rw [if_neg (by omega), if_pos rfl]
theorem cmpV_gt {x y : Nat} (h : y < x) : cmpV x y = 1 := by unfold cmpV; rw [if_neg (by omega), if_neg (by omega)]

/-- The last difference tells. -/
def cmpF (l : List (Nat × Nat)) : Int := l.foldl (fun o p => if p.1 = p.2 then o else cmpV p.1 p.2) 0
theorem cmpF_snoc (l : List (Nat × Nat)) (p : Nat × Nat) : cmpF (l ++ [p]) = if p.1 = p.2 then cmpF l else cmpV p.1 p.2 := by unfold cmpF; rw [List.foldl_append]; rfl

theorem cmpF_prs {xs ys : List Nat} (hx : M.Lim xs) (hy : M.Lim ys) (k : Nat) : cmpF (prs xs ys k) = cmpV (M.val (xs.take k)) (M.val (ys.take k)) := by
  induction k with
  | zero => simp only [List.take_zero, M.val_nil]; rw [cmpV_eq]; rfl
  | succ k ih =>
    rw [prs_succ, cmpF_snoc, M.val_take_succ, M.val_take_succ, ih]
    have h1 := M.val_lt_pow (hx.take k) (k := k) (by rw [List.length_take]; omega)
    have h2 := M.val_lt_pow (hy.take k) (k := k) (by rw [List.length_take]; omega)
    generalize M.val (xs.take k) = a at *
    generalize M.val (ys.take k) = b at *
    generalize M.limbAt xs k = x at *
    generalize M.limbAt ys k = y at *
    generalize M.R ^ k = P at *
    dsimp only
    by_cases he : x = y
    · rw [if_pos he, he]
      rcases Nat.lt_trichotomy a b with h | h | h
      · rw [cmpV_lt h, cmpV_lt (by omega)]
      · subst h
        rw [cmpV_eq, cmpV_eq]
      · rw [cmpV_gt h, cmpV_gt (by omega)]
    · rw [if_neg he]
      rcases Nat.lt_or_ge x y with h3 | h3
      · have : P * (x + 1) ≤ P * y := Nat.mul_le_mul_left _ h3
        rw [Nat.mul_add] at this
        rw [cmpV_lt h3, cmpV_lt (by omega)]
      · have : P * (y + 1) ≤ P * x := Nat.mul_le_mul_left _ (show y + 1 ≤ x by omega)
        rw [Nat.mul_add] at this
        rw [cmpV_gt (show y < x by omega), cmpV_gt (by omega)]

set_option maxHeartbeats 400000 in
theorem compare_any (x y : Nat) (w : World) (hx : x < 4294967296) (hy : y < 4294967296) (hne : x ≠ y) :
    Calls Tryz.prog 137 #[.int .u32 (x : Int), .int .u32 (y : Int)] w fun e w' => e = .returned (.int .i64 (cmpV x y)) ∧ w = w' := by
  rcases Nat.lt_or_ge x y with h | h
  · rw [cmpV_lt h]
    go_enter Tryz.func137, Tryz.ntmps137
    go_wp2
    go_ret
    exact ⟨rfl, rfl⟩
  · rw [cmpV_gt (by omega)]
    have h' : y < x := by omega
    go_enter Tryz.func137, Tryz.ntmps137
    go_wp2
    go_ret
    exact ⟨rfl, rfl⟩

set_option maxRecDepth 100000 in
set_option maxHeartbeats 2000000 in
theorem cmp_in (A : Option Addr) (na ca : Nat) (xs : List Nat) (B : Option Addr) (nb cb : Nat) (ys : List Nat) (w : World) (h : Rd w A na ca xs) (k : Rd w B nb cb ys) (hna : na ≤ 1048576) (hnb : nb ≤ 1048576) :
    CallsIn Fence.wide 5 Tryz.prog 104 #[.slice A na ca, .slice B nb cb] w fun e w' => e = .returned (.int .i64 (cmpV (M.val xs) (M.val ys))) ∧ Below w.heap.size w w' := by
  refine callsIn_of_wp_marks Tryz.func104 rfl trivial ?_ rfl
  simp only [Tryz.ntmps104, List.size_toArray, List.length_cons, List.length_nil, Nat.reduceAdd, Nat.reduceSub, Array.replicate_succ, Array.replicate_zero, List.push_toArray, List.append_toArray, List.nil_append, List.cons_append]
  gi_wp2_with (refine ⟨trivial, ?_⟩; gi_at_call 136; refine (pairs_in _ _ _ _ _ _ _ _).mono ?_; rintro e w' ⟨rfl, rfl⟩)
  have bS := Boxed.new w 3 (.int .i64 0)
  have bA := Boxed.new (w.alloc (.cells #[.int .i64 0] 3)) 22 (.slice A na ca)
  have bB := Boxed.new ((w.alloc (.cells #[.int .i64 0] 3)).alloc (.cells #[.slice A na ca] 22)) 22 (.slice B nb cb)
  simp only [World.size_alloc] at bA bB
  have hB0 : Below w.heap.size w (((w.alloc (.cells #[.int .i64 0] 3)).alloc (.cells #[.slice A na ca] 22)).alloc (.cells #[.slice B nb cb] 22)) := (((Below.refl _ w).alloc (Nat.le_refl _) _).alloc (by simp) _).alloc (by simp; omega) _
  refine wpIn_rangeFunc_ownG rfl (by omega) (gf := 154) (lb := #[.pointer (some ⟨w.heap.size + 1, 0, none⟩), .pointer (some ⟨w.heap.size + 1 + 1, 0, none⟩)]) rfl trivial (enters_of Tryz.func154 (by kernel_rfl) rfl)
    (pairs_stops 4 (by omega) (w.heap.size + 1) (w.heap.size + 1 + 1) (fun j => j ≠ w.heap.size ∧ j < w.heap.size + 3) A na ca xs B nb cb ys hna hnb _ (fun p hp hn => by have := h.blk hn hp; omega) (fun p hp hn => by have := k.blk hn hp; omega) (by omega) (by omega) (by simp) (bA.alloc _).cell bB.cell (h.below hB0) (k.below hB0))
    (fun h1 h2 j hj => (h2 j hj).trans (h1 j hj)) (fun W l o o' hl _ _ _ j hj => World.putObj_heap_other (by simp at hl; omega)) (Below.refl _ _) (fun _ => rfl)
    (fun pre W => (W.cell? ⟨w.heap.size, 0, none⟩ = some (.int .i64 (cmpF (raw pre))) ∧ W.frozen? ⟨w.heap.size, 0, none⟩ = false) ∧ Below w.heap.size w W)
    (fun _ _ _ => False)
    (OwnFrom.and (Go.Own.from (fun s A B row hs hg hr => ⟨cell_kept hs.1 hg hr, (frozen_kept hs.1 hg hr).trans hs.2⟩) _) (ownFrom_below (Nat.le_refl _) (by simp; omega)))
    (fun _ _ _ _ _ hs _ _ => hs)
    ⟨⟨((bS.alloc _).alloc _).cell, ((bS.alloc _).alloc _).frozen⟩, hB0⟩
    (fun x => { tmps := #[.slice A na ca, .slice B nb cb, undef, undef, .int .i64 0, .pointer (some ⟨w.heap.size, 0, none⟩), .int .u32 (x.1.1 : Int), .int .u32 (x.1.2 : Int), .slice A na ca, .slice B nb cb, .func (.func 154) #[] #[.pointer (some ⟨w.heap.size + 1, 0, none⟩), .pointer (some ⟨w.heap.size + 1 + 1, 0, none⟩)], .int .u32 (x.1.1 : Int), .int .u32 (x.1.2 : Int), undef, undef, undef, undef, undef, undef, undef], defers := [] }) ?assign ?body ?done ?stop
  case assign =>
    intro l x W K hK
    gi_wp2
    exact hK
  case body =>
    rintro l pre ⟨⟨x1, x2⟩, hx1, hx2⟩ W ⟨⟨hc, hf⟩, hB⟩ _
    dsimp only at hx1 hx2 ⊢
    rw [M.R_eq] at hx1 hx2
    have HC := Lib.hid hc
    have HF := Lib.hid hf
    have HB := Lib.hid hB
    clear hB
    by_cases he : x1 = x2
    · have hne : ((x1 : Int) != (x2 : Int)) = false := by simp [he]
      gi_wp2
      refine ⟨KeepsFrom.refl _ _, fun _ _ => rfl, ⟨?_, HF.out⟩, HB.out⟩
      rw [HC.out]
      simp only [raw, List.map_append, List.map_cons, List.map_nil]
      rw [cmpF_snoc, if_pos he]
    · have hne : ((x1 : Int) != (x2 : Int)) = true := by simp; omega
      gi_wp2_with (refine ⟨trivial, ?_⟩; gi_at_call 137; refine (CallsIn.inRound l (callsIn_wide.2 (compare_any x1 x2 _ hx1 hx2 he))).mono ?_; rintro e w' ⟨rfl, rfl⟩)
      refine ⟨(KeepsOthers.setCell _ _ _).from _, fun j hj => heap_setCell_other W ⟨w.heap.size, 0, none⟩ j _ hj.1, ⟨?_, by rw [World.frozen?_setCell]; exact HF.out⟩, HB.out.setCell (p := ⟨w.heap.size, 0, none⟩) (Nat.le_refl _) _⟩
      rw [World.cell?_setCell_same' _ _ _ (by rw [HC.out]; rfl)]
      simp only [raw, List.map_append, List.map_cons, List.map_nil]
      rw [cmpF_snoc, if_neg he]
  case done =>
    rintro D zs W hD hz ⟨⟨hc, _⟩, hB⟩ hK
    rw [hz, cmpF_prs h.Lim k.Lim, List.take_of_length_le (by rw [h.len]; omega), List.take_of_length_le (by rw [k.len]; omega)] at hc
    gi_wp2
    refine ⟨by simp, .inl ⟨_, _, rfl, run_takeDeferred hK, ?_⟩⟩
    exact ⟨_, results_tmp rfl _ _ _, rfl, hB.trans (belowK_b (w := w) (Nat.le_refl _) W D _ _ (by simp at hD; omega) hK rfl rfl)⟩
  case stop =>
    rintro D c pre W _ _ h _
    exact h.elim

theorem cmp_any (A : Option Addr) (na ca : Nat) (xs : List Nat) (B : Option Addr) (nb cb : Nat) (ys : List Nat) (w : World) (h : Rd w A na ca xs) (k : Rd w B nb cb ys) (hna : na ≤ 1048576) (hnb : nb ≤ 1048576) :
    Calls Tryz.prog 104 #[.slice A na ca, .slice B nb cb] w fun e w' => e = .returned (.int .i64 (cmpV (M.val xs) (M.val ys))) ∧ Below w.heap.size w w' :=
  callsIn_wide.1 (cmp_in A na ca xs B nb cb ys w h k hna hnb)

end Go.Proofs.YtbhgbilhoonopaaGreat

/- math/bits.Sub32: the difference of two limbs and a borrow, and what is borrowed. -/
namespace Go.Proofs.YtbhgbilhoonopaaGreat
open Go.RowKit
set_option linter.unusedVariables false

theorem sub32_bits (x y z b bo : Nat) (hx : x < 4294967296) (hy : y < 4294967296) (hz : z < 4294967296) (hb : b ≤ 1) (hbo : bo ≤ 1) (h : x + 4294967296 * bo = z + y + b) :
    (((4294967295 ^^^ x) &&& y) ||| ((4294967295 ^^^ (x ^^^ y)) &&& z)) / 2147483648 = bo := by
  have e : (2147483648 : Nat) = 2 ^ 31 := rfl
  rw [e, ← Nat.shiftRight_eq_div_pow, Nat.shiftRight_or_distrib, Nat.shiftRight_and_distrib, Nat.shiftRight_and_distrib, Nat.shiftRight_xor_distrib, Nat.shiftRight_xor_distrib, Nat.shiftRight_xor_distrib,
    Nat.shiftRight_eq_div_pow, Nat.shiftRight_eq_div_pow, Nat.shiftRight_eq_div_pow, Nat.shiftRight_eq_div_pow, ← e, show 4294967295 / 2147483648 = 1 from rfl]
  have h1 : x / 2147483648 ≤ 1 := by omega
  have h2 : y / 2147483648 ≤ 1 := by omega
  have h3 : z / 2147483648 ≤ 1 := by omega
  have ex := Nat.div_add_mod x 2147483648
  have ey := Nat.div_add_mod y 2147483648
  have ez := Nat.div_add_mod z 2147483648
  have lx := Nat.mod_lt x (show 0 < 2147483648 by omega)
  have ly := Nat.mod_lt y (show 0 < 2147483648 by omega)
  have lz := Nat.mod_lt z (show 0 < 2147483648 by omega)
  generalize x / 2147483648 = xt at *
  generalize y / 2147483648 = yt at *
  generalize z / 2147483648 = zt at *
  rcases (show xt = 0 ∨ xt = 1 by omega) with rfl | rfl <;> rcases (show yt = 0 ∨ yt = 1 by omega) with rfl | rfl <;> rcases (show zt = 0 ∨ zt = 1 by omega) with rfl | rfl
  all_goals first
    | (show 0 = bo; omega)
    | (show 1 = bo; omega)

theorem or_lt32 {a b : Nat} (ha : a < 4294967296) (hb : b < 4294967296) : a ||| b < 4294967296 := Nat.or_lt_two_pow (n := 32) ha hb
theorem xor_lt32 {a b : Nat} (ha : a < 4294967296) (hb : b < 4294967296) : a ^^^ b < 4294967296 := Nat.xor_lt_two_pow (n := 32) ha hb
theorem and_lt32 {a b : Nat} (hb : b < 4294967296) : a &&& b < 4294967296 := Nat.lt_of_le_of_lt Nat.and_le_right hb

theorem sub32_int (x y z b bo : Nat) (hx : x < 4294967296) (hy : y < 4294967296) (hz : z < 4294967296) (hb : b ≤ 1) (hbo : bo ≤ 1) (h : x + 4294967296 * bo = z + y + b) :
    bits BinOp.or IntKind.u32 (bits BinOp.and IntKind.u32 (bits BinOp.xor IntKind.u32 IntKind.u32.max (x : Int)) (y : Int))
      (bits BinOp.and IntKind.u32 (bits BinOp.xor IntKind.u32 IntKind.u32.max (bits BinOp.xor IntKind.u32 (x : Int) (y : Int))) (z : Int)) / 2147483648 = (bo : Int) := by
  have em : IntKind.u32.max = ((4294967295 : Nat) : Int) := rfl
  have hxy := xor_lt32 hx hy
  have h1 := xor_lt32 (show (4294967295 : Nat) < 4294967296 by omega) hx
  have h2 := xor_lt32 (show (4294967295 : Nat) < 4294967296 by omega) hxy
  rw [em, u32_xor_nat _ _ hx hy, u32_xor_nat _ _ (by omega) hx, u32_xor_nat _ _ (by omega) hxy, u32_and_nat _ _ h1 hy, u32_and_nat _ _ h2 hz, u32_or_nat _ _ (and_lt32 hy) (and_lt32 hz)]
  have := sub32_bits x y z b bo hx hy hz hb hbo h
  rw [← this]
  simp

def Subs (w : World) (x y b : Nat) (e : Ending) (w' : World) : Prop :=
  ∃ z bo : Nat, e = .returned (.tuple #[.int .u32 (z : Int), .int .u32 (bo : Int)]) ∧ z < 4294967296 ∧ bo ≤ 1 ∧ x + 4294967296 * bo = z + y + b ∧ w = w'

set_option maxHeartbeats 400000 in
theorem sub32_any (x y b : Nat) (w : World) (hx : x < 4294967296) (hy : y < 4294967296) (hb : b ≤ 1) :
    Calls Tryz.prog 158 #[.int .u32 (x : Int), .int .u32 (y : Int), .int .u32 (b : Int)] w (Subs w x y b) := by
  go_enter Tryz.func158, Tryz.ntmps158
  obtain ⟨bo, z, hbo, hz, hsum⟩ : ∃ bo z : Nat, bo ≤ 1 ∧ z < 4294967296 ∧ x + 4294967296 * bo = z + y + b := by
    by_cases hlt : x < y + b
    · exact ⟨1, x + 4294967296 - y - b, by omega, by omega, by omega⟩
    · exact ⟨0, x - y - b, by omega, by omega, by omega⟩
  have hz2 : ((x : Int) - (y : Int) - (b : Int)) % 4294967296 = (z : Int) := by omega
  have HB := Lib.hid (sub32_int x y z b bo hx hy hz hb hbo hsum)
  go_wp2
  go_ret2
  refine ⟨z, bo, ret_eq ?_, hz, hbo, hsum, rfl⟩
  rw [← HB.out]
  rfl

end Go.Proofs.YtbhgbilhoonopaaGreat

/- nat.Sub: for every two rows of limbs (of 2^20 at most). -/
namespace Go.Proofs.YtbhgbilhoonopaaGreat
open Go.RowKit Go.Shelf
set_option linter.unusedVariables false
attribute [local go_sem] Oper.semAt_some

/-- What has been taken away so far: the rows' first limbs, side by side; zs: what is left; bo: what is borrowed. -/
structure SubR (l : List (Nat × Nat)) (zs : List Nat) (bo : Nat) : Prop where
  len : zs.length = l.length
  lim : M.Lim zs
  bo1 : bo ≤ 1
  sum : M.val (l.map Prod.fst) + M.R ^ l.length * bo = M.val zs + M.val (l.map Prod.snd)

theorem SubR.start : SubR [] [] 0 := ⟨rfl, M.Lim.nil, by omega, rfl⟩
theorem SubR.step {l : List (Nat × Nat)} {zs : List Nat} {bo x y z bo' : Nat} (h : SubR l zs bo) (hz : z < 4294967296) (hb : bo' ≤ 1) (hs : x + 4294967296 * bo' = z + y + bo) : SubR (l ++ [(x, y)]) (zs ++ [z]) bo' := by
  refine ⟨by simp [h.len], h.lim.append (M.Lim.cons (by rw [M.R_eq]; exact hz) M.Lim.nil), hb, ?_⟩
  rw [List.map_append, List.map_append, M.val_append, M.val_append, M.val_append, h.len, List.length_map, List.length_map, List.length_append]
  simp only [List.map_cons, List.map_nil, M.val, Nat.mul_zero, Nat.add_zero, List.length_cons, List.length_nil, Nat.zero_add, Nat.pow_succ]
  have e := h.sum
  have e1 : M.R ^ l.length * (x + M.R * bo') = M.R ^ l.length * (z + y + bo) := by rw [M.R_eq, hs]
  have e2 : M.R ^ l.length * (x + M.R * bo') = M.R ^ l.length * x + M.R ^ l.length * M.R * bo' := by rw [Nat.mul_add, Nat.mul_assoc]
  have e3 : M.R ^ l.length * (z + y + bo) = M.R ^ l.length * z + M.R ^ l.length * y + M.R ^ l.length * bo := by rw [Nat.mul_add, Nat.mul_add]
  omega

theorem prs_fst (xs ys : List Nat) (k : Nat) : M.val ((prs xs ys k).map Prod.fst) = M.val (xs.take k) := by
  induction k with
  | zero => rfl
  | succ k ih =>
    rw [prs_succ, List.map_append, M.val_append, ih, List.length_map, prs_length, M.val_take_succ]
    simp [M.val]
theorem prs_snd (xs ys : List Nat) (k : Nat) : M.val ((prs xs ys k).map Prod.snd) = M.val (ys.take k) := by
  induction k with
  | zero => rfl
  | succ k ih =>
    rw [prs_succ, List.map_append, M.val_append, ih, List.length_map, prs_length, M.val_take_succ]
    simp [M.val]

/-- append of one limb where there is room: the block stays. -/
theorem appIn_fits {F : Fence} {n : Nat} (w : World) {ops : Array Oper} {rest : List Oper} {o : Oper} {a : Act} {Q : Exit → Act → World → Prop} (hgd : o.guard = none) (s x : Operand)
    (ho : o.op = .call { callee := .builtin .append, args := #[s, x], argTypes := #[22, 22] })
    (base g k cap : Nat) (xs : List Nat) (hs : a.eval s = .slice (some ⟨g, 0, none⟩) k cap) (hown : Own w base (some ⟨g, 0, none⟩) k cap xs)
    (B : Addr) (y : Nat) (hx : a.eval x = .slice (some B) 1 1) (hr : Rd w (some B) 1 1 [y]) (hroom : k + 1 ≤ cap)
    (h : ∀ w', Own w' base (some ⟨g, 0, none⟩) (k + 1) cap (xs ++ [y]) → w.grownBy w' (some g) → wpListIn F n Tryz.prog ops Q rest (a.put o.dst (.slice (some ⟨g, 0, none⟩) (k + 1) cap)) w') :
    wpListIn F n Tryz.prog ops Q (o :: rest) a w := by
  obtain ⟨i0, hi, hz0, hz1, hz2⟩ := info_parts kU32.info
  refine wpListIn_append_fits w hgd s x 22 ho base 44 i0 1 Tryz.underlying22 hi hz1 g k cap (xs.map kU32.enc) hs hown.row B 1 1 [kU32.enc y] hx rfl ?_ ?_ hroom ?_
  · intro j u hj
    match j, hj with
    | 0, hj =>
      simp at hj
      subst hj
      obtain ⟨b, o', hA, hc⟩ := hr.cells (by omega)
      cases hA
      have := hc 0 y rfl
      rw [Addr.add_lit]
      exact this
  · intro u hu
    simp at hu
    subst hu
    rfl
  · intro w' h1 h2
    refine h w' ⟨?_, ?_⟩ h2
    · rw [List.map_append]
      exact h1
    · intro z hz
      rcases List.mem_append.1 hz with hz | hz
      · exact hown.lim z hz
      · exact hr.lim z hz

theorem makeIn_own {F : Fence} {n : Nat} (w : World) {ops : Array Oper} {rest : List Oper} {o : Oper} {a : Act} {Q : Exit → Act → World → Prop} (hg : o.guard = none) (l c : Operand)
    (hop : o.op = Op.makeSlice 22 l c) (kl kc : IntKind) (C : Int) (m : Nat) (hl : a.eval l = .int kl 0) (hc : a.eval c = .int kc C) (hC : C = (m : Int)) (hm : m ≤ 8388608)
    (hK : ∀ w', Own w' w.heap.size (some ⟨w.heap.size, 0, none⟩) 0 m [] → Below w.heap.size w w' → wpListIn F n Tryz.prog ops Q rest (a.put o.dst (.slice (some ⟨w.heap.size, 0, none⟩) 0 m)) w') :
    wpListIn F n Tryz.prog ops Q (o :: rest) a w := by
  obtain ⟨i0, hi, hz0, hz1, hz2⟩ := info_parts kU32.info
  refine wpListIn_make_own w hg l c 22 hop w.heap.size 44 i0 (kU32.enc kU32.zero) 1 Tryz.underlying22 hi hz0 hz1 kl kc C m hl hc hC ?_ (by unfold maxLen; omega) (Nat.le_refl _) ?_
  · rw [hz2]
    show 4 * m ≤ _
    omega
  · intro w' h1 h2
    exact hK w' ⟨h1, fun _ hx => by cases hx⟩ (below_of_grownBy h2)

/-- A block of cells lies as it lay behind a turn of a block that is none. -/
theorem cells_kept {W W' : World} {row : Option Nat} (hg : W.grownBy W' row) (hr : ∀ r, row = some r → ∃ o : Obj, W.heap[r]? = some o ∧ o.isCells = false) {b : Nat} {o : Obj} (h : W.heap[b]? = some o) (ho : o.isCells = true) : W'.heap[b]? = W.heap[b]? := by
  refine hg.block b (Array.getElem?_eq_some_iff.1 h).1 fun e => ?_
  obtain ⟨o', h1, h2⟩ := hr b e.symm
  rw [h] at h1
  cases h1
  rw [ho] at h2
  cases h2

/-- The state between two rounds. -/
def SubI (g Bo Bb m L : Nat) (w : World) (pre : List LL) (W : World) : Prop :=
  (∃ (zs : List Nat) (bo : Nat), Boxed W Bo 22 (.slice (some ⟨g, 0, none⟩) pre.length m) ∧ Boxed W Bb 44 (.int .u32 (bo : Int)) ∧ Own W g (some ⟨g, 0, none⟩) pre.length m zs ∧ SubR (raw pre) zs bo) ∧ Below g w W ∧ L ≤ W.heap.size

theorem SubI.own (g Bo Bb m L : Nat) (w : World) (D : Nat) (hD : g ≤ D) : OwnFrom D (SubI g Bo Bb m L w) := by
  rintro pre W W' row ⟨⟨zs, bo, h1, h2, h3, h4⟩, hb, hL⟩ hg hr
  have hr' : ∀ r, row = some r → ∃ o : Obj, W.heap[r]? = some o ∧ o.isCells = false := fun r e => (hr r e).2
  refine ⟨⟨zs, bo, (cells_kept hg hr' h1 rfl).trans h1, (cells_kept hg hr' h2 rfl).trans h2, ?_, h4⟩, ?_⟩
  · refine h3.grown hg fun p hp e => ?_
    rcases h3.cases with ⟨h0, _⟩ | ⟨g', cur, hA, _, hh, _⟩
    · cases h0
    · cases hA
      cases hp
      obtain ⟨o', h5, h6⟩ := hr' g e.symm
      rw [hh] at h5
      cases h5
      cases h6
  · have hsz : g ≤ W.heap.size := by
      rcases h3.cases with ⟨h0, _⟩ | ⟨g', cur, hA, _, hh, _⟩
      · cases h0
      · cases hA
        exact Nat.le_of_lt (Array.getElem?_eq_some_iff.1 hh).1
    exact ⟨hb.grown hg hsz (fun k hk => by have := (hr k hk).1; omega), Nat.le_trans hL hg.size⟩

def SubP (w : World) (x y : Nat) (e : Ending) (w' : World) : Prop :=
  (y ≤ x ∧ GivesB w (M.lims (x - y)) true e w') ∨ (x < y ∧ GivesB w [] false e w')

theorem sub_hr (W : World) (p : Addr) (v : Value) (z : Nat) (hz : z < 4294967296) : Rd ((W.setCell p v).alloc (.cells #[.int .u32 (z : Int)] 44)) (some ⟨W.heap.size, 0, none⟩) 1 1 [z] := by
  have := RdK.one (K := kU32) (W.setCell p v) z (show z < M.R by rw [M.R_eq]; exact hz)
  have e : (W.setCell p v).heap.size = W.heap.size := by simp [World.setCell]
  rw [e] at this
  exact this
theorem sub_ho {W : World} {g n c : Nat} {zs : List Nat} (h : Own W g (some ⟨g, 0, none⟩) n c zs) {p : Addr} (hp : g ≠ p.block) (v : Value) (o : Obj) : Own ((W.setCell p v).alloc o) g (some ⟨g, 0, none⟩) n c zs :=
  (h.grown (grownBy_setCell W p v) (fun q hq e => by cases hq; injection e with e; exact hp e)).alloc o

theorem sub_step {w W w3 : World} {g Bo Bb m L D z bo bo' x1 x2 : Nat} {zs : List Nat} {pre : List LL} {hx : (x1, x2).1 < M.R ∧ (x1, x2).2 < M.R} {o : Obj} (hgo : g < Bo) (hob : Bo < Bb) (hD : Bb < D) (h1 : Boxed W Bo 22 (.slice (some ⟨g, 0, none⟩) pre.length m))
    (h2 : Boxed W Bb 44 (.int .u32 (bo : Int))) (h4 : SubR (raw pre) zs bo) (hb : Below g w W) (hL : L ≤ W.heap.size) (ho3 : Own w3 g (some ⟨g, 0, none⟩) (pre.length + 1) m (zs ++ [z]))
    (hg3 : ((W.setCell ⟨Bb, 0, none⟩ (.int .u32 (bo' : Int))).alloc o).grownBy w3 (some g)) (hz : z < 4294967296) (hbo' : bo' ≤ 1) (hs : x1 + 4294967296 * bo' = z + x2 + bo) :
    KeepsFrom D W (w3.setCell ⟨Bo, 0, none⟩ (.slice (some ⟨g, 0, none⟩) (pre.length + 1) m)) ∧ Keep (fun j => j ≠ g ∧ j ≠ Bo ∧ j ≠ Bb ∧ j < L) W (w3.setCell ⟨Bo, 0, none⟩ (.slice (some ⟨g, 0, none⟩) (pre.length + 1) m)) ∧
      SubI g Bo Bb m L w (pre ++ [⟨(x1, x2), hx⟩]) (w3.setCell ⟨Bo, 0, none⟩ (.slice (some ⟨g, 0, none⟩) (pre.length + 1) m)) := by
  have hsz1 : (W.setCell ⟨Bb, 0, none⟩ (.int .u32 (bo' : Int))).heap.size = W.heap.size := by simp [World.setCell]
  have hsz2 : ((W.setCell ⟨Bb, 0, none⟩ (.int .u32 (bo' : Int))).alloc o).heap.size = W.heap.size + 1 := by rw [World.size_alloc, hsz1]
  have hsz3 := hg3.size
  have hl1 := h1.lt
  have hl2 := h2.lt
  have b1 : Boxed w3 Bo 22 (.slice (some ⟨g, 0, none⟩) pre.length m) := ((h1.kept (grownBy_setCell W ⟨Bb, 0, none⟩ (.int .u32 (bo' : Int))) (by intro e; injection e with e; dsimp only at e; omega)).alloc o).kept hg3 (by intro e; injection e with e; omega)
  have b2 : Boxed w3 Bb 44 (.int .u32 (bo' : Int)) := ((h2.set (.int .u32 (bo' : Int))).alloc o).kept hg3 (by intro e; injection e with e; omega)
  refine ⟨?_, ?_, ⟨zs ++ [z], bo', ?_, ?_, ?_, ?_⟩, ?_, ?_⟩
  · exact ((((KeepsOthers.setCell _ _ _).from D).trans ((KeepsOthers.alloc _ _).from D)).trans (KeepsFrom.of_grownBy hg3 (fun j e => by cases e; omega))).trans ((KeepsOthers.setCell _ _ _).from D)
  · intro j hj
    rw [heap_setCell_other w3 ⟨Bo, 0, none⟩ j _ hj.2.1, hg3.block j (by omega) (by intro e; injection e with e; exact hj.1 e), Below.heap_alloc _ _ j (by omega), heap_setCell_other W ⟨Bb, 0, none⟩ j _ hj.2.2.1]
  · rw [List.length_append]
    exact b1.set _
  · exact b2.kept (grownBy_setCell w3 ⟨Bo, 0, none⟩ _) (by intro e; injection e with e; dsimp only at e; omega)
  · rw [List.length_append]
    exact ho3.grown (grownBy_setCell w3 ⟨Bo, 0, none⟩ _) (fun p hp e => by cases hp; injection e with e; dsimp only at e; omega)
  · have := h4.step hz hbo' hs
    simpa [raw] using this
  · exact (((hb.setCell (p := ⟨Bb, 0, none⟩) (by dsimp only; omega) _).alloc (by rw [hsz1]; omega) o).grown hg3 (by omega) (fun k hk => by cases hk; exact Nat.le_refl _)).setCell (p := ⟨Bo, 0, none⟩) (by dsimp only; omega) _
  · have : (w3.setCell ⟨Bo, 0, none⟩ (.slice (some ⟨g, 0, none⟩) (pre.length + 1) m)).heap.size = w3.heap.size := by simp [World.setCell]
    rw [this]
    omega

/-- Where all limbs have come. -/
theorem sub_end {xs ys zs : List Nat} {m bo : Nat} (hx : M.Lim xs) (hy : M.Lim ys) (hxl : xs.length ≤ m) (hyl : ys.length ≤ m) (h : SubR (prs xs ys m) zs bo) : (bo = 0 ∧ M.val ys ≤ M.val xs ∧ M.val zs = M.val xs - M.val ys) ∨ (bo = 1 ∧ M.val xs < M.val ys) := by
  have hs := h.sum
  rw [prs_fst, prs_snd, prs_length, List.take_of_length_le hxl, List.take_of_length_le hyl] at hs
  have hl := M.val_lt h.lim
  rw [h.len, prs_length] at hl
  have hb := h.bo1
  rcases (show bo = 0 ∨ bo = 1 by omega) with rfl | rfl
  · left
    rw [Nat.mul_zero] at hs
    omega
  · right
    rw [Nat.mul_one] at hs
    omega

set_option maxRecDepth 100000 in
set_option maxHeartbeats 4000000 in
theorem sub_lt (A : Option Addr) (na nb : Nat) (ca : Nat) (xs : List Nat) (B : Option Addr) (cb : Nat) (ys : List Nat) (w : World) (H : Hid (Rd w A na ca xs)) (K : Hid (Rd w B nb cb ys)) (hna : na ≤ 1048576) (hnb : nb ≤ 1048576) (hc : (na : Int) < nb) :
    CallsIn Fence.wide 5 Tryz.prog 144 #[.slice A na ca, .slice B nb cb] w (SubP w (M.val xs) (M.val ys)) := by
  refine callsIn_of_wp_marks Tryz.func144 rfl trivial ?_ rfl
  simp only [Tryz.ntmps144, List.size_toArray, List.length_cons, List.length_nil, Nat.reduceAdd, Nat.reduceSub, Array.replicate_succ, Array.replicate_zero, List.push_toArray, List.append_toArray, List.nil_append, List.cons_append]
  gi_wp2_with (first
    | (gi_at_make; refine makeIn_own _ rfl _ _ rfl .i64 .i64 _ nb rfl rfl (by omega) (by omega) ?_; intro w1 ho1 hb1; have HO1 := Lib.hid ho1; have HB1 := Lib.hid hb1; clear ho1 hb1)
    | (refine ⟨trivial, ?_⟩; gi_at_call 136; refine (pairs_in _ _ _ _ _ _ _ _).mono ?_; rintro e w' ⟨rfl, rfl⟩))
  have hg1 : w.heap.size < w1.heap.size := (HO1.out.lt rfl).2
  have bO := Boxed.new w1 22 (.slice (some ⟨w.heap.size, 0, none⟩) 0 nb)
  have bB := Boxed.new (w1.alloc (.cells #[.slice (some ⟨w.heap.size, 0, none⟩) 0 nb] 22)) 44 (.int .u32 0)
  have bX := Boxed.new ((w1.alloc (.cells #[.slice (some ⟨w.heap.size, 0, none⟩) 0 nb] 22)).alloc (.cells #[.int .u32 0] 44)) 22 (.slice A na ca)
  have bY := Boxed.new (((w1.alloc (.cells #[.slice (some ⟨w.heap.size, 0, none⟩) 0 nb] 22)).alloc (.cells #[.int .u32 0] 44)).alloc (.cells #[.slice A na ca] 22)) 22 (.slice B nb cb)
  simp only [World.size_alloc] at bB bX bY
  have hB0 := (((HB1.out.alloc HB1.out.size (.cells #[.slice (some ⟨w.heap.size, 0, none⟩) 0 nb] 22)).alloc (by simp; omega) (.cells #[.int .u32 0] 44)).alloc (by simp; omega) (.cells #[.slice A na ca] 22)).alloc (by simp; omega) (.cells #[.slice B nb cb] 22)
  have hmax : max na nb = nb := by omega
  have hps := pairs_stops 4 (by omega) (w1.heap.size + 1 + 1) (w1.heap.size + 1 + 1 + 1) (fun j => j ≠ w.heap.size ∧ j ≠ w1.heap.size ∧ j ≠ w1.heap.size + 1 ∧ j < w1.heap.size + 4) A na ca xs B nb cb ys hna hnb _ (fun p hp hn => by have := H.out.blk hn hp; omega) (fun p hp hn => by have := K.out.blk hn hp; omega) (by omega) (by omega) (by intro j hj; simp; omega) (bX.alloc _).cell bY.cell (H.out.below hB0) (K.out.below hB0)
  rw [hmax] at hps
  refine wpIn_rangeFunc_ownG rfl (by omega) (gf := 154) (lb := #[.pointer (some ⟨w1.heap.size + 1 + 1, 0, none⟩), .pointer (some ⟨w1.heap.size + 1 + 1 + 1, 0, none⟩)]) rfl trivial (enters_of Tryz.func154 (by kernel_rfl) rfl) hps
    (fun h1 h2 j hj => (h2 j hj).trans (h1 j hj)) (fun W l o o' hl _ _ _ j hj => World.putObj_heap_other (by simp at hl; omega)) (Below.refl _ _) (fun _ => rfl)
    (SubI w.heap.size w1.heap.size (w1.heap.size + 1) nb (w1.heap.size + 4) w) (fun _ _ _ => False) (SubI.own _ _ _ _ _ _ _ (by simp; omega)) (fun _ _ _ _ _ hs _ _ => hs)
    ⟨⟨[], 0, ((bO.alloc _).alloc _).alloc _, (bB.alloc _).alloc _, (((HO1.out.alloc _).alloc _).alloc _).alloc _, SubR.start⟩, hB0, by simp⟩
    (fun x => { tmps := #[.slice A na ca, .slice B nb cb, undef, undef, .slice none 0 0, .bool false, .pointer (some ⟨w1.heap.size, 0, none⟩), .pointer (some ⟨w1.heap.size + 1, 0, none⟩), .int .u32 (x.1.1 : Int), .int .u32 (x.1.2 : Int), .slice A na ca, .int .i64 (na : Int), .slice B nb cb, .int .i64 (nb : Int), .int .i64 (nb : Int), .slice (some ⟨w.heap.size, 0, none⟩) 0 nb, .slice A na ca, .slice B nb cb, .func (.func 154) #[] #[.pointer (some ⟨w1.heap.size + 1 + 1, 0, none⟩), .pointer (some ⟨w1.heap.size + 1 + 1 + 1, 0, none⟩)], .int .u32 (x.1.1 : Int), .int .u32 (x.1.2 : Int), undef, undef, undef, undef, undef, undef, undef, undef, undef, undef, undef, undef, undef, undef, undef], defers := [] }) ?assign ?body ?done ?stop
  case assign =>
    intro l x W K hK
    gi_wp2
    exact hK
  case body =>
    rintro l pre ⟨⟨x1, x2⟩, hx1, hx2⟩ W ⟨⟨zs, bo, h1, h2, h3, h4⟩, hb, hL⟩ hlt
    dsimp only at hx1 hx2 ⊢
    rw [M.R_eq] at hx1 hx2
    have cB := h2.cell
    have fB := h2.frozen
    have cO := h1.cell
    have fO := h1.frozen
    have hbo1 := h4.bo1
    have H1 := Lib.hid h1
    have H2 := Lib.hid h2
    have H3 := Lib.hid h3
    have H4 := Lib.hid h4
    have HB := Lib.hid hb
    clear h1 h2 h3 h4 hb
    gi_wp2_with (first
      | (refine ⟨trivial, ?_⟩; gi_at_call 158; refine (CallsIn.inRound l (callsIn_wide.2 (sub32_any x1 x2 bo _ hx1 hx2 hbo1))).mono ?_; rintro e w' ⟨z, bo', rfl, hz, hbo', hsum, rfl⟩; have HSUM := Lib.hid hsum; clear hsum; have HR3 := Lib.hid (sub_hr W ⟨w1.heap.size + 1, 0, none⟩ (.int .u32 (bo' : Int)) z hz); have HO2 := Lib.hid (sub_ho H3.out (p := ⟨w1.heap.size + 1, 0, none⟩) (by dsimp only; omega) (.int .u32 (bo' : Int)) (.cells #[.int .u32 (z : Int)] 44)))
      | (gi_at_builtin; refine appIn_fits _ rfl _ _ rfl w.heap.size w.heap.size pre.length nb zs rfl HO2.out _ z rfl HR3.out (by omega) ?_; intro w3 ho3 hg3; have HO3 := Lib.hid ho3; have HG3 := Lib.hid hg3; clear ho3 hg3; have b3 := (((H1.out.kept (grownBy_setCell W ⟨w1.heap.size + 1, 0, none⟩ (.int .u32 (bo' : Int))) (by intro e; injection e with e; dsimp only at e; omega)).alloc (.cells #[.int .u32 (z : Int)] 44)).kept HG3.out (by intro e; injection e with e; omega)); have c3 := b3.cell; have f3 := b3.frozen; have B3 := Lib.hid b3; clear b3))
    exact sub_step (by omega) (by omega) (by simp) H1.out H2.out H4.out HB.out hL HO3.out HG3.out hz hbo' HSUM.out
  case done =>
    rintro D zs W hD hz ⟨⟨ds, bo, h1, h2, h3, h4⟩, hb, hL⟩ hK
    rw [hz] at h4
    have hend := sub_end H.out.Lim K.out.Lim (by rw [H.out.len]; omega) (by rw [K.out.len]; omega) h4
    have hlen : zs.length = nb := by have := congrArg List.length hz; simpa [raw, prs] using this
    have cB := h2.cell
    have cO := h1.cell
    rw [hlen] at cO h3
    have H3 := Lib.hid h3
    have HB := Lib.hid hb
    have HK := Lib.hid hK
    clear h1 h2 h3 hb hz hlen hL
    rcases hend with ⟨hbo, hle, hval⟩ | ⟨hbo, hlt⟩
    · subst hbo
      have HLE := Lib.hid hle
      have HVAL := Lib.hid hval
      have hds : M.Lim ds := h4.lim
      have hs := H3.out.short
      rw [M.tr_eq_lims hds, hval] at hs
      have hsl : (M.tr ds).length = (M.lims (M.val xs - M.val ys)).length := by rw [M.tr_eq_lims hds, hval]
      have HSL := Lib.hid hsl
      have HS := Lib.hid hs
      have HDS := Lib.hid hds
      clear hle hval hds h4 hs hsl
      gi_wp2_with (refine ⟨trivial, ?_⟩; gi_at_call 111; refine (callsIn_wide.2 (short_any _ _ _ ds _ H3.out.rd (by omega))).mono ?_; rw [HSL.out]; rintro e w' ⟨rfl, rfl⟩)
      refine ⟨by simp, .inl ⟨_, _, rfl, run_takeDeferred HK.out, ?_⟩⟩
      exact ⟨_, results_tmp2 rfl _ _ _, .inl ⟨HLE.out, _, _, rfl, ⟨ownsRow_putObj HS.out.row _ HK.out rfl, HS.out.lim⟩, HB.out.trans (belowK_b (w := w) (Nat.le_refl _) W D _ _ (by simp at hD; omega) HK.out rfl rfl)⟩⟩
    · subst hbo
      have HLT := Lib.hid hlt
      clear hlt h4
      gi_wp2
      refine ⟨by simp, .inl ⟨_, _, rfl, run_takeDeferred HK.out, ?_⟩⟩
      exact ⟨_, results_tmp2 rfl _ _ _, .inr ⟨HLT.out, _, _, rfl, OwK.nil_ _ _, HB.out.trans (belowK_b (w := w) (Nat.le_refl _) W D _ _ (by simp at hD; omega) HK.out rfl rfl)⟩⟩
  case stop =>
    rintro D c pre W _ _ h _
    exact h.elim

set_option maxRecDepth 100000 in
set_option maxHeartbeats 4000000 in
theorem sub_eq (A : Option Addr) (na : Nat) (ca : Nat) (xs : List Nat) (B : Option Addr) (cb : Nat) (ys : List Nat) (w : World) (H : Hid (Rd w A na ca xs)) (K : Hid (Rd w B na cb ys)) (hna : na ≤ 1048576) (hnb : na ≤ 1048576) :
    CallsIn Fence.wide 5 Tryz.prog 144 #[.slice A na ca, .slice B na cb] w (SubP w (M.val xs) (M.val ys)) := by
  refine callsIn_of_wp_marks Tryz.func144 rfl trivial ?_ rfl
  simp only [Tryz.ntmps144, List.size_toArray, List.length_cons, List.length_nil, Nat.reduceAdd, Nat.reduceSub, Array.replicate_succ, Array.replicate_zero, List.push_toArray, List.append_toArray, List.nil_append, List.cons_append]
  gi_wp2_with (first
    | (gi_at_make; refine makeIn_own _ rfl _ _ rfl .i64 .i64 _ na rfl rfl (by omega) (by omega) ?_; intro w1 ho1 hb1; have HO1 := Lib.hid ho1; have HB1 := Lib.hid hb1; clear ho1 hb1)
    | (refine ⟨trivial, ?_⟩; gi_at_call 136; refine (pairs_in _ _ _ _ _ _ _ _).mono ?_; rintro e w' ⟨rfl, rfl⟩))
  have hg1 : w.heap.size < w1.heap.size := (HO1.out.lt rfl).2
  have bO := Boxed.new w1 22 (.slice (some ⟨w.heap.size, 0, none⟩) 0 na)
  have bB := Boxed.new (w1.alloc (.cells #[.slice (some ⟨w.heap.size, 0, none⟩) 0 na] 22)) 44 (.int .u32 0)
  have bX := Boxed.new ((w1.alloc (.cells #[.slice (some ⟨w.heap.size, 0, none⟩) 0 na] 22)).alloc (.cells #[.int .u32 0] 44)) 22 (.slice A na ca)
  have bY := Boxed.new (((w1.alloc (.cells #[.slice (some ⟨w.heap.size, 0, none⟩) 0 na] 22)).alloc (.cells #[.int .u32 0] 44)).alloc (.cells #[.slice A na ca] 22)) 22 (.slice B na cb)
  simp only [World.size_alloc] at bB bX bY
  have hB0 := (((HB1.out.alloc HB1.out.size (.cells #[.slice (some ⟨w.heap.size, 0, none⟩) 0 na] 22)).alloc (by simp; omega) (.cells #[.int .u32 0] 44)).alloc (by simp; omega) (.cells #[.slice A na ca] 22)).alloc (by simp; omega) (.cells #[.slice B na cb] 22)
  have hmax : max na na = na := by omega
  have hps := pairs_stops 4 (by omega) (w1.heap.size + 1 + 1) (w1.heap.size + 1 + 1 + 1) (fun j => j ≠ w.heap.size ∧ j ≠ w1.heap.size ∧ j ≠ w1.heap.size + 1 ∧ j < w1.heap.size + 4) A na ca xs B na cb ys hna hnb _ (fun p hp hn => by have := H.out.blk hn hp; omega) (fun p hp hn => by have := K.out.blk hn hp; omega) (by omega) (by omega) (by intro j hj; simp; omega) (bX.alloc _).cell bY.cell (H.out.below hB0) (K.out.below hB0)
  rw [hmax] at hps
  refine wpIn_rangeFunc_ownG rfl (by omega) (gf := 154) (lb := #[.pointer (some ⟨w1.heap.size + 1 + 1, 0, none⟩), .pointer (some ⟨w1.heap.size + 1 + 1 + 1, 0, none⟩)]) rfl trivial (enters_of Tryz.func154 (by kernel_rfl) rfl) hps
    (fun h1 h2 j hj => (h2 j hj).trans (h1 j hj)) (fun W l o o' hl _ _ _ j hj => World.putObj_heap_other (by simp at hl; omega)) (Below.refl _ _) (fun _ => rfl)
    (SubI w.heap.size w1.heap.size (w1.heap.size + 1) na (w1.heap.size + 4) w) (fun _ _ _ => False) (SubI.own _ _ _ _ _ _ _ (by simp; omega)) (fun _ _ _ _ _ hs _ _ => hs)
    ⟨⟨[], 0, ((bO.alloc _).alloc _).alloc _, (bB.alloc _).alloc _, (((HO1.out.alloc _).alloc _).alloc _).alloc _, SubR.start⟩, hB0, by simp⟩
    (fun x => { tmps := #[.slice A na ca, .slice B na cb, undef, undef, .slice none 0 0, .bool false, .pointer (some ⟨w1.heap.size, 0, none⟩), .pointer (some ⟨w1.heap.size + 1, 0, none⟩), .int .u32 (x.1.1 : Int), .int .u32 (x.1.2 : Int), .slice A na ca, .int .i64 (na : Int), .slice B na cb, .int .i64 (na : Int), .int .i64 (na : Int), .slice (some ⟨w.heap.size, 0, none⟩) 0 na, .slice A na ca, .slice B na cb, .func (.func 154) #[] #[.pointer (some ⟨w1.heap.size + 1 + 1, 0, none⟩), .pointer (some ⟨w1.heap.size + 1 + 1 + 1, 0, none⟩)], .int .u32 (x.1.1 : Int), .int .u32 (x.1.2 : Int), undef, undef, undef, undef, undef, undef, undef, undef, undef, undef, undef, undef, undef, undef, undef], defers := [] }) ?assign ?body ?done ?stop
  case assign =>
    intro l x W K hK
    gi_wp2
    exact hK
  case body =>
    rintro l pre ⟨⟨x1, x2⟩, hx1, hx2⟩ W ⟨⟨zs, bo, h1, h2, h3, h4⟩, hb, hL⟩ hlt
    dsimp only at hx1 hx2 ⊢
    rw [M.R_eq] at hx1 hx2
    have cB := h2.cell
    have fB := h2.frozen
    have cO := h1.cell
    have fO := h1.frozen
    have hbo1 := h4.bo1
    have H1 := Lib.hid h1
    have H2 := Lib.hid h2
    have H3 := Lib.hid h3
    have H4 := Lib.hid h4
    have HB := Lib.hid hb
    clear h1 h2 h3 h4 hb
    gi_wp2_with (first
      | (refine ⟨trivial, ?_⟩; gi_at_call 158; refine (CallsIn.inRound l (callsIn_wide.2 (sub32_any x1 x2 bo _ hx1 hx2 hbo1))).mono ?_; rintro e w' ⟨z, bo', rfl, hz, hbo', hsum, rfl⟩; have HSUM := Lib.hid hsum; clear hsum; have HR3 := Lib.hid (sub_hr W ⟨w1.heap.size + 1, 0, none⟩ (.int .u32 (bo' : Int)) z hz); have HO2 := Lib.hid (sub_ho H3.out (p := ⟨w1.heap.size + 1, 0, none⟩) (by dsimp only; omega) (.int .u32 (bo' : Int)) (.cells #[.int .u32 (z : Int)] 44)))
      | (gi_at_builtin; refine appIn_fits _ rfl _ _ rfl w.heap.size w.heap.size pre.length na zs rfl HO2.out _ z rfl HR3.out (by omega) ?_; intro w3 ho3 hg3; have HO3 := Lib.hid ho3; have HG3 := Lib.hid hg3; clear ho3 hg3; have b3 := (((H1.out.kept (grownBy_setCell W ⟨w1.heap.size + 1, 0, none⟩ (.int .u32 (bo' : Int))) (by intro e; injection e with e; dsimp only at e; omega)).alloc (.cells #[.int .u32 (z : Int)] 44)).kept HG3.out (by intro e; injection e with e; omega)); have c3 := b3.cell; have f3 := b3.frozen; have B3 := Lib.hid b3; clear b3))
    exact sub_step (by omega) (by omega) (by simp) H1.out H2.out H4.out HB.out hL HO3.out HG3.out hz hbo' HSUM.out
  case done =>
    rintro D zs W hD hz ⟨⟨ds, bo, h1, h2, h3, h4⟩, hb, hL⟩ hK
    rw [hz] at h4
    have hend := sub_end H.out.Lim K.out.Lim (by rw [H.out.len]; omega) (by rw [K.out.len]; omega) h4
    have hlen : zs.length = na := by have := congrArg List.length hz; simpa [raw, prs] using this
    have cB := h2.cell
    have cO := h1.cell
    rw [hlen] at cO h3
    have H3 := Lib.hid h3
    have HB := Lib.hid hb
    have HK := Lib.hid hK
    clear h1 h2 h3 hb hz hlen hL
    rcases hend with ⟨hbo, hle, hval⟩ | ⟨hbo, hlt⟩
    · subst hbo
      have HLE := Lib.hid hle
      have HVAL := Lib.hid hval
      have hds : M.Lim ds := h4.lim
      have hs := H3.out.short
      rw [M.tr_eq_lims hds, hval] at hs
      have hsl : (M.tr ds).length = (M.lims (M.val xs - M.val ys)).length := by rw [M.tr_eq_lims hds, hval]
      have HSL := Lib.hid hsl
      have HS := Lib.hid hs
      have HDS := Lib.hid hds
      clear hle hval hds h4 hs hsl
      gi_wp2_with (refine ⟨trivial, ?_⟩; gi_at_call 111; refine (callsIn_wide.2 (short_any _ _ _ ds _ H3.out.rd (by omega))).mono ?_; rw [HSL.out]; rintro e w' ⟨rfl, rfl⟩)
      refine ⟨by simp, .inl ⟨_, _, rfl, run_takeDeferred HK.out, ?_⟩⟩
      exact ⟨_, results_tmp2 rfl _ _ _, .inl ⟨HLE.out, _, _, rfl, ⟨ownsRow_putObj HS.out.row _ HK.out rfl, HS.out.lim⟩, HB.out.trans (belowK_b (w := w) (Nat.le_refl _) W D _ _ (by simp at hD; omega) HK.out rfl rfl)⟩⟩
    · subst hbo
      have HLT := Lib.hid hlt
      clear hlt h4
      gi_wp2
      refine ⟨by simp, .inl ⟨_, _, rfl, run_takeDeferred HK.out, ?_⟩⟩
      exact ⟨_, results_tmp2 rfl _ _ _, .inr ⟨HLT.out, _, _, rfl, OwK.nil_ _ _, HB.out.trans (belowK_b (w := w) (Nat.le_refl _) W D _ _ (by simp at hD; omega) HK.out rfl rfl)⟩⟩
  case stop =>
    rintro D c pre W _ _ h _
    exact h.elim

set_option maxRecDepth 100000 in
set_option maxHeartbeats 4000000 in
theorem sub_gt (A : Option Addr) (na nb : Nat) (ca : Nat) (xs : List Nat) (B : Option Addr) (cb : Nat) (ys : List Nat) (w : World) (H : Hid (Rd w A na ca xs)) (K : Hid (Rd w B nb cb ys)) (hna : na ≤ 1048576) (hnb : nb ≤ 1048576) (hc : (nb : Int) < na) :
    CallsIn Fence.wide 5 Tryz.prog 144 #[.slice A na ca, .slice B nb cb] w (SubP w (M.val xs) (M.val ys)) := by
  refine callsIn_of_wp_marks Tryz.func144 rfl trivial ?_ rfl
  simp only [Tryz.ntmps144, List.size_toArray, List.length_cons, List.length_nil, Nat.reduceAdd, Nat.reduceSub, Array.replicate_succ, Array.replicate_zero, List.push_toArray, List.append_toArray, List.nil_append, List.cons_append]
  gi_wp2_with (first
    | (gi_at_make; refine makeIn_own _ rfl _ _ rfl .i64 .i64 _ na rfl rfl (by omega) (by omega) ?_; intro w1 ho1 hb1; have HO1 := Lib.hid ho1; have HB1 := Lib.hid hb1; clear ho1 hb1)
    | (refine ⟨trivial, ?_⟩; gi_at_call 136; refine (pairs_in _ _ _ _ _ _ _ _).mono ?_; rintro e w' ⟨rfl, rfl⟩))
  have hg1 : w.heap.size < w1.heap.size := (HO1.out.lt rfl).2
  have bO := Boxed.new w1 22 (.slice (some ⟨w.heap.size, 0, none⟩) 0 na)
  have bB := Boxed.new (w1.alloc (.cells #[.slice (some ⟨w.heap.size, 0, none⟩) 0 na] 22)) 44 (.int .u32 0)
  have bX := Boxed.new ((w1.alloc (.cells #[.slice (some ⟨w.heap.size, 0, none⟩) 0 na] 22)).alloc (.cells #[.int .u32 0] 44)) 22 (.slice A na ca)
  have bY := Boxed.new (((w1.alloc (.cells #[.slice (some ⟨w.heap.size, 0, none⟩) 0 na] 22)).alloc (.cells #[.int .u32 0] 44)).alloc (.cells #[.slice A na ca] 22)) 22 (.slice B nb cb)
  simp only [World.size_alloc] at bB bX bY
  have hB0 := (((HB1.out.alloc HB1.out.size (.cells #[.slice (some ⟨w.heap.size, 0, none⟩) 0 na] 22)).alloc (by simp; omega) (.cells #[.int .u32 0] 44)).alloc (by simp; omega) (.cells #[.slice A na ca] 22)).alloc (by simp; omega) (.cells #[.slice B nb cb] 22)
  have hmax : max na nb = na := by omega
  have hps := pairs_stops 4 (by omega) (w1.heap.size + 1 + 1) (w1.heap.size + 1 + 1 + 1) (fun j => j ≠ w.heap.size ∧ j ≠ w1.heap.size ∧ j ≠ w1.heap.size + 1 ∧ j < w1.heap.size + 4) A na ca xs B nb cb ys hna hnb _ (fun p hp hn => by have := H.out.blk hn hp; omega) (fun p hp hn => by have := K.out.blk hn hp; omega) (by omega) (by omega) (by intro j hj; simp; omega) (bX.alloc _).cell bY.cell (H.out.below hB0) (K.out.below hB0)
  rw [hmax] at hps
  refine wpIn_rangeFunc_ownG rfl (by omega) (gf := 154) (lb := #[.pointer (some ⟨w1.heap.size + 1 + 1, 0, none⟩), .pointer (some ⟨w1.heap.size + 1 + 1 + 1, 0, none⟩)]) rfl trivial (enters_of Tryz.func154 (by kernel_rfl) rfl) hps
    (fun h1 h2 j hj => (h2 j hj).trans (h1 j hj)) (fun W l o o' hl _ _ _ j hj => World.putObj_heap_other (by simp at hl; omega)) (Below.refl _ _) (fun _ => rfl)
    (SubI w.heap.size w1.heap.size (w1.heap.size + 1) na (w1.heap.size + 4) w) (fun _ _ _ => False) (SubI.own _ _ _ _ _ _ _ (by simp; omega)) (fun _ _ _ _ _ hs _ _ => hs)
    ⟨⟨[], 0, ((bO.alloc _).alloc _).alloc _, (bB.alloc _).alloc _, (((HO1.out.alloc _).alloc _).alloc _).alloc _, SubR.start⟩, hB0, by simp⟩
    (fun x => { tmps := #[.slice A na ca, .slice B nb cb, undef, undef, .slice none 0 0, .bool false, .pointer (some ⟨w1.heap.size, 0, none⟩), .pointer (some ⟨w1.heap.size + 1, 0, none⟩), .int .u32 (x.1.1 : Int), .int .u32 (x.1.2 : Int), .slice A na ca, .int .i64 (na : Int), .slice B nb cb, .int .i64 (nb : Int), .int .i64 (na : Int), .slice (some ⟨w.heap.size, 0, none⟩) 0 na, .slice A na ca, .slice B nb cb, .func (.func 154) #[] #[.pointer (some ⟨w1.heap.size + 1 + 1, 0, none⟩), .pointer (some ⟨w1.heap.size + 1 + 1 + 1, 0, none⟩)], .int .u32 (x.1.1 : Int), .int .u32 (x.1.2 : Int), undef, undef, undef, undef, undef, undef, undef, undef, undef, undef, undef, undef, undef, undef, undef], defers := [] }) ?assign ?body ?done ?stop
  case assign =>
    intro l x W K hK
    gi_wp2
    exact hK
  case body =>
    rintro l pre ⟨⟨x1, x2⟩, hx1, hx2⟩ W ⟨⟨zs, bo, h1, h2, h3, h4⟩, hb, hL⟩ hlt
    dsimp only at hx1 hx2 ⊢
    rw [M.R_eq] at hx1 hx2
    have cB := h2.cell
    have fB := h2.frozen
    have cO := h1.cell
    have fO := h1.frozen
    have hbo1 := h4.bo1
    have H1 := Lib.hid h1
    have H2 := Lib.hid h2
    have H3 := Lib.hid h3
    have H4 := Lib.hid h4
    have HB := Lib.hid hb
    clear h1 h2 h3 h4 hb
    gi_wp2_with (first
      | (refine ⟨trivial, ?_⟩; gi_at_call 158; refine (CallsIn.inRound l (callsIn_wide.2 (sub32_any x1 x2 bo _ hx1 hx2 hbo1))).mono ?_; rintro e w' ⟨z, bo', rfl, hz, hbo', hsum, rfl⟩; have HSUM := Lib.hid hsum; clear hsum; have HR3 := Lib.hid (sub_hr W ⟨w1.heap.size + 1, 0, none⟩ (.int .u32 (bo' : Int)) z hz); have HO2 := Lib.hid (sub_ho H3.out (p := ⟨w1.heap.size + 1, 0, none⟩) (by dsimp only; omega) (.int .u32 (bo' : Int)) (.cells #[.int .u32 (z : Int)] 44)))
      | (gi_at_builtin; refine appIn_fits _ rfl _ _ rfl w.heap.size w.heap.size pre.length na zs rfl HO2.out _ z rfl HR3.out (by omega) ?_; intro w3 ho3 hg3; have HO3 := Lib.hid ho3; have HG3 := Lib.hid hg3; clear ho3 hg3; have b3 := (((H1.out.kept (grownBy_setCell W ⟨w1.heap.size + 1, 0, none⟩ (.int .u32 (bo' : Int))) (by intro e; injection e with e; dsimp only at e; omega)).alloc (.cells #[.int .u32 (z : Int)] 44)).kept HG3.out (by intro e; injection e with e; omega)); have c3 := b3.cell; have f3 := b3.frozen; have B3 := Lib.hid b3; clear b3))
    exact sub_step (by omega) (by omega) (by simp) H1.out H2.out H4.out HB.out hL HO3.out HG3.out hz hbo' HSUM.out
  case done =>
    rintro D zs W hD hz ⟨⟨ds, bo, h1, h2, h3, h4⟩, hb, hL⟩ hK
    rw [hz] at h4
    have hend := sub_end H.out.Lim K.out.Lim (by rw [H.out.len]; omega) (by rw [K.out.len]; omega) h4
    have hlen : zs.length = na := by have := congrArg List.length hz; simpa [raw, prs] using this
    have cB := h2.cell
    have cO := h1.cell
    rw [hlen] at cO h3
    have H3 := Lib.hid h3
    have HB := Lib.hid hb
    have HK := Lib.hid hK
    clear h1 h2 h3 hb hz hlen hL
    rcases hend with ⟨hbo, hle, hval⟩ | ⟨hbo, hlt⟩
    · subst hbo
      have HLE := Lib.hid hle
      have HVAL := Lib.hid hval
      have hds : M.Lim ds := h4.lim
      have hs := H3.out.short
      rw [M.tr_eq_lims hds, hval] at hs
      have hsl : (M.tr ds).length = (M.lims (M.val xs - M.val ys)).length := by rw [M.tr_eq_lims hds, hval]
      have HSL := Lib.hid hsl
      have HS := Lib.hid hs
      have HDS := Lib.hid hds
      clear hle hval hds h4 hs hsl
      gi_wp2_with (refine ⟨trivial, ?_⟩; gi_at_call 111; refine (callsIn_wide.2 (short_any _ _ _ ds _ H3.out.rd (by omega))).mono ?_; rw [HSL.out]; rintro e w' ⟨rfl, rfl⟩)
      refine ⟨by simp, .inl ⟨_, _, rfl, run_takeDeferred HK.out, ?_⟩⟩
      exact ⟨_, results_tmp2 rfl _ _ _, .inl ⟨HLE.out, _, _, rfl, ⟨ownsRow_putObj HS.out.row _ HK.out rfl, HS.out.lim⟩, HB.out.trans (belowK_b (w := w) (Nat.le_refl _) W D _ _ (by simp at hD; omega) HK.out rfl rfl)⟩⟩
    · subst hbo
      have HLT := Lib.hid hlt
      clear hlt h4
      gi_wp2
      refine ⟨by simp, .inl ⟨_, _, rfl, run_takeDeferred HK.out, ?_⟩⟩
      exact ⟨_, results_tmp2 rfl _ _ _, .inr ⟨HLT.out, _, _, rfl, OwK.nil_ _ _, HB.out.trans (belowK_b (w := w) (Nat.le_refl _) W D _ _ (by simp at hD; omega) HK.out rfl rfl)⟩⟩
  case stop =>
    rintro D c pre W _ _ h _
    exact h.elim

theorem sub_any (A : Option Addr) (na ca : Nat) (xs : List Nat) (B : Option Addr) (nb cb : Nat) (ys : List Nat) (w : World) (h : Rd w A na ca xs) (k : Rd w B nb cb ys) (hna : na ≤ 1048576) (hnb : nb ≤ 1048576) :
    Calls Tryz.prog 144 #[.slice A na ca, .slice B nb cb] w (SubP w (M.val xs) (M.val ys)) := by
  rcases Nat.lt_trichotomy na nb with hc | hc | hc
  · exact callsIn_wide.1 (sub_lt A na nb ca xs B cb ys w h k hna hnb (by omega))
  · subst hc
    exact callsIn_wide.1 (sub_eq A na ca xs B cb ys w h k hna hnb)
  · exact callsIn_wide.1 (sub_gt A na nb ca xs B cb ys w h k hna hnb (by omega))

end Go.Proofs.YtbhgbilhoonopaaGreat

/- The contracts of nat's functions once more, in numbers alone: what the laws' walks go by. -/
namespace Go.Proofs.YtbhgbilhoonopaaGreat
open Go.RowKit
set_option linter.unusedVariables false

/-- A slice of at most k limbs whose number is v. -/
structure Nm (w : World) (A : Option Addr) (n c v k : Nat) : Prop where
  row : ∃ xs, Rd w A n c xs ∧ M.val xs = v
  le : n ≤ k
/-- .. that is trimmed. -/
structure Tm (w : World) (A : Option Addr) (n c v k : Nat) : Prop where
  rd : Rd w A n c (M.lims v)
  le : n ≤ k

section
variable {w w' : World} {A B : Option Addr} {n c m d v x y k j : Nat}
theorem Nm.below (h : Nm w A n c v k) (hb : Below w.heap.size w w') : Nm w' A n c v k := by
  obtain ⟨xs, h1, h2⟩ := h.row
  exact ⟨⟨xs, h1.below hb, h2⟩, h.le⟩
theorem Tm.below (h : Tm w A n c v k) (hb : Below w.heap.size w w') : Tm w' A n c v k := ⟨h.rd.below hb, h.le⟩
theorem Tm.nm (h : Tm w A n c v k) : Nm w A n c v k := ⟨⟨_, h.rd, M.val_lims v⟩, h.le⟩
theorem Nm.lt (h : Nm w A n c v k) : v < M.R ^ k := by
  obtain ⟨xs, h1, rfl⟩ := h.row
  exact M.val_lt_pow h1.Lim (by rw [h1.len]; exact h.le)
theorem Tm.len (h : Tm w A n c v k) : (M.lims v).length = n := h.rd.len
theorem Nm.alloc (h : Nm w A n c v k) (o : Obj) : Nm (w.alloc o) A n c v k := h.below (bl_alloc w o)
theorem Tm.alloc (h : Tm w A n c v k) (o : Obj) : Tm (w.alloc o) A n c v k := h.below (bl_alloc w o)

/-- A call answers a new trimmed row of this number. -/
def GivN (w : World) (v k : Nat) (e : Ending) (w' : World) : Prop := ∃ A n c, e = .returned (.slice A n c) ∧ Tm w' A n c v k ∧ Below w.heap.size w w'

theorem givN (h : v < M.R ^ k) {e : Ending} (hg : Gives w (M.lims v) e w') : GivN w v k e w' := by
  obtain ⟨A, c, rfl, ho, hb⟩ := hg
  exact ⟨A, _, c, rfl, ⟨ho.rd, M.lims_length_le.2 h⟩, hb⟩

theorem add_lt_pow {x y a b : Nat} (hx : x < M.R ^ a) (hy : y < M.R ^ b) : x + y < M.R ^ (max a b + 1) := by
  have h1 : M.R ^ a ≤ M.R ^ max a b := Nat.pow_le_pow_right M.R_pos (by omega)
  have h2 : M.R ^ b ≤ M.R ^ max a b := Nat.pow_le_pow_right M.R_pos (by omega)
  rw [Nat.pow_succ]
  have h3 : M.R ^ max a b * 2 ≤ M.R ^ max a b * M.R := Nat.mul_le_mul_left _ (by decide)
  omega
theorem mul_lt_pow {x y a b : Nat} (hx : x < M.R ^ a) (hy : y < M.R ^ b) : x * y < M.R ^ (a + b) := by
  rw [Nat.pow_add]
  exact Nat.mul_lt_mul'' hx hy

theorem addN (h : Nm w A n c x k) (g : Nm w B m d y j) (hk : k ≤ 1000) (hj : j ≤ 1000) : Calls Tryz.prog 118 #[.slice A n c, .slice B m d] w (GivN w (x + y) (max k j + 1)) := by
  have h1 := h.lt
  have g1 := g.lt
  have hl := h.le
  have gl := g.le
  obtain ⟨xs, hx, rfl⟩ := h.row
  obtain ⟨ys, hy, rfl⟩ := g.row
  exact (add_any _ _ _ _ _ _ _ _ _ hx hy (by omega) (by omega)).mono fun e w' r => givN (add_lt_pow h1 g1) r

theorem mulN (h : Nm w A n c x k) (g : Nm w B m d y j) (hk : k ≤ 1000) (hj : j ≤ 1000) (hm : min k j < 40) : Calls Tryz.prog 68 #[.slice A n c, .slice B m d] w (GivN w (x * y) (k + j)) := by
  have h1 := h.lt
  have g1 := g.lt
  have hl := h.le
  have gl := g.le
  obtain ⟨xs, hx, rfl⟩ := h.row
  obtain ⟨ys, hy, rfl⟩ := g.row
  have e1 := M.lims_length_le.2 h1
  have e2 := M.lims_length_le.2 g1
  exact (mul_few _ _ _ _ _ _ _ _ _ hx hy (by omega) (by omega) (by omega)).mono fun e w' r => givN (mul_lt_pow h1 g1) r

theorem trimN (h : Nm w A n c x k) (hk : k ≤ 1000) : Calls Tryz.prog 124 #[.slice A n c] w (GivN w x k) := by
  have h1 := h.lt
  have hl := h.le
  obtain ⟨xs, hx, rfl⟩ := h.row
  exact (trim_any _ _ _ _ _ hx (by omega)).mono fun e w' r => givN h1 r

theorem fromN (v : Nat) (w : World) (hv : v < 18446744073709551616) : Calls Tryz.prog 90 #[.int .u64 (v : Int)] w (GivN w v 2) := by
  have := from_any (v : Int) w (by omega) (by omega)
  rw [Int.toNat_natCast] at this
  exact this.mono fun e w' r => givN (k := 2) hv r

theorem cmpN (h : Nm w A n c x k) (g : Nm w B m d y j) (hk : k ≤ 1000) (hj : j ≤ 1000) : Calls Tryz.prog 104 #[.slice A n c, .slice B m d] w fun e w' => e = .returned (.int .i64 (cmpV x y)) ∧ Below w.heap.size w w' := by
  have hl := h.le
  have gl := g.le
  obtain ⟨xs, hx, rfl⟩ := h.row
  obtain ⟨ys, hy, rfl⟩ := g.row
  exact cmp_any _ _ _ _ _ _ _ _ _ hx hy (by omega) (by omega)

def GivB (w : World) (v k : Nat) (b : Bool) (e : Ending) (w' : World) : Prop := ∃ A n c, e = .returned (.tuple #[.slice A n c, .bool b]) ∧ Tm w' A n c v k ∧ Below w.heap.size w w'
theorem givB (h : v < M.R ^ k) {e : Ending} {b : Bool} (hg : GivesB w (M.lims v) b e w') : GivB w v k b e w' := by
  obtain ⟨A, c, rfl, ho, hb⟩ := hg
  exact ⟨A, _, c, rfl, ⟨ho.rd, M.lims_length_le.2 h⟩, hb⟩

theorem subN_yes (h : Nm w A n c x k) (g : Nm w B m d y j) (hk : k ≤ 1000) (hj : j ≤ 1000) (hle : y ≤ x) : Calls Tryz.prog 144 #[.slice A n c, .slice B m d] w (GivB w (x - y) k true) := by
  have h1 := h.lt
  have hl := h.le
  have gl := g.le
  obtain ⟨xs, hx, rfl⟩ := h.row
  obtain ⟨ys, hy, rfl⟩ := g.row
  refine (sub_any _ _ _ _ _ _ _ _ _ hx hy (by omega) (by omega)).mono fun e w' r => ?_
  rcases r with ⟨_, r⟩ | ⟨h0, r⟩
  · exact givB (by omega) r
  · omega
theorem subN_no (h : Nm w A n c x k) (g : Nm w B m d y j) (hk : k ≤ 1000) (hj : j ≤ 1000) (hlt : x < y) : Calls Tryz.prog 144 #[.slice A n c, .slice B m d] w (GivB w 0 0 false) := by
  have hl := h.le
  have gl := g.le
  obtain ⟨xs, hx, rfl⟩ := h.row
  obtain ⟨ys, hy, rfl⟩ := g.row
  refine (sub_any _ _ _ _ _ _ _ _ _ hx hy (by omega) (by omega)).mono fun e w' r => ?_
  rcases r with ⟨h0, r⟩ | ⟨_, r⟩
  · omega
  · have r' : GivesB w (M.lims 0) false e w' := by rw [M.lims_zero]; exact r
    exact givB (by decide) r'

theorem textN (h : Nm w A n c x k) (hk : k ≤ 1000) : Calls Tryz.prog 85 #[.slice A n c] w (GivesT w (M.txt x)) := by
  have hl := h.le
  obtain ⟨xs, hx, rfl⟩ := h.row
  exact text_any _ _ _ _ _ hx (by omega)

theorem litN1 (w : World) (a : Nat) (v : Int) (hx : a < M.R) (hv : v = (a : Int)) : Nm (w.alloc (.cells #[.int .u32 v] 44)) (some ⟨w.heap.size, 0, none⟩) 1 1 a 1 := ⟨⟨_, lit1 w a v hx hv, by simp [M.val]⟩, Nat.le_refl _⟩
theorem litN2 (w : World) (a b : Nat) (v u : Int) (hx : a < M.R) (hy : b < M.R) (hv : v = (a : Int)) (hu : u = (b : Int)) : Nm (w.alloc (.cells #[.int .u32 v, .int .u32 u] 44)) (some ⟨w.heap.size, 0, none⟩) 2 2 (a + M.R * b) 2 := ⟨⟨_, lit2 w a b v u hx hy hv hu, by simp [M.val]⟩, Nat.le_refl _⟩
theorem nilN (w : World) : Nm w none 0 0 0 0 := ⟨⟨[], RdK.empty _ _ _ (fun _ => rfl), rfl⟩, Nat.le_refl _⟩
end

end Go.Proofs.YtbhgbilhoonopaaGreat

/- Texts of numbers, in numbers alone. -/
namespace Go.Proofs.YtbhgbilhoonopaaGreat
open Go.RowKit
set_option linter.unusedVariables false

theorem pow10 (k : Nat) : M.R ^ k ≤ 10 ^ (10 * k) := by
  rw [Nat.pow_mul]
  exact Nat.pow_le_pow_left (by decide) _

theorem txt_len {v k : Nat} (h : v < M.R ^ k) : (M.txt v).length ≤ 10 * k + 1 := by
  unfold M.txt
  split
  · simp
  · rw [List.length_reverse]
    have := M.lows_len_le (Nat.lt_of_lt_of_le h (pow10 k))
    omega

theorem txt_size {s : ByteArray} {v k : Nat} (h : M.bytes s = M.txt v) (hv : v < M.R ^ k) : s.size ≤ 10 * k + 1 := by
  rw [← M.bytes_len, h]
  exact txt_len hv

theorem parseN {s : ByteArray} {w : World} {v k : Nat} (h : M.bytes s = M.txt v) (hs : s.size ≤ 1048576) (hv : v < M.R ^ k) : Calls Tryz.prog 94 #[.string s] w (GivB w v k true) := by
  refine (parse_yes s w hs (by rw [h]; exact M.txt_digits v)).mono fun e w' r => givB hv ?_
  rw [h, M.dec_txt] at r
  exact r

theorem txt_ten {x : Nat} (h : x ≠ 0) : M.txt (x * 10) = M.txt x ++ [48] := by
  have h' : x * 10 ≠ 0 := by omega
  unfold M.txt
  rw [if_neg h, if_neg h', M.lows_pos h', List.reverse_cons, show x * 10 / 10 = x by omega, show 48 + x * 10 % 10 = 48 by omega]

theorem text_ten {s t : ByteArray} {x : Nat} (h : x ≠ 0) (hs : M.bytes s = M.txt x) (ht : M.bytes t = M.txt (x * 10)) : (t.toList == (s ++ ⟨#[48]⟩).toList) = true := by
  have e : t = s ++ ⟨#[48]⟩ := by
    apply M.bytes_inj
    rw [ht, txt_ten h, ← hs]
    unfold M.bytes
    obtain ⟨⟨l⟩⟩ := s
    simp
  rw [e]
  simp

end Go.Proofs.YtbhgbilhoonopaaGreat
