/- cmp.Compare of limbs, nat.Cmp: for every two rows of limbs (of 2^20 at most). -/
import Derived.Test.YtbcceopgmkmbfaaWPairs
namespace Go.Proofs.Ytbcceopgmkmbfaa
open Go.RowKit Go.Shelf
set_option linter.unusedVariables false
attribute [local go_sem] Oper.semAt_some

/-- -1, 0, 1: less, as much, more. -/
def cmpV (x y : Nat) : Int := if x < y then -1 else if x = y then 0 else 1
theorem cmpV_lt {x y : Nat} (h : x < y) : cmpV x y = -1 := if_pos h
theorem cmpV_eq (x : Nat) : cmpV x x = 0 := by unfold cmpV; rw [if_neg (by omega), if_pos rfl]
theorem cmpV_gt {x y : Nat} (h : y < x) : cmpV x y = 1 := by unfold cmpV; rw [if_neg (by omega), if_neg (by omega)]

/-- The last difference tells. -/
def cmpF (l : List (Nat × Nat)) : Int := l.foldl (fun o p => if p.1 = p.2 then o else cmpV p.1 p.2) 0
theorem cmpF_snoc (l : List (Nat × Nat)) (p : Nat × Nat) : cmpF (l ++ [p]) = if p.1 = p.2 then cmpF l else cmpV p.1 p.2 := by unfold cmpF; rw [List.foldl_append]; rfl

theorem cmpF_prs {xs ys : List Nat} (hx : M.Lim xs) (hy : M.Lim ys) (k : Nat) : cmpF (prs xs ys k) = cmpV (M.val (xs.take k)) (M.val (ys.take k)) := by
  induction k with
  | zero => simp only [List.take_zero, M.val_nil]; rw [cmpV_eq]; rfl
  | succ k ih =>
    rw [prs_succ, cmpF_snoc, M.val_take_succ, M.val_take_succ, ih]
    have h1 := M.val_lt_pow (hx.take k) (k := k) (by rw [List.length_take]; omega)
    have h2 := M.val_lt_pow (hy.take k) (k := k) (by rw [List.length_take]; omega)
    generalize M.val (xs.take k) = a at *
    generalize M.val (ys.take k) = b at *
    generalize M.limbAt xs k = x at *
    generalize M.limbAt ys k = y at *
    generalize M.R ^ k = P at *
    dsimp only
    by_cases he : x = y
    · rw [if_pos he, he]
      rcases Nat.lt_trichotomy a b with h | h | h
      · rw [cmpV_lt h, cmpV_lt (by omega)]
      · subst h
        rw [cmpV_eq, cmpV_eq]
      · rw [cmpV_gt h, cmpV_gt (by omega)]
    · rw [if_neg he]
      rcases Nat.lt_or_ge x y with h3 | h3
      · have : P * (x + 1) ≤ P * y := Nat.mul_le_mul_left _ h3
        rw [Nat.mul_add] at this
        rw [cmpV_lt h3, cmpV_lt (by omega)]
      · have : P * (y + 1) ≤ P * x := Nat.mul_le_mul_left _ (show y + 1 ≤ x by omega)
        rw [Nat.mul_add] at this
        rw [cmpV_gt (show y < x by omega), cmpV_gt (by omega)]

set_option maxHeartbeats 400000 in
theorem compare_any (x y : Nat) (w : World) (hx : x < 4294967296) (hy : y < 4294967296) (hne : x ≠ y) :
    Calls Try.prog 50 #[.int .u32 (x : Int), .int .u32 (y : Int)] w fun e w' => e = .returned (.int .i64 (cmpV x y)) ∧ w = w' := by
  rcases Nat.lt_or_ge x y with h | h
  · rw [cmpV_lt h]
    go_enter Try.func50, Try.ntmps50
    go_wp2
    go_ret
    exact ⟨rfl, rfl⟩
  · rw [cmpV_gt (by omega)]
    have h' : y < x := by omega
    go_enter Try.func50, Try.ntmps50
    go_wp2
    go_ret
    exact ⟨rfl, rfl⟩

set_option maxRecDepth 100000 in
set_option maxHeartbeats 2000000 in
theorem cmp_in (A : Option Addr) (na ca : Nat) (xs : List Nat) (B : Option Addr) (nb cb : Nat) (ys : List Nat) (w : World) (h : Rd w A na ca xs) (k : Rd w B nb cb ys) (hna : na ≤ 1048576) (hnb : nb ≤ 1048576) :
    CallsIn Fence.wide 5 Try.prog 22 #[.slice A na ca, .slice B nb cb] w fun e w' => e = .returned (.int .i64 (cmpV (M.val xs) (M.val ys))) ∧ Below w.heap.size w w' := by
  refine callsIn_of_wp_marks Try.func22 rfl trivial ?_ rfl
  simp only [Try.ntmps22, List.size_toArray, List.length_cons, List.length_nil, Nat.reduceAdd, Nat.reduceSub, Array.replicate_succ, Array.replicate_zero, List.push_toArray, List.append_toArray, List.nil_append, List.cons_append]
  gi_wp2_with (refine ⟨trivial, ?_⟩; gi_at_call 39; refine (pairs_in _ _ _ _ _ _ _ _).mono ?_; rintro e w' ⟨rfl, rfl⟩)
  have bS := Boxed.new w 3 (.int .i64 0)
  have bA := Boxed.new (w.alloc (.cells #[.int .i64 0] 3)) 22 (.slice A na ca)
  have bB := Boxed.new ((w.alloc (.cells #[.int .i64 0] 3)).alloc (.cells #[.slice A na ca] 22)) 22 (.slice B nb cb)
  simp only [World.size_alloc] at bA bB
  have hB0 : Below w.heap.size w (((w.alloc (.cells #[.int .i64 0] 3)).alloc (.cells #[.slice A na ca] 22)).alloc (.cells #[.slice B nb cb] 22)) := (((Below.refl _ w).alloc (Nat.le_refl _) _).alloc (by simp) _).alloc (by simp; omega) _
  refine wpIn_rangeFunc_ownG rfl (by omega) (gf := 63) (lb := #[.pointer (some ⟨w.heap.size + 1, 0, none⟩), .pointer (some ⟨w.heap.size + 1 + 1, 0, none⟩)]) rfl trivial (enters_of Try.func63 (by kernel_rfl) rfl)
    (pairs_stops 4 (by omega) (w.heap.size + 1) (w.heap.size + 1 + 1) (fun j => j ≠ w.heap.size ∧ j < w.heap.size + 3) A na ca xs B nb cb ys hna hnb _ (fun p hp hn => by have := h.blk hn hp; omega) (fun p hp hn => by have := k.blk hn hp; omega) (by omega) (by omega) (by simp) (bA.alloc _).cell bB.cell (h.below hB0) (k.below hB0))
    (fun h1 h2 j hj => (h2 j hj).trans (h1 j hj)) (fun W l o o' hl _ _ _ j hj => World.putObj_heap_other (by simp at hl; omega)) (Below.refl _ _) (fun _ => rfl)
    (fun pre W => (W.cell? ⟨w.heap.size, 0, none⟩ = some (.int .i64 (cmpF (raw pre))) ∧ W.frozen? ⟨w.heap.size, 0, none⟩ = false) ∧ Below w.heap.size w W)
    (fun _ _ _ => False)
    (OwnFrom.and (Go.Own.from (fun s A B row hs hg hr => ⟨cell_kept hs.1 hg hr, (frozen_kept hs.1 hg hr).trans hs.2⟩) _) (ownFrom_below (Nat.le_refl _) (by simp; omega)))
    (fun _ _ _ _ _ hs _ _ => hs)
    ⟨⟨((bS.alloc _).alloc _).cell, ((bS.alloc _).alloc _).frozen⟩, hB0⟩
    (fun x => { tmps := #[.slice A na ca, .slice B nb cb, undef, undef, .int .i64 0, .pointer (some ⟨w.heap.size, 0, none⟩), .int .u32 (x.1.1 : Int), .int .u32 (x.1.2 : Int), .slice A na ca, .slice B nb cb, .func (.func 63) #[] #[.pointer (some ⟨w.heap.size + 1, 0, none⟩), .pointer (some ⟨w.heap.size + 1 + 1, 0, none⟩)], .int .u32 (x.1.1 : Int), .int .u32 (x.1.2 : Int), undef, undef, undef, undef, undef, undef, undef], defers := [] }) ?assign ?body ?done ?stop
  case assign =>
    intro l x W K hK
    gi_wp2
    exact hK
  case body =>
    rintro l pre ⟨⟨x1, x2⟩, hx1, hx2⟩ W ⟨⟨hc, hf⟩, hB⟩ _
    dsimp only at hx1 hx2 ⊢
    rw [M.R_eq] at hx1 hx2
    have HC := Lib.hid hc
    have HF := Lib.hid hf
    have HB := Lib.hid hB
    clear hB
    by_cases he : x1 = x2
    · have hne : ((x1 : Int) != (x2 : Int)) = false := by simp [he]
      gi_wp2
      refine ⟨KeepsFrom.refl _ _, fun _ _ => rfl, ⟨?_, HF.out⟩, HB.out⟩
      rw [HC.out]
      simp only [raw, List.map_append, List.map_cons, List.map_nil]
      rw [cmpF_snoc, if_pos he]
    · have hne : ((x1 : Int) != (x2 : Int)) = true := by simp; omega
      gi_wp2_with (refine ⟨trivial, ?_⟩; gi_at_call 50; refine (CallsIn.inRound l (callsIn_wide.2 (compare_any x1 x2 _ hx1 hx2 he))).mono ?_; rintro e w' ⟨rfl, rfl⟩)
      refine ⟨(KeepsOthers.setCell _ _ _).from _, fun j hj => heap_setCell_other W ⟨w.heap.size, 0, none⟩ j _ hj.1, ⟨?_, by rw [World.frozen?_setCell]; exact HF.out⟩, HB.out.setCell (p := ⟨w.heap.size, 0, none⟩) (Nat.le_refl _) _⟩
      rw [World.cell?_setCell_same' _ _ _ (by rw [HC.out]; rfl)]
      simp only [raw, List.map_append, List.map_cons, List.map_nil]
      rw [cmpF_snoc, if_neg he]
  case done =>
    rintro D zs W hD hz ⟨⟨hc, _⟩, hB⟩ hK
    rw [hz, cmpF_prs h.Lim k.Lim, List.take_of_length_le (by rw [h.len]; omega), List.take_of_length_le (by rw [k.len]; omega)] at hc
    gi_wp2
    refine ⟨by simp, .inl ⟨_, _, rfl, run_takeDeferred hK, ?_⟩⟩
    exact ⟨_, results_tmp rfl _ _ _, rfl, hB.trans (belowK_b (w := w) (Nat.le_refl _) W D _ _ (by simp at hD; omega) hK rfl rfl)⟩
  case stop =>
    rintro D c pre W _ _ h _
    exact h.elim

theorem cmp_any (A : Option Addr) (na ca : Nat) (xs : List Nat) (B : Option Addr) (nb cb : Nat) (ys : List Nat) (w : World) (h : Rd w A na ca xs) (k : Rd w B nb cb ys) (hna : na ≤ 1048576) (hnb : nb ≤ 1048576) :
    Calls Try.prog 22 #[.slice A na ca, .slice B nb cb] w fun e w' => e = .returned (.int .i64 (cmpV (M.val xs) (M.val ys))) ∧ Below w.heap.size w w' :=
  callsIn_wide.1 (cmp_in A na ca xs B nb cb ys w h k hna hnb)

end Go.Proofs.Ytbcceopgmkmbfaa
