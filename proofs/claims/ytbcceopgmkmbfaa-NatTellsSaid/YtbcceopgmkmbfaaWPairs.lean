/- nat.pairs: the limbs of two rows side by side, from an iterator: for every loop body that keeps what lay below. -/
import Derived.Test.YtbcceopgmkmbfaaWSum
import Derived.RangeFuncNested
import Derived.RangeFuncBound
import Derived.RangeFuncCalls
import Derived.RangeFuncLeaves
import Derived.Shelf.Abstract
import Derived.Shelf.RegionOpen
import Derived.OwnWalkIn
import Derived.TacticsInMore
import Derived.LoopNIn
import Derived.LoopIn
import Derived.Maps.AppendAt
namespace Go.Proofs.Ytbcceopgmkmbfaa
open Go.RowKit Go.Shelf
set_option linter.unusedVariables false
attribute [local go_sem] Oper.semAt_some

/-- What has come when k rounds are over. -/
def prs (xs ys : List Nat) (k : Nat) : List (Nat × Nat) := (List.range k).map fun i => (M.limbAt xs i, M.limbAt ys i)
theorem prs_succ (xs ys : List Nat) (k : Nat) : prs xs ys (k + 1) = prs xs ys k ++ [(M.limbAt xs k, M.limbAt ys k)] := by simp [prs, List.range_succ]
theorem prs_length (xs ys : List Nat) (k : Nat) : (prs xs ys k).length = k := by simp [prs]

/-- These blocks lie as they lay. -/
def Keep (S : Nat → Prop) (W W' : World) : Prop := ∀ k, S k → W'.heap[k]? = W.heap[k]?

/-- A pair of limbs. -/
abbrev LL := { x : Nat × Nat // x.1 < M.R ∧ x.2 < M.R }

set_option maxRecDepth 100000 in
set_option maxHeartbeats 2000000 in
theorem pairs1_in (n : Nat) (hn : 1 ≤ n) (l Ba Bb : Nat) (S : Nat → Prop) (A : Option Addr) (na ca : Nat) (xs : List Nat) (B : Option Addr) (nb cb : Nat) (ys : List Nat) (hna : na ≤ 1048576) (hnb : nb ≤ 1048576)
    (hA : ∀ p, A = some p → 0 < na → S p.block) (hB : ∀ p, B = some p → 0 < nb → S p.block) (hBa : S Ba) (hBb : S Bb) (J Jx : List (Nat × Nat) → World → Prop)
    (hY : ∀ pre (x : Nat × Nat) W, x.1 < M.R → x.2 < M.R → J pre W → pre.length < max na nb → YieldAt Fence.wide (n - 1) Try.prog l #[.int .u32 (x.1 : Int), .int .u32 (x.2 : Int)] W fun e W' =>
      (e = .returned (.bool true) ∧ J (pre ++ [x]) W' ∧ Keep S W W') ∨ (e = .returned (.bool false) ∧ Jx (pre ++ [x]) W'))
    (hJd : ∀ pre W, J pre W → J pre W.drew)
    (W : World) (ha : W.cell? ⟨Ba, 0, none⟩ = some (.slice A na ca)) (hb : W.cell? ⟨Bb, 0, none⟩ = some (.slice B nb cb)) (hx : Rd W A na ca xs) (hy : Rd W B nb cb ys) (h0 : J [] W) :
    CallsIn Fence.wide n Try.prog 63 #[.func (.yield l) #[] #[], .pointer (some ⟨Ba, 0, none⟩), .pointer (some ⟨Bb, 0, none⟩)] W fun e W' => (∃ v, e = .returned v) ∧
      ((∃ zs, zs = prs xs ys (max na nb) ∧ J zs W') ∨ (∃ pre, (∃ k, k ≤ max na nb ∧ pre = prs xs ys k) ∧ Jx pre W')) := by
  refine callsIn_of_wp Try.func63 rfl trivial ?_ rfl
  simp only [Try.ntmps63, List.size_toArray, List.length_cons, List.length_nil, Nat.reduceAdd, Nat.reduceSub, Array.replicate_succ, Array.replicate_zero, List.push_toArray, List.append_toArray, List.nil_append, List.cons_append]
  have HX := Lib.hid hx
  have HY := Lib.hid hy
  have HYI := Lib.hid hY
  have HJ0 := Lib.hid h0
  have HJD := Lib.hid hJd
  have hmo : Try.prog.follows .mixedOrders = true := by kernel_rfl
  clear hx hy hY h0 hJd
  obtain ⟨m, hm⟩ : ∃ m, max na nb = m := ⟨_, rfl⟩
  have hm2 : m ≤ 1048576 := by omega
  have hlen : xs.length ≤ m ∧ ys.length ≤ m := by rw [HX.out.len, HY.out.len]; omega
  have HLEN := Lib.hid hlen
  rw [hm] at HYI ⊢
  clear hlen
  have hcase : ((na : Int) < nb ∧ m = nb) ∨ (na = nb ∧ m = nb) ∨ ((nb : Int) < na ∧ m = na) := by omega
  have HM := Lib.hid hm
  clear hm
  rcases hcase with ⟨hc, he⟩ | ⟨hc, he⟩ | ⟨hc, he⟩
  all_goals subst he
  case' inr.inl => obtain rfl : m = na := hc.symm
  all_goals
    gi_wp2
    gi_loopw [10] (fun i wr => ∃ k : Nat, k ≤ m ∧ i = .int .i64 k ∧ J (prs xs ys k) wr ∧ Keep S W wr) (fun i _ => m - (intOf i).toNat)
    case atStart => exact ⟨0, Nat.zero_le _, rfl, HJ0.out, fun _ _ => rfl⟩
    case round =>
      obtain ⟨k, hk, rfl, hJs, hnx⟩ := hrel
      have HJS := Lib.hid hJs
      have HNX := Lib.hid hnx
      have ha' := (World.cell?_of_block (a := ⟨Ba, 0, none⟩) (hnx Ba hBa)).trans ha
      have hb' := (World.cell?_of_block (a := ⟨Bb, 0, none⟩) (hnx Bb hBb)).trans hb
      clear hJs hnx
      by_cases hkm : k < m
      · have hxr := (HX.out.keep (w' := wr) fun p hp hn' => HNX.out _ (hA p hp hn'))
        have hyr := (HY.out.keep (w' := wr) fun p hp hn' => HNX.out _ (hB p hp hn'))
        have hlx := M.limbAt_lt hxr.Lim k
        have hly := M.limbAt_lt hyr.Lim k
        obtain ⟨fn, tmps, assign, body, hyy, hR⟩ := HYI.out _ (M.limbAt xs k, M.limbAt ys k) wr.drew hlx hly (HJD.out _ _ HJS.out) (by rw [prs_length]; exact hkm)
        dsimp only at hyy
        have HR : Hid (RoundIn Fence.wide (n - 1) Try.prog l fn tmps assign body wr.drew fun e W' => ∃ b, e = .returned (.bool b) ∧ ((b = true ∧ J (prs xs ys (k + 1)) W' ∧ Keep S wr.drew W') ∨ (b = false ∧ Jx (prs xs ys (k + 1)) W'))) := by
          refine hR.mono ?_
          rintro e W3 (⟨rfl, hJ3, hk3⟩ | ⟨rfl, hJx3⟩)
          · exact ⟨true, rfl, .inl ⟨rfl, by rw [prs_succ]; exact hJ3, hk3⟩⟩
          · exact ⟨false, rfl, .inr ⟨rfl, by rw [prs_succ]; exact hJx3⟩⟩
        have L1 := Lib.hid (callsIn_wide (n := n - 1) |>.2 (limb_any A _ _ xs (k : Int) _ hxr.drew (by omega) (by omega)))
        have L2 := Lib.hid (callsIn_wide (n := n - 1) |>.2 (limb_any B _ _ ys (k : Int) _ hyr.drew (by omega) (by omega)))
        rw [Int.toNat_natCast] at L1 L2
        clear hR hxr hyr
        gi_wp2
        gi_region_with_o (first
          | (refine ⟨trivial, ?_⟩; gi_at_call 62; ((with_reducible refine L1.out.mono ?_); rintro e w' ⟨rfl, rfl⟩))
          | (refine ⟨trivial, ?_⟩; gi_at_call 62; ((with_reducible refine L2.out.mono ?_); rintro e w' ⟨rfl, rfl⟩))
          | (refine HR.out.mono ?_; rintro e W3 ⟨b, rfl, hb3⟩))
        all_goals
          rcases hb3 with ⟨rfl, hJ3, hk3⟩ | ⟨rfl, hJx3⟩
          · have HJ3 := Lib.hid hJ3
            have HK3 := Lib.hid hk3
            clear hJ3 hk3
            gi_wp2
            go_roundw
            case rel => exact ⟨k + 1, by omega, by go_num, HJ3.out, fun j hj => (HK3.out j hj).trans (HNX.out j hj)⟩
            case measure => simp [intOf]; omega
          · have HJX3 := Lib.hid hJx3
            clear hJx3
            gi_wp2
            refine bodyPost_ret (results_none rfl _ _ _) rfl ?_
            exact ⟨⟨_, rfl⟩, .inr ⟨_, ⟨k + 1, by omega, rfl⟩, HJX3.out⟩⟩
      · obtain rfl : k = m := by omega
        gi_wp2
        go_end0
        exact ⟨⟨_, rfl⟩, .inl ⟨_, rfl, HJS.out⟩⟩

set_option maxHeartbeats 1000000 in
theorem pairs_in (n : Nat) (A : Option Addr) (na ca : Nat) (B : Option Addr) (nb cb : Nat) (w : World) :
    CallsIn Fence.wide n Try.prog 39 #[.slice A na ca, .slice B nb cb] w fun e w' =>
      e = .returned (.func (.func 63) #[] #[.pointer (some ⟨w.heap.size, 0, none⟩), .pointer (some ⟨w.heap.size + 1, 0, none⟩)]) ∧ w' = (w.alloc (.cells #[.slice A na ca] 22)).alloc (.cells #[.slice B nb cb] 22) := by
  refine callsIn_of_wp Try.func39 rfl trivial ?_ rfl
  simp only [Try.ntmps39, List.size_toArray, List.length_cons, List.length_nil, Nat.reduceAdd, Nat.reduceSub, Array.replicate_succ, Array.replicate_zero, List.push_toArray, List.append_toArray, List.nil_append, List.cons_append]
  gi_wp2
  go_ret
  exact ⟨rfl, rfl⟩

/-- What comes, as pairs of numbers. -/
def raw (l : List LL) : List (Nat × Nat) := l.map Subtype.val

theorem pairs_stops (n : Nat) (hn : 1 ≤ n) (Ba Bb : Nat) (S : Nat → Prop) (A : Option Addr) (na ca : Nat) (xs : List Nat) (B : Option Addr) (nb cb : Nat) (ys : List Nat) (hna : na ≤ 1048576) (hnb : nb ≤ 1048576) (w : World)
    (hA : ∀ p, A = some p → 0 < na → S p.block) (hB : ∀ p, B = some p → 0 < nb → S p.block) (hBa : S Ba) (hBb : S Bb) (hS : ∀ k, S k → k < w.heap.size)
    (ha : w.cell? ⟨Ba, 0, none⟩ = some (.slice A na ca)) (hb : w.cell? ⟨Bb, 0, none⟩ = some (.slice B nb cb)) (hx : Rd w A na ca xs) (hy : Rd w B nb cb ys) :
    SeqStopsK Fence.wide n Try.prog 63 #[.pointer (some ⟨Ba, 0, none⟩), .pointer (some ⟨Bb, 0, none⟩)] (fun x : LL => #[.int .u32 (x.1.1 : Int), .int .u32 (x.1.2 : Int)]) (Keep S)
      (fun zs => raw zs = prs xs ys (max na nb)) (fun pre => ∃ k, k ≤ max na nb ∧ raw pre = prs xs ys k) (max na nb) w := fun l J Jx W hW hJ hJx hY h0 => by
  refine (pairs1_in n hn l Ba Bb S A na ca xs B nb cb ys hna hnb hA hB hBa hBb (fun zs W => ∃ ls : List LL, raw ls = zs ∧ J ls W) (fun zs W => ∃ ls : List LL, raw ls = zs ∧ Jx ls W) ?_ ?_ W ?_ ?_ (hx.below hW) (hy.below hW) ⟨[], rfl, h0⟩).mono ?_
  · rintro pre x W1 h1 h2 ⟨ls, hls, hJs⟩ hlen
    obtain ⟨fn, tmps, assign, body, hyy, hR⟩ := hY ls ⟨x, h1, h2⟩ W1 hJs (by rw [← hls] at hlen; simpa [raw] using hlen)
    refine ⟨fn, tmps, assign, body, hyy, hR.mono ?_⟩
    rintro e W2 (⟨rfl, hJ2, hk2⟩ | ⟨rfl, hJ2⟩)
    · exact .inl ⟨rfl, ⟨_, by simp [raw, ← hls], hJ2⟩, hk2⟩
    · exact .inr ⟨rfl, ⟨_, by simp [raw, ← hls], hJ2⟩⟩
  · rintro pre W1 ⟨ls, hls, hJs⟩
    exact ⟨ls, hls, hJ ls W1 W1.drew none hJs ⟨rfl, rfl, rfl, Nat.le_refl _, fun _ _ _ => rfl⟩ (fun r e => by cases e)⟩
  · exact (hW.cell (p := ⟨Ba, 0, none⟩) (hS Ba hBa)).trans ha
  · exact (hW.cell (p := ⟨Bb, 0, none⟩) (hS Bb hBb)).trans hb
  · rintro e W2 ⟨he, ⟨zs, rfl, ls, hls, hJ2⟩ | ⟨pre, ⟨k, hk, rfl⟩, ls, hls, hJ2⟩⟩
    · exact ⟨he, .inl ⟨ls, hls, hJ2⟩⟩
    · exact ⟨he, .inr ⟨ls, ⟨k, hk, hls⟩, hJ2⟩⟩

end Go.Proofs.Ytbcceopgmkmbfaa
