/- litmusref02's Same and Right of numbers as they come; big.Right of them. -/
import Derived.Test.YthjgonfohjgfaaaZRefF
namespace Go.Proofs.Ythjgonfohjgfaaa
open Go.RowKit
set_option linter.unusedVariables false
set_option maxRecDepth 100000

section
variable {w w' : World} {v v' : Value} {s t : Bool} {xs ys : List Nat} {k j : Nat} {z u : Int}
set_option maxHeartbeats 1000000

/-- A number as it comes, limb by limb. -/
def IsW (w : World) (v : Value) (s : Bool) (xs : List Nat) (k : Nat) : Prop := ∃ A n c, v = .agg #[.bool s, .slice A n c] ∧ Rd w A n c xs ∧ n ≤ k
theorem IsW.below (h : IsW w v s xs k) (hb : Below w.heap.size w w') : IsW w' v s xs k := by
  obtain ⟨A, n, c, e, r, l⟩ := h
  exact ⟨A, n, c, e, r.below hb, l⟩
theorem IsW.m (h : IsW w v s xs k) : IsM w v (zv s (M.val xs)) k := by
  obtain ⟨A, n, c, rfl, r, l⟩ := h
  exact ⟨s, A, n, c, rfl, ⟨⟨_, ⟨⟨_, r, rfl⟩, l⟩, rfl⟩⟩⟩
theorem IsT.raw (h : IsT w v z k) : IsW w v (decide (z < 0)) (M.lims z.natAbs) k := by
  obtain ⟨b, A, n, c, rfl, T, hb⟩ := h
  exact ⟨A, n, c, by rw [hb], T.rd, T.le⟩

theorem cSameW (h : IsW w v s xs k) (g : IsW w v' t ys j) (hk : k ≤ 1000) (hj : j ≤ 1000) : Calls Try.prog 15 #[v, v'] w (Ans w fun _ v => v = .bool ((s == t) && decide (xs = ys))) := by
  obtain ⟨A, n, c, rfl, T, hl⟩ := h
  obtain ⟨B, m, d, rfl, T', hl'⟩ := g
  have BB := bl_trans (bl_alloc w (.cells #[.bool s, .slice A n c] 32)) (bl_alloc _ (.cells #[.bool t, .slice B m d] 32))
  by_cases hst : s = t
  · subst hst
    have HX := Lib.hid ((T.alloc (.cells #[.bool s, .slice A n c] 32)).alloc (.cells #[.bool s, .slice B m d] 32))
    have HY := Lib.hid ((T'.alloc (.cells #[.bool s, .slice A n c] 32)).alloc (.cells #[.bool s, .slice B m d] 32))
    clear T T'
    cases s
    all_goals
      go_enter Try.func15, Try.ntmps15
      go_wp2_with fail
      refine (Same_any _ _ _ _ _ _ _ _ _ HX.out HY.out (by omega) (by omega)).mono ?_
      rintro e w1 ⟨rfl, hb1⟩
      replace BB := bl_trans BB hb1
      clear hb1 HX HY
      go_wp2_with fail
      go_ret
      exact ⟨_, rfl, BB, rfl⟩
  · clear T T'
    cases s <;> cases t
    · exact absurd rfl hst
    · clear hst
      go_enter Try.func15, Try.ntmps15
      go_wp2_with fail
      go_ret
      exact ⟨_, rfl, BB, rfl⟩
    · clear hst
      go_enter Try.func15, Try.ntmps15
      go_wp2_with fail
      go_ret
      exact ⟨_, rfl, BB, rfl⟩
    · exact absurd rfl hst

/-- Is it right? -/
def rtb (s : Bool) (xs : List Nat) : Bool := (s == decide (zv s (M.val xs) < 0)) && decide (xs = M.lims (M.val xs))

theorem cRightW (h : IsW w v s xs k) (hk : k ≤ 1000) : Calls Try.prog 26 #[v] w (Ans w fun _ v => v = .bool (rtb s xs)) := by
  obtain ⟨A, n, c, rfl, r, hl⟩ := h
  have hlen := r.len
  by_cases h0 : n = 0
  · subst h0
    obtain rfl : xs = [] := List.eq_nil_of_length_eq_zero hlen
    have hq : rtb s [] = !s := by
      unfold rtb
      rw [M.val_nil, M.lims_zero]
      cases s <;> simp [zv]
    rw [hq]
    exact (right_nil s A c w).mono fun e w' r => ⟨_, r.1, r.2, rfl⟩
  · obtain ⟨l, hll⟩ : ∃ l, xs[n - 1]? = some l := ⟨_, List.getElem?_eq_getElem (by omega)⟩
    have hlast : xs.getLast? = some l := by rw [List.getLast?_eq_getElem?, hlen]; exact hll
    have hq : rtb s xs = ((l : Int) != 0) := by
      by_cases hl0 : l = 0
      · subst hl0
        have : ¬ xs = M.lims (M.val xs) := fun e => lims_last (M.val xs) 0 (by rw [← e]; exact hlast) rfl
        unfold rtb
        rw [decide_eq_false this, Bool.and_false]
        rfl
      · have e : M.lims (M.val xs) = xs := by
          refine M.lims_val r.Lim ?_
          obtain ⟨ys, rfl⟩ : ∃ ys, xs = ys ++ [l] := List.getLast?_eq_some_iff.1 hlast
          exact M.tr_snoc_pos ys hl0
        have hv : M.val xs ≠ 0 := by
          intro h
          rw [h, M.lims_zero] at e
          rw [← e] at hlen
          simp at hlen
          omega
        unfold rtb
        rw [e, decide_eq_true (rfl : xs = xs), Bool.and_true]
        have h1 : (s == decide (zv s (M.val xs) < 0)) = true := by
          cases s
          · rw [zv_false, decide_eq_false (by omega)]; rfl
          · rw [zv_true, decide_eq_true (by omega)]; rfl
        have h2 : ((l : Int) != 0) = true := by simp; omega
        rw [h1, h2]
    have := right_last s r (by omega) (by omega) hll
    rw [← hq] at this
    exact this.mono fun e w' r => ⟨_, r.1, r.2, rfl⟩

theorem cRefRightW (h : IsW w v s xs k) (hk : k ≤ 1000) : Calls Try.prog 27 #[v] w (Ans w fun _ v => v = .bool (rtb s xs)) := by
  obtain ⟨A, n, c, rfl, r, hl⟩ := h
  have X : IsW (w.alloc (.cells #[.bool s, .slice A n c] 32)).drew (.agg #[.bool s, .slice A n c]) s xs k := ⟨A, n, c, rfl, r.below (Below.drew (bl_alloc w _)), hl⟩
  have PA := (Bz.new w s A n c).drew
  have BB := Below.drew (bl_alloc w (.cells #[.bool s, .slice A n c] 32))
  have HE := Lib.hid (show ((s == decide (zv s (M.val xs) < 0)) && decide (xs = M.lims (zv s (M.val xs)).natAbs)) = rtb s xs by unfold rtb; rw [zv_abs])
  clear r
  go_enter Try.func27, Try.ntmps27
  go_wp2_with fail
  go_region_held3 (fun w' => w'.cell? ⟨w.heap.size, 0, none⟩ = some (.bool s) ∧ w'.cell? ⟨w.heap.size, 1, none⟩ = some (.slice A n c))
    (first | exact ⟨PA.c0, PA.c1⟩)
    (first
      | (go_at_call 33; refine (cRefMade X.m hk).mono ?_; rintro e w1 ⟨_, rfl, hb1, q1⟩; replace PA := PA.below hb1; replace X := X.below hb1; replace BB := bl_trans BB hb1; clear hb1)
      | (go_at_call 15; refine (cSameW X q1.raw hk hk).mono ?_; rintro e w2 ⟨_, rfl, hb2, rfl⟩; replace PA := PA.below hb2; replace BB := bl_trans BB hb2; clear hb2))
  go_wp2_with fail
  go_ret
  exact ⟨_, rfl, BB, by rw [← HE.out]; rfl⟩
end

end Go.Proofs.Ythjgonfohjgfaaa
