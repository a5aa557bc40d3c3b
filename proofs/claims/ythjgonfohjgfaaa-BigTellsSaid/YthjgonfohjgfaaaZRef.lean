/- litmusref02's functions: Of, Made, Neg. -/
import Derived.Test.YthjgonfohjgfaaaZX
import Derived.Test.YthjgonfohjgfaaaMN
namespace Go.Proofs.Ythjgonfohjgfaaa
open Go.RowKit
set_option linter.unusedVariables false
set_option maxRecDepth 100000

section
variable {w w' : World} {v : Value} {s : Bool} {A : Option Addr} {n c x k : Nat} {z : Int}
set_option maxHeartbeats 1000000

theorem isT_signed (h : Tm w A n c x k) : IsT w (.agg #[.bool (s && decide (0 < n)), .slice A n c]) (zv s x) k := by
  refine ⟨_, _, _, _, rfl, ⟨by rw [zv_abs]; exact h.rd, h.le⟩, ?_⟩
  have hl := h.len
  have h0 : 0 < n ↔ x ≠ 0 := by rw [← hl, List.length_pos_iff, ne_eq, M.lims_eq_nil]
  cases s
  · rw [zv_false, Bool.false_and]
    exact (decide_eq_false (by omega)).symm
  · rw [zv_true, Bool.true_and, decide_eq_decide, h0]
    omega
/-- Behind the store of a result: what was answered stands. -/
theorem IsT.fin {W : World} {g : Nat} {b : Bool} {z : Int} (h : IsT W (.agg #[.bool b, .slice A n c]) z k) (P : Bz W g false none 0 0) (hb : Below w.heap.size w W) (hg : w.heap.size ≤ g) :
    Ans w (fun w' v => IsT w' v z k) (.returned (.agg #[.bool b, .slice A n c])) ((W.setCell ⟨g, 0, none⟩ (.bool b)).setCell ⟨g, 1, none⟩ (.slice A n c)) :=
  ⟨_, rfl, (hb.setCell (p := ⟨g, 0, none⟩) hg _).setCell (p := ⟨g, 1, none⟩) hg _, xT (N' := 0) _ undef _ _ _ (belU_store (N := 0) (t := b) (B := A) (m := n) (d := c) P (Nat.zero_le _)).1 (fun _ e => by cases e) h⟩

theorem cRefOf (s : Bool) (h : Nm w A n c x k) (hk : k ≤ 1000) : Calls Try.prog 58 #[.bool s, .slice A n c] w (Ans w fun w' v => IsT w' v (zv s x) k) := by
  have X := h.alloc (.cells #[.bool false, .slice none 0 0] 32)
  cases s
  all_goals
    go_enter Try.func58, Try.ntmps58
    go_wp2_with fail
    refine (trimRN X hk).mono ?_
    rintro e w1 ⟨A1, n1, c1, rfl, T, hb1⟩
    have P := (Bz.new w false none 0 0).below hb1
    have BB := bl_trans (bl_alloc w _) hb1
    have r0 := P.c0
    have r1 := P.c1
    have f0 := P.f 0
    have f1 := P.f 1
    clear hb1 X h
    go_wp2_with fail
    first
      | exact bodyPost_ret (v := .agg #[.bool (false && decide (0 < n1)), .slice A1 n1 c1]) (by simp [results, Try.results58, go_sem, *]) rfl (IsT.fin (isT_signed (s := false) T) P BB (Nat.le_refl _))
      | exact bodyPost_ret (v := .agg #[.bool (true && decide (0 < n1)), .slice A1 n1 c1]) (by simp [results, Try.results58, go_sem, *]) rfl (IsT.fin (isT_signed (s := true) T) P BB (Nat.le_refl _))

theorem cRefMade (h : IsM w v z k) (hk : k ≤ 1000) : Calls Try.prog 33 #[v] w (Ans w fun w' v => IsT w' v z k) := by
  obtain ⟨s, A, n, c, rfl, Z⟩ := h
  obtain ⟨x, h, rfl⟩ := Z.row
  have X := (h.alloc (.cells #[.bool s, .slice A n c] 32)).alloc (.cells #[.bool false, .slice none 0 0] 32)
  have P := Bz.new2 w (.cells #[.bool s, .slice A n c] 32) false none 0 0
  have BB := bl_trans (bl_alloc w (.cells #[.bool s, .slice A n c] 32)) (bl_alloc _ (.cells #[.bool false, .slice none 0 0] 32))
  clear Z
  go_enter Try.func33, Try.ntmps33
  go_wp2_with fail
  refine (cRefOf s X hk).mono ?_
  rintro e w1 ⟨_, rfl, hb1, b1, A1, n1, c1, rfl, T, hn⟩
  replace P := P.below hb1
  replace BB := bl_trans BB hb1
  have r0 := P.c0
  have r1 := P.c1
  have f0 := P.f 0
  have f1 := P.f 1
  have HN := Lib.hid hn
  clear hb1 X h hn
  go_wp2_with fail
  exact bodyPost_ret (v := .agg #[.bool b1, .slice A1 n1 c1]) (by simp [results, Try.results33, go_sem, *]) rfl (IsT.fin ⟨_, _, _, _, rfl, T, HN.out⟩ P BB (by omega))

theorem cRefNeg (h : IsM w v z k) (hk : k ≤ 1000) : Calls Try.prog 31 #[v] w (Ans w fun w' v => IsT w' v (-z) k) := by
  obtain ⟨s, A, n, c, rfl, Z⟩ := h
  obtain ⟨x, h, rfl⟩ := Z.row
  rw [← zv_not]
  have X := (h.alloc (.cells #[.bool s, .slice A n c] 32)).alloc (.cells #[.bool false, .slice none 0 0] 32)
  have P := Bz.new2 w (.cells #[.bool s, .slice A n c] 32) false none 0 0
  have BB := bl_trans (bl_alloc w (.cells #[.bool s, .slice A n c] 32)) (bl_alloc _ (.cells #[.bool false, .slice none 0 0] 32))
  clear Z
  go_enter Try.func31, Try.ntmps31
  go_wp2_with fail
  refine (cRefOf (!s) X hk).mono ?_
  rintro e w1 ⟨_, rfl, hb1, b1, A1, n1, c1, rfl, T, hn⟩
  replace P := P.below hb1
  replace BB := bl_trans BB hb1
  have r0 := P.c0
  have r1 := P.c1
  have f0 := P.f 0
  have f1 := P.f 1
  have HN := Lib.hid hn
  clear hb1 X h hn
  go_wp2_with fail
  exact bodyPost_ret (v := .agg #[.bool b1, .slice A1 n1 c1]) (by simp [results, Try.results31, go_sem, *]) rfl (IsT.fin ⟨_, _, _, _, rfl, T, HN.out⟩ P BB (by omega))
end

end Go.Proofs.Ythjgonfohjgfaaa
