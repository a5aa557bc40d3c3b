/- litmusref02's functions: Mul, Add, Sub, Sign, Cmp, Right. -/
import Derived.Test.YthjgonfohjgfaaaZRefA
namespace Go.Proofs.Ythjgonfohjgfaaa
open Go.RowKit
set_option linter.unusedVariables false
set_option maxRecDepth 100000

section
variable {w w' : World} {v v' : Value} {s t : Bool} {A B : Option Addr} {n c m d x y k j : Nat} {z u : Int}
set_option maxHeartbeats 2000000

theorem zv_mul (s t : Bool) (x y : Nat) : zv (s != t) (x * y) = zv s x * zv t y := by
  cases s <;> cases t <;> simp [zv, Int.natCast_mul, Int.neg_mul, Int.mul_neg]

theorem cRefMul (h : IsM w v z k) (g : IsM w v' u j) (hk : k ≤ 500) (hj : j ≤ 500) : Calls Try.prog 21 #[v, v'] w (Ans w fun w' v => IsT w' v (z * u) (k + j)) := by
  obtain ⟨s, A, n, c, rfl, Z⟩ := h
  obtain ⟨x, h, rfl⟩ := Z.row
  obtain ⟨t, B, m, d, rfl, Z'⟩ := g
  obtain ⟨y, g, rfl⟩ := Z'.row
  rw [← zv_mul]
  have X := (((h.alloc (.cells #[.bool s, .slice A n c] 32)).alloc (.cells #[.bool t, .slice B m d] 32)).alloc (.cells #[.bool false, .slice none 0 0] 32)).below (Below.drew (Below.refl _ _))
  have Y := (((g.alloc (.cells #[.bool s, .slice A n c] 32)).alloc (.cells #[.bool t, .slice B m d] 32)).alloc (.cells #[.bool false, .slice none 0 0] 32)).below (Below.drew (Below.refl _ _))
  have PA := (((Bz.new w s A n c).alloc (.cells #[.bool t, .slice B m d] 32)).alloc (.cells #[.bool false, .slice none 0 0] 32)).drew
  have PB := ((Bz.new2 w (.cells #[.bool s, .slice A n c] 32) t B m d).alloc (.cells #[.bool false, .slice none 0 0] 32)).drew
  have PR := (Bz.new3 w (.cells #[.bool s, .slice A n c] 32) (.cells #[.bool t, .slice B m d] 32) false none 0 0).drew
  have BB := Below.drew (bl_trans (bl_trans (bl_alloc w (.cells #[.bool s, .slice A n c] 32)) (bl_alloc _ (.cells #[.bool t, .slice B m d] 32))) (bl_alloc _ (.cells #[.bool false, .slice none 0 0] 32)))
  clear Z Z' h g
  go_enter Try.func21, Try.ntmps21
  go_wp2_with fail
  go_region_held3 (fun w' => w'.cell? ⟨w.heap.size, 0, none⟩ = some (.bool s) ∧ w'.cell? ⟨w.heap.size, 1, none⟩ = some (.slice A n c) ∧ w'.cell? ⟨w.heap.size + 1, 0, none⟩ = some (.bool t) ∧ w'.cell? ⟨w.heap.size + 1, 1, none⟩ = some (.slice B m d))
    (first | exact ⟨(PA.st2 (by omega)).c0, (PA.st2 (by omega)).c1, (PB.st2 (by omega)).c0, (PB.st2 (by omega)).c1⟩ | exact ⟨PA.c0, PA.c1, PB.c0, PB.c1⟩)
    (first
      | (go_at_call 64; refine (mulRN X Y (by omega) (by omega)).mono ?_; rintro e w1 ⟨A1, n1, c1, rfl, T1, hb1⟩; replace PA := PA.below hb1; replace PB := PB.below hb1; replace PR := PR.below hb1; replace BB := bl_trans BB hb1; clear hb1)
      | (go_at_call 58; refine (cRefOf (s != t) T1.nm (by omega)).mono ?_; rintro e w2 ⟨_, rfl, hb2, b2, A2, n2, c2, rfl, T2, hn⟩; replace PA := PA.below hb2; replace PB := PB.below hb2; replace PR := PR.below hb2; replace BB := bl_trans BB hb2; have r0 := PR.c0; have r1 := PR.c1; have f0 := PR.f 0; have f1 := PR.f 1; have HN := Lib.hid hn; clear hb2 hn))
  go_wp2_with fail
  exact bodyPost_ret (v := .agg #[.bool b2, .slice A2 n2 c2]) (by simp [results, Try.results21, go_sem, *]) rfl (IsT.fin ⟨_, _, _, _, rfl, T2, HN.out⟩ PR BB (by omega))
end

end Go.Proofs.Ythjgonfohjgfaaa
