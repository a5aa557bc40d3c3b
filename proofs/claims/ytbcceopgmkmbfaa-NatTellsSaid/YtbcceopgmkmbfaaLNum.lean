/- The contracts of nat's functions once more, in numbers alone: what the laws' walks go by. -/
import Derived.Test.YtbcceopgmkmbfaaLBase
import Derived.Test.YtbcceopgmkmbfaaWSub
namespace Go.Proofs.Ytbcceopgmkmbfaa
open Go.RowKit
set_option linter.unusedVariables false

/-- A slice of at most k limbs whose number is v. -/
structure Nm (w : World) (A : Option Addr) (n c v k : Nat) : Prop where
  row : ∃ xs, Rd w A n c xs ∧ M.val xs = v
  le : n ≤ k
/-- .. that is trimmed. -/
structure Tm (w : World) (A : Option Addr) (n c v k : Nat) : Prop where
  rd : Rd w A n c (M.lims v)
  le : n ≤ k

section
variable {w w' : World} {A B : Option Addr} {n c m d v x y k j : Nat}
theorem Nm.below (h : Nm w A n c v k) (hb : Below w.heap.size w w') : Nm w' A n c v k := by
  obtain ⟨xs, h1, h2⟩ := h.row
  exact ⟨⟨xs, h1.below hb, h2⟩, h.le⟩
theorem Tm.below (h : Tm w A n c v k) (hb : Below w.heap.size w w') : Tm w' A n c v k := ⟨h.rd.below hb, h.le⟩
theorem Tm.nm (h : Tm w A n c v k) : Nm w A n c v k := ⟨⟨_, h.rd, M.val_lims v⟩, h.le⟩
theorem Nm.lt (h : Nm w A n c v k) : v < M.R ^ k := by
  obtain ⟨xs, h1, rfl⟩ := h.row
  exact M.val_lt_pow h1.Lim (by rw [h1.len]; exact h.le)
theorem Tm.len (h : Tm w A n c v k) : (M.lims v).length = n := h.rd.len
theorem Nm.alloc (h : Nm w A n c v k) (o : Obj) : Nm (w.alloc o) A n c v k := h.below (bl_alloc w o)
theorem Tm.alloc (h : Tm w A n c v k) (o : Obj) : Tm (w.alloc o) A n c v k := h.below (bl_alloc w o)

/-- A call answers a new trimmed row of this number. -/
def GivN (w : World) (v k : Nat) (e : Ending) (w' : World) : Prop := ∃ A n c, e = .returned (.slice A n c) ∧ Tm w' A n c v k ∧ Below w.heap.size w w'

theorem givN (h : v < M.R ^ k) {e : Ending} (hg : Gives w (M.lims v) e w') : GivN w v k e w' := by
  obtain ⟨A, c, rfl, ho, hb⟩ := hg
  exact ⟨A, _, c, rfl, ⟨ho.rd, M.lims_length_le.2 h⟩, hb⟩

theorem add_lt_pow {x y a b : Nat} (hx : x < M.R ^ a) (hy : y < M.R ^ b) : x + y < M.R ^ (max a b + 1) := by
  have h1 : M.R ^ a ≤ M.R ^ max a b := Nat.pow_le_pow_right M.R_pos (by omega)
  have h2 : M.R ^ b ≤ M.R ^ max a b := Nat.pow_le_pow_right M.R_pos (by omega)
  rw [Nat.pow_succ]
  have h3 : M.R ^ max a b * 2 ≤ M.R ^ max a b * M.R := Nat.mul_le_mul_left _ (by decide)
  omega
theorem mul_lt_pow {x y a b : Nat} (hx : x < M.R ^ a) (hy : y < M.R ^ b) : x * y < M.R ^ (a + b) := by
  rw [Nat.pow_add]
  exact Nat.mul_lt_mul'' hx hy

theorem addN (h : Nm w A n c x k) (g : Nm w B m d y j) (hk : k ≤ 1000) (hj : j ≤ 1000) : Calls Try.prog 24 #[.slice A n c, .slice B m d] w (GivN w (x + y) (max k j + 1)) := by
  have h1 := h.lt
  have g1 := g.lt
  have hl := h.le
  have gl := g.le
  obtain ⟨xs, hx, rfl⟩ := h.row
  obtain ⟨ys, hy, rfl⟩ := g.row
  exact (add_any _ _ _ _ _ _ _ _ _ hx hy (by omega) (by omega)).mono fun e w' r => givN (add_lt_pow h1 g1) r

theorem mulN (h : Nm w A n c x k) (g : Nm w B m d y j) (hk : k ≤ 1000) (hj : j ≤ 1000) (hm : min k j < 40) : Calls Try.prog 26 #[.slice A n c, .slice B m d] w (GivN w (x * y) (k + j)) := by
  have h1 := h.lt
  have g1 := g.lt
  have hl := h.le
  have gl := g.le
  obtain ⟨xs, hx, rfl⟩ := h.row
  obtain ⟨ys, hy, rfl⟩ := g.row
  have e1 := M.lims_length_le.2 h1
  have e2 := M.lims_length_le.2 g1
  exact (mul_few _ _ _ _ _ _ _ _ _ hx hy (by omega) (by omega) (by omega)).mono fun e w' r => givN (mul_lt_pow h1 g1) r

theorem trimN (h : Nm w A n c x k) (hk : k ≤ 1000) : Calls Try.prog 20 #[.slice A n c] w (GivN w x k) := by
  have h1 := h.lt
  have hl := h.le
  obtain ⟨xs, hx, rfl⟩ := h.row
  exact (trim_any _ _ _ _ _ hx (by omega)).mono fun e w' r => givN h1 r

theorem fromN (v : Nat) (w : World) (hv : v < 18446744073709551616) : Calls Try.prog 38 #[.int .u64 (v : Int)] w (GivN w v 2) := by
  have := from_any (v : Int) w (by omega) (by omega)
  rw [Int.toNat_natCast] at this
  exact this.mono fun e w' r => givN (k := 2) hv r

theorem cmpN (h : Nm w A n c x k) (g : Nm w B m d y j) (hk : k ≤ 1000) (hj : j ≤ 1000) : Calls Try.prog 22 #[.slice A n c, .slice B m d] w fun e w' => e = .returned (.int .i64 (cmpV x y)) ∧ Below w.heap.size w w' := by
  have hl := h.le
  have gl := g.le
  obtain ⟨xs, hx, rfl⟩ := h.row
  obtain ⟨ys, hy, rfl⟩ := g.row
  exact cmp_any _ _ _ _ _ _ _ _ _ hx hy (by omega) (by omega)

def GivB (w : World) (v k : Nat) (b : Bool) (e : Ending) (w' : World) : Prop := ∃ A n c, e = .returned (.tuple #[.slice A n c, .bool b]) ∧ Tm w' A n c v k ∧ Below w.heap.size w w'
theorem givB (h : v < M.R ^ k) {e : Ending} {b : Bool} (hg : GivesB w (M.lims v) b e w') : GivB w v k b e w' := by
  obtain ⟨A, c, rfl, ho, hb⟩ := hg
  exact ⟨A, _, c, rfl, ⟨ho.rd, M.lims_length_le.2 h⟩, hb⟩

theorem subN_yes (h : Nm w A n c x k) (g : Nm w B m d y j) (hk : k ≤ 1000) (hj : j ≤ 1000) (hle : y ≤ x) : Calls Try.prog 15 #[.slice A n c, .slice B m d] w (GivB w (x - y) k true) := by
  have h1 := h.lt
  have hl := h.le
  have gl := g.le
  obtain ⟨xs, hx, rfl⟩ := h.row
  obtain ⟨ys, hy, rfl⟩ := g.row
  refine (sub_any _ _ _ _ _ _ _ _ _ hx hy (by omega) (by omega)).mono fun e w' r => ?_
  rcases r with ⟨_, r⟩ | ⟨h0, r⟩
  · exact givB (by omega) r
  · omega
theorem subN_no (h : Nm w A n c x k) (g : Nm w B m d y j) (hk : k ≤ 1000) (hj : j ≤ 1000) (hlt : x < y) : Calls Try.prog 15 #[.slice A n c, .slice B m d] w (GivB w 0 0 false) := by
  have hl := h.le
  have gl := g.le
  obtain ⟨xs, hx, rfl⟩ := h.row
  obtain ⟨ys, hy, rfl⟩ := g.row
  refine (sub_any _ _ _ _ _ _ _ _ _ hx hy (by omega) (by omega)).mono fun e w' r => ?_
  rcases r with ⟨h0, r⟩ | ⟨_, r⟩
  · omega
  · have r' : GivesB w (M.lims 0) false e w' := by rw [M.lims_zero]; exact r
    exact givB (by decide) r'

theorem sameN (h : Tm w A n c x k) (g : Tm w B m d y j) (hk : k ≤ 1000) (hj : j ≤ 1000) : Calls Try.prog 35 #[.slice A n c, .slice B m d] w fun e w' => e = .returned (.bool (decide (x = y))) ∧ Below w.heap.size w w' := by
  have hl := h.le
  have gl := g.le
  refine (same_any _ _ _ _ _ _ _ _ _ h.rd g.rd (by omega) (by omega)).mono fun e w' r => ⟨?_, r.2⟩
  rw [r.1]
  have : decide (M.lims x = M.lims y) = decide (x = y) := by rw [decide_eq_decide, M.lims_inj]
  rw [this]
theorem sameN_yes (h : Tm w A n c x k) (g : Tm w B m d y j) (hk : k ≤ 1000) (hj : j ≤ 1000) (e : x = y) : Calls Try.prog 35 #[.slice A n c, .slice B m d] w fun e w' => e = .returned (.bool true) ∧ Below w.heap.size w w' := by
  refine (sameN h g hk hj).mono fun e' w' r => ⟨?_, r.2⟩
  rw [r.1, decide_eq_true e]
theorem sameN_no (h : Tm w A n c x k) (g : Tm w B m d y j) (hk : k ≤ 1000) (hj : j ≤ 1000) (e : x ≠ y) : Calls Try.prog 35 #[.slice A n c, .slice B m d] w fun e w' => e = .returned (.bool false) ∧ Below w.heap.size w w' := by
  refine (sameN h g hk hj).mono fun e' w' r => ⟨?_, r.2⟩
  rw [r.1, decide_eq_false e]

theorem textN (h : Nm w A n c x k) (hk : k ≤ 1000) : Calls Try.prog 28 #[.slice A n c] w (GivesT w (M.txt x)) := by
  have hl := h.le
  obtain ⟨xs, hx, rfl⟩ := h.row
  exact text_any _ _ _ _ _ hx (by omega)

/-- An argument, cut. -/
theorem fewN {xs : List Nat} (h : Rd w A n c xs) (hm : n ≤ maxLen) (k : Int) (h0 : 0 ≤ k) (h1 : k ≤ 100) : Calls Try.prog 14 #[.slice A n c, .int .i64 k] w fun e w' => (∃ n' v, e = .returned (.slice A n' c) ∧ Nm w A n' c v k.toNat) ∧ w = w' := by
  refine (few_any _ _ _ _ _ _ h hm h0 h1).mono fun e w' r => ?_
  obtain ⟨rfl, rfl⟩ := r
  exact ⟨⟨min n k.toNat, _, rfl, ⟨⟨_, h.take (by omega), rfl⟩, by omega⟩⟩, rfl⟩

theorem litN1 (w : World) (a : Nat) (v : Int) (hx : a < M.R) (hv : v = (a : Int)) : Nm (w.alloc (.cells #[.int .u32 v] 40)) (some ⟨w.heap.size, 0, none⟩) 1 1 a 1 := ⟨⟨_, lit1 w a v hx hv, by simp [M.val]⟩, Nat.le_refl _⟩
theorem litN2 (w : World) (a b : Nat) (v u : Int) (hx : a < M.R) (hy : b < M.R) (hv : v = (a : Int)) (hu : u = (b : Int)) : Nm (w.alloc (.cells #[.int .u32 v, .int .u32 u] 40)) (some ⟨w.heap.size, 0, none⟩) 2 2 (a + M.R * b) 2 := ⟨⟨_, lit2 w a b v u hx hy hv hu, by simp [M.val]⟩, Nat.le_refl _⟩
theorem nilN (w : World) : Nm w none 0 0 0 0 := ⟨⟨[], RdK.empty _ _ _ (fun _ => rfl), rfl⟩, Nat.le_refl _⟩
end

end Go.Proofs.Ytbcceopgmkmbfaa
