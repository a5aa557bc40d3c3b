/- The chapter's examples hold: litmuslaw01.works answers true, in every world, and changes nothing that was there. -/
import Derived.Test.YtbhgbilhoonopaaGreatME
import Derived.OpenShut
namespace Go.Proofs.YtbhgbilhoonopaaGreat
open Go.RowKit
set_option linter.unusedVariables false

theorem lit1 (w : World) (x : Nat) (v : Int) (hx : x < M.R) (hv : v = (x : Int)) : Rd (w.alloc (.cells #[.int .u32 v] 44)) (some ⟨w.heap.size, 0, none⟩) 1 1 [x] := by
  subst hv
  exact RdK.one (K := kU32) w x hx
theorem lit2 (w : World) (x y : Nat) (v u : Int) (hx : x < M.R) (hy : y < M.R) (hv : v = (x : Int)) (hu : u = (y : Int)) : Rd (w.alloc (.cells #[.int .u32 v, .int .u32 u] 44)) (some ⟨w.heap.size, 0, none⟩) 2 2 [x, y] := by
  subst hv hu
  exact (Rd.two w x y hx hy).rd
theorem lit3 (w : World) (x y z : Nat) (v u t : Int) (hx : x < M.R) (hy : y < M.R) (hz : z < M.R) (hv : v = (x : Int)) (hu : u = (y : Int)) (ht : t = (z : Int)) :
    Rd (w.alloc (.cells #[.int .u32 v, .int .u32 u, .int .u32 t] 44)) (some ⟨w.heap.size, 0, none⟩) 3 3 [x, y, z] := by
  subst hv hu ht
  have h : Own (w.alloc (.cells #[.int .u32 (x : Int), .int .u32 (y : Int), .int .u32 (z : Int)] 44)) w.heap.size (some ⟨w.heap.size, 0, none⟩) 3 3 [x, y, z] :=
    ⟨World.ownsRow_lit w #[.int .u32 (x : Int), .int .u32 (y : Int), .int .u32 (z : Int)] 3 (Nat.le_refl _) (by unfold maxLen; omega) rfl, M.Lim.cons hx (M.Lim.cons hy (M.Lim.cons hz M.Lim.nil))⟩
  exact h.rd

theorem bl_alloc (w : World) (o : Obj) : Below w.heap.size w (w.alloc o) := (Below.refl _ _).alloc (Nat.le_refl _) o
theorem bl_trans {a b c : World} (h : Below a.heap.size a b) (k : Below b.heap.size b c) : Below a.heap.size a c := h.trans (k.mono h.size)

theorem lims_lit1 (x : Nat) (h : x < M.R) (h0 : x ≠ 0) : M.lims x = [x] := by
  have := M.lims_snoc (ds := []) M.Lim.nil h h0
  rw [M.val_nil, List.length_nil, Nat.pow_zero, Nat.one_mul, Nat.zero_add, List.nil_append] at this
  exact this
theorem lims_lit2 (x y v : Nat) (hx : x < M.R) (hy : y < M.R) (h0 : y ≠ 0) (e : v = x + M.R * y) : M.lims v = [x, y] := by
  have := M.lims_snoc (ds := [x]) (M.Lim.cons hx M.Lim.nil) hy h0
  rw [M.val_cons, M.val_nil, Nat.mul_zero, Nat.add_zero, List.length_singleton, Nat.pow_one] at this
  rw [e, this]
  rfl

theorem lims_lit3 (x y z v : Nat) (hx : x < M.R) (hy : y < M.R) (hz : z < M.R) (h0 : z ≠ 0) (e : v = x + M.R * (y + M.R * z)) : M.lims v = [x, y, z] := by
  have := M.lims_snoc (ds := [x, y]) (M.Lim.cons hx (M.Lim.cons hy M.Lim.nil)) hz h0
  rw [M.val_cons, M.val_cons, M.val_nil, Nat.mul_zero, Nat.add_zero] at this
  have e2 : M.R ^ [x, y].length = M.R * M.R := by show M.R ^ 2 = _; rw [Nat.pow_succ, Nat.pow_one]
  rw [e2] at this
  have e3 : v = x + M.R * y + M.R * M.R * z := by rw [e, Nat.mul_add, Nat.mul_assoc]; omega
  rw [e3, this]
  rfl

theorem big_dec : M.dec 0 (M.bytes ⟨#[49, 56, 52, 52, 54, 55, 52, 52, 48, 55, 51, 55, 48, 57, 53, 53, 49, 54, 49, 54]⟩) = 18446744073709551616 := by decide
theorem lows_dec (x : Nat) (hx : 49 ≤ x) (hx' : x ≤ 57) (r : List Nat) (h : M.Dig r) : M.lows (M.dec 0 (x :: r.reverse)) = r ++ [x] ∧ M.dec 0 (x :: r.reverse) ≠ 0 := by
  induction r with
  | nil =>
    rw [List.reverse_nil, M.dec_cons, M.dec_nil]
    have h0 : 0 * 10 + (x - 48) ≠ 0 := by omega
    refine ⟨?_, h0⟩
    rw [M.lows_pos h0, show (0 * 10 + (x - 48)) / 10 = 0 by omega, M.lows_zero, show 48 + (0 * 10 + (x - 48)) % 10 = x by omega]
    rfl
  | cons y r ih =>
    obtain ⟨ih1, ih2⟩ := ih fun z hz => h z (by simp [hz])
    have hy := h y (by simp)
    have e : x :: (y :: r).reverse = (x :: r.reverse) ++ [y] := by simp
    rw [e, M.dec_snoc]
    generalize M.dec 0 (x :: r.reverse) = V at *
    have h0 : V * 10 + (y - 48) ≠ 0 := by omega
    refine ⟨?_, h0⟩
    rw [M.lows_pos h0, show (V * 10 + (y - 48)) / 10 = V by omega, ih1, show 48 + (V * 10 + (y - 48)) % 10 = y by omega]
    rfl

theorem txt_dec {l : List Nat} (h : M.Digits l) : M.txt (M.dec 0 l) = l := by
  obtain ⟨h1, h2, h3⟩ := h
  cases l with
  | nil => exact absurd rfl h1
  | cons x m =>
    by_cases hx : x = 48
    · have hm := h2 (by rw [hx]; rfl)
      have : m = [] := List.eq_nil_of_length_eq_zero (by simpa using hm)
      subst this
      subst hx
      rfl
    · have hxd := h3 x (by simp)
      have := lows_dec x (by omega) (by omega) m.reverse (fun z hz => h3 z (by simp at hz; simp [hz]))
      rw [List.reverse_reverse] at this
      unfold M.txt
      rw [if_neg this.2, this.1]
      simp

theorem text_01 : M.txt (M.val [0, 1]) = [52, 50, 57, 52, 57, 54, 55, 50, 57, 54] := by
  have h : M.val [0, 1] = M.dec 0 [52, 50, 57, 52, 57, 54, 55, 50, 57, 54] := by decide
  rw [h]
  exact txt_dec (by decide)

end Go.Proofs.YtbhgbilhoonopaaGreat

/- What the laws' walks share: arguments as rows; Small of any row. -/
namespace Go.Proofs.YtbhgbilhoonopaaGreat
open Go.RowKit
set_option linter.unusedVariables false

/-- An argument that is a slice of 32-bit numbers, as the row's frame opens it, is a row of limbs. -/
theorem rd_of_row {w : World} {a : Option Addr} {len cap : Nat} {zs : List Int} (h : (a = none ∧ len = 0 ∧ cap = 0 ∧ zs = []) ∨
    ∃ x, a = some x ∧ len ≤ cap ∧ cap ≤ maxLen ∧ zs.length = cap ∧ (∀ i, i < zs.length → w.cell? (x.add i) = some (.int .u32 (zs.getD i 0))) ∧ ∀ n ∈ zs, (Lit.int .u32 n).wf = true) :
    Rd w a len cap ((zs.take len).map Int.toNat) ∧ len ≤ maxLen := by
  rcases h with ⟨rfl, rfl, rfl, rfl⟩ | ⟨x, rfl, hl, hm, hz, hc, hwf⟩
  · exact ⟨RdK.empty _ _ _ fun _ => rfl, Nat.zero_le _⟩
  · refine ⟨⟨by rw [List.length_map, List.length_take, hz]; omega, hl, (fun e => by cases e), fun y hy => ?_, fun hn => ?_⟩, Nat.le_trans hl hm⟩
    · obtain ⟨z, hz', rfl⟩ := List.mem_map.1 hy
      have := hwf z (List.mem_of_mem_take hz')
      have hb := bounds_u32 this
      show z.toNat < M.R
      rw [M.R_eq]
      omega
    · obtain ⟨b, off, spot⟩ := x
      have hc0 := hc 0 (by omega)
      have hspot : spot = none := by simpa [Addr.add] using World.cell?_spot hc0
      subst hspot
      refine ⟨b, off, rfl, fun i y hy => ?_⟩
      rw [List.getElem?_map] at hy
      cases hzi : (zs.take len)[i]? with
      | none => rw [hzi] at hy; cases hy
      | some z =>
        rw [hzi] at hy
        cases hy
        have hil : i < len := by
          have := (List.getElem?_eq_some_iff.1 hzi).1
          rw [List.length_take] at this
          omega
        rw [List.getElem?_take, if_pos hil] at hzi
        have h1 := hc i (by omega)
        rw [Addr.add_lit] at h1
        rw [h1, List.getD_eq_getElem?_getD, hzi]
        have hb := bounds_u32 (hwf z (List.mem_of_getElem? hzi))
        simp only [kU32, Option.getD_some]
        rw [Int.toNat_of_nonneg hb.1]

/-- What Small answers. -/
def sv (v : Nat) : Nat := if v < 18446744073709551616 then v else 0
def sb (v : Nat) : Bool := decide (v < 18446744073709551616)
theorem sv_yes {v : Nat} (h : v < 18446744073709551616) : sv v = v := if_pos h
theorem sv_no {v : Nat} (h : ¬ v < 18446744073709551616) : sv v = 0 := if_neg h
theorem sb_yes {v : Nat} (h : v < 18446744073709551616) : sb v = true := decide_eq_true h
theorem sb_no {v : Nat} (h : ¬ v < 18446744073709551616) : sb v = false := decide_eq_false h

theorem small_any (A : Option Addr) (n c : Nat) (xs : List Nat) (w : World) (h : Rd w A n c xs) (hm : n ≤ 4194304) :
    Calls Tryz.prog 131 #[.slice A n c] w fun e w' => e = .returned (.tuple #[.int .u64 (sv (M.val xs) : Nat), .bool (sb (M.val xs))]) ∧ w = w' := by
  by_cases hv : M.val xs < 18446744073709551616
  · rw [sv_yes hv, sb_yes hv]
    exact small_yes A n c xs w h hm hv
  · rw [sv_no hv, sb_no hv]
    exact small_no A n c xs w h hm hv

end Go.Proofs.YtbhgbilhoonopaaGreat
