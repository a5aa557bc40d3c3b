/- slices.Reverse of bytes, nat.digitTaker, nat.Text: for every row of limbs (of 10^5 at most). -/
import Derived.Test.YtbcceopgmkmbfaaWTaker
import Derived.Laws.BytesArg
namespace Go.Proofs.Ytbcceopgmkmbfaa
open Go.RowKit
set_option linter.unusedVariables false

def kU8 : Kd Nat := ⟨fun x => .int .u8 (x : Int), fun x => x < 256, 5, 36, 0, 1, fun _ => rfl, Try.underlying36, by kernel_rfl, rfl, by decide⟩

theorem grownBy_same {a b c : World} {g : Nat} (h : a.grownBy b (some g)) (k : b.grownBy c (some g)) : a.grownBy c (some g) :=
  ⟨k.os.trans h.os, k.tape.trans h.tape, k.output.trans h.output, Nat.le_trans h.size k.size, fun i hi hn => (k.block i (by have := h.size; omega) hn).trans (h.block i hi hn)⟩
theorem grownBy_drew {a b : World} {r : Option Nat} (h : a.grownBy b r) : a.grownBy b.drew r := ⟨h.os, h.tape, h.output, h.size, h.block⟩

/-- The row, its first and last k elements turned round. -/
def Rev (xs ys : List Nat) (n k : Nat) : Prop := ys.length = n ∧ ∀ i, i < n → ys[i]? = if i < k ∨ n - k ≤ i then xs[n - 1 - i]? else xs[i]?

theorem Rev.start {xs : List Nat} {n : Nat} (h : xs.length = n) : Rev xs xs n 0 := ⟨h, fun i hi => by rw [if_neg (by omega)]⟩

theorem Rev.step {xs ys : List Nat} {n k x y : Nat} (h : Rev xs ys n k) (hk : k < n - 1 - k) (hx : xs[k]? = some x) (hy : xs[n - 1 - k]? = some y) : Rev xs ((ys.set k y).set (n - 1 - k) x) n (k + 1) := by
  refine ⟨by simp [h.1], fun i hi => ?_⟩
  rw [List.getElem?_set, List.getElem?_set, List.length_set, h.1]
  by_cases h1 : n - 1 - k = i
  · rw [if_pos h1, if_pos (by omega), if_pos (by omega), ← h1, show n - 1 - (n - 1 - k) = k by omega, hx]
  · rw [if_neg h1]
    by_cases h2 : k = i
    · rw [if_pos h2, if_pos (by omega), if_pos (by omega), ← h2, hy]
    · rw [if_neg h2, h.2 i hi]
      by_cases h3 : i < k ∨ n - k ≤ i
      · rw [if_pos h3, if_pos (by omega)]
      · rw [if_neg h3, if_neg (by omega)]

theorem Rev.done {xs ys : List Nat} {n k : Nat} (h : Rev xs ys n k) (hl : xs.length = n) (hk : n - 1 ≤ 2 * k) : ys = xs.reverse := by
  apply List.ext_getElem?
  intro i
  by_cases hi : i < n
  · rw [h.2 i hi, List.getElem?_reverse (by omega), hl]
    by_cases h3 : i < k ∨ n - k ≤ i
    · rw [if_pos h3]
    · rw [if_neg h3, show n - 1 - i = i by omega]
  · rw [List.getElem?_eq_none (by rw [h.1]; omega), List.getElem?_eq_none (by rw [List.length_reverse]; omega)]

theorem Rev.get {xs ys : List Nat} {n k i : Nat} (h : Rev xs ys n k) (hi : i < n) (h1 : k ≤ i) (h2 : i < n - k) : ys[i]? = xs[i]? := by
  rw [h.2 i hi, if_neg (by omega)]

def Revd (w : World) (base g n c : Nat) (xs : List Nat) (e : Ending) (w' : World) : Prop :=
  e = .returned (.tuple #[]) ∧ OwK kU8 w' base (some ⟨g, 0, none⟩) n c xs ∧ w.grownBy w' (some g)

set_option maxHeartbeats 2000000 in
theorem reverse_any (base g n c : Nat) (xs : List Nat) (w : World) (h : OwK kU8 w base (some ⟨g, 0, none⟩) n c xs) (hn : n ≤ 1048576) :
    Calls Try.prog 56 #[.slice (some ⟨g, 0, none⟩) n c] w (Revd w base g n c xs.reverse) := by
  have H := Lib.hid h
  clear h
  go_enter Try.func56, Try.ntmps56
  go_wp2
  go_loopw [2, 3] (fun p q wr => ∃ (k : Nat) (ys : List Nat), 2 * k ≤ n ∧ p = .int .i64 k ∧ q = .int .i64 ((n : Int) - 1 - k) ∧ Rev xs ys n k ∧ OwK kU8 wr base (some ⟨g, 0, none⟩) n c ys ∧ w.grownBy wr (some g)) (fun p _ _ => n - (intOf p).toNat)
  case atStart => exact ⟨0, xs, by omega, rfl, by go_num, Rev.start H.out.len, H.out, World.grownBy.refl w _⟩
  case round =>
    obtain ⟨k, ys, hk, rfl, rfl, hv, ho, hg⟩ := hrel
    have HV := Lib.hid hv
    have HO := Lib.hid ho
    have HG := Lib.hid hg
    clear hv ho hg
    by_cases hlt : (k : Int) < (n : Int) - 1 - k
    · obtain ⟨x, hx⟩ : ∃ x, xs[k]? = some x := ⟨_, List.getElem?_eq_getElem (by rw [H.out.len]; omega)⟩
      obtain ⟨y, hy⟩ : ∃ y, xs[n - 1 - k]? = some y := ⟨_, List.getElem?_eq_getElem (by rw [H.out.len]; omega)⟩
      have c1 := HO.out.cellAt ((HV.out.get (i := k) (by omega) (by omega) (by omega)).trans hx)
      have c2 := HO.out.cellAt ((HV.out.get (i := n - 1 - k) (by omega) (by omega) (by omega)).trans hy)
      have f1 := HO.out.frozenAt k
      have f2 := HO.out.frozenAt (n - 1 - k)
      simp only [kU8] at c1 c2
      have hxl : x < 256 := H.out.lim x (List.mem_of_getElem? hx)
      have hyl : y < 256 := H.out.lim y (List.mem_of_getElem? hy)
      have hst := HV.out.step (by omega) hx hy
      obtain ⟨ho2, hg2⟩ := HO.out.set_ k y hyl
      obtain ⟨ho3, hg3⟩ := ho2.set_ (n - 1 - k) x hxl
      have hj : ((n : Int) - 1 - k).toNat = n - 1 - k := by omega
      have HST := Lib.hid hst
      have HO3 := Lib.hid ho3
      have HG2 := Lib.hid hg2
      have HG3 := Lib.hid hg3
      clear hst ho2 ho3 hg2 hg3 hx hy
      go_wp2
      go_region
      go_wp2
      go_roundw
      case rel => exact ⟨k + 1, _, by omega, by go_num, by go_num, HST.out, HO3.out.drew, grownBy_drew (grownBy_same (grownBy_same HG.out HG2.out) HG3.out)⟩
      case measure => simp [intOf]; omega
    · have HD := Lib.hid (HV.out.done H.out.len (by omega))
      go_wp2
      go_end0
      exact ⟨rfl, by rw [← HD.out]; exact HO.out, HG.out⟩

/-- A taker of digits as a value. -/
def takerV (Bc Br Bl : Nat) : Value := .func (.func 71) #[] #[.pointer (some ⟨Bc, 0, none⟩), .pointer (some ⟨Br, 0, none⟩), .pointer (some ⟨Bl, 0, none⟩)]

def GivesTaker (w : World) (T : Nat) (e : Ending) (w' : World) : Prop :=
  ∃ Bc Br Bl, e = .returned (.func (.func 71) #[] #[.pointer (some ⟨Bc, 0, none⟩), .pointer (some ⟨Br, 0, none⟩), .pointer (some ⟨Bl, 0, none⟩)]) ∧ Tk w' w.heap.size Bc Br Bl T ∧ Bc < w'.heap.size ∧ Below w.heap.size w w'

set_option maxHeartbeats 1000000 in
theorem digitTaker_any (A : Option Addr) (n c : Nat) (xs : List Nat) (w : World) (h : Rd w A n c xs) (hn : n ≤ 1048576) :
    Calls Try.prog 55 #[.slice A n c] w (GivesTaker w (M.val xs)) := by
  have H := Lib.hid h
  have hlx : (M.lims (M.val xs)).length ≤ 1048576 := by have := M.lims_val_length_le h.Lim; rw [h.len] at this; omega
  clear h
  obtain ⟨nx, hnx⟩ : ∃ nx, (M.lims (M.val xs)).length = nx := ⟨_, rfl⟩
  rw [hnx] at hlx
  have HNX := Lib.hid hnx
  clear hnx
  go_enter Try.func55, Try.ntmps55
  go_wp2_with fail
  refine (trim_any _ _ _ _ _ H.out (by omega)).mono ?_
  rw [Gives_len HNX.out]
  rintro e w1 ⟨A1, c1, rfl, ho1, hb1⟩
  have HO1 := Lib.hid ho1
  have HB1 := Lib.hid hb1
  clear ho1 hb1
  go_wp2
  go_ret
  refine ⟨w1.heap.size + 1 + 1, w1.heap.size, w1.heap.size + 1, rfl, ⟨HB1.out.size, by omega, by omega, 0, 0, M.val xs, nx, c1, A1, ?_, ?_, ?_, HNX.out, hlx, ?_, fun p hp => (HO1.out.lt hp).2, by omega, by simp, by simp, fun h => by omega⟩, by simp, ?_⟩
  · have := Bx.new ((w1.alloc (.cells #[.slice A1 nx c1] 22)).alloc (.cells #[.int .u32 0] 40)) 3 (.int .i64 0)
    simpa using this
  · exact ((Bx.new w1 22 (.slice A1 nx c1)).alloc _).alloc _
  · have := (Bx.new (w1.alloc (.cells #[.slice A1 nx c1] 22)) 40 (.int .u32 0)).alloc (.cells #[.int .i64 0] 3)
    simpa using this
  · exact ((HO1.out.alloc _).alloc _).alloc _
  · exact ((HB1.out.alloc HB1.out.size _).alloc (by have := HB1.out.size; simp; omega) _).alloc (by have := HB1.out.size; simp; omega) _

theorem OwK.above {α : Type} {K : Kd α} {w w' : World} {base b n c D : Nat} {A : Option Addr} {xs : List α} (h : OwK K w base A n c xs) (hb : BA b D w w') (hD : D < base) : OwK K w' base A n c xs := by
  refine ⟨⟨h.row.1, ?_⟩, h.lim⟩
  rcases h.row.2 with h' | ⟨g, cap, cur, hv, hg, hh, r⟩
  · exact .inl h'
  · exact .inr ⟨g, cap, cur, hv, hg, (hb.above g (by omega)).trans hh, r⟩

theorem Tk.grown {w w' : World} {base Bc Br Bl T : Nat} {row : Option Nat} (h : Tk w base Bc Br Bl T) (hg : w.grownBy w' row) (hr : ∀ g, row = some g → Bc < g) : Tk w' base Bc Br Bl T := by
  obtain ⟨low, cnt, N, n, c, A, hc, hr1, hl, hn, hnb, ho, hA, rest⟩ := h.st
  have o2 := h.ord2
  have o3 := h.ord3
  refine ⟨h.ord1, o2, o3, low, cnt, N, n, c, A, hc.grown hg (fun e => by have := hr _ e.symm; omega), hr1.grown hg (fun e => by have := hr _ e.symm; omega), hl.grown hg (fun e => by have := hr _ e.symm; omega), hn, hnb, ho.grown hg (fun p hp e => ?_), hA, rest⟩
  have h1 := hA p hp
  have h2 := hr _ e.symm
  omega

end Go.Proofs.Ytbcceopgmkmbfaa
