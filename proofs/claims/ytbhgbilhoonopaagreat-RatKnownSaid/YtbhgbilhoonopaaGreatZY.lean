/- Two arguments that are cut and put back; operations on texts. -/
import Derived.Test.YtbhgbilhoonopaaGreatZX
namespace Go.Proofs.YtbhgbilhoonopaaGreat
open Go.RowKit
set_option linter.unusedVariables false
set_option maxRecDepth 100000

section
variable {a : Act} {w : World} {K : Act → World → Prop} {Q : Exit → Act → World → Prop} {dst : Option Tmp} {ty : TypeId} {pos : String} {af : Array Edge} {gd : Option (Nat × Bool)} {x y : Operand} {k l : ByteArray} {p q : Int}
theorem wp_idxS (hx : a.eval x = .string k) (h0 : 0 < k.size) (h : K (a.put dst (.int .u8 ((M.bytes k).getD 0 0 : Nat))) w) : Oper.wp Tryz.prog ⟨dst, .index 9 x (.const (.int .i64 0)), ty, pos, af, gd⟩ a w K Q := by
  have e : (M.bytes k).getD 0 0 = (k[0]'h0).toNat := by
    rw [List.getD_eq_getElem?_getD, M.bytes_get k 0 h0]
    rfl
  rw [e] at h
  have h0' : (0 : Int) < (k.size : Int) := by omega
  unfold Oper.wp execOp
  simp only [hx]
  go_simp
  exact h
theorem wp_idxT {xb : Nat} {lb : List Nat} (hx : a.eval x = .string k) (hb : M.bytes k = xb :: lb) (h : K (a.put dst (.int .u8 (xb : Nat))) w) : Oper.wp Tryz.prog ⟨dst, .index 9 x (.const (.int .i64 0)), ty, pos, af, gd⟩ a w K Q := by
  refine wp_idxS hx (by rw [← M.bytes_len, hb]; simp) ?_
  rw [hb]
  exact h
theorem wp_eqU8 (hx : a.eval x = .int .u8 p) (hy : a.eval y = .int .u8 q) (h : K (a.put dst (.bool (p == q))) w) {T' : TypeId} : Oper.wp Tryz.prog ⟨dst, .binOp .eql 5 x y T', ty, pos, af, gd⟩ a w K Q := by
  unfold Oper.wp execOp
  simp only [hx, hy]
  go_simp
  exact h
theorem wp_addS (hx : a.eval x = .string k) (hy : a.eval y = .string l) (hk : k.size ≤ 100000) (hl : l.size ≤ 100000) (h : K (a.put dst (.string (k ++ l))) w) {T' : TypeId} : Oper.wp Tryz.prog ⟨dst, .binOp .add 9 x y T', ty, pos, af, gd⟩ a w K Q := by
  unfold Oper.wp execOp
  simp only [hx, hy]
  go_simp
  rw [if_neg (by omega)]
  exact h
end

/-- Two variables, written one behind the other. -/
theorem two_store {w W : World} {g g' : Nat} {s0 t0 s t : Bool} {A0 B0 A B : Option Addr} {n0 c0 m0 d0 n c m d : Nat} (P : Bz W g s0 A0 n0 c0) (P' : Bz W g' t0 B0 m0 d0) (hne : g ≠ g') (hb : Below w.heap.size w W) (hg : w.heap.size ≤ g) (hg' : w.heap.size ≤ g') :
    Bz ((((W.setCell ⟨g, 0, none⟩ (.bool s)).setCell ⟨g, 1, none⟩ (.slice A n c)).setCell ⟨g', 0, none⟩ (.bool t)).setCell ⟨g', 1, none⟩ (.slice B m d)) g s A n c ∧
    Bz ((((W.setCell ⟨g, 0, none⟩ (.bool s)).setCell ⟨g, 1, none⟩ (.slice A n c)).setCell ⟨g', 0, none⟩ (.bool t)).setCell ⟨g', 1, none⟩ (.slice B m d)) g' t B m d ∧
    Below w.heap.size w ((((W.setCell ⟨g, 0, none⟩ (.bool s)).setCell ⟨g, 1, none⟩ (.slice A n c)).setCell ⟨g', 0, none⟩ (.bool t)).setCell ⟨g', 1, none⟩ (.slice B m d)) := by
  have h1 := (belU_store (N := 0) (t := s) (B := A) (m := n) (d := c) P (Nat.zero_le _)).2
  have h2 := P'.st2 (g' := g) (x := .bool s) (y := .slice A n c) (Ne.symm hne)
  exact ⟨h1.st2 hne, (belU_store (N := 0) (t := t) (B := B) (m := m) (d := d) h2 (Nat.zero_le _)).2,
    (((hb.setCell (p := ⟨g, 0, none⟩) hg _).setCell (p := ⟨g, 1, none⟩) hg _).setCell (p := ⟨g', 0, none⟩) hg' _).setCell (p := ⟨g', 1, none⟩) hg' _⟩

/-- A number's text says that number. -/
theorem txtZ_is {s : ByteArray} {z : Int} (h : M.bytes s = txtZ z) : isZ s ∧ valZ s = z := by
  by_cases hz : z < 0
  · rw [txtZ_neg hz] at h
    rcases bytes_cut s with ⟨h1, h2⟩ | ⟨h1, h2⟩
    · rw [h] at h2
      injection h2 with _ h2
      refine ⟨⟨by rw [← h2]; exact M.txt_digits _, fun _ => ?_⟩, ?_⟩
      · rw [← h2, M.dec_txt]; omega
      · unfold valZ
        rw [h1, ← h2, M.dec_txt, zv_true]; omega
    · exfalso
      have := of_decide_eq_false h1
      rw [h] at this
      exact this rfl
  · rw [txtZ_pos hz] at h
    rcases bytes_cut s with ⟨h1, h2⟩ | ⟨h1, h2⟩
    · exfalso
      have hd := (M.txt_digits z.natAbs).2.2
      rw [← h, h2] at hd
      have := hd 45 (by simp)
      omega
    · refine ⟨⟨by rw [h2, h]; exact M.txt_digits _, fun e => by rw [h1] at e; cases e⟩, ?_⟩
      unfold valZ
      rw [h1, h2, h, M.dec_txt, zv_false]; omega
theorem txtZ_first (z : Int) : ∃ x l, txtZ z = x :: l ∧ (x = 45 ↔ z < 0) := by
  by_cases hz : z < 0
  · exact ⟨45, _, txtZ_neg hz, by simp [hz]⟩
  · rw [txtZ_pos hz]
    have hd := M.txt_digits z.natAbs
    cases ht : M.txt z.natAbs with
    | nil => exact absurd ht hd.1
    | cons x l =>
      refine ⟨x, l, rfl, ?_⟩
      have := hd.2.2 x (by rw [ht]; simp)
      omega
theorem txtZ_inj {z u : Int} (h : txtZ z = txtZ u) : z = u := by
  obtain ⟨x, l, h1, h2⟩ := txtZ_first z
  obtain ⟨y, m, h3, h4⟩ := txtZ_first u
  have hxy : x = y := by rw [h1, h3] at h; injection h
  by_cases hz : z < 0
  · have hu : u < 0 := h4.1 (by rw [← hxy]; exact h2.2 hz)
    rw [txtZ_neg hz, txtZ_neg hu] at h
    injection h with _ h
    have := M.txt_inj h
    omega
  · have hu : ¬ u < 0 := fun hu => hz (h2.1 (by rw [hxy]; exact h4.2 hu))
    rw [txtZ_pos hz, txtZ_pos hu] at h
    have := M.txt_inj h
    omega
theorem txtZ_ten {z : Int} (h : z ≠ 0) : txtZ (z * 10) = txtZ z ++ [48] := by
  by_cases hz : z < 0
  · rw [txtZ_neg hz, txtZ_neg (by omega), show (z * 10).natAbs = z.natAbs * 10 by omega, txt_ten (by omega)]
    rfl
  · rw [txtZ_pos hz, txtZ_pos (by omega), show (z * 10).natAbs = z.natAbs * 10 by omega, txt_ten (by omega)]
theorem eqT {k l : ByteArray} {z u : Int} (hk : M.bytes k = txtZ z) (hl : M.bytes l = txtZ u) (h : z = u) : (k.toList == l.toList) = true := by
  have : k = l := M.bytes_inj (by rw [hk, hl, h])
  rw [this]
  simp
theorem neT {k l : ByteArray} {z u : Int} (hk : M.bytes k = txtZ z) (hl : M.bytes l = txtZ u) (h : z ≠ u) : (k.toList == l.toList) = false := by
  have : ¬ k.toList = l.toList := by
    intro e
    rw [Lib.toList_data, Lib.toList_data] at e
    have : k = l := ByteArray.ext (Array.toList_inj.1 e)
    subst this
    exact h (txtZ_inj (hk.symm.trans hl))
  simp [this]
theorem tenT {k l : ByteArray} {z : Int} (hk : M.bytes k = txtZ (z * 10)) (hl : M.bytes l = txtZ z) (h : z ≠ 0) : (k.toList == (l ++ ⟨#[48]⟩).toList) = true := by
  have e : k = l ++ ⟨#[48]⟩ := by
    apply M.bytes_inj
    rw [hk, txtZ_ten h, ← hl]
    unfold M.bytes
    obtain ⟨⟨a⟩⟩ := l
    simp
  rw [e]
  simp
theorem txtZ_size {s : ByteArray} {z : Int} {k : Nat} (h : M.bytes s = txtZ z) (hz : z.natAbs < M.R ^ k) : s.size ≤ 10 * k + 2 := by
  have h1 := txt_len hz
  rw [← M.bytes_len, h]
  by_cases hn : z < 0
  · rw [txtZ_neg hn, List.length_cons]; omega
  · rw [txtZ_pos hn]; omega

end Go.Proofs.YtbhgbilhoonopaaGreat
