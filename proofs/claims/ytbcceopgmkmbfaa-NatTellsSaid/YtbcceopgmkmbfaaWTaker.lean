/- nat.digitTaker's closure: it takes the digits of a number, the lowest first. -/
import Derived.Test.YtbcceopgmkmbfaaWParse2
import Derived.RegionTactic
import Derived.ChangeAlike
namespace Go.Proofs.Ytbcceopgmkmbfaa
open Go.RowKit
set_option linter.unusedVariables false

/-- A box: a block of one cell. -/
def Bx (w : World) (B : Nat) (t : TypeId) (v : Value) : Prop := w.heap[B]? = some (.cells #[v] t (0, 0))
section
variable {w w' : World} {B : Nat} {t : TypeId} {v : Value}
theorem Bx.cell (h : Bx w B t v) : w.cell? ⟨B, 0, none⟩ = some v := by
  rw [cell_of_row w B 0 #[v] t (0, 0) h]
  rfl
theorem Bx.frozen (h : Bx w B t v) : w.frozen? ⟨B, 0, none⟩ = false := frozen_of_row w B 0 #[v] t h
theorem Bx.set_ (h : Bx w B t v) (u : Value) : Bx (w.setCell ⟨B, 0, none⟩ u) B t u := by
  unfold Bx at h ⊢
  rw [heap_setCell_same w B 0 #[v] t u h]
  rfl
theorem Bx.far (h : Bx w B t v) {p : Addr} (hp : B ≠ p.block) (u : Value) : Bx (w.setCell p u) B t v := by
  unfold Bx at h ⊢
  rw [heap_setCell_other w p B u hp]
  exact h
theorem Bx.drew (h : Bx w B t v) : Bx w.drew B t v := h
theorem Bx.drewN (h : Bx w B t v) (n : Nat) : Bx (w.drewN n) B t v := h
theorem Bx.lt (h : Bx w B t v) : B < w.heap.size := (Array.getElem?_eq_some_iff.1 h).1
theorem Bx.grown {row : Option Nat} (h : Bx w B t v) (hg : w.grownBy w' row) (hr : some B ≠ row) : Bx w' B t v := (hg.block B h.lt hr).trans h
theorem Bx.below {D : Nat} (h : Bx w B t v) (hg : Below D w w') (hr : B < D) : Bx w' B t v := (hg.block B hr).trans h
theorem Bx.alloc (h : Bx w B t v) (o : Obj) : Bx (w.alloc o) B t v := (Below.heap_alloc w o B h.lt).trans h
theorem Bx.new (w : World) (t : TypeId) (v : Value) : Bx (w.alloc (.cells #[v] t)) w.heap.size t v := heap_alloc_new w _
end

theorem OwK.setFar {α : Type} {K : Kd α} {w : World} {base n c : Nat} {A : Option Addr} {xs : List α} (h : OwK K w base A n c xs) {D : Nat} (hA : ∀ p, A = some p → p.block < D) {q : Addr} (hq : D ≤ q.block) (u : Value) :
    OwK K (w.setCell q u) base A n c xs :=
  h.grown (grownBy_setCell w q u) fun p hp e => by
    have h1 := hA p hp
    have h2 : p.block = q.block := by injection e
    omega

/-- w' is w but for the blocks from base to D. -/
structure BA (base D : Nat) (w w' : World) : Prop where
  below : Below base w w'
  size : w'.heap.size = w.heap.size
  above : ∀ k, D < k → w'.heap[k]? = w.heap[k]?
theorem BA.refl (base D : Nat) (w : World) : BA base D w w := ⟨Below.refl _ _, rfl, fun _ _ => rfl⟩
theorem BA.drew {base D : Nat} {a w : World} (h : BA base D a w) : BA base D a w.drew := ⟨h.below.drew, h.size, h.above⟩
theorem BA.setCell {base D : Nat} {a w : World} (h : BA base D a w) {p : Addr} (hp : base ≤ p.block) (hq : p.block ≤ D) (u : Value) : BA base D a (w.setCell p u) :=
  ⟨h.below.setCell hp u, by simp [World.setCell]; exact h.size, fun k hk => (heap_setCell_other w p k u (by omega)).trans (h.above k hk)⟩
theorem BA.put {base D : Nat} {a w w' : World} {α : Type} {K : Kd α} {g o : Nat} {ys : List α} (h : BA base D a w) (hp : PutK K w w' g o ys) (hg : base ≤ g) (hD : g ≤ D) (hb : base ≤ w.heap.size) : BA base D a w' := by
  refine ⟨h.below.grown hp.grown hb (fun k hk => by cases hk; exact hg), hp.size.trans h.size, fun k hk => ?_⟩
  by_cases hlt : k < w.heap.size
  · exact (hp.grown.block k hlt (fun e => by injection e with e; omega)).trans (h.above k hk)
  · rw [← h.above k hk, Array.getElem?_eq_none (by rw [hp.size]; omega), Array.getElem?_eq_none (by omega)]

/-- The state of a taker of digits: T is the number whose digits are still to be taken. -/
structure Tk (w : World) (base Bc Br Bl : Nat) (T : Nat) : Prop where
  ord1 : base ≤ Br
  ord2 : Br < Bl
  ord3 : Bl < Bc
  st : ∃ (low cnt N n c : Nat) (A : Option Addr), Bx w Bc 3 (.int .i64 (cnt : Int)) ∧ Bx w Br 22 (.slice A n c) ∧ Bx w Bl 40 (.int .u32 (low : Int)) ∧ (M.lims N).length = n ∧ n ≤ 1048576 ∧
    Own w base A n c (M.lims N) ∧ (∀ p, A = some p → p.block < Br) ∧ cnt ≤ 9 ∧ low < 10 ^ cnt ∧ T = low + 10 ^ cnt * N ∧ (0 < cnt → T ≠ 0)

/-- The digit that is taken, and whether there was one. -/
def tdig (T : Nat) : Nat := if T = 0 then 0 else 48 + T % 10
def tmore (T : Nat) : Bool := decide (T ≠ 0)
theorem tdig_pos {T : Nat} (h : T ≠ 0) : tdig T = 48 + T % 10 := if_neg h
theorem tmore_pos {T : Nat} (h : T ≠ 0) : tmore T = true := decide_eq_true h
theorem tmore_zero : tmore 0 = false := rfl

def Took (w : World) (base Bc Br Bl T : Nat) (e : Ending) (w' : World) : Prop :=
  Tk w' base Bc Br Bl (T / 10) ∧ e = .returned (.tuple #[.int .u8 ((tdig T : Nat) : Int), .bool (tmore T)]) ∧ BA base Bc w w'

set_option maxHeartbeats 2000000 in
theorem taker_end (base Bc Br Bl : Nat) (w : World) (h : Tk w base Bc Br Bl 0) :
    Calls Try.prog 71 #[.pointer (some ⟨Bc, 0, none⟩), .pointer (some ⟨Br, 0, none⟩), .pointer (some ⟨Bl, 0, none⟩)] w (Took w base Bc Br Bl 0) := by
  obtain ⟨low, cnt, N, n, c, A, hc, hr, hl, hn, hnb, ho, hA, hc9, hlow, hT, hpos⟩ := h.st
  have hcnt : cnt = 0 := by
    rcases Nat.eq_zero_or_pos cnt with h0 | h0
    · exact h0
    · exact absurd rfl (hpos h0)
  subst hcnt
  have hN : N = 0 := by simp at hT; omega
  subst hN
  have hn0 : n = 0 := by rw [← hn, M.lims_zero]; rfl
  subst hn0
  have c1 := hc.cell
  have c2 := hr.cell
  have H := Lib.hid h
  clear hc hr hl hn ho hA hc9 hlow hT hpos h
  go_enter Try.func71, Try.ntmps71
  go_wp2
  go_ret2
  exact ⟨H.out, rfl, BA.refl _ _ _⟩

theorem tk_digit {low cnt N T : Nat} (hc : 0 < cnt) (hT : T = low + 10 ^ cnt * N) : low % 10 = T % 10 ∧ T / 10 = low / 10 + 10 ^ (cnt - 1) * N := by
  obtain ⟨k, rfl⟩ : ∃ k, cnt = k + 1 := ⟨cnt - 1, by omega⟩
  rw [hT, Nat.pow_succ, Nat.mul_comm (10 ^ k) 10, Nat.mul_assoc, Nat.add_sub_cancel]
  omega

set_option maxHeartbeats 2000000 in
theorem taker_mid (base Bc Br Bl T low cnt N n c : Nat) (A : Option Addr) (w : World) (o1 : base ≤ Br) (o2 : Br < Bl) (o3 : Bl < Bc) (hc : Bx w Bc 3 (.int .i64 (cnt : Int))) (hr : Bx w Br 22 (.slice A n c))
    (hl : Bx w Bl 40 (.int .u32 (low : Int))) (hn : (M.lims N).length = n) (hnb : n ≤ 1048576) (ho : Own w base A n c (M.lims N)) (hA : ∀ p, A = some p → p.block < Br) (hc9 : cnt ≤ 9) (hlow : low < 10 ^ cnt)
    (hT : T = low + 10 ^ cnt * N) (hcp : 0 < cnt) (hT0 : T ≠ 0) :
    Calls Try.prog 71 #[.pointer (some ⟨Bc, 0, none⟩), .pointer (some ⟨Br, 0, none⟩), .pointer (some ⟨Bl, 0, none⟩)] w (Took w base Bc Br Bl T) := by
  have hlow9 : low < 1000000000 := Nat.lt_of_lt_of_le hlow (Nat.pow_le_pow_right (by omega) hc9)
  obtain ⟨hdig, hdiv⟩ := tk_digit hcp hT
  have c1 := hc.cell
  have c2 := hr.cell
  have c3 := hl.cell
  have f1 := hc.frozen
  have f3 := hl.frozen
  have hcne : ((cnt : Int) == 0) = false := by simp; omega
  have HC := Lib.hid hc
  have HR := Lib.hid hr
  have HL := Lib.hid hl
  have HN := Lib.hid hn
  have HO := Lib.hid ho
  have HA := Lib.hid hA
  have HLOW := Lib.hid hlow
  have HT := Lib.hid hT
  have HDIG := Lib.hid hdig
  have HDIV := Lib.hid hdiv
  clear hc hr hl hn ho hA hlow hT hdig hdiv
  go_enter Try.func71, Try.ntmps71
  go_wp2
  go_region
  have e1 : (low : Int) / 10 = ((low / 10 : Nat) : Int) := by omega
  have e2 : (cnt : Int) - 1 = ((cnt - 1 : Nat) : Int) := by omega
  have e3 : (48 : Int) + (low : Int) % 10 = ((48 + T % 10 : Nat) : Int) := by rw [← HDIG.out]; omega
  rw [e1, e2, e3]
  have b3 := ((HL.out.set_ (.int .u32 ((low / 10 : Nat) : Int))).far (p := ⟨Bc, 0, none⟩) (by dsimp only; omega) (.int .i64 ((cnt - 1 : Nat) : Int))).drew
  have b1 := ((HC.out.far (p := ⟨Bl, 0, none⟩) (by dsimp only; omega) (.int .u32 ((low / 10 : Nat) : Int))).set_ (.int .i64 ((cnt - 1 : Nat) : Int))).drew
  have b2 := ((HR.out.far (p := ⟨Bl, 0, none⟩) (by dsimp only; omega) (.int .u32 ((low / 10 : Nat) : Int))).far (p := ⟨Bc, 0, none⟩) (by dsimp only; omega) (.int .i64 ((cnt - 1 : Nat) : Int))).drew
  have ho1 := ((HO.out.setFar HA.out (q := ⟨Bl, 0, none⟩) (by dsimp only; omega) (.int .u32 ((low / 10 : Nat) : Int))).setFar HA.out (q := ⟨Bc, 0, none⟩) (by dsimp only; omega) (.int .i64 ((cnt - 1 : Nat) : Int))).drew
  have hbe := (((BA.refl base Bc w).setCell (p := ⟨Bl, 0, none⟩) (by dsimp only; omega) (by dsimp only; omega) (.int .u32 ((low / 10 : Nat) : Int))).setCell (p := ⟨Bc, 0, none⟩) (by dsimp only; omega) (by dsimp only; omega) (.int .i64 ((cnt - 1 : Nat) : Int))).drew
  generalize ((w.setCell ⟨Bl, 0, none⟩ (.int .u32 ((low / 10 : Nat) : Int))).setCell ⟨Bc, 0, none⟩ (.int .i64 ((cnt - 1 : Nat) : Int))).drew = W at *
  have hpw : low / 10 < 10 ^ (cnt - 1) := by
    have h1 := HLOW.out
    rw [show cnt = cnt - 1 + 1 by omega, Nat.pow_succ] at h1
    rw [Nat.div_lt_iff_lt_mul (by omega)]
    exact h1
  generalize hl2 : low / 10 = lo at *
  generalize hc2 : cnt - 1 = cn at *
  have d1 := b1.cell
  have d2 := b2.cell
  have d3 := b3.cell
  have g1 := b1.frozen
  have B1 := Lib.hid b1
  have B2 := Lib.hid b2
  have B3 := Lib.hid b3
  have HO1 := Lib.hid ho1
  have HBE := Lib.hid hbe
  have HPW := Lib.hid hpw
  have hcn : cn ≤ 9 := by omega
  clear b1 b2 b3 ho1 hbe hpw e1 e2 e3 hl2 hc2 HC HR HL HO HLOW HT HDIG c1 c2 c3 f1 f3 hcne
  obtain ⟨d, hd⟩ : ∃ d, d = 48 + T % 10 := ⟨_, rfl⟩
  rw [← hd]
  have HD := Lib.hid hd
  have hd57 : d ≤ 57 := by omega
  clear hd
  by_cases hlo : lo = 0
  · by_cases hn0 : n = 0
    · have hN0 : N = 0 := by have := HN.out; rw [hn0] at this; exact M.lims_eq_nil.1 (List.eq_nil_of_length_eq_zero this)
      have HN0 := Lib.hid hN0
      have HT0 := Lib.hid hT0
      clear hN0 hT0
      subst hlo
      subst hn0
      go_wp2
      go_ret2
      refine ⟨⟨o1, o2, o3, 0, 0, 0, 0, c, _, B1.out.set_ _, B2.out.far (p := ⟨Bc, 0, none⟩) (by dsimp only; omega) _, B3.out.far (p := ⟨Bc, 0, none⟩) (by dsimp only; omega) _, by rw [M.lims_zero]; rfl, by omega, ?_, HA.out, by omega, by simp, ?_, (fun h => by omega)⟩, ?_, HBE.out.setCell (p := ⟨Bc, 0, none⟩) (by dsimp only; omega) (Nat.le_refl _) _⟩
      · have := HO1.out
        rw [HN0.out] at this
        exact this.setFar HA.out (by dsimp only; omega) _
      · rw [HDIV.out, HN0.out]; simp
      · rw [tdig_pos HT0.out, ← HD.out, tmore_pos HT0.out]; rfl
    · have hnne : ((n : Int) == 0) = false := by simp; omega
      have HT0 := Lib.hid hT0
      have HLO := Lib.hid hlo
      clear hT0
      subst hlo
      go_wp2
      go_ret2
      refine ⟨⟨o1, o2, o3, 0, cn, N, n, c, _, B1.out, B2.out, B3.out, HN.out, hnb, HO1.out, HA.out, hcn, HPW.out, HDIV.out, fun _ h => ?_⟩, ?_, HBE.out⟩
      · rw [HDIV.out] at h
        have h1 : 0 < N := by
          rcases Nat.eq_zero_or_pos N with h0 | h0
          · have := HN.out; rw [h0, M.lims_zero] at this; simp at this; omega
          · exact h0
        have h2 : 0 < 10 ^ cn * N := Nat.mul_pos (Nat.pow_pos (by omega)) h1
        omega
      · rw [tdig_pos HT0.out, ← HD.out, tmore_pos HT0.out]; rfl
  · have hlne : ((lo : Int) == 0) = false := by simp; omega
    have HT0 := Lib.hid hT0
    clear hT0
    go_wp2
    go_ret2
    refine ⟨⟨o1, o2, o3, lo, cn, N, n, c, _, B1.out, B2.out, B3.out, HN.out, hnb, HO1.out, HA.out, hcn, HPW.out, HDIV.out, fun _ h => ?_⟩, ?_, HBE.out⟩
    · rw [HDIV.out] at h
      omega
    · rw [tdig_pos HT0.out, ← HD.out, tmore_pos HT0.out]; rfl

set_option maxHeartbeats 2000000 in
theorem taker_fill (base Bc Br Bl T low0 n0 c : Nat) (A : Option Addr) (w0 : World) (o1 : base ≤ Br) (o2 : Br < Bl) (o3 : Bl < Bc) (hc : Bx w0 Bc 3 (.int .i64 (0 : Int))) (hr : Bx w0 Br 22 (.slice A n0 c))
    (hl : Bx w0 Bl 40 (.int .u32 (low0 : Int))) (hn : (M.lims T).length = n0) (hnb0 : n0 ≤ 1048576) (ho : Own w0 base A n0 c (M.lims T)) (hA : ∀ p, A = some p → p.block < Br) (hT0 : T ≠ 0) :
    Calls Try.prog 71 #[.pointer (some ⟨Bc, 0, none⟩), .pointer (some ⟨Br, 0, none⟩), .pointer (some ⟨Bl, 0, none⟩)] w0 (Took w0 base Bc Br Bl T) := by
  have hn0 : 0 < n0 := by rw [← hn]; exact List.length_pos_iff.2 (fun h => hT0 (M.lims_eq_nil.1 h))
  obtain ⟨g, hAg, hg, hg'⟩ := ho.head hn0
  subst hAg
  have hgB : g < Br := hA _ rfl
  have hwr := OwK.wr (o := 0) (m := n0) ho (by omega)
  rw [List.drop_zero, List.take_of_length_le (by rw [hn]; exact Nat.le_refl _)] at hwr
  have hnne : ((n0 : Int) == 0) = false := by simp; omega
  have c1 := hc.cell
  have c2 := hr.cell
  have HC0 := Lib.hid hc
  have HR0 := Lib.hid hr
  have HL0 := Lib.hid hl
  have HN0 := Lib.hid hn
  have HO0 := Lib.hid ho
  have HA := Lib.hid hA
  have HW := Lib.hid hwr
  clear hc hr hl hn ho hA hwr
  go_enter Try.func71, Try.ntmps71
  go_wp2_with fail
  refine (divideBy_any g 0 n0 c _ 1000000000 w0 HW.out (by omega) (by omega) (by omega)).mono ?_
  rintro e w2 ⟨zs, rfl, hzl, hzs, hzv, hp⟩
  rw [M.val_lims] at hzv ⊢
  have ho2 := HO0.out.put hp (by omega) hzs
  rw [List.take_zero, List.nil_append, Nat.zero_add, hzl, List.drop_of_length_le (by rw [HN0.out]; exact Nat.le_refl _), List.append_nil] at ho2
  obtain ⟨low, hlowe⟩ : ∃ low, T % 1000000000 = low := ⟨_, rfl⟩
  obtain ⟨N, hNe⟩ : ∃ N, T / 1000000000 = N := ⟨_, rfl⟩
  have hlow9 : low < 1000000000 := by omega
  have hTe : T = low + 10 ^ 9 * N := by omega
  rw [hlowe]
  rw [hNe] at hzv
  have bl2 := ((HL0.out.grown hp.grown (by intro e; injection e with e; omega)).set_ (.int .u32 (low : Int))).far (p := ⟨Bc, 0, none⟩) (by dsimp only; omega) (.int .i64 9)
  have bc2 := ((HC0.out.grown hp.grown (by intro e; injection e with e; omega)).far (p := ⟨Bl, 0, none⟩) (by dsimp only; omega) (.int .u32 (low : Int))).set_ (.int .i64 9)
  have br1 := HR0.out.grown hp.grown (by intro e; injection e with e; omega)
  have br2 := (br1.far (p := ⟨Bl, 0, none⟩) (by dsimp only; omega) (.int .u32 (low : Int))).far (p := ⟨Bc, 0, none⟩) (by dsimp only; omega) (.int .i64 9)
  have ho3 := (ho2.setFar HA.out (q := ⟨Bl, 0, none⟩) (by dsimp only; omega) (.int .u32 (low : Int))).setFar HA.out (q := ⟨Bc, 0, none⟩) (by dsimp only; omega) (.int .i64 9)
  have hbe0 : BA base Bc w0 ((w2.setCell ⟨Bl, 0, none⟩ (.int .u32 (low : Int))).setCell ⟨Bc, 0, none⟩ (.int .i64 9)) :=
    ((BA.refl base Bc w0).put hp hg (by omega) (by omega)).setCell (p := ⟨Bl, 0, none⟩) (by dsimp only; omega) (by dsimp only; omega) _ |>.setCell (p := ⟨Bc, 0, none⟩) (by dsimp only; omega) (Nat.le_refl _) _
  have cl1 := (HL0.out.grown hp.grown (by intro e; injection e with e; omega)).cell
  have fl1 := (HL0.out.grown hp.grown (by intro e; injection e with e; omega)).frozen
  have cc1 := (HC0.out.grown hp.grown (by intro e; injection e with e; omega)).cell
  have fc1 := (HC0.out.grown hp.grown (by intro e; injection e with e; omega)).frozen
  have cr1 := br1.cell
  have BL2 := Lib.hid bl2
  have BC2 := Lib.hid bc2
  have BR2 := Lib.hid br2
  have HO3 := Lib.hid ho3
  have HBE0 := Lib.hid hbe0
  have HZV := Lib.hid hzv
  have HZS := Lib.hid hzs
  have HTE := Lib.hid hTe
  clear bl2 bc2 br2 ho3 hbe0 hzv hzs hTe hlowe hNe hp ho2 br1 hzl
  go_wp2_with fail
  generalize (w2.setCell ⟨Bl, 0, none⟩ (.int .u32 (low : Int))).setCell ⟨Bc, 0, none⟩ (.int .i64 9) = w3 at *
  have cl3 := BL2.out.cell
  have fl3 := BL2.out.frozen
  have cc3 := BC2.out.cell
  have fc3 := BC2.out.frozen
  have cr3 := BR2.out.cell
  have fr3 := BR2.out.frozen
  clear cl1 fl1 cc1 fc1 cr1 c1 c2
  obtain ⟨n, hn⟩ : ∃ n, (M.tr zs).length = n := ⟨_, rfl⟩
  have hnb : n ≤ 1048576 := by
    have h1 := M.tr_length_le zs
    have h2 := HO3.out.len
    omega
  have HNT := Lib.hid hn
  clear hn
  refine (short_any _ _ _ _ _ HO3.out.rd (by omega)).mono ?_
  rw [HNT.out]
  rintro e w' ⟨rfl, rfl⟩
  go_wp2
  have hzt : M.tr zs = M.lims N := by rw [M.tr_eq_lims HZS.out, HZV.out]
  have hlim : (M.lims N).length = n := by rw [← hzt]; exact HNT.out
  have HL : Hid (Bx (w3.setCell ⟨Br, 0, none⟩ (.slice (some ⟨g, 0, none⟩) n c)) Bl 40 (.int .u32 (low : Int))) := BL2.out.far (by dsimp only; omega) _
  have HC : Hid (Bx (w3.setCell ⟨Br, 0, none⟩ (.slice (some ⟨g, 0, none⟩) n c)) Bc 3 (.int .i64 9)) := BC2.out.far (by dsimp only; omega) _
  have HR : Hid (Bx (w3.setCell ⟨Br, 0, none⟩ (.slice (some ⟨g, 0, none⟩) n c)) Br 22 (.slice (some ⟨g, 0, none⟩) n c)) := BR2.out.set_ _
  have hO := HO3.out.short
  rw [hzt, hlim] at hO
  have HO : Hid (Own (w3.setCell ⟨Br, 0, none⟩ (.slice (some ⟨g, 0, none⟩) n c)) base (some ⟨g, 0, none⟩) n c (M.lims N)) := hO.setFar HA.out (Nat.le_refl _) _
  have HB0 : Hid (BA base Bc w0 (w3.setCell ⟨Br, 0, none⟩ (.slice (some ⟨g, 0, none⟩) n c))) := HBE0.out.setCell (p := ⟨Br, 0, none⟩) o1 (by dsimp only; omega) _
  have HN := Lib.hid hlim
  clear hlim hO hzt cl3 fl3 cc3 fc3 cr3 fr3
  generalize w3.setCell ⟨Br, 0, none⟩ (.slice (some ⟨g, 0, none⟩) n c) = w at *
  have c1 := HC.out.cell
  have c2 := HR.out.cell
  have c3 := HL.out.cell
  have f1 := HC.out.frozen
  have f3 := HL.out.frozen
  obtain ⟨cnt, hcnt⟩ : ∃ cnt, cnt = 9 := ⟨_, rfl⟩
  have hcI : (9 : Int) = (cnt : Int) := by omega
  have hlow : low < 10 ^ cnt := by rw [hcnt]; exact hlow9
  have hT : T = low + 10 ^ cnt * N := by rw [hcnt]; exact HTE.out
  obtain ⟨hdig, hdiv⟩ := tk_digit (show 0 < cnt by omega) hT
  have HLOW := Lib.hid hlow
  have HT := Lib.hid hT
  have HDIG := Lib.hid hdig
  have HDIV := Lib.hid hdiv
  have hcne : True := trivial
  clear hlow hT hdig hdiv
  rw [hcI] at HC c1
  have hcp : 0 < cnt := by omega
  have hc9 : cnt ≤ 9 := by omega
  clear hcI hcnt
  go_region
  have e1 : (low : Int) / 10 = ((low / 10 : Nat) : Int) := by omega
  have e2 : (cnt : Int) - 1 = ((cnt - 1 : Nat) : Int) := by omega
  have e3 : (48 : Int) + (low : Int) % 10 = ((48 + T % 10 : Nat) : Int) := by rw [← HDIG.out]; omega
  rw [e1, e2, e3]
  have b3 := ((HL.out.set_ (.int .u32 ((low / 10 : Nat) : Int))).far (p := ⟨Bc, 0, none⟩) (by dsimp only; omega) (.int .i64 ((cnt - 1 : Nat) : Int))).drew
  have b1 := ((HC.out.far (p := ⟨Bl, 0, none⟩) (by dsimp only; omega) (.int .u32 ((low / 10 : Nat) : Int))).set_ (.int .i64 ((cnt - 1 : Nat) : Int))).drew
  have b2 := ((HR.out.far (p := ⟨Bl, 0, none⟩) (by dsimp only; omega) (.int .u32 ((low / 10 : Nat) : Int))).far (p := ⟨Bc, 0, none⟩) (by dsimp only; omega) (.int .i64 ((cnt - 1 : Nat) : Int))).drew
  have ho1 := ((HO.out.setFar HA.out (q := ⟨Bl, 0, none⟩) (by dsimp only; omega) (.int .u32 ((low / 10 : Nat) : Int))).setFar HA.out (q := ⟨Bc, 0, none⟩) (by dsimp only; omega) (.int .i64 ((cnt - 1 : Nat) : Int))).drew
  have hbe := ((HB0.out.setCell (p := ⟨Bl, 0, none⟩) (by dsimp only; omega) (by dsimp only; omega) (.int .u32 ((low / 10 : Nat) : Int))).setCell (p := ⟨Bc, 0, none⟩) (by dsimp only; omega) (by dsimp only; omega) (.int .i64 ((cnt - 1 : Nat) : Int))).drew
  generalize ((w.setCell ⟨Bl, 0, none⟩ (.int .u32 ((low / 10 : Nat) : Int))).setCell ⟨Bc, 0, none⟩ (.int .i64 ((cnt - 1 : Nat) : Int))).drew = W at *
  have hpw : low / 10 < 10 ^ (cnt - 1) := by
    have h1 := HLOW.out
    rw [show cnt = cnt - 1 + 1 by omega, Nat.pow_succ] at h1
    rw [Nat.div_lt_iff_lt_mul (by omega)]
    exact h1
  generalize hl2 : low / 10 = lo at *
  generalize hc2 : cnt - 1 = cn at *
  have d1 := b1.cell
  have d2 := b2.cell
  have d3 := b3.cell
  have g1 := b1.frozen
  have B1 := Lib.hid b1
  have B2 := Lib.hid b2
  have B3 := Lib.hid b3
  have HO1 := Lib.hid ho1
  have HBE := Lib.hid hbe
  have HPW := Lib.hid hpw
  have hcn : cn ≤ 9 := by omega
  clear b1 b2 b3 ho1 hbe hpw e1 e2 e3 hl2 hc2 HC HR HL HO HLOW HT HDIG c1 c2 c3 f1 f3 hcne
  obtain ⟨d, hd⟩ : ∃ d, d = 48 + T % 10 := ⟨_, rfl⟩
  rw [← hd]
  have HD := Lib.hid hd
  have hd57 : d ≤ 57 := by omega
  clear hd
  by_cases hlo : lo = 0
  · by_cases hn0 : n = 0
    · have hN0 : N = 0 := by have := HN.out; rw [hn0] at this; exact M.lims_eq_nil.1 (List.eq_nil_of_length_eq_zero this)
      have HN0 := Lib.hid hN0
      have HT0 := Lib.hid hT0
      clear hN0 hT0
      subst hlo
      subst hn0
      go_wp2
      go_ret2
      refine ⟨⟨o1, o2, o3, 0, 0, 0, 0, c, _, B1.out.set_ _, B2.out.far (p := ⟨Bc, 0, none⟩) (by dsimp only; omega) _, B3.out.far (p := ⟨Bc, 0, none⟩) (by dsimp only; omega) _, by rw [M.lims_zero]; rfl, by omega, ?_, HA.out, by omega, by simp, ?_, (fun h => by omega)⟩, ?_, HBE.out.setCell (p := ⟨Bc, 0, none⟩) (by dsimp only; omega) (Nat.le_refl _) _⟩
      · have := HO1.out
        rw [HN0.out] at this
        exact this.setFar HA.out (by dsimp only; omega) _
      · rw [HDIV.out, HN0.out]; simp
      · rw [tdig_pos HT0.out, ← HD.out, tmore_pos HT0.out]; rfl
    · have hnne : ((n : Int) == 0) = false := by simp; omega
      have HT0 := Lib.hid hT0
      have HLO := Lib.hid hlo
      clear hT0
      subst hlo
      go_wp2
      go_ret2
      refine ⟨⟨o1, o2, o3, 0, cn, N, n, c, _, B1.out, B2.out, B3.out, HN.out, hnb, HO1.out, HA.out, hcn, HPW.out, HDIV.out, fun _ h => ?_⟩, ?_, HBE.out⟩
      · rw [HDIV.out] at h
        have h1 : 0 < N := by
          rcases Nat.eq_zero_or_pos N with h0 | h0
          · have := HN.out; rw [h0, M.lims_zero] at this; simp at this; omega
          · exact h0
        have h2 : 0 < 10 ^ cn * N := Nat.mul_pos (Nat.pow_pos (by omega)) h1
        omega
      · rw [tdig_pos HT0.out, ← HD.out, tmore_pos HT0.out]; rfl
  · have hlne : ((lo : Int) == 0) = false := by simp; omega
    have HT0 := Lib.hid hT0
    clear hT0
    go_wp2
    go_ret2
    refine ⟨⟨o1, o2, o3, lo, cn, N, n, c, _, B1.out, B2.out, B3.out, HN.out, hnb, HO1.out, HA.out, hcn, HPW.out, HDIV.out, fun _ h => ?_⟩, ?_, HBE.out⟩
    · rw [HDIV.out] at h
      omega
    · rw [tdig_pos HT0.out, ← HD.out, tmore_pos HT0.out]; rfl

theorem taker_any (base Bc Br Bl T : Nat) (w : World) (h : Tk w base Bc Br Bl T) :
    Calls Try.prog 71 #[.pointer (some ⟨Bc, 0, none⟩), .pointer (some ⟨Br, 0, none⟩), .pointer (some ⟨Bl, 0, none⟩)] w (Took w base Bc Br Bl T) := by
  by_cases hT0 : T = 0
  · subst hT0
    exact taker_end base Bc Br Bl w h
  · obtain ⟨low, cnt, N, n, c, A, hc, hr, hl, hn, hnb, ho, hA, hc9, hlow, hT, hpos⟩ := h.st
    rcases Nat.eq_zero_or_pos cnt with h0 | h0
    · subst h0
      have hN : N = T := by simp at hlow; subst hlow; simp at hT; exact hT.symm
      subst hN
      exact taker_fill base Bc Br Bl N low n c A w h.ord1 h.ord2 h.ord3 hc hr hl hn hnb ho hA hT0
    · exact taker_mid base Bc Br Bl T low cnt N n c A w h.ord1 h.ord2 h.ord3 hc hr hl hn hnb ho hA hc9 hlow hT h0 hT0

end Go.Proofs.Ytbcceopgmkmbfaa
