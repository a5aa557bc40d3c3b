/- nat.longDivide: long division of rows of two limbs and more. -/
import Derived.Test.YtbhgbilhoonopaaGreatMH
import Derived.Test.YtbhgbilhoonopaaGreatMD
import Derived.Maps.AppendAt
import Derived.Deep.LoopGhost
import Derived.Test.YtbhgbilhoonopaaGreatMG
namespace Go.Proofs.YtbhgbilhoonopaaGreat
open Go.RowKit
set_option linter.unusedVariables false

namespace M
/-- What the loop keeps: j limbs are still to do. -/
structure LDm (rest0 : List Nat) (V n m L j : Nat) (ws qs : List Nat) : Prop where
  le : j ≤ L
  wl : ws.length = n + 1 - j
  ql : qs.length = L - j
  wlim : Lim ws
  qlim : Lim qs
  lt : val ws < V
  eq : val (rest0.drop j) = val qs * V + val ws

theorem val_take_of_lt {ws : List Nat} {m : Nat} (h : val ws < R ^ m) (hm : m ≤ ws.length) : val (ws.take m) = val ws ∧ val (ws.drop m) = 0 := by
  have e : val ws = val (ws.take m) + R ^ m * val (ws.drop m) := by
    have := val_append (ws.take m) (ws.drop m)
    rw [List.take_append_drop, List.length_take, Nat.min_eq_left hm] at this
    exact this
  have h0 : val (ws.drop m) = 0 := by
    refine Nat.eq_zero_of_not_pos fun hc => ?_
    have : R ^ m * 1 ≤ R ^ m * val (ws.drop m) := Nat.mul_le_mul_left _ hc
    omega
  rw [h0, Nat.mul_zero] at e
  exact ⟨by omega, h0⟩

theorem LDm.piece {rest0 ws qs : List Nat} {V n m L j r0 : Nat} (h : LDm rest0 V n m L (j + 1) ws qs) (hV : V < R ^ m) (hj : rest0[j]? = some r0) (hm : m ≤ ws.length) :
    ((rest0.take (j + 1) ++ ws).drop j).take (m + 1) = r0 :: ws.take m ∧ val (r0 :: ws.take m) = r0 + R * val ws := by
  have hlt : j < rest0.length := (List.getElem?_eq_some_iff.1 hj).1
  constructor
  · rw [tr_take_succ hj, List.append_assoc, List.drop_append, List.drop_of_length_le (by rw [List.length_take]; omega), List.length_take, Nat.min_eq_left (by omega), Nat.sub_self, List.drop_zero, List.nil_append]
    simp
  · rw [val_cons, (val_take_of_lt (Nat.lt_trans h.lt hV) hm).1]

theorem LDm.step {rest0 ws qs ys : List Nat} {V n m L j r0 : Nat} (h : LDm rest0 V n m L (j + 1) ws qs) (hV : V < R ^ m) (hVp : 0 < V) (hj : rest0[j]? = some r0) (hr0 : r0 < R) (hm : m ≤ ws.length) (hm1 : 1 ≤ m) (hyl : ys.length = m + 1) (hys : Lim ys)
    (hyv : val ys = (r0 + R * val ws) % V) : LDm rest0 V n m L j (ys ++ ws.drop m) ((r0 + R * val ws) / V :: qs) := by
  have hle := h.le
  have hwl := h.wl
  have hd0 := (val_take_of_lt (Nat.lt_trans h.lt hV) hm).2
  have hval : val (ys ++ ws.drop m) = (r0 + R * val ws) % V := by rw [val_append, hd0, Nat.mul_zero, Nat.add_zero, hyv]
  refine ⟨by omega, by rw [List.length_append, hyl, List.length_drop]; omega, by rw [List.length_cons, h.ql]; omega, hys.append (h.wlim.drop _), Lim.cons ?_ h.qlim, ?_, ?_⟩
  · rw [Nat.add_comm]
    exact div_limb_lt h.lt hr0
  · rw [hval]
    exact Nat.mod_lt _ hVp
  · rw [hval, drop_pred hj, val_cons, h.eq, val_cons]
    have e := Nat.div_add_mod (r0 + R * val ws) V
    have e2 : ((r0 + R * val ws) / V + R * val qs) * V = V * ((r0 + R * val ws) / V) + R * (val qs * V) := by rw [Nat.add_mul, Nat.mul_comm, Nat.mul_assoc]
    rw [e2, Nat.mul_add]
    omega

theorem LDm.piece_lt {rest0 ws qs : List Nat} {V n m L j r0 : Nat} (h : LDm rest0 V n m L (j + 1) ws qs) (hr0 : r0 < R) : r0 + R * val ws < V * R := by
  have : R * (val ws + 1) ≤ R * V := Nat.mul_le_mul_left _ h.lt
  rw [Nat.mul_add, Nat.mul_one, Nat.mul_comm R V] at this
  omega

/-- The divisor, moved. -/
theorem scaled_by {ys vs : List Nat} {p y k cy : Nat} (hl : ys.length = p + 1) (hy : ys[p]? = some y) (hlim : Lim ys) (h1 : 2147483648 ≤ y * 2 ^ k) (h2 : y * 2 ^ k < R) (hk : k < 32) (hvl : vs.length = p + 1) (hv : Lim vs)
    (h : val vs + R ^ (p + 1) * cy = 0 + 2 ^ k * val ys) : val vs = 2 ^ k * val ys ∧ ∃ b1, vs[p]? = some b1 ∧ 2147483648 ≤ b1 := by
  have hP : 0 < R ^ p := Nat.pow_pos R_pos
  have ey := val_take_some hy
  rw [List.take_of_length_le (by omega)] at ey
  have hylt := val_lt (hlim.take p)
  rw [List.length_take, hl, Nat.min_eq_left (by omega)] at hylt
  have hup : 2 ^ k * val ys < R ^ (p + 1) := by
    have h3 : (y + 1) * 2 ^ k ≤ R := by
      have hd : R = 2 ^ (32 - k) * 2 ^ k := by rw [← Nat.pow_add, show 32 - k + k = 32 by omega]; rfl
      rw [hd] at h2 ⊢
      exact Nat.mul_le_mul_right _ (Nat.lt_of_mul_lt_mul_right h2)
    have h4 : val ys < (y + 1) * R ^ p := by
      rw [ey, Nat.add_mul, Nat.one_mul, Nat.mul_comm y]
      omega
    have h5 : 2 ^ k * val ys < 2 ^ k * ((y + 1) * R ^ p) := Nat.mul_lt_mul_of_pos_left h4 (Nat.pow_pos (by omega))
    have h6 : 2 ^ k * ((y + 1) * R ^ p) = (y + 1) * 2 ^ k * R ^ p := by rw [← Nat.mul_assoc, Nat.mul_comm (2 ^ k)]
    have h7 : (y + 1) * 2 ^ k * R ^ p ≤ R * R ^ p := Nat.mul_le_mul_right _ h3
    rw [Nat.pow_succ, Nat.mul_comm (R ^ p)]
    omega
  have hv0 : val vs = 2 ^ k * val ys := by
    have hc : cy = 0 := by
      refine Nat.eq_zero_of_not_pos fun hc => ?_
      have : R ^ (p + 1) * 1 ≤ R ^ (p + 1) * cy := Nat.mul_le_mul_left _ hc
      omega
    rw [hc, Nat.mul_zero] at h
    omega
  refine ⟨hv0, ?_⟩
  obtain ⟨b1, hb1⟩ : ∃ b1, vs[p]? = some b1 := ⟨vs[p]'(by omega), List.getElem?_eq_getElem _⟩
  refine ⟨b1, hb1, ?_⟩
  have ev := val_take_some hb1
  rw [List.take_of_length_le (by omega)] at ev
  have hvlt := val_lt (hv.take p)
  rw [List.length_take, hvl, Nat.min_eq_left (by omega)] at hvlt
  refine Nat.le_of_lt_succ (Nat.lt_of_not_le fun hc => ?_)
  have e1 : (b1 + 1) * R ^ p ≤ 2147483648 * R ^ p := Nat.mul_le_mul_right _ hc
  have e2 : 2147483648 * R ^ p ≤ y * 2 ^ k * R ^ p := Nat.mul_le_mul_right _ h1
  have e3 : y * 2 ^ k * R ^ p ≤ 2 ^ k * val ys := by
    have : R ^ p * y ≤ val ys := by omega
    have h8 : 2 ^ k * (R ^ p * y) ≤ 2 ^ k * val ys := Nat.mul_le_mul_left _ this
    have h9 : 2 ^ k * (R ^ p * y) = y * 2 ^ k * R ^ p := by simp only [Nat.mul_assoc, Nat.mul_comm, Nat.mul_left_comm]
    omega
  rw [Nat.add_mul, Nat.one_mul, Nat.mul_comm b1] at e1
  omega

/-- What is moved out of the dividend is less than the divisor's highest limb. -/
theorem scaled_start {zs xs vs : List Nat} {n p k cy b1 : Nat} (hx : Lim xs) (hxl : xs.length = n) (hzl : zs.length = n) (hz : Lim zs) (hk : k < 32) (h : val zs + R ^ n * cy = 0 + 2 ^ k * val xs) (hp : p ≤ n)
    (hvl : vs.length = p + 1) (hb1 : vs[p]? = some b1) (hb : 2147483648 ≤ b1) : LDm (zs ++ [cy]) (val vs) n (p + 1) (n - p) (n - p) ((zs ++ [cy]).drop (n - p)) [] := by
  have hcy : cy < 2 ^ k := by
    have h1 := val_lt hx
    rw [hxl] at h1
    have h2 : 2 ^ k * val xs < 2 ^ k * R ^ n := Nat.mul_lt_mul_of_pos_left h1 (Nat.pow_pos (by omega))
    refine Nat.lt_of_mul_lt_mul_left (a := R ^ n) ?_
    rw [Nat.mul_comm (R ^ n) (2 ^ k)]
    omega
  have hk2 : 2 ^ k ≤ 2147483648 := by
    have : 2 ^ k ≤ 2 ^ 31 := Nat.pow_le_pow_right (by omega) (by omega)
    exact this
  have hlim : Lim (zs ++ [cy]) := hz.append (Lim.cons (by rw [R_eq]; omega) Lim.nil)
  refine ⟨Nat.le_refl _, by rw [List.length_drop, List.length_append, hzl]; simp, by simp, hlim.drop _, Lim.nil, ?_, by simp [val]⟩
  rw [List.drop_append_of_le_length (by omega), val_append, val_one, List.length_drop, hzl, show n - (n - p) = p by omega]
  have h3 := val_lt (hz.drop (n - p))
  rw [List.length_drop, hzl, show n - (n - p) = p by omega] at h3
  have ev := val_take_some hb1
  rw [List.take_of_length_le (by omega)] at ev
  have h4 : R ^ p * (cy + 1) ≤ R ^ p * b1 := Nat.mul_le_mul_left _ (by omega)
  rw [Nat.mul_add, Nat.mul_one] at h4
  omega

theorem LDm.done {rest0 ws qs : List Nat} {T X Y n m L : Nat} (h : LDm rest0 (T * Y) n m L 0 ws qs) (hT : 0 < T) (hX : val rest0 = T * X) : val qs = X / Y ∧ val ws / T = X % Y := by
  have e := h.eq
  rw [List.drop_zero, hX] at e
  have h1 := div_done h.lt e
  rw [Nat.mul_div_mul_left _ _ hT] at h1
  refine ⟨h1.1, ?_⟩
  rw [h1.2, Nat.mul_mod_mul_left, Nat.mul_div_cancel_left _ hT]
end M

/-- append of one limb: it stays in its block, or lies in a new one. -/
theorem app_one_at (w : World) {ops : Array Oper} {rest : List Oper} {o : Oper} {a : Act} {Q : Exit → Act → World → Prop} (hgd : o.guard = none) (s x : Operand)
    (ho : o.op = .call { callee := .builtin .append, args := #[s, x], argTypes := #[22, 22] })
    (base g n c : Nat) (xs : List Nat) (hs : a.eval s = .slice (some ⟨g, 0, none⟩) n c) (hown : Own w base (some ⟨g, 0, none⟩) n c xs)
    (B : Addr) (y : Nat) (hx : a.eval x = .slice (some B) 1 1) (hr : Rd w (some B) 1 1 [y]) (hbd : n + 1 ≤ 8388608) (hbase : base ≤ w.heap.size)
    (h : ∀ g' c' w', Own w' base (some ⟨g', 0, none⟩) (n + 1) c' (xs ++ [y]) → w.grownBy w' (some g) → (g' = g ∨ g' = w.heap.size) → wpList Tryz.prog ops Q rest (a.put o.dst (.slice (some ⟨g', 0, none⟩) (n + 1) c')) w') :
    wpList Tryz.prog ops Q (o :: rest) a w := by
  obtain ⟨i0, hi, hz0, hz1, hz2⟩ := info_parts kU32.info
  refine wpList_append_own_at w hgd s x 22 ho base 44 i0 (kU32.enc kU32.zero) 1 4 Tryz.underlying22 hi hz0 hz1 hz2 kU32.zsize (by decide) _ n (xs.map kU32.enc) hs hown.row B 1 1 [kU32.enc y] hx rfl ?_ ?_ ?_ ?_ hbase ?_
  · intro j u hj
    match j, hj with
    | 0, hj =>
      simp at hj
      subst hj
      obtain ⟨b, o', hA, hc⟩ := hr.cells (by omega)
      cases hA
      have := hc 0 y rfl
      rw [Addr.add_lit]
      exact this
  · intro u hu
    simp at hu
    subst hu
    rfl
  · unfold maxLen; omega
  · omega
  · intro v' w' h1 h2 h3 h4
    have hlim : ∀ z ∈ xs ++ [y], kU32.ok z := by
      intro z hz
      rcases List.mem_append.1 hz with hz | hz
      · exact hown.lim z hz
      · exact hr.lim z hz
    rcases h1.2 with ⟨rfl, h0⟩ | ⟨g', cap, cur, rfl, r⟩
    · omega
    · refine h g' cap w' ⟨?_, hlim⟩ h2 ?_
      · rw [List.map_append]
        exact h1
      · simpa [Value.ownBlock] using h4

/-- The loop's state in the world. -/
structure LD (w wr : World) (g c gq g2 c2 n m L : Nat) (rest0 vs : List Nat) (j : Nat) (ws qs : List Nat) : Prop where
  math : M.LDm rest0 (M.val vs) n m L j ws qs
  own : Own wr w.heap.size (some ⟨g, 0, none⟩) (n + 1) c (rest0.take j ++ ws)
  ownq : Own wr w.heap.size (some ⟨gq, 0, none⟩) L L (List.replicate j 0 ++ qs)
  rd : Rd wr (some ⟨g2, 0, none⟩) m c2 vs
  below : Below w.heap.size w wr

/-- One limb written. -/
theorem set_rep (j : Nat) (qs : List Nat) (q : Nat) : (List.replicate (j + 1) 0 ++ qs).set j q = List.replicate j 0 ++ q :: qs := by
  rw [List.replicate_succ', List.append_assoc, List.set_append, if_neg (by simp)]
  simp

theorem LD.step {w wr w2 : World} {g c gq g2 c2 n m L j r0 q : Nat} {rest0 vs ws qs ys : List Nat} (h : LD w wr g c gq g2 c2 n m L rest0 vs (j + 1) ws qs) (hg : w.heap.size ≤ g) (hgq : g ≠ gq) (hg2 : g2 ≠ g) (hg2q : g2 ≠ gq) (hrl : rest0.length = n + 1) (hj : rest0[j]? = some r0) (hr0 : r0 < M.R) (hm : m ≤ ws.length) (hm1 : 1 ≤ m)
    (hyl : ys.length = m + 1) (hys : M.Lim ys) (hyv : M.val ys = (r0 + M.R * M.val ws) % M.val vs) (hq : q = (r0 + M.R * M.val ws) / M.val vs) (hV : M.val vs < M.R ^ m) (hVp : 0 < M.val vs) (hp : PutK kU32 wr w2 g j ys) :
    LD w (w2.setCell ⟨gq, j, none⟩ (.int .u32 (q : Int))) g c gq g2 c2 n m L rest0 vs j (ys ++ ws.drop m) (q :: qs) ∧ w2.frozen? ⟨gq, j, none⟩ = false ∧ w2.cell? ⟨gq, j, none⟩ = some (.int .u32 0) := by
  have hmm := h.math.step hV hVp hj hr0 hm hm1 hyl hys hyv
  rw [← hq] at hmm
  have hql : q < M.R := hmm.qlim.head
  have hle := h.math.le
  have hwl := h.math.wl
  have hjl : j < rest0.length := (List.getElem?_eq_some_iff.1 hj).1
  have ho := h.own.put hp (by rw [hyl]; omega) hys
  have hlist : (rest0.take (j + 1) ++ ws).take j ++ ys ++ (rest0.take (j + 1) ++ ws).drop (j + ys.length) = rest0.take j ++ (ys ++ ws.drop m) := by
    rw [List.take_append_of_le_length (by rw [List.length_take]; omega), List.take_take, Nat.min_eq_left (by omega), List.append_assoc, List.drop_append, List.drop_of_length_le (by rw [List.length_take]; omega), List.nil_append, List.length_take, Nat.min_eq_left (by omega), hyl, show j + (m + 1) - (j + 1) = m by omega]
  rw [hlist] at ho
  have hoq := h.ownq.grown hp.grown (fun p hp e => by cases hp; injection e with e; exact hgq e.symm)
  obtain ⟨hoq2, hgr⟩ := hoq.set_ j q hql
  rw [set_rep] at hoq2
  have hcell : w2.cell? ⟨gq, j, none⟩ = some (.int .u32 0) := by
    have := hoq.cellAt (j := j) (x := 0) (by rw [List.getElem?_append_left (by simp), List.getElem?_replicate, if_pos (by omega)])
    exact this
  refine ⟨⟨hmm, ?_, hoq2, ?_, ?_⟩, hoq.frozenAt j, hcell⟩
  · exact ho.grown hgr (fun p hp e => by cases hp; injection e with e; exact hgq e)
  · exact (h.rd.put hp (fun p hp _ => by cases hp; exact hg2)).grown hgr (fun p hp _ e => by cases hp; injection e with e; exact hg2q e)
  · have h1 := h.below.grown hp.grown h.below.size (fun k hk => by cases hk; exact hg)
    exact h1.setCell (p := ⟨gq, j, none⟩) (hoq.lt rfl).1 _

def Gives12 (w : World) (xs ys : List Nat) (e : Ending) (w' : World) : Prop :=
  ∃ A c B d, e = .returned (.tuple #[.slice A xs.length c, .slice B ys.length d]) ∧ Own w' w.heap.size A xs.length c xs ∧ Own w' w.heap.size B ys.length d ys ∧
    (∀ p q, A = some p → B = some q → p.block ≠ q.block) ∧ Below w.heap.size w w'

set_option maxHeartbeats 4000000 in
theorem longDivide_any (A : Option Addr) (n c : Nat) (xs : List Nat) (B : Option Addr) (p d : Nat) (ys : List Nat) (y : Nat) (w : World) (h : Rd w A n c xs) (k : Rd w B (p + 2) d ys) (hn : n ≤ 1048576) (hm : p + 2 ≤ n)
    (hy : ys[p + 1]? = some y) (hy0 : 0 < y) : Calls Tryz.prog 153 #[.slice A n c, .slice B (p + 2) d] w (Gives12 w (M.lims (M.val xs / M.val ys)) (M.lims (M.val xs % M.val ys))) := by
  obtain ⟨b, o, y', hB, hy', hyl, hcell⟩ := k.at32 (i := p + 1) (by omega)
  rw [hy] at hy'
  injection hy' with hy'
  subst hy'
  subst hB
  rw [M.R_eq] at hyl
  have H := Lib.hid h
  have K := Lib.hid k
  have HY := Lib.hid hy
  clear h k hy
  go_enter Tryz.func153, Tryz.ntmps153
  go_wp2_with fail
  refine (lz32_any y w hy0 hyl).mono ?_
  rintro e w' ⟨k, rfl, ⟨hk, hk1, hk2⟩, rfl⟩
  obtain ⟨T, hT⟩ : ∃ T, T = 2 ^ k := ⟨_, rfl⟩
  have hTp : 0 < T := by rw [hT]; exact Nat.pow_pos (by omega)
  have hTl : T ≤ 2147483648 := by
    have : 2 ^ k ≤ 2 ^ 31 := Nat.pow_le_pow_right (by omega) (by omega)
    rw [hT]
    exact this
  have hT2 : (2 : Int) ^ k % 4294967296 = (T : Int) := by
    have e : (2 : Int) ^ k = ((2 ^ k : Nat) : Int) := by simp
    rw [e, ← hT]
    omega
  have hne : ¬ n = 0 := by omega
  have HK := Lib.hid hk
  have HK1 := Lib.hid hk1
  have HK2 := Lib.hid (show y * 2 ^ k < M.R by rw [M.R_eq]; exact hk2)
  have HT := Lib.hid hT
  clear hk1 hk2 hT
  go_wp2_with fail
  refine (clone_any _ _ _ _ _ H.out (by omega)).mono ?_
  rw [Gives_len H.out.len]
  rintro e w1 ⟨A1, c1, rfl, ho1, hb1⟩
  obtain ⟨g1, rfl, hg1, hg1'⟩ := ho1.head (by omega)
  have HO1 := Lib.hid ho1
  have HB1 := Lib.hid hb1
  clear ho1 hb1
  go_wp2_with fail
  refine (clone_any _ _ _ _ _ (K.out.below HB1.out) (by omega)).mono ?_
  rw [Gives_len K.out.len]
  rintro e w2 ⟨A2, c2, rfl, ho2, hb2⟩
  obtain ⟨g2, rfl, hg2, hg2'⟩ := ho2.head (by omega)
  have ho1' := HO1.out.below hb2
  have hb2' := HB1.out.trans (hb2.mono HB1.out.size)
  have hwr1 := OwK.wr (o := 0) (m := n) ho1' (by omega)
  rw [List.drop_zero, List.take_of_length_le (by rw [H.out.len]; exact Nat.le_refl _)] at hwr1
  have HO1' := Lib.hid ho1'
  have HO2 := Lib.hid ho2
  have HB2 := Lib.hid hb2'
  have HW1 := Lib.hid hwr1
  clear ho1' ho2 hb2 hb2' hwr1 HO1
  go_wp2_with fail
  refine (scale_any g1 0 n c1 xs T 0 w2 HW1.out (by omega) (by omega) (by omega)).mono ?_
  rintro e w3 ⟨zs, cy, rfl, hcy, hzl, hzs, hzv, hp3⟩
  have ho3 := HO1'.out.put hp3 (by omega) hzs
  rw [List.take_zero, List.nil_append, Nat.zero_add, hzl, List.drop_of_length_le (by rw [H.out.len]; exact Nat.le_refl _), List.append_nil] at ho3
  have ho2' := HO2.out.grown hp3.grown (fun q hq e => by cases hq; injection e with e; dsimp only at e; omega)
  have hb3 := HB2.out.grown hp3.grown HB2.out.size (fun k hk => by cases hk; exact hg1)
  have HSZ3 := Lib.hid hp3.size
  have HO3 := Lib.hid ho3
  have HO2' := Lib.hid ho2'
  have HB3 := Lib.hid hb3
  have HCY := Lib.hid hcy
  have HZL := Lib.hid hzl
  have HZS := Lib.hid hzs
  have HZV := Lib.hid hzv
  clear ho3 ho2' hb3 hcy hzl hzs hzv hp3 HO2 HO1' HB2 HW1
  go_wp2_with (at_builtin; refine app_one_at _ rfl _ _ rfl w.heap.size g1 n c1 zs rfl (HO3.out.alloc _) _ cy rfl (RdK.one _ cy HCY.out) (by omega) (by have := HB3.out.size; simp; omega) ?_; intro g3 c3 w4 ho4 hg4 hg3; have HO4 := Lib.hid ho4; have HG4 := Lib.hid hg4; have HG3 := Lib.hid hg3; clear ho4 hg4 hg3)
  have hg3 : w.heap.size ≤ g3 := (HO4.out.lt rfl).1
  have hsz4 := HG4.out.size
  have hg23 : g2 ≠ g3 := by
    have h1 := HSZ3.out
    have h2 := HG3.out
    simp only [World.size_alloc] at h2
    omega
  have ho2 := (HO2'.out.alloc (.cells #[.int .u32 (cy : Int)] 44)).grown HG4.out (fun q hq e => by cases hq; injection e with e; dsimp only at e; omega)
  have hb4 := below_app HB3.out HB3.out.size HO3.out HG4.out
  have hwr2 := OwK.wr (o := 0) (m := p + 2) ho2 (by omega)
  rw [List.drop_zero, List.take_of_length_le (by rw [K.out.len]; exact Nat.le_refl _)] at hwr2
  have HO2 := Lib.hid ho2
  have HB4 := Lib.hid hb4
  have HW2 := Lib.hid hwr2
  clear ho2 hb4 hwr2 HO2' HB3 hsz4
  go_wp2_with fail
  refine (scale_any g2 0 (p + 2) c2 ys T 0 w4 HW2.out (by omega) (by omega) (by omega)).mono ?_
  rintro e w5 ⟨vs, cy2, rfl, hcy2, hvl, hvs, hvv, hp5⟩
  rw [HT.out] at hvv
  obtain ⟨hvv2, b1, hb1, hb1l⟩ := M.scaled_by K.out.len HY.out K.out.Lim HK1.out HK2.out HK.out hvl hvs hvv
  have hzv := HZV.out
  rw [HT.out] at hzv
  have hst := M.scaled_start H.out.Lim H.out.len HZL.out HZS.out HK.out hzv (p := p + 1) (by omega) hvl hb1 hb1l
  have ho2 := HO2.out.put hp5 (by omega) hvs
  rw [List.take_zero, List.nil_append, Nat.zero_add, hvl, List.drop_of_length_le (by rw [K.out.len]; exact Nat.le_refl _), List.append_nil] at ho2
  have ho5 := HO4.out.grown hp5.grown (fun q hq e => by cases hq; injection e with e; exact hg23 e.symm)
  have hb5 := HB4.out.grown hp5.grown HB4.out.size (fun k hk => by cases hk; have := HB1.out.size; omega)
  have hVlt := M.val_lt hvs
  rw [hvl] at hVlt
  have hVp : 0 < M.val vs := by
    have ev := M.val_take_some hb1
    rw [List.take_of_length_le (by omega)] at ev
    have : 0 < M.R ^ (p + 1) * b1 := Nat.mul_pos (Nat.pow_pos M.R_pos) (by omega)
    omega
  have hXT : M.val (zs ++ [cy]) = T * M.val xs := by
    rw [M.val_append, M.val_one, HZL.out]
    have := HZV.out
    omega
  have hVT : M.val vs = T * M.val ys := by rw [hvv2, HT.out]
  have hrl : (zs ++ [cy]).length = n + 1 := by simp [HZL.out]
  obtain ⟨L, hL⟩ : ∃ L, L + (p + 1) = n := ⟨n - (p + 1), by omega⟩
  have hL2 : n - (p + 1) = L := by omega
  rw [hL2] at hst
  have hG25 : g2 < w5.heap.size := (ho2.lt rfl).2
  clear hL2
  have HST := Lib.hid hst
  have HRD5 := Lib.hid ho2.rd
  have HO5 := Lib.hid ho5
  have HB5 := Lib.hid hb5
  have HVL := Lib.hid hVlt
  have HVP := Lib.hid hVp
  have HXT := Lib.hid hXT
  have HVT := Lib.hid hVT
  have HRL := Lib.hid hrl
  have HB1' := Lib.hid hb1
  clear hst ho2 ho5 hb5 hVlt hVp hXT hVT hrl hb1 hvv hvv2 hzv hcy2 hvl hvs hp5 HO2 HB4 HW2 HO4 HZV HZL HZS HCY HK1 HK2 HY HT
  have hG35 : g3 < w5.heap.size := (HO5.out.lt rfl).2
  go_wp2_with (at_make; refine make_full kU32 _ rfl _ _ rfl .i64 .i64 _ _ L rfl rfl (by omega) (by omega) (by omega) M.R_pos ?_; intro w6 ho6 hb6; have HO6 := Lib.hid ho6; have HB6 := Lib.hid hb6; clear ho6 hb6)
  go_loopw [10] (fun i wr => ∃ (j : Nat) (ws qs : List Nat), j ≤ L ∧ i = .int .i64 ((j : Int) - 1) ∧ LD w wr g3 c3 w5.heap.size g2 c2 n (p + 2) L (zs ++ [cy]) vs j ws qs) (fun i _ => (intOf i + 1).toNat)
  case atStart =>
    refine ⟨L, _, [], Nat.le_refl _, rfl, HST.out, ?_, ?_, ?_, ?_⟩
    · rw [List.take_append_drop]
      exact HO5.out.below HB6.out
    · rw [List.append_nil]
      exact HO6.out.mono HB5.out.size
    · exact HRD5.out.below HB6.out
    · exact HB5.out.trans (HB6.out.mono HB5.out.size)
  case round =>
    obtain ⟨j, ws, qs, hj, rfl, hld⟩ := hrel
    have HLD := Lib.hid hld
    clear hld HST HO5 HRD5 HB5 HO6 HB6
    have hgq : g3 ≠ w5.heap.size := by omega
    have hg2q : g2 ≠ w5.heap.size := by omega
    by_cases h0 : j = 0
    · subst h0
      have hm := HLD.out.math
      rw [HVT.out] at hm
      obtain ⟨hq, hr⟩ := hm.done hTp HXT.out
      have ho := HLD.out.own
      have hwl := HLD.out.math.wl
      have hql := HLD.out.math.ql
      have hqlim := HLD.out.math.qlim
      rw [List.take_zero, List.nil_append] at ho
      have hoq := HLD.out.ownq
      rw [List.replicate_zero, List.nil_append] at hoq
      have hwr := OwK.wr (o := 0) (m := n + 1) ho (by omega)
      rw [List.drop_zero, List.take_of_length_le (by omega)] at hwr
      have HO := Lib.hid ho
      have HOQ := Lib.hid hoq
      have HW := Lib.hid hwr
      have HQ := Lib.hid hq
      have HR := Lib.hid hr
      have HB := Lib.hid HLD.out.below
      have HQL := Lib.hid hqlim
      have HWL := Lib.hid hwl
      clear hm ho hoq hwr hq hr hql hqlim hwl
      go_wp2_with fail
      refine (divideBy_any g3 0 (n + 1) c3 ws T wr HW.out (by omega) hTp (by omega)).mono ?_
      rintro e w7 ⟨rs, rfl, hrl, hrs, hrv, hp7⟩
      have ho7 := HO.out.put hp7 (by omega) hrs
      rw [List.take_zero, List.nil_append, Nat.zero_add, hrl, List.drop_of_length_le (by rw [HWL.out]; omega), List.append_nil] at ho7
      have hoq7 := HOQ.out.grown hp7.grown (fun q hq e => by cases hq; injection e with e; exact hgq e.symm)
      have hb7 := HB.out.grown hp7.grown HB.out.size (fun k hk => by cases hk; exact hg3)
      have e1 : M.tr qs = M.lims (M.val xs / M.val ys) := by rw [M.tr_eq_lims HQL.out, HQ.out]
      have e2 : M.tr rs = M.lims (M.val xs % M.val ys) := by rw [M.tr_eq_lims hrs, hrv, HR.out]
      have HO7 := Lib.hid ho7
      have HOQ7 := Lib.hid hoq7
      have HB7 := Lib.hid hb7
      have E1 := Lib.hid e1
      have E2 := Lib.hid e2
      clear ho7 hoq7 hb7 e1 e2 hrl hrs hrv hp7
      go_wp2_with fail
      refine (short_any _ _ _ _ _ HOQ7.out.rd (by omega)).mono ?_
      rintro e w' ⟨rfl, rfl⟩
      go_wp2_with fail
      refine (short_any _ _ _ _ _ HO7.out.rd (by omega)).mono ?_
      rintro e w' ⟨rfl, rfl⟩
      go_wp2_with fail
      go_ret2
      have s1 := HOQ7.out.short
      have s2 := HO7.out.short
      rw [E1.out] at s1
      rw [E2.out] at s2
      rw [E1.out, E2.out]
      exact ⟨_, _, _, _, rfl, s1, s2, (fun a b ha hb e => by cases ha; cases hb; exact hgq e.symm), HB7.out⟩
    · obtain ⟨i, rfl⟩ : ∃ i, j = i + 1 := ⟨j - 1, by omega⟩
      have hji : ((i + 1 : Nat) : Int) - 1 = (i : Int) := by omega
      have hwl := HLD.out.math.wl
      have hm2 : p + 2 ≤ ws.length := by omega
      obtain ⟨r0, hr0⟩ : ∃ r0, (zs ++ [cy])[i]? = some r0 := ⟨(zs ++ [cy])[i]'(by rw [HRL.out]; omega), List.getElem?_eq_getElem _⟩
      have hr0l : r0 < M.R := by
        refine HLD.out.own.lim r0 ?_
        refine List.mem_append.2 (.inl ?_)
        rw [M.tr_take_succ hr0]
        simp
      obtain ⟨hpc, hpv⟩ := HLD.out.math.piece HVL.out hr0 hm2
      have hplt := HLD.out.math.piece_lt hr0l
      have hwr := OwK.wr (o := i) (m := p + 2 + 1) HLD.out.own (by omega)
      rw [hpc] at hwr
      have HW := Lib.hid hwr
      have HPV := Lib.hid hpv
      have HPL := Lib.hid hplt
      have HR0 := Lib.hid hr0
      have HR0L := Lib.hid hr0l
      have HM2 := Lib.hid hm2
      have hc3 : n + 1 ≤ c3 := HLD.out.own.rd.cap
      clear hwr hpv hplt hr0 hr0l hm2 hwl hpc h0
      have hie : i + (p + 2) + 1 - i = p + 2 + 1 := by omega
      have hne2 : ¬ c3 = i := by omega
      go_wp2_with fail
      refine (divideLimb_any g3 i p (c3 - i) _ g2 0 c2 vs b1 wr HW.out HLD.out.rd (by omega) hg23 (by omega) HB1'.out hb1l (by rw [HPV.out]; exact HPL.out)).mono ?_
      rw [HPV.out]
      rintro e w7 ⟨rs, rfl, hrl, hrs, hrv, hp7⟩
      obtain ⟨q, hq⟩ : ∃ q, q = (r0 + M.R * M.val ws) / M.val vs := ⟨_, rfl⟩
      obtain ⟨hst, hfz, hcl⟩ := HLD.out.step hg3 hgq hg23 hg2q HRL.out HR0.out HR0L.out HM2.out (by omega) hrl hrs hrv hq HVL.out HVP.out hp7
      rw [← hq]
      have HST := Lib.hid hst
      clear hst hrl hrs hrv hp7 hq
      go_wp2
      go_roundw
      case rel => exact ⟨i, _, _, by omega, by go_num, HST.out⟩
      case measure => simp [intOf]

end Go.Proofs.YtbhgbilhoonopaaGreat

/- nat.Div and nat.Gcd of all numbers. -/
namespace Go.Proofs.YtbhgbilhoonopaaGreat
open Go.RowKit
set_option linter.unusedVariables false

namespace M
theorem tr_last {xs : List Nat} {p : Nat} (h : (tr xs).length = p + 1) : ∃ y, (tr xs)[p]? = some y ∧ 0 < y := by
  obtain ⟨y, hy⟩ : ∃ y, (tr xs)[p]? = some y := ⟨(tr xs)[p]'(by omega), List.getElem?_eq_getElem _⟩
  refine ⟨y, hy, ?_⟩
  rcases Nat.eq_zero_or_pos y with h0 | h0
  · exfalso
    have e := tr_take_succ hy
    rw [List.take_of_length_le (by omega), h0] at e
    have h1 := tr_tr xs
    have h2 := tr_length_le ((tr xs).take p)
    rw [e, tr_snoc_zero] at h1
    have h3 := congrArg List.length h1
    rw [List.length_append, List.length_take] at h3
    rw [List.length_take] at h2
    simp at h3
    omega
  · exact h0
theorem lt_of_tr_length {xs ys : List Nat} (hx : Lim xs) (hy : Lim ys) (h : (tr xs).length < (tr ys).length) : val xs < val ys := by
  have h1 := (lims_length_le (n := val xs) (k := (tr xs).length)).1 (by rw [tr_eq_lims hx]; exact Nat.le_refl _)
  rw [tr_eq_lims hy] at h
  refine Nat.lt_of_not_le fun hc => ?_
  have := (lims_length_le (n := val ys) (k := (tr xs).length)).2 (by omega)
  omega
end M

set_option maxHeartbeats 2000000 in
theorem div_long (A : Option Addr) (n c : Nat) (xs : List Nat) (B : Option Addr) (m d : Nat) (ys : List Nat) (p : Nat) (w : World) (h : Rd w A n c xs) (k : Rd w B m d ys) (hn : n ≤ 1048576) (hm : m ≤ 1048576)
    (hp : (M.tr ys).length = p + 2) (hle : p + 2 ≤ (M.tr xs).length) : Calls Tryz.prog 133 #[.slice A n c, .slice B m d] w (Gives2 w (M.lims (M.val xs / M.val ys)) (M.lims (M.val xs % M.val ys)) 0) := by
  have h1 := M.tr_length_le xs
  rw [h.len] at h1
  obtain ⟨y, hy, hy0⟩ := M.tr_last (p := p + 1) hp
  have hs := h.short
  have ks := k.short
  rw [hp] at ks
  obtain ⟨nx, hnx⟩ : ∃ nx, (M.tr xs).length = nx := ⟨_, rfl⟩
  rw [hnx] at hs hle h1
  have H := Lib.hid h
  have K := Lib.hid k
  have HS := Lib.hid hs
  have KS := Lib.hid ks
  have HP := Lib.hid hp
  have HNX := Lib.hid hnx
  have HY := Lib.hid hy
  clear h k hs ks hp hnx hy
  have hne : ((nx : Int) < (p : Int) + 2) = False := by simp; omega
  have hne1 : (((p : Int) + 2) == 0) = false := by simp; omega
  have hne2 : (((p : Int) + 2) == 1) = false := by simp; omega
  go_enter Tryz.func133, Tryz.ntmps133
  go_wp2_with fail
  refine (short_any _ _ _ _ _ H.out (by omega)).mono ?_
  rw [HNX.out]
  rintro e w' ⟨rfl, rfl⟩
  go_wp2_with fail
  refine (short_any _ _ _ _ _ K.out (by omega)).mono ?_
  rw [HP.out]
  rintro e w' ⟨rfl, rfl⟩
  go_wp2_with fail
  refine (longDivide_any _ _ _ _ _ _ _ _ y _ HS.out KS.out (by omega) hle HY.out hy0).mono ?_
  rw [M.val_tr, M.val_tr]
  rintro e w1 ⟨A1, c1, B1, d1, rfl, ho1, ho2, hne, hb⟩
  go_wp2_with fail
  go_ret3
  exact ⟨A1, c1, B1, d1, rfl, ho1, ho2, hne, hb⟩

theorem div_all (A : Option Addr) (n c : Nat) (xs : List Nat) (B : Option Addr) (m d : Nat) (ys : List Nat) (w : World) (h : Rd w A n c xs) (k : Rd w B m d ys) (hn : n ≤ 1048576) (hm : m ≤ 1048576) (h0 : M.val ys ≠ 0) :
    Calls Tryz.prog 133 #[.slice A n c, .slice B m d] w (Gives2 w (M.lims (M.val xs / M.val ys)) (M.lims (M.val xs % M.val ys)) 0) := by
  have hpos : 0 < (M.tr ys).length := by
    refine Nat.pos_of_ne_zero fun hc => h0 ?_
    exact (M.tr_eq_nil_iff ys).1 (List.eq_nil_of_length_eq_zero hc)
  by_cases hl : (M.tr xs).length < (M.tr ys).length
  · have hlt := M.lt_of_tr_length h.Lim k.Lim hl
    rw [Nat.div_eq_of_lt hlt, Nat.mod_eq_of_lt hlt, M.lims_zero, ← M.tr_eq_lims h.Lim]
    exact div_less A n c xs B m d ys w h k hn hm hl
  · by_cases h1 : (M.tr ys).length = 1
    · obtain ⟨y, hy⟩ := List.length_eq_one_iff.1 h1
      have hv : M.val ys = y := by rw [← M.val_tr, hy, M.val_one]
      rw [hv]
      exact div_limb A n c xs B m d ys y w h k hn hm hy (by omega)
    · obtain ⟨p, hp⟩ : ∃ p, (M.tr ys).length = p + 2 := ⟨(M.tr ys).length - 2, by omega⟩
      exact div_long A n c xs B m d ys p w h k hn hm hp (by omega)

theorem M.lims_length_le_of_le {x y : Nat} {k : Nat} (h : x ≤ y) (hy : (M.lims y).length ≤ k) : (M.lims x).length ≤ k := by
  rw [M.lims_length_le] at hy ⊢
  omega

def GcdR (w : World) (G base k : Nat) (p q : Value) (wr : World) : Prop :=
  ∃ A1 n1 c1 A2 n2 c2 a, p = .slice A1 n1 c1 ∧ q = .slice A2 n2 c2 ∧ Own wr base A1 n1 c1 (M.lims a) ∧ Own wr base A2 n2 c2 (M.lims k) ∧ n1 ≤ 1048576 ∧ n2 ≤ 1048576 ∧ Nat.gcd a k = G ∧ Below base w wr

set_option maxHeartbeats 4000000 in
theorem gcd_all (A : Option Addr) (n c : Nat) (xs : List Nat) (B : Option Addr) (m d : Nat) (ys : List Nat) (w : World) (h : Rd w A n c xs) (k : Rd w B m d ys) (hn : n ≤ 1048576) (hm : m ≤ 1048576) :
    Calls Tryz.prog 99 #[.slice A n c, .slice B m d] w (Gives w (M.lims (Nat.gcd (M.val xs) (M.val ys)))) := by
  obtain ⟨G, hG⟩ : ∃ G, G = Nat.gcd (M.val xs) (M.val ys) := ⟨_, rfl⟩
  rw [← hG]
  have HGG := Lib.hid hG
  clear hG
  have H := Lib.hid h
  have K := Lib.hid k
  clear h k
  have hlx : (M.lims (M.val xs)).length ≤ 1048576 := by have := M.lims_val_length_le H.out.Lim; rw [H.out.len] at this; omega
  have hly : (M.lims (M.val ys)).length ≤ 1048576 := by have := M.lims_val_length_le K.out.Lim; rw [K.out.len] at this; omega
  obtain ⟨nx, hnx⟩ : ∃ nx, (M.lims (M.val xs)).length = nx := ⟨_, rfl⟩
  obtain ⟨ny, hny⟩ : ∃ ny, (M.lims (M.val ys)).length = ny := ⟨_, rfl⟩
  rw [hnx] at hlx
  rw [hny] at hly
  have HNX := Lib.hid hnx
  have HNY := Lib.hid hny
  clear hnx hny
  go_enter Tryz.func99, Tryz.ntmps99
  go_wp2_with fail
  refine (trim_any _ _ _ _ _ H.out (by omega)).mono ?_
  rw [Gives_len HNX.out]
  rintro e w1 ⟨A1, c1, rfl, ho1, hb1⟩
  have HO1 := Lib.hid ho1
  have HB1 := Lib.hid hb1
  clear ho1 hb1
  go_wp2_with fail
  refine (trim_any _ _ _ _ _ (K.out.below HB1.out) (by omega)).mono ?_
  rw [Gives_len HNY.out]
  rintro e w2 ⟨A2, c2, rfl, ho2, hb2⟩
  have HR := Lib.hid (show GcdR w G w.heap.size (M.val ys) (.slice A1 nx c1) (.slice A2 ny c2) w2 from
    ⟨A1, nx, c1, A2, ny, c2, M.val xs, rfl, rfl, HO1.out.below hb2, ho2.mono HB1.out.size, hlx, hly, HGG.out.symm, HB1.out.trans (hb2.mono HB1.out.size)⟩)
  clear ho2 hb2 HO1 HB1
  go_wp2_with fail
  go_loopg [0, 1] (M.val ys) (fun k p q wr => GcdR w G w.heap.size k p q wr)
  case atStart => exact HR.out
  case round =>
    obtain ⟨A3, n3, c3, A4, n4, c4, a, rfl, rfl, ho3, ho4, hn3, hn4, hg, hb⟩ := hrel
    have HO3 := Lib.hid ho3
    have HO4 := Lib.hid ho4
    have HG := Lib.hid hg
    have HB := Lib.hid hb
    have hl3 := ho3.len
    have hl4 := ho4.len
    have HL3 := Lib.hid hl3
    have HL4 := Lib.hid hl4
    clear HR ho3 ho4 hg hb HGG hl3 hl4 H K HNX HNY hlx hly
    by_cases h0 : n4 = 0
    · have hv : gk = 0 := by
        have := HL4.out
        rw [h0] at this
        exact M.lims_eq_nil.1 (List.eq_nil_of_length_eq_zero this)
      have HE := Lib.hid (show a = G by rw [← HG.out, hv, Nat.gcd_zero_right])
      clear hv
      subst h0
      go_wp2_with fail
      go_ret
      rw [← HE.out, Gives_len HL3.out]
      exact ⟨A3, c3, rfl, HO3.out, HB.out⟩
    · have hpos : 0 < n4 := by omega
      have hkp : 0 < gk := by
        rcases Nat.eq_zero_or_pos gk with h | h
        · have := HL4.out
          rw [h, M.lims_zero] at this
          simp at this
          omega
        · exact h
      by_cases ha : a < 18446744073709551616
      · by_cases hk : gk < 18446744073709551616
        · have hgl : G < 18446744073709551616 := by
            rw [← HG.out]
            exact Nat.lt_of_le_of_lt (Nat.gcd_le_right _ hkp) hk
          go_wp2_with fail
          refine (small_yes _ _ _ _ _ HO3.out.rd (by omega) (by rw [M.val_lims]; exact ha)).mono ?_
          rw [M.val_lims]
          rintro e w' ⟨rfl, rfl⟩
          go_wp2_with fail
          refine (small_yes _ _ _ _ _ HO4.out.rd (by omega) (by rw [M.val_lims]; exact hk)).mono ?_
          rw [M.val_lims]
          rintro e w' ⟨rfl, rfl⟩
          go_wp2_with fail
          refine (smallGcd_any _ _ _ ha hk).mono ?_
          rw [HG.out]
          rintro e w3 ⟨rfl, hb3⟩
          have HB3 := Lib.hid hb3
          clear hb3
          go_wp2_with fail
          refine (from_any _ _ (by omega) (by omega)).mono ?_
          rw [Int.toNat_natCast]
          rintro e w4 ⟨A5, c5, rfl, ho5, hb5⟩
          go_wp2_with fail
          go_ret
          have hb13 := HB.out.trans (HB3.out.mono HB.out.size)
          exact ⟨A5, c5, rfl, ho5.mono hb13.size, hb13.trans (hb5.mono hb13.size)⟩
        · go_wp2_with fail
          refine (small_yes _ _ _ _ _ HO3.out.rd (by omega) (by rw [M.val_lims]; exact ha)).mono ?_
          rw [M.val_lims]
          rintro e w' ⟨rfl, rfl⟩
          go_wp2_with fail
          refine (small_no _ _ _ _ _ HO4.out.rd (by omega) (by rw [M.val_lims]; omega)).mono ?_
          rintro e w' ⟨rfl, rfl⟩
          go_wp2_with fail
          refine (div_all _ _ _ _ _ _ _ _ _ HO3.out.rd HO4.out.rd hn3 hn4 (by rw [M.val_lims]; omega)).mono ?_
          rw [M.val_lims, M.val_lims]
          rintro e w3 ⟨A5, c5, B5, d5, rfl, ho5, ho6, hne, hb5⟩
          have hmod : a % gk < gk := Nat.mod_lt _ hkp
          have HR := Lib.hid (show GcdR w G w.heap.size (a % gk) (.slice A4 n4 c4) (.slice B5 (M.lims (a % gk)).length d5) w3 from
            ⟨A4, n4, c4, B5, _, d5, gk, rfl, rfl, HO4.out.below hb5, ho6.mono HB.out.size, hn4, M.lims_length_le_of_le (Nat.le_of_lt hmod) (by rw [HL4.out]; exact hn4), by rw [← HG.out, Nat.gcd_comm gk, ← Nat.gcd_rec gk a, Nat.gcd_comm], HB.out.trans (hb5.mono HB.out.size)⟩)
          clear ho5 ho6 hne hb5
          go_wp2_with fail
          go_roundg (a % gk)
          case measure => exact hmod
          case rel => exact HR.out
      · by_cases hk : gk < 18446744073709551616
        · go_wp2_with fail
          refine (small_no _ _ _ _ _ HO3.out.rd (by omega) (by rw [M.val_lims]; omega)).mono ?_
          rintro e w' ⟨rfl, rfl⟩
          go_wp2_with fail
          refine (small_yes _ _ _ _ _ HO4.out.rd (by omega) (by rw [M.val_lims]; exact hk)).mono ?_
          rw [M.val_lims]
          rintro e w' ⟨rfl, rfl⟩
          go_wp2_with fail
          refine (div_all _ _ _ _ _ _ _ _ _ HO3.out.rd HO4.out.rd hn3 hn4 (by rw [M.val_lims]; omega)).mono ?_
          rw [M.val_lims, M.val_lims]
          rintro e w3 ⟨A5, c5, B5, d5, rfl, ho5, ho6, hne, hb5⟩
          have hmod : a % gk < gk := Nat.mod_lt _ hkp
          have HR := Lib.hid (show GcdR w G w.heap.size (a % gk) (.slice A4 n4 c4) (.slice B5 (M.lims (a % gk)).length d5) w3 from
            ⟨A4, n4, c4, B5, _, d5, gk, rfl, rfl, HO4.out.below hb5, ho6.mono HB.out.size, hn4, M.lims_length_le_of_le (Nat.le_of_lt hmod) (by rw [HL4.out]; exact hn4), by rw [← HG.out, Nat.gcd_comm gk, ← Nat.gcd_rec gk a, Nat.gcd_comm], HB.out.trans (hb5.mono HB.out.size)⟩)
          clear ho5 ho6 hne hb5
          go_wp2_with fail
          go_roundg (a % gk)
          case measure => exact hmod
          case rel => exact HR.out
        · go_wp2_with fail
          refine (small_no _ _ _ _ _ HO3.out.rd (by omega) (by rw [M.val_lims]; omega)).mono ?_
          rintro e w' ⟨rfl, rfl⟩
          go_wp2_with fail
          refine (small_no _ _ _ _ _ HO4.out.rd (by omega) (by rw [M.val_lims]; omega)).mono ?_
          rintro e w' ⟨rfl, rfl⟩
          go_wp2_with fail
          refine (div_all _ _ _ _ _ _ _ _ _ HO3.out.rd HO4.out.rd hn3 hn4 (by rw [M.val_lims]; omega)).mono ?_
          rw [M.val_lims, M.val_lims]
          rintro e w3 ⟨A5, c5, B5, d5, rfl, ho5, ho6, hne, hb5⟩
          have hmod : a % gk < gk := Nat.mod_lt _ hkp
          have HR := Lib.hid (show GcdR w G w.heap.size (a % gk) (.slice A4 n4 c4) (.slice B5 (M.lims (a % gk)).length d5) w3 from
            ⟨A4, n4, c4, B5, _, d5, gk, rfl, rfl, HO4.out.below hb5, ho6.mono HB.out.size, hn4, M.lims_length_le_of_le (Nat.le_of_lt hmod) (by rw [HL4.out]; exact hn4), by rw [← HG.out, Nat.gcd_comm gk, ← Nat.gcd_rec gk a, Nat.gcd_comm], HB.out.trans (hb5.mono HB.out.size)⟩)
          clear ho5 ho6 hne hb5
          go_wp2_with fail
          go_roundg (a % gk)
          case measure => exact hmod
          case rel => exact HR.out

end Go.Proofs.YtbhgbilhoonopaaGreat

/- nat.Div and nat.Gcd in numbers alone. -/
namespace Go.Proofs.YtbhgbilhoonopaaGreat
open Go.RowKit
set_option linter.unusedVariables false

section
variable {w w' : World} {A B : Option Addr} {n c m d v x y k j : Nat}
def GivD (w : World) (q kq r kr : Nat) (code : Int) (e : Ending) (w' : World) : Prop :=
  ∃ A n c B m d, e = .returned (.tuple #[.slice A n c, .slice B m d, .int .i64 code]) ∧ Tm w' A n c q kq ∧ Tm w' B m d r kr ∧ Below w.heap.size w w'

theorem givD {q kq r kr : Nat} {code : Int} (hq : q < M.R ^ kq) (hr : r < M.R ^ kr) {e : Ending} (hg : Gives2 w (M.lims q) (M.lims r) code e w') : GivD w q kq r kr code e w' := by
  obtain ⟨A, c, B, d, rfl, ho, ho', _, hb⟩ := hg
  exact ⟨A, _, c, B, _, d, rfl, ⟨ho.rd, M.lims_length_le.2 hq⟩, ⟨ho'.rd, M.lims_length_le.2 hr⟩, hb⟩

theorem divN (h : Nm w A n c x k) (g : Nm w B m d y j) (hk : k ≤ 1000) (hj : j ≤ 1000) (hy : y ≠ 0) : Calls Tryz.prog 133 #[.slice A n c, .slice B m d] w (GivD w (x / y) k (x % y) j 0) := by
  have h1 := h.lt
  have g1 := g.lt
  have hl := h.le
  have gl := g.le
  obtain ⟨xs, hx, rfl⟩ := h.row
  obtain ⟨ys, hy', rfl⟩ := g.row
  refine (div_all _ _ _ _ _ _ _ _ _ hx hy' (by omega) (by omega) hy).mono fun e w' r => givD ?_ ?_ r
  · exact Nat.lt_of_le_of_lt (Nat.div_le_self _ _) h1
  · exact Nat.lt_trans (Nat.mod_lt _ (Nat.pos_of_ne_zero hy)) g1

theorem divN_zero (h : Nm w A n c x k) (g : Nm w B m d y j) (hk : k ≤ 1000) (hj : j ≤ 1000) (hy : y = 0) : Calls Tryz.prog 133 #[.slice A n c, .slice B m d] w (GivD w 0 0 0 0 3) := by
  have hl := h.le
  have gl := g.le
  obtain ⟨xs, hx, rfl⟩ := h.row
  obtain ⟨ys, hy', rfl⟩ := g.row
  refine (div_zero _ _ _ _ _ _ _ _ _ hx hy' (by omega) (by omega) hy).mono fun e w' r => ?_
  rw [← M.lims_zero] at r
  exact givD (by decide) (by decide) r

theorem gcd_lt_pow {x y a b : Nat} (hx : x < M.R ^ a) (hy : y < M.R ^ b) : Nat.gcd x y < M.R ^ max a b := by
  have h1 : M.R ^ a ≤ M.R ^ max a b := Nat.pow_le_pow_right M.R_pos (by omega)
  have h2 : M.R ^ b ≤ M.R ^ max a b := Nat.pow_le_pow_right M.R_pos (by omega)
  rcases Nat.eq_zero_or_pos x with h | h
  · rw [h, Nat.gcd_zero_left]
    omega
  · have := Nat.gcd_le_left y h
    omega

theorem gcdN (h : Nm w A n c x k) (g : Nm w B m d y j) (hk : k ≤ 1000) (hj : j ≤ 1000) : Calls Tryz.prog 99 #[.slice A n c, .slice B m d] w (GivN w (Nat.gcd x y) (max k j)) := by
  have h1 := h.lt
  have g1 := g.lt
  have hl := h.le
  have gl := g.le
  obtain ⟨xs, hx, rfl⟩ := h.row
  obtain ⟨ys, hy, rfl⟩ := g.row
  exact (gcd_all _ _ _ _ _ _ _ _ _ hx hy (by omega) (by omega)).mono fun e w' r => givN (gcd_lt_pow h1 g1) r

theorem litT1 (w : World) (a : Nat) (v : Int) (hx : a < M.R) (h0 : a ≠ 0) (hv : v = (a : Int)) : Tm (w.alloc (.cells #[.int .u32 v] 44)) (some ⟨w.heap.size, 0, none⟩) 1 1 a 1 := by
  have := lit1 w a v hx hv
  refine ⟨?_, Nat.le_refl _⟩
  have e : M.lims a = [a] := by
    rw [M.lims_pos h0, Nat.mod_eq_of_lt hx, Nat.div_eq_of_lt hx, M.lims_zero]
  rw [e]
  exact this
end

end Go.Proofs.YtbhgbilhoonopaaGreat
