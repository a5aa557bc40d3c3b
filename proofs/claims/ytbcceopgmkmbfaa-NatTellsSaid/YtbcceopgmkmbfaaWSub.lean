/- nat.Sub: for every two rows of limbs (of 2^20 at most). -/
import Derived.Test.YtbcceopgmkmbfaaWCmp
import Derived.Test.YtbcceopgmkmbfaaWSub32
import Derived.Test.YtbcceopgmkmbfaaWParse2
namespace Go.Proofs.Ytbcceopgmkmbfaa
open Go.RowKit Go.Shelf
set_option linter.unusedVariables false
attribute [local go_sem] Oper.semAt_some

/-- What has been taken away so far: the rows' first limbs, side by side; zs: what is left; bo: what is borrowed. -/
structure SubR (l : List (Nat × Nat)) (zs : List Nat) (bo : Nat) : Prop where
  len : zs.length = l.length
  lim : M.Lim zs
  bo1 : bo ≤ 1
  sum : M.val (l.map Prod.fst) + M.R ^ l.length * bo = M.val zs + M.val (l.map Prod.snd)

theorem SubR.start : SubR [] [] 0 := ⟨rfl, M.Lim.nil, by omega, rfl⟩
theorem SubR.step {l : List (Nat × Nat)} {zs : List Nat} {bo x y z bo' : Nat} (h : SubR l zs bo) (hz : z < 4294967296) (hb : bo' ≤ 1) (hs : x + 4294967296 * bo' = z + y + bo) : SubR (l ++ [(x, y)]) (zs ++ [z]) bo' := by
  refine ⟨by simp [h.len], h.lim.append (M.Lim.cons (by rw [M.R_eq]; exact hz) M.Lim.nil), hb, ?_⟩
  rw [List.map_append, List.map_append, M.val_append, M.val_append, M.val_append, h.len, List.length_map, List.length_map, List.length_append]
  simp only [List.map_cons, List.map_nil, M.val, Nat.mul_zero, Nat.add_zero, List.length_cons, List.length_nil, Nat.zero_add, Nat.pow_succ]
  have e := h.sum
  have e1 : M.R ^ l.length * (x + M.R * bo') = M.R ^ l.length * (z + y + bo) := by rw [M.R_eq, hs]
  have e2 : M.R ^ l.length * (x + M.R * bo') = M.R ^ l.length * x + M.R ^ l.length * M.R * bo' := by rw [Nat.mul_add, Nat.mul_assoc]
  have e3 : M.R ^ l.length * (z + y + bo) = M.R ^ l.length * z + M.R ^ l.length * y + M.R ^ l.length * bo := by rw [Nat.mul_add, Nat.mul_add]
  omega

theorem prs_fst (xs ys : List Nat) (k : Nat) : M.val ((prs xs ys k).map Prod.fst) = M.val (xs.take k) := by
  induction k with
  | zero => rfl
  | succ k ih =>
    rw [prs_succ, List.map_append, M.val_append, ih, List.length_map, prs_length, M.val_take_succ]
    simp [M.val]
theorem prs_snd (xs ys : List Nat) (k : Nat) : M.val ((prs xs ys k).map Prod.snd) = M.val (ys.take k) := by
  induction k with
  | zero => rfl
  | succ k ih =>
    rw [prs_succ, List.map_append, M.val_append, ih, List.length_map, prs_length, M.val_take_succ]
    simp [M.val]

/-- append of one limb where there is room: the block stays. -/
theorem appIn_fits {F : Fence} {n : Nat} (w : World) {ops : Array Oper} {rest : List Oper} {o : Oper} {a : Act} {Q : Exit → Act → World → Prop} (hgd : o.guard = none) (s x : Operand)
    (ho : o.op = .call { callee := .builtin .append, args := #[s, x], argTypes := #[22, 22] })
    (base g k cap : Nat) (xs : List Nat) (hs : a.eval s = .slice (some ⟨g, 0, none⟩) k cap) (hown : Own w base (some ⟨g, 0, none⟩) k cap xs)
    (B : Addr) (y : Nat) (hx : a.eval x = .slice (some B) 1 1) (hr : Rd w (some B) 1 1 [y]) (hroom : k + 1 ≤ cap)
    (h : ∀ w', Own w' base (some ⟨g, 0, none⟩) (k + 1) cap (xs ++ [y]) → w.grownBy w' (some g) → wpListIn F n Try.prog ops Q rest (a.put o.dst (.slice (some ⟨g, 0, none⟩) (k + 1) cap)) w') :
    wpListIn F n Try.prog ops Q (o :: rest) a w := by
  obtain ⟨i0, hi, hz0, hz1, hz2⟩ := info_parts kU32.info
  refine wpListIn_append_fits w hgd s x 22 ho base 40 i0 1 Try.underlying22 hi hz1 g k cap (xs.map kU32.enc) hs hown.row B 1 1 [kU32.enc y] hx rfl ?_ ?_ hroom ?_
  · intro j u hj
    match j, hj with
    | 0, hj =>
      simp at hj
      subst hj
      obtain ⟨b, o', hA, hc⟩ := hr.cells (by omega)
      cases hA
      have := hc 0 y rfl
      rw [Addr.add_lit]
      exact this
  · intro u hu
    simp at hu
    subst hu
    rfl
  · intro w' h1 h2
    refine h w' ⟨?_, ?_⟩ h2
    · rw [List.map_append]
      exact h1
    · intro z hz
      rcases List.mem_append.1 hz with hz | hz
      · exact hown.lim z hz
      · exact hr.lim z hz

theorem makeIn_own {F : Fence} {n : Nat} (w : World) {ops : Array Oper} {rest : List Oper} {o : Oper} {a : Act} {Q : Exit → Act → World → Prop} (hg : o.guard = none) (l c : Operand)
    (hop : o.op = Op.makeSlice 22 l c) (kl kc : IntKind) (C : Int) (m : Nat) (hl : a.eval l = .int kl 0) (hc : a.eval c = .int kc C) (hC : C = (m : Int)) (hm : m ≤ 8388608)
    (hK : ∀ w', Own w' w.heap.size (some ⟨w.heap.size, 0, none⟩) 0 m [] → Below w.heap.size w w' → wpListIn F n Try.prog ops Q rest (a.put o.dst (.slice (some ⟨w.heap.size, 0, none⟩) 0 m)) w') :
    wpListIn F n Try.prog ops Q (o :: rest) a w := by
  obtain ⟨i0, hi, hz0, hz1, hz2⟩ := info_parts kU32.info
  refine wpListIn_make_own w hg l c 22 hop w.heap.size 40 i0 (kU32.enc kU32.zero) 1 Try.underlying22 hi hz0 hz1 kl kc C m hl hc hC ?_ (by unfold maxLen; omega) (Nat.le_refl _) ?_
  · rw [hz2]
    show 4 * m ≤ _
    omega
  · intro w' h1 h2
    exact hK w' ⟨h1, fun _ hx => by cases hx⟩ (below_of_grownBy h2)

/-- A block of cells lies as it lay behind a turn of a block that is none. -/
theorem cells_kept {W W' : World} {row : Option Nat} (hg : W.grownBy W' row) (hr : ∀ r, row = some r → ∃ o : Obj, W.heap[r]? = some o ∧ o.isCells = false) {b : Nat} {o : Obj} (h : W.heap[b]? = some o) (ho : o.isCells = true) : W'.heap[b]? = W.heap[b]? := by
  refine hg.block b (Array.getElem?_eq_some_iff.1 h).1 fun e => ?_
  obtain ⟨o', h1, h2⟩ := hr b e.symm
  rw [h] at h1
  cases h1
  rw [ho] at h2
  cases h2

/-- The state between two rounds. -/
def SubI (g Bo Bb m L : Nat) (w : World) (pre : List LL) (W : World) : Prop :=
  (∃ (zs : List Nat) (bo : Nat), Boxed W Bo 22 (.slice (some ⟨g, 0, none⟩) pre.length m) ∧ Boxed W Bb 40 (.int .u32 (bo : Int)) ∧ Own W g (some ⟨g, 0, none⟩) pre.length m zs ∧ SubR (raw pre) zs bo) ∧ Below g w W ∧ L ≤ W.heap.size

theorem SubI.own (g Bo Bb m L : Nat) (w : World) (D : Nat) (hD : g ≤ D) : OwnFrom D (SubI g Bo Bb m L w) := by
  rintro pre W W' row ⟨⟨zs, bo, h1, h2, h3, h4⟩, hb, hL⟩ hg hr
  have hr' : ∀ r, row = some r → ∃ o : Obj, W.heap[r]? = some o ∧ o.isCells = false := fun r e => (hr r e).2
  refine ⟨⟨zs, bo, (cells_kept hg hr' h1 rfl).trans h1, (cells_kept hg hr' h2 rfl).trans h2, ?_, h4⟩, ?_⟩
  · refine h3.grown hg fun p hp e => ?_
    rcases h3.cases with ⟨h0, _⟩ | ⟨g', cur, hA, _, hh, _⟩
    · cases h0
    · cases hA
      cases hp
      obtain ⟨o', h5, h6⟩ := hr' g e.symm
      rw [hh] at h5
      cases h5
      cases h6
  · have hsz : g ≤ W.heap.size := by
      rcases h3.cases with ⟨h0, _⟩ | ⟨g', cur, hA, _, hh, _⟩
      · cases h0
      · cases hA
        exact Nat.le_of_lt (Array.getElem?_eq_some_iff.1 hh).1
    exact ⟨hb.grown hg hsz (fun k hk => by have := (hr k hk).1; omega), Nat.le_trans hL hg.size⟩

def SubP (w : World) (x y : Nat) (e : Ending) (w' : World) : Prop :=
  (y ≤ x ∧ GivesB w (M.lims (x - y)) true e w') ∨ (x < y ∧ GivesB w [] false e w')

theorem sub_hr (W : World) (p : Addr) (v : Value) (z : Nat) (hz : z < 4294967296) : Rd ((W.setCell p v).alloc (.cells #[.int .u32 (z : Int)] 40)) (some ⟨W.heap.size, 0, none⟩) 1 1 [z] := by
  have := RdK.one (K := kU32) (W.setCell p v) z (show z < M.R by rw [M.R_eq]; exact hz)
  have e : (W.setCell p v).heap.size = W.heap.size := by simp [World.setCell]
  rw [e] at this
  exact this
theorem sub_ho {W : World} {g n c : Nat} {zs : List Nat} (h : Own W g (some ⟨g, 0, none⟩) n c zs) {p : Addr} (hp : g ≠ p.block) (v : Value) (o : Obj) : Own ((W.setCell p v).alloc o) g (some ⟨g, 0, none⟩) n c zs :=
  (h.grown (grownBy_setCell W p v) (fun q hq e => by cases hq; injection e with e; exact hp e)).alloc o

theorem sub_step {w W w3 : World} {g Bo Bb m L D z bo bo' x1 x2 : Nat} {zs : List Nat} {pre : List LL} {hx : (x1, x2).1 < M.R ∧ (x1, x2).2 < M.R} {o : Obj} (hgo : g < Bo) (hob : Bo < Bb) (hD : Bb < D) (h1 : Boxed W Bo 22 (.slice (some ⟨g, 0, none⟩) pre.length m))
    (h2 : Boxed W Bb 40 (.int .u32 (bo : Int))) (h4 : SubR (raw pre) zs bo) (hb : Below g w W) (hL : L ≤ W.heap.size) (ho3 : Own w3 g (some ⟨g, 0, none⟩) (pre.length + 1) m (zs ++ [z]))
    (hg3 : ((W.setCell ⟨Bb, 0, none⟩ (.int .u32 (bo' : Int))).alloc o).grownBy w3 (some g)) (hz : z < 4294967296) (hbo' : bo' ≤ 1) (hs : x1 + 4294967296 * bo' = z + x2 + bo) :
    KeepsFrom D W (w3.setCell ⟨Bo, 0, none⟩ (.slice (some ⟨g, 0, none⟩) (pre.length + 1) m)) ∧ Keep (fun j => j ≠ g ∧ j ≠ Bo ∧ j ≠ Bb ∧ j < L) W (w3.setCell ⟨Bo, 0, none⟩ (.slice (some ⟨g, 0, none⟩) (pre.length + 1) m)) ∧
      SubI g Bo Bb m L w (pre ++ [⟨(x1, x2), hx⟩]) (w3.setCell ⟨Bo, 0, none⟩ (.slice (some ⟨g, 0, none⟩) (pre.length + 1) m)) := by
  have hsz1 : (W.setCell ⟨Bb, 0, none⟩ (.int .u32 (bo' : Int))).heap.size = W.heap.size := by simp [World.setCell]
  have hsz2 : ((W.setCell ⟨Bb, 0, none⟩ (.int .u32 (bo' : Int))).alloc o).heap.size = W.heap.size + 1 := by rw [World.size_alloc, hsz1]
  have hsz3 := hg3.size
  have hl1 := h1.lt
  have hl2 := h2.lt
  have b1 : Boxed w3 Bo 22 (.slice (some ⟨g, 0, none⟩) pre.length m) := ((h1.kept (grownBy_setCell W ⟨Bb, 0, none⟩ (.int .u32 (bo' : Int))) (by intro e; injection e with e; dsimp only at e; omega)).alloc o).kept hg3 (by intro e; injection e with e; omega)
  have b2 : Boxed w3 Bb 40 (.int .u32 (bo' : Int)) := ((h2.set (.int .u32 (bo' : Int))).alloc o).kept hg3 (by intro e; injection e with e; omega)
  refine ⟨?_, ?_, ⟨zs ++ [z], bo', ?_, ?_, ?_, ?_⟩, ?_, ?_⟩
  · exact ((((KeepsOthers.setCell _ _ _).from D).trans ((KeepsOthers.alloc _ _).from D)).trans (KeepsFrom.of_grownBy hg3 (fun j e => by cases e; omega))).trans ((KeepsOthers.setCell _ _ _).from D)
  · intro j hj
    rw [heap_setCell_other w3 ⟨Bo, 0, none⟩ j _ hj.2.1, hg3.block j (by omega) (by intro e; injection e with e; exact hj.1 e), Below.heap_alloc _ _ j (by omega), heap_setCell_other W ⟨Bb, 0, none⟩ j _ hj.2.2.1]
  · rw [List.length_append]
    exact b1.set _
  · exact b2.kept (grownBy_setCell w3 ⟨Bo, 0, none⟩ _) (by intro e; injection e with e; dsimp only at e; omega)
  · rw [List.length_append]
    exact ho3.grown (grownBy_setCell w3 ⟨Bo, 0, none⟩ _) (fun p hp e => by cases hp; injection e with e; dsimp only at e; omega)
  · have := h4.step hz hbo' hs
    simpa [raw] using this
  · exact (((hb.setCell (p := ⟨Bb, 0, none⟩) (by dsimp only; omega) _).alloc (by rw [hsz1]; omega) o).grown hg3 (by omega) (fun k hk => by cases hk; exact Nat.le_refl _)).setCell (p := ⟨Bo, 0, none⟩) (by dsimp only; omega) _
  · have : (w3.setCell ⟨Bo, 0, none⟩ (.slice (some ⟨g, 0, none⟩) (pre.length + 1) m)).heap.size = w3.heap.size := by simp [World.setCell]
    rw [this]
    omega

/-- Where all limbs have come. -/
theorem sub_end {xs ys zs : List Nat} {m bo : Nat} (hx : M.Lim xs) (hy : M.Lim ys) (hxl : xs.length ≤ m) (hyl : ys.length ≤ m) (h : SubR (prs xs ys m) zs bo) : (bo = 0 ∧ M.val ys ≤ M.val xs ∧ M.val zs = M.val xs - M.val ys) ∨ (bo = 1 ∧ M.val xs < M.val ys) := by
  have hs := h.sum
  rw [prs_fst, prs_snd, prs_length, List.take_of_length_le hxl, List.take_of_length_le hyl] at hs
  have hl := M.val_lt h.lim
  rw [h.len, prs_length] at hl
  have hb := h.bo1
  rcases (show bo = 0 ∨ bo = 1 by omega) with rfl | rfl
  · left
    rw [Nat.mul_zero] at hs
    omega
  · right
    rw [Nat.mul_one] at hs
    omega

set_option maxRecDepth 100000 in
set_option maxHeartbeats 4000000 in
theorem sub_lt (A : Option Addr) (na nb : Nat) (ca : Nat) (xs : List Nat) (B : Option Addr) (cb : Nat) (ys : List Nat) (w : World) (H : Hid (Rd w A na ca xs)) (K : Hid (Rd w B nb cb ys)) (hna : na ≤ 1048576) (hnb : nb ≤ 1048576) (hc : (na : Int) < nb) :
    CallsIn Fence.wide 5 Try.prog 15 #[.slice A na ca, .slice B nb cb] w (SubP w (M.val xs) (M.val ys)) := by
  refine callsIn_of_wp_marks Try.func15 rfl trivial ?_ rfl
  simp only [Try.ntmps15, List.size_toArray, List.length_cons, List.length_nil, Nat.reduceAdd, Nat.reduceSub, Array.replicate_succ, Array.replicate_zero, List.push_toArray, List.append_toArray, List.nil_append, List.cons_append]
  gi_wp2_with (first
    | (gi_at_make; refine makeIn_own _ rfl _ _ rfl .i64 .i64 _ nb rfl rfl (by omega) (by omega) ?_; intro w1 ho1 hb1; have HO1 := Lib.hid ho1; have HB1 := Lib.hid hb1; clear ho1 hb1)
    | (refine ⟨trivial, ?_⟩; gi_at_call 39; refine (pairs_in _ _ _ _ _ _ _ _).mono ?_; rintro e w' ⟨rfl, rfl⟩))
  have hg1 : w.heap.size < w1.heap.size := (HO1.out.lt rfl).2
  have bO := Boxed.new w1 22 (.slice (some ⟨w.heap.size, 0, none⟩) 0 nb)
  have bB := Boxed.new (w1.alloc (.cells #[.slice (some ⟨w.heap.size, 0, none⟩) 0 nb] 22)) 40 (.int .u32 0)
  have bX := Boxed.new ((w1.alloc (.cells #[.slice (some ⟨w.heap.size, 0, none⟩) 0 nb] 22)).alloc (.cells #[.int .u32 0] 40)) 22 (.slice A na ca)
  have bY := Boxed.new (((w1.alloc (.cells #[.slice (some ⟨w.heap.size, 0, none⟩) 0 nb] 22)).alloc (.cells #[.int .u32 0] 40)).alloc (.cells #[.slice A na ca] 22)) 22 (.slice B nb cb)
  simp only [World.size_alloc] at bB bX bY
  have hB0 := (((HB1.out.alloc HB1.out.size (.cells #[.slice (some ⟨w.heap.size, 0, none⟩) 0 nb] 22)).alloc (by simp; omega) (.cells #[.int .u32 0] 40)).alloc (by simp; omega) (.cells #[.slice A na ca] 22)).alloc (by simp; omega) (.cells #[.slice B nb cb] 22)
  have hmax : max na nb = nb := by omega
  have hps := pairs_stops 4 (by omega) (w1.heap.size + 1 + 1) (w1.heap.size + 1 + 1 + 1) (fun j => j ≠ w.heap.size ∧ j ≠ w1.heap.size ∧ j ≠ w1.heap.size + 1 ∧ j < w1.heap.size + 4) A na ca xs B nb cb ys hna hnb _ (fun p hp hn => by have := H.out.blk hn hp; omega) (fun p hp hn => by have := K.out.blk hn hp; omega) (by omega) (by omega) (by intro j hj; simp; omega) (bX.alloc _).cell bY.cell (H.out.below hB0) (K.out.below hB0)
  rw [hmax] at hps
  refine wpIn_rangeFunc_ownG rfl (by omega) (gf := 63) (lb := #[.pointer (some ⟨w1.heap.size + 1 + 1, 0, none⟩), .pointer (some ⟨w1.heap.size + 1 + 1 + 1, 0, none⟩)]) rfl trivial (enters_of Try.func63 (by kernel_rfl) rfl) hps
    (fun h1 h2 j hj => (h2 j hj).trans (h1 j hj)) (fun W l o o' hl _ _ _ j hj => World.putObj_heap_other (by simp at hl; omega)) (Below.refl _ _) (fun _ => rfl)
    (SubI w.heap.size w1.heap.size (w1.heap.size + 1) nb (w1.heap.size + 4) w) (fun _ _ _ => False) (SubI.own _ _ _ _ _ _ _ (by simp; omega)) (fun _ _ _ _ _ hs _ _ => hs)
    ⟨⟨[], 0, ((bO.alloc _).alloc _).alloc _, (bB.alloc _).alloc _, (((HO1.out.alloc _).alloc _).alloc _).alloc _, SubR.start⟩, hB0, by simp⟩
    (fun x => { tmps := #[.slice A na ca, .slice B nb cb, undef, undef, .slice none 0 0, .bool false, .pointer (some ⟨w1.heap.size, 0, none⟩), .pointer (some ⟨w1.heap.size + 1, 0, none⟩), .int .u32 (x.1.1 : Int), .int .u32 (x.1.2 : Int), .slice A na ca, .int .i64 (na : Int), .slice B nb cb, .int .i64 (nb : Int), .int .i64 (nb : Int), .slice (some ⟨w.heap.size, 0, none⟩) 0 nb, .slice A na ca, .slice B nb cb, .func (.func 63) #[] #[.pointer (some ⟨w1.heap.size + 1 + 1, 0, none⟩), .pointer (some ⟨w1.heap.size + 1 + 1 + 1, 0, none⟩)], .int .u32 (x.1.1 : Int), .int .u32 (x.1.2 : Int), undef, undef, undef, undef, undef, undef, undef, undef, undef, undef, undef, undef, undef, undef, undef], defers := [] }) ?assign ?body ?done ?stop
  case assign =>
    intro l x W K hK
    gi_wp2
    exact hK
  case body =>
    rintro l pre ⟨⟨x1, x2⟩, hx1, hx2⟩ W ⟨⟨zs, bo, h1, h2, h3, h4⟩, hb, hL⟩ hlt
    dsimp only at hx1 hx2 ⊢
    rw [M.R_eq] at hx1 hx2
    have cB := h2.cell
    have fB := h2.frozen
    have cO := h1.cell
    have fO := h1.frozen
    have hbo1 := h4.bo1
    have H1 := Lib.hid h1
    have H2 := Lib.hid h2
    have H3 := Lib.hid h3
    have H4 := Lib.hid h4
    have HB := Lib.hid hb
    clear h1 h2 h3 h4 hb
    gi_wp2_with (first
      | (refine ⟨trivial, ?_⟩; gi_at_call 40; refine (CallsIn.inRound l (callsIn_wide.2 (sub32_any x1 x2 bo _ hx1 hx2 hbo1))).mono ?_; rintro e w' ⟨z, bo', rfl, hz, hbo', hsum, rfl⟩; have HSUM := Lib.hid hsum; clear hsum; have HR3 := Lib.hid (sub_hr W ⟨w1.heap.size + 1, 0, none⟩ (.int .u32 (bo' : Int)) z hz); have HO2 := Lib.hid (sub_ho H3.out (p := ⟨w1.heap.size + 1, 0, none⟩) (by dsimp only; omega) (.int .u32 (bo' : Int)) (.cells #[.int .u32 (z : Int)] 40)))
      | (gi_at_builtin; refine appIn_fits _ rfl _ _ rfl w.heap.size w.heap.size pre.length nb zs rfl HO2.out _ z rfl HR3.out (by omega) ?_; intro w3 ho3 hg3; have HO3 := Lib.hid ho3; have HG3 := Lib.hid hg3; clear ho3 hg3; have b3 := (((H1.out.kept (grownBy_setCell W ⟨w1.heap.size + 1, 0, none⟩ (.int .u32 (bo' : Int))) (by intro e; injection e with e; dsimp only at e; omega)).alloc (.cells #[.int .u32 (z : Int)] 40)).kept HG3.out (by intro e; injection e with e; omega)); have c3 := b3.cell; have f3 := b3.frozen; have B3 := Lib.hid b3; clear b3))
    exact sub_step (by omega) (by omega) (by simp) H1.out H2.out H4.out HB.out hL HO3.out HG3.out hz hbo' HSUM.out
  case done =>
    rintro D zs W hD hz ⟨⟨ds, bo, h1, h2, h3, h4⟩, hb, hL⟩ hK
    rw [hz] at h4
    have hend := sub_end H.out.Lim K.out.Lim (by rw [H.out.len]; omega) (by rw [K.out.len]; omega) h4
    have hlen : zs.length = nb := by have := congrArg List.length hz; simpa [raw, prs] using this
    have cB := h2.cell
    have cO := h1.cell
    rw [hlen] at cO h3
    have H3 := Lib.hid h3
    have HB := Lib.hid hb
    have HK := Lib.hid hK
    clear h1 h2 h3 hb hz hlen hL
    rcases hend with ⟨hbo, hle, hval⟩ | ⟨hbo, hlt⟩
    · subst hbo
      have HLE := Lib.hid hle
      have HVAL := Lib.hid hval
      have hds : M.Lim ds := h4.lim
      have hs := H3.out.short
      rw [M.tr_eq_lims hds, hval] at hs
      have hsl : (M.tr ds).length = (M.lims (M.val xs - M.val ys)).length := by rw [M.tr_eq_lims hds, hval]
      have HSL := Lib.hid hsl
      have HS := Lib.hid hs
      have HDS := Lib.hid hds
      clear hle hval hds h4 hs hsl
      gi_wp2_with (refine ⟨trivial, ?_⟩; gi_at_call 41; refine (callsIn_wide.2 (short_any _ _ _ ds _ H3.out.rd (by omega))).mono ?_; rw [HSL.out]; rintro e w' ⟨rfl, rfl⟩)
      refine ⟨by simp, .inl ⟨_, _, rfl, run_takeDeferred HK.out, ?_⟩⟩
      exact ⟨_, results_tmp2 rfl _ _ _, .inl ⟨HLE.out, _, _, rfl, ⟨ownsRow_putObj HS.out.row _ HK.out rfl, HS.out.lim⟩, HB.out.trans (belowK_b (w := w) (Nat.le_refl _) W D _ _ (by simp at hD; omega) HK.out rfl rfl)⟩⟩
    · subst hbo
      have HLT := Lib.hid hlt
      clear hlt h4
      gi_wp2
      refine ⟨by simp, .inl ⟨_, _, rfl, run_takeDeferred HK.out, ?_⟩⟩
      exact ⟨_, results_tmp2 rfl _ _ _, .inr ⟨HLT.out, _, _, rfl, OwK.nil_ _ _, HB.out.trans (belowK_b (w := w) (Nat.le_refl _) W D _ _ (by simp at hD; omega) HK.out rfl rfl)⟩⟩
  case stop =>
    rintro D c pre W _ _ h _
    exact h.elim

set_option maxRecDepth 100000 in
set_option maxHeartbeats 4000000 in
theorem sub_eq (A : Option Addr) (na : Nat) (ca : Nat) (xs : List Nat) (B : Option Addr) (cb : Nat) (ys : List Nat) (w : World) (H : Hid (Rd w A na ca xs)) (K : Hid (Rd w B na cb ys)) (hna : na ≤ 1048576) (hnb : na ≤ 1048576) :
    CallsIn Fence.wide 5 Try.prog 15 #[.slice A na ca, .slice B na cb] w (SubP w (M.val xs) (M.val ys)) := by
  refine callsIn_of_wp_marks Try.func15 rfl trivial ?_ rfl
  simp only [Try.ntmps15, List.size_toArray, List.length_cons, List.length_nil, Nat.reduceAdd, Nat.reduceSub, Array.replicate_succ, Array.replicate_zero, List.push_toArray, List.append_toArray, List.nil_append, List.cons_append]
  gi_wp2_with (first
    | (gi_at_make; refine makeIn_own _ rfl _ _ rfl .i64 .i64 _ na rfl rfl (by omega) (by omega) ?_; intro w1 ho1 hb1; have HO1 := Lib.hid ho1; have HB1 := Lib.hid hb1; clear ho1 hb1)
    | (refine ⟨trivial, ?_⟩; gi_at_call 39; refine (pairs_in _ _ _ _ _ _ _ _).mono ?_; rintro e w' ⟨rfl, rfl⟩))
  have hg1 : w.heap.size < w1.heap.size := (HO1.out.lt rfl).2
  have bO := Boxed.new w1 22 (.slice (some ⟨w.heap.size, 0, none⟩) 0 na)
  have bB := Boxed.new (w1.alloc (.cells #[.slice (some ⟨w.heap.size, 0, none⟩) 0 na] 22)) 40 (.int .u32 0)
  have bX := Boxed.new ((w1.alloc (.cells #[.slice (some ⟨w.heap.size, 0, none⟩) 0 na] 22)).alloc (.cells #[.int .u32 0] 40)) 22 (.slice A na ca)
  have bY := Boxed.new (((w1.alloc (.cells #[.slice (some ⟨w.heap.size, 0, none⟩) 0 na] 22)).alloc (.cells #[.int .u32 0] 40)).alloc (.cells #[.slice A na ca] 22)) 22 (.slice B na cb)
  simp only [World.size_alloc] at bB bX bY
  have hB0 := (((HB1.out.alloc HB1.out.size (.cells #[.slice (some ⟨w.heap.size, 0, none⟩) 0 na] 22)).alloc (by simp; omega) (.cells #[.int .u32 0] 40)).alloc (by simp; omega) (.cells #[.slice A na ca] 22)).alloc (by simp; omega) (.cells #[.slice B na cb] 22)
  have hmax : max na na = na := by omega
  have hps := pairs_stops 4 (by omega) (w1.heap.size + 1 + 1) (w1.heap.size + 1 + 1 + 1) (fun j => j ≠ w.heap.size ∧ j ≠ w1.heap.size ∧ j ≠ w1.heap.size + 1 ∧ j < w1.heap.size + 4) A na ca xs B na cb ys hna hnb _ (fun p hp hn => by have := H.out.blk hn hp; omega) (fun p hp hn => by have := K.out.blk hn hp; omega) (by omega) (by omega) (by intro j hj; simp; omega) (bX.alloc _).cell bY.cell (H.out.below hB0) (K.out.below hB0)
  rw [hmax] at hps
  refine wpIn_rangeFunc_ownG rfl (by omega) (gf := 63) (lb := #[.pointer (some ⟨w1.heap.size + 1 + 1, 0, none⟩), .pointer (some ⟨w1.heap.size + 1 + 1 + 1, 0, none⟩)]) rfl trivial (enters_of Try.func63 (by kernel_rfl) rfl) hps
    (fun h1 h2 j hj => (h2 j hj).trans (h1 j hj)) (fun W l o o' hl _ _ _ j hj => World.putObj_heap_other (by simp at hl; omega)) (Below.refl _ _) (fun _ => rfl)
    (SubI w.heap.size w1.heap.size (w1.heap.size + 1) na (w1.heap.size + 4) w) (fun _ _ _ => False) (SubI.own _ _ _ _ _ _ _ (by simp; omega)) (fun _ _ _ _ _ hs _ _ => hs)
    ⟨⟨[], 0, ((bO.alloc _).alloc _).alloc _, (bB.alloc _).alloc _, (((HO1.out.alloc _).alloc _).alloc _).alloc _, SubR.start⟩, hB0, by simp⟩
    (fun x => { tmps := #[.slice A na ca, .slice B na cb, undef, undef, .slice none 0 0, .bool false, .pointer (some ⟨w1.heap.size, 0, none⟩), .pointer (some ⟨w1.heap.size + 1, 0, none⟩), .int .u32 (x.1.1 : Int), .int .u32 (x.1.2 : Int), .slice A na ca, .int .i64 (na : Int), .slice B na cb, .int .i64 (na : Int), .int .i64 (na : Int), .slice (some ⟨w.heap.size, 0, none⟩) 0 na, .slice A na ca, .slice B na cb, .func (.func 63) #[] #[.pointer (some ⟨w1.heap.size + 1 + 1, 0, none⟩), .pointer (some ⟨w1.heap.size + 1 + 1 + 1, 0, none⟩)], .int .u32 (x.1.1 : Int), .int .u32 (x.1.2 : Int), undef, undef, undef, undef, undef, undef, undef, undef, undef, undef, undef, undef, undef, undef, undef], defers := [] }) ?assign ?body ?done ?stop
  case assign =>
    intro l x W K hK
    gi_wp2
    exact hK
  case body =>
    rintro l pre ⟨⟨x1, x2⟩, hx1, hx2⟩ W ⟨⟨zs, bo, h1, h2, h3, h4⟩, hb, hL⟩ hlt
    dsimp only at hx1 hx2 ⊢
    rw [M.R_eq] at hx1 hx2
    have cB := h2.cell
    have fB := h2.frozen
    have cO := h1.cell
    have fO := h1.frozen
    have hbo1 := h4.bo1
    have H1 := Lib.hid h1
    have H2 := Lib.hid h2
    have H3 := Lib.hid h3
    have H4 := Lib.hid h4
    have HB := Lib.hid hb
    clear h1 h2 h3 h4 hb
    gi_wp2_with (first
      | (refine ⟨trivial, ?_⟩; gi_at_call 40; refine (CallsIn.inRound l (callsIn_wide.2 (sub32_any x1 x2 bo _ hx1 hx2 hbo1))).mono ?_; rintro e w' ⟨z, bo', rfl, hz, hbo', hsum, rfl⟩; have HSUM := Lib.hid hsum; clear hsum; have HR3 := Lib.hid (sub_hr W ⟨w1.heap.size + 1, 0, none⟩ (.int .u32 (bo' : Int)) z hz); have HO2 := Lib.hid (sub_ho H3.out (p := ⟨w1.heap.size + 1, 0, none⟩) (by dsimp only; omega) (.int .u32 (bo' : Int)) (.cells #[.int .u32 (z : Int)] 40)))
      | (gi_at_builtin; refine appIn_fits _ rfl _ _ rfl w.heap.size w.heap.size pre.length na zs rfl HO2.out _ z rfl HR3.out (by omega) ?_; intro w3 ho3 hg3; have HO3 := Lib.hid ho3; have HG3 := Lib.hid hg3; clear ho3 hg3; have b3 := (((H1.out.kept (grownBy_setCell W ⟨w1.heap.size + 1, 0, none⟩ (.int .u32 (bo' : Int))) (by intro e; injection e with e; dsimp only at e; omega)).alloc (.cells #[.int .u32 (z : Int)] 40)).kept HG3.out (by intro e; injection e with e; omega)); have c3 := b3.cell; have f3 := b3.frozen; have B3 := Lib.hid b3; clear b3))
    exact sub_step (by omega) (by omega) (by simp) H1.out H2.out H4.out HB.out hL HO3.out HG3.out hz hbo' HSUM.out
  case done =>
    rintro D zs W hD hz ⟨⟨ds, bo, h1, h2, h3, h4⟩, hb, hL⟩ hK
    rw [hz] at h4
    have hend := sub_end H.out.Lim K.out.Lim (by rw [H.out.len]; omega) (by rw [K.out.len]; omega) h4
    have hlen : zs.length = na := by have := congrArg List.length hz; simpa [raw, prs] using this
    have cB := h2.cell
    have cO := h1.cell
    rw [hlen] at cO h3
    have H3 := Lib.hid h3
    have HB := Lib.hid hb
    have HK := Lib.hid hK
    clear h1 h2 h3 hb hz hlen hL
    rcases hend with ⟨hbo, hle, hval⟩ | ⟨hbo, hlt⟩
    · subst hbo
      have HLE := Lib.hid hle
      have HVAL := Lib.hid hval
      have hds : M.Lim ds := h4.lim
      have hs := H3.out.short
      rw [M.tr_eq_lims hds, hval] at hs
      have hsl : (M.tr ds).length = (M.lims (M.val xs - M.val ys)).length := by rw [M.tr_eq_lims hds, hval]
      have HSL := Lib.hid hsl
      have HS := Lib.hid hs
      have HDS := Lib.hid hds
      clear hle hval hds h4 hs hsl
      gi_wp2_with (refine ⟨trivial, ?_⟩; gi_at_call 41; refine (callsIn_wide.2 (short_any _ _ _ ds _ H3.out.rd (by omega))).mono ?_; rw [HSL.out]; rintro e w' ⟨rfl, rfl⟩)
      refine ⟨by simp, .inl ⟨_, _, rfl, run_takeDeferred HK.out, ?_⟩⟩
      exact ⟨_, results_tmp2 rfl _ _ _, .inl ⟨HLE.out, _, _, rfl, ⟨ownsRow_putObj HS.out.row _ HK.out rfl, HS.out.lim⟩, HB.out.trans (belowK_b (w := w) (Nat.le_refl _) W D _ _ (by simp at hD; omega) HK.out rfl rfl)⟩⟩
    · subst hbo
      have HLT := Lib.hid hlt
      clear hlt h4
      gi_wp2
      refine ⟨by simp, .inl ⟨_, _, rfl, run_takeDeferred HK.out, ?_⟩⟩
      exact ⟨_, results_tmp2 rfl _ _ _, .inr ⟨HLT.out, _, _, rfl, OwK.nil_ _ _, HB.out.trans (belowK_b (w := w) (Nat.le_refl _) W D _ _ (by simp at hD; omega) HK.out rfl rfl)⟩⟩
  case stop =>
    rintro D c pre W _ _ h _
    exact h.elim

set_option maxRecDepth 100000 in
set_option maxHeartbeats 4000000 in
theorem sub_gt (A : Option Addr) (na nb : Nat) (ca : Nat) (xs : List Nat) (B : Option Addr) (cb : Nat) (ys : List Nat) (w : World) (H : Hid (Rd w A na ca xs)) (K : Hid (Rd w B nb cb ys)) (hna : na ≤ 1048576) (hnb : nb ≤ 1048576) (hc : (nb : Int) < na) :
    CallsIn Fence.wide 5 Try.prog 15 #[.slice A na ca, .slice B nb cb] w (SubP w (M.val xs) (M.val ys)) := by
  refine callsIn_of_wp_marks Try.func15 rfl trivial ?_ rfl
  simp only [Try.ntmps15, List.size_toArray, List.length_cons, List.length_nil, Nat.reduceAdd, Nat.reduceSub, Array.replicate_succ, Array.replicate_zero, List.push_toArray, List.append_toArray, List.nil_append, List.cons_append]
  gi_wp2_with (first
    | (gi_at_make; refine makeIn_own _ rfl _ _ rfl .i64 .i64 _ na rfl rfl (by omega) (by omega) ?_; intro w1 ho1 hb1; have HO1 := Lib.hid ho1; have HB1 := Lib.hid hb1; clear ho1 hb1)
    | (refine ⟨trivial, ?_⟩; gi_at_call 39; refine (pairs_in _ _ _ _ _ _ _ _).mono ?_; rintro e w' ⟨rfl, rfl⟩))
  have hg1 : w.heap.size < w1.heap.size := (HO1.out.lt rfl).2
  have bO := Boxed.new w1 22 (.slice (some ⟨w.heap.size, 0, none⟩) 0 na)
  have bB := Boxed.new (w1.alloc (.cells #[.slice (some ⟨w.heap.size, 0, none⟩) 0 na] 22)) 40 (.int .u32 0)
  have bX := Boxed.new ((w1.alloc (.cells #[.slice (some ⟨w.heap.size, 0, none⟩) 0 na] 22)).alloc (.cells #[.int .u32 0] 40)) 22 (.slice A na ca)
  have bY := Boxed.new (((w1.alloc (.cells #[.slice (some ⟨w.heap.size, 0, none⟩) 0 na] 22)).alloc (.cells #[.int .u32 0] 40)).alloc (.cells #[.slice A na ca] 22)) 22 (.slice B nb cb)
  simp only [World.size_alloc] at bB bX bY
  have hB0 := (((HB1.out.alloc HB1.out.size (.cells #[.slice (some ⟨w.heap.size, 0, none⟩) 0 na] 22)).alloc (by simp; omega) (.cells #[.int .u32 0] 40)).alloc (by simp; omega) (.cells #[.slice A na ca] 22)).alloc (by simp; omega) (.cells #[.slice B nb cb] 22)
  have hmax : max na nb = na := by omega
  have hps := pairs_stops 4 (by omega) (w1.heap.size + 1 + 1) (w1.heap.size + 1 + 1 + 1) (fun j => j ≠ w.heap.size ∧ j ≠ w1.heap.size ∧ j ≠ w1.heap.size + 1 ∧ j < w1.heap.size + 4) A na ca xs B nb cb ys hna hnb _ (fun p hp hn => by have := H.out.blk hn hp; omega) (fun p hp hn => by have := K.out.blk hn hp; omega) (by omega) (by omega) (by intro j hj; simp; omega) (bX.alloc _).cell bY.cell (H.out.below hB0) (K.out.below hB0)
  rw [hmax] at hps
  refine wpIn_rangeFunc_ownG rfl (by omega) (gf := 63) (lb := #[.pointer (some ⟨w1.heap.size + 1 + 1, 0, none⟩), .pointer (some ⟨w1.heap.size + 1 + 1 + 1, 0, none⟩)]) rfl trivial (enters_of Try.func63 (by kernel_rfl) rfl) hps
    (fun h1 h2 j hj => (h2 j hj).trans (h1 j hj)) (fun W l o o' hl _ _ _ j hj => World.putObj_heap_other (by simp at hl; omega)) (Below.refl _ _) (fun _ => rfl)
    (SubI w.heap.size w1.heap.size (w1.heap.size + 1) na (w1.heap.size + 4) w) (fun _ _ _ => False) (SubI.own _ _ _ _ _ _ _ (by simp; omega)) (fun _ _ _ _ _ hs _ _ => hs)
    ⟨⟨[], 0, ((bO.alloc _).alloc _).alloc _, (bB.alloc _).alloc _, (((HO1.out.alloc _).alloc _).alloc _).alloc _, SubR.start⟩, hB0, by simp⟩
    (fun x => { tmps := #[.slice A na ca, .slice B nb cb, undef, undef, .slice none 0 0, .bool false, .pointer (some ⟨w1.heap.size, 0, none⟩), .pointer (some ⟨w1.heap.size + 1, 0, none⟩), .int .u32 (x.1.1 : Int), .int .u32 (x.1.2 : Int), .slice A na ca, .int .i64 (na : Int), .slice B nb cb, .int .i64 (nb : Int), .int .i64 (na : Int), .slice (some ⟨w.heap.size, 0, none⟩) 0 na, .slice A na ca, .slice B nb cb, .func (.func 63) #[] #[.pointer (some ⟨w1.heap.size + 1 + 1, 0, none⟩), .pointer (some ⟨w1.heap.size + 1 + 1 + 1, 0, none⟩)], .int .u32 (x.1.1 : Int), .int .u32 (x.1.2 : Int), undef, undef, undef, undef, undef, undef, undef, undef, undef, undef, undef, undef, undef, undef, undef], defers := [] }) ?assign ?body ?done ?stop
  case assign =>
    intro l x W K hK
    gi_wp2
    exact hK
  case body =>
    rintro l pre ⟨⟨x1, x2⟩, hx1, hx2⟩ W ⟨⟨zs, bo, h1, h2, h3, h4⟩, hb, hL⟩ hlt
    dsimp only at hx1 hx2 ⊢
    rw [M.R_eq] at hx1 hx2
    have cB := h2.cell
    have fB := h2.frozen
    have cO := h1.cell
    have fO := h1.frozen
    have hbo1 := h4.bo1
    have H1 := Lib.hid h1
    have H2 := Lib.hid h2
    have H3 := Lib.hid h3
    have H4 := Lib.hid h4
    have HB := Lib.hid hb
    clear h1 h2 h3 h4 hb
    gi_wp2_with (first
      | (refine ⟨trivial, ?_⟩; gi_at_call 40; refine (CallsIn.inRound l (callsIn_wide.2 (sub32_any x1 x2 bo _ hx1 hx2 hbo1))).mono ?_; rintro e w' ⟨z, bo', rfl, hz, hbo', hsum, rfl⟩; have HSUM := Lib.hid hsum; clear hsum; have HR3 := Lib.hid (sub_hr W ⟨w1.heap.size + 1, 0, none⟩ (.int .u32 (bo' : Int)) z hz); have HO2 := Lib.hid (sub_ho H3.out (p := ⟨w1.heap.size + 1, 0, none⟩) (by dsimp only; omega) (.int .u32 (bo' : Int)) (.cells #[.int .u32 (z : Int)] 40)))
      | (gi_at_builtin; refine appIn_fits _ rfl _ _ rfl w.heap.size w.heap.size pre.length na zs rfl HO2.out _ z rfl HR3.out (by omega) ?_; intro w3 ho3 hg3; have HO3 := Lib.hid ho3; have HG3 := Lib.hid hg3; clear ho3 hg3; have b3 := (((H1.out.kept (grownBy_setCell W ⟨w1.heap.size + 1, 0, none⟩ (.int .u32 (bo' : Int))) (by intro e; injection e with e; dsimp only at e; omega)).alloc (.cells #[.int .u32 (z : Int)] 40)).kept HG3.out (by intro e; injection e with e; omega)); have c3 := b3.cell; have f3 := b3.frozen; have B3 := Lib.hid b3; clear b3))
    exact sub_step (by omega) (by omega) (by simp) H1.out H2.out H4.out HB.out hL HO3.out HG3.out hz hbo' HSUM.out
  case done =>
    rintro D zs W hD hz ⟨⟨ds, bo, h1, h2, h3, h4⟩, hb, hL⟩ hK
    rw [hz] at h4
    have hend := sub_end H.out.Lim K.out.Lim (by rw [H.out.len]; omega) (by rw [K.out.len]; omega) h4
    have hlen : zs.length = na := by have := congrArg List.length hz; simpa [raw, prs] using this
    have cB := h2.cell
    have cO := h1.cell
    rw [hlen] at cO h3
    have H3 := Lib.hid h3
    have HB := Lib.hid hb
    have HK := Lib.hid hK
    clear h1 h2 h3 hb hz hlen hL
    rcases hend with ⟨hbo, hle, hval⟩ | ⟨hbo, hlt⟩
    · subst hbo
      have HLE := Lib.hid hle
      have HVAL := Lib.hid hval
      have hds : M.Lim ds := h4.lim
      have hs := H3.out.short
      rw [M.tr_eq_lims hds, hval] at hs
      have hsl : (M.tr ds).length = (M.lims (M.val xs - M.val ys)).length := by rw [M.tr_eq_lims hds, hval]
      have HSL := Lib.hid hsl
      have HS := Lib.hid hs
      have HDS := Lib.hid hds
      clear hle hval hds h4 hs hsl
      gi_wp2_with (refine ⟨trivial, ?_⟩; gi_at_call 41; refine (callsIn_wide.2 (short_any _ _ _ ds _ H3.out.rd (by omega))).mono ?_; rw [HSL.out]; rintro e w' ⟨rfl, rfl⟩)
      refine ⟨by simp, .inl ⟨_, _, rfl, run_takeDeferred HK.out, ?_⟩⟩
      exact ⟨_, results_tmp2 rfl _ _ _, .inl ⟨HLE.out, _, _, rfl, ⟨ownsRow_putObj HS.out.row _ HK.out rfl, HS.out.lim⟩, HB.out.trans (belowK_b (w := w) (Nat.le_refl _) W D _ _ (by simp at hD; omega) HK.out rfl rfl)⟩⟩
    · subst hbo
      have HLT := Lib.hid hlt
      clear hlt h4
      gi_wp2
      refine ⟨by simp, .inl ⟨_, _, rfl, run_takeDeferred HK.out, ?_⟩⟩
      exact ⟨_, results_tmp2 rfl _ _ _, .inr ⟨HLT.out, _, _, rfl, OwK.nil_ _ _, HB.out.trans (belowK_b (w := w) (Nat.le_refl _) W D _ _ (by simp at hD; omega) HK.out rfl rfl)⟩⟩
  case stop =>
    rintro D c pre W _ _ h _
    exact h.elim

theorem sub_any (A : Option Addr) (na ca : Nat) (xs : List Nat) (B : Option Addr) (nb cb : Nat) (ys : List Nat) (w : World) (h : Rd w A na ca xs) (k : Rd w B nb cb ys) (hna : na ≤ 1048576) (hnb : nb ≤ 1048576) :
    Calls Try.prog 15 #[.slice A na ca, .slice B nb cb] w (SubP w (M.val xs) (M.val ys)) := by
  rcases Nat.lt_trichotomy na nb with hc | hc | hc
  · exact callsIn_wide.1 (sub_lt A na nb ca xs B cb ys w h k hna hnb (by omega))
  · subst hc
    exact callsIn_wide.1 (sub_eq A na ca xs B cb ys w h k hna hnb)
  · exact callsIn_wide.1 (sub_gt A na nb ca xs B cb ys w h k hna hnb (by omega))

end Go.Proofs.Ytbcceopgmkmbfaa
