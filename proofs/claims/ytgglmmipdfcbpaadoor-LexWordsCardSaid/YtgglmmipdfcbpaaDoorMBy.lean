/-
  Rows of bytes (as MB, which is of limbs, in a program that has these).
-/
import Derived.Test.YtgglmmipdfcbpaaDoorMA
import Derived.Test.YtgglmmipdfcbpaaDoorProg
import Derived.WalkKit
import Derived.WalkSpells
import Derived.WalkLawsBesides
import Derived.Lib.Hide
import Derived.BigQuiet
import Derived.Deep.QuietTactic
import Derived.Laws.AppendOwnNone
import Derived.Laws.BytesArg
namespace Go.Proofs.YtgglmmipdfcbpaaDoor
open Go.RowKit
set_option linter.unusedVariables false

theorem ret_eq {a b : Value} (h : a = b) : Ending.returned a = .returned b := by rw [h]
theorem ret_int {k : IntKind} {a b : Int} (h : a = b) : Ending.returned (.int k a) = .returned (.int k b) := by rw [h]
theorem ret_bool {a b : Bool} (h : a = b) : Ending.returned (.bool a) = .returned (.bool b) := by rw [h]
theorem ret_slice {A : Option Addr} {n m c : Nat} (h : n = m) : Ending.returned (.slice A n c) = .returned (.slice A m c) := by rw [h]

/-- A kind of elements, each of one cell: how they lie in memory, which there are, the numbers of their type and of the slices' type. -/
structure Kd (α : Type) where
  enc : α → Value
  ok : α → Prop
  e : TypeId
  t : TypeId
  zero : α
  bytes : Nat
  one : ∀ x, (enc x).oneCell' = true
  under : Tryd.prog.underlying t = some (.slice e)
  info : (Tryd.prog.info? e).map (fun i => (i.zero, i.size, i.bytes)) = some (some (enc zero), 1, bytes)
  zsize : (enc zero).cells.size = 1
  light : bytes ≤ 16

/-- Bytes. -/
def kU8 : Kd Nat := ⟨fun x => .int .u8 (x : Int), fun x => x < 256, 5, 24, 0, 1, fun _ => rfl, Tryd.underlying24, by kernel_rfl, rfl, by decide⟩

/-- A slice that reads as xs (nil and empty ones let in). -/
structure RdK {α : Type} (K : Kd α) (w : World) (A : Option Addr) (n c : Nat) (xs : List α) : Prop where
  len : xs.length = n
  cap : n ≤ c
  nil : A = none → c = 0
  lim : ∀ x ∈ xs, K.ok x
  cells : 0 < n → ∃ b o, A = some ⟨b, o, none⟩ ∧ ∀ (i : Nat) (x : α), xs[i]? = some x → w.cell? ⟨b, o + i, none⟩ = some (K.enc x)

section
variable {α : Type} {K : Kd α} {w w' : World} {A : Option Addr} {n c : Nat} {xs : List α}

theorem RdK.at_ (h : RdK K w A n c xs) {i : Nat} (hi : i < n) :
    ∃ b o x, A = some ⟨b, o, none⟩ ∧ xs[i]? = some x ∧ K.ok x ∧ w.cell? ⟨b, o + i, none⟩ = some (K.enc x) := by
  obtain ⟨b, o, hA, hc⟩ := h.cells (by omega)
  have hl : i < xs.length := by rw [h.len]; exact hi
  have hx : xs[i]? = some xs[i] := List.getElem?_eq_getElem hl
  exact ⟨b, o, xs[i], hA, hx, h.lim _ (List.getElem_mem hl), hc i _ hx⟩

/-- What lies in a block that stayed as it was reads as it did. -/
theorem RdK.keep (h : RdK K w A n c xs) (hk : ∀ p, A = some p → 0 < n → w'.heap[p.block]? = w.heap[p.block]?) : RdK K w' A n c xs := by
  refine ⟨h.len, h.cap, h.nil, h.lim, fun hn => ?_⟩
  obtain ⟨b, o, hA, hc⟩ := h.cells hn
  refine ⟨b, o, hA, fun i x hx => ?_⟩
  have := hk _ hA hn
  exact (World.cell?_of_block (a := ⟨b, o + i, none⟩) this).trans (hc i x hx)

theorem RdK.blk (h : RdK K w A n c xs) (hn : 0 < n) {p : Addr} (hA : A = some p) : p.block < w.heap.size := by
  obtain ⟨b, o, hA', hc⟩ := h.cells hn
  rw [hA'] at hA
  cases hA
  have hl : 0 < xs.length := by rw [h.len]; exact hn
  exact World.block_lt_of_cell? w _ (hc 0 _ (List.getElem?_eq_getElem hl))

theorem RdK.below (h : RdK K w A n c xs) (hb : Below w.heap.size w w') : RdK K w' A n c xs :=
  h.keep fun p hp hn => hb.block _ (h.blk hn hp)

/-- Behind a law that wrote one row: that row is another one. -/
theorem RdK.grown {row : Option Nat} (h : RdK K w A n c xs) (hg : w.grownBy w' row) (hr : ∀ p, A = some p → 0 < n → some p.block ≠ row) : RdK K w' A n c xs :=
  h.keep fun p hp hn => hg.block _ (h.blk hn hp) (hr p hp hn)

theorem RdK.empty (w : World) (A : Option Addr) (c : Nat) (hc : A = none → c = 0) : RdK K w A 0 c [] := ⟨rfl, Nat.zero_le _, hc, (fun _ hx => by cases hx), fun h => absurd h (by omega)⟩

/-- Its first elements. -/
theorem RdK.take (h : RdK K w A n c xs) {m : Nat} (hm : m ≤ n) : RdK K w A m c (xs.take m) := by
  refine ⟨by rw [List.length_take, h.len]; omega, by have := h.cap; omega, h.nil, fun x hx => h.lim x (List.mem_of_mem_take hx), fun hn => ?_⟩
  obtain ⟨b, o, hA, hc⟩ := h.cells (by omega)
  refine ⟨b, o, hA, fun i x hx => hc i x ?_⟩
  rw [List.getElem?_take] at hx
  split at hx
  · exact hx
  · cases hx

theorem RdK.drew (h : RdK K w A n c xs) : RdK K w.drew A n c xs := ⟨h.len, h.cap, h.nil, h.lim, h.cells⟩
theorem RdK.alloc (h : RdK K w A n c xs) (o : Obj) : RdK K (w.alloc o) A n c xs := h.below ((Below.refl _ _).alloc (Nat.le_refl _) o)

/-- A new block of one element. -/
theorem RdK.one (w : World) (x : α) (hx : K.ok x) : RdK K (w.alloc (.cells #[K.enc x] K.e)) (some ⟨w.heap.size, 0, none⟩) 1 1 [x] := by
  refine ⟨rfl, Nat.le_refl _, (fun h => by cases h), fun y hy => ?_, fun _ => ⟨_, _, rfl, fun i y hy => ?_⟩⟩
  · simp at hy; subst hy; exact hx
  · cases i with
    | zero =>
      simp at hy
      subst hy
      rw [cell_of_row _ _ _ #[K.enc x] K.e (0, 0) (heap_alloc_new w _)]
      rfl
    | succ i => simp at hy
end

/-- A slice that the call itself made: its block is known whole. -/
structure OwK {α : Type} (K : Kd α) (w : World) (base : Nat) (A : Option Addr) (n c : Nat) (xs : List α) : Prop where
  row : w.ownsRow base K.e 1 (.slice A n c) n (xs.map K.enc)
  lim : ∀ x ∈ xs, K.ok x

section
variable {α : Type} {K : Kd α} {w w' : World} {base : Nat} {A : Option Addr} {n c : Nat} {xs : List α}

theorem OwK.len (h : OwK K w base A n c xs) : xs.length = n := by have := h.row.1; simpa using this

theorem OwK.cases (h : OwK K w base A n c xs) : (A = none ∧ n = 0 ∧ c = 0 ∧ xs = []) ∨
    ∃ g cur, A = some ⟨g, 0, none⟩ ∧ base ≤ g ∧ w.heap[g]? = some (.cells cur K.e (0, 0)) ∧ n ≤ c ∧ c ≤ maxLen ∧ cur.size = c ∧ cur.toList.take n = xs.map K.enc := by
  rcases h.row.2 with ⟨hv, hn⟩ | ⟨g, cap, cur, hv, hb, hh, hnc, hcm, hcs, ht⟩
  · left
    injection hv with h1 h2 h3
    refine ⟨h1, hn, h3, List.eq_nil_of_length_eq_zero ?_⟩
    rw [h.len, hn]
  · right
    injection hv with h1 h2 h3
    subst h1 h3
    exact ⟨g, cur, rfl, hb, hh, hnc, hcm, by omega, by simpa using ht⟩

theorem OwK.rd (h : OwK K w base A n c xs) : RdK K w A n c xs := by
  rcases h.cases with ⟨rfl, rfl, rfl, rfl⟩ | ⟨g, cur, rfl, hb, hh, hnc, hcm, hcs, ht⟩
  · exact RdK.empty _ _ _ fun _ => rfl
  · refine ⟨h.len, hnc, (fun h => by cases h), h.lim, fun hn => ⟨g, 0, rfl, fun i x hx => ?_⟩⟩
    have := h.row.cells (g := g) rfl i (K.enc x) (by rw [List.getElem?_map, hx]; rfl)
    rw [Addr.add_lit] at this
    exact this

theorem OwK.mono {base' : Nat} (h : OwK K w base A n c xs) (hb : base' ≤ base) : OwK K w base' A n c xs := by
  refine ⟨⟨h.row.1, ?_⟩, h.lim⟩
  rcases h.row.2 with h' | ⟨g, cap, cur, hv, hg, r⟩
  · exact .inl h'
  · exact .inr ⟨g, cap, cur, hv, Nat.le_trans hb hg, r⟩

theorem grownBy_of_below (hb : Below w.heap.size w w') (row : Option Nat) : w.grownBy w' row := ⟨hb.os, hb.tape, hb.output, hb.size, fun k hk _ => hb.block k hk⟩
theorem below_of_grownBy (hg : w.grownBy w' none) : Below w.heap.size w w' := ⟨hg.os, hg.tape, hg.output, hg.size, fun k hk => hg.block k hk (by simp)⟩

theorem OwK.below (h : OwK K w base A n c xs) (hb : Below w.heap.size w w') : OwK K w' base A n c xs := by
  refine ⟨h.row.kept (w' := w') (row := none) (grownBy_of_below hb none) ?_, h.lim⟩
  cases hv : (Value.slice A n c).ownBlock <;> simp

theorem OwK.grown {row : Option Nat} (h : OwK K w base A n c xs) (hg : w.grownBy w' row) (hr : ∀ p, A = some p → some p.block ≠ row) : OwK K w' base A n c xs := by
  refine ⟨h.row.kept hg ?_, h.lim⟩
  cases A with
  | none => exact .inl rfl
  | some p => exact .inr (hr p rfl)

theorem OwK.drew (h : OwK K w base A n c xs) : OwK K w.drew base A n c xs := ⟨h.row.drew, h.lim⟩
theorem OwK.alloc (h : OwK K w base A n c xs) (o : Obj) : OwK K (w.alloc o) base A n c xs := ⟨h.row.alloc o, h.lim⟩

theorem OwK.nil_ (w : World) (base : Nat) : OwK K w base none 0 0 [] := ⟨World.ownsRow_nil w base _ 1, fun _ hx => by cases hx⟩

/-- Its first elements. -/
theorem OwK.take (h : OwK K w base A n c xs) {m : Nat} (hm : m ≤ n) : OwK K w base A m c (xs.take m) := by
  refine ⟨⟨by rw [List.length_map, List.length_take, h.len]; omega, ?_⟩, fun x hx => h.lim x (List.mem_of_mem_take hx)⟩
  rcases h.cases with ⟨rfl, rfl, rfl, rfl⟩ | ⟨g, cur, rfl, hb, hh, hnc, hcm, hcs, ht⟩
  · left
    have : m = 0 := by omega
    subst this
    exact ⟨rfl, rfl⟩
  · right
    refine ⟨g, c, cur, rfl, hb, hh, by omega, hcm, by omega, ?_⟩
    rw [Nat.mul_one, List.map_take, ← ht, List.take_take, Nat.min_eq_left hm]

theorem OwK.lt (h : OwK K w base A n c xs) {p : Addr} (hp : A = some p) : base ≤ p.block ∧ p.block < w.heap.size :=
  h.row.lt p.block (by subst hp; rfl)

/-- An empty slice literal. -/
theorem OwK.lit0 (hb : base ≤ w.heap.size) : OwK K (w.alloc (.cells #[] K.e)) base (some ⟨w.heap.size, 0, none⟩) 0 0 [] :=
  ⟨World.ownsRow_lit w #[] 0 hb (by unfold maxLen; omega) rfl, fun _ hx => by cases hx⟩
end

/-- append, whatever is appended, onto a row that the call made. -/
theorem app_own {α : Type} (K : Kd α) (w : World) {ops : Array Oper} {rest : List Oper} {o : Oper} {a : Act} {Q : Exit → Act → World → Prop} (hgd : o.guard = none) (s x : Operand)
    (ho : o.op = .call { callee := .builtin .append, args := #[s, x], argTypes := #[K.t, K.t] })
    (base : Nat) (A : Option Addr) (n c : Nat) (xs : List α) (hs : a.eval s = .slice A n c) (hown : OwK K w base A n c xs)
    (B : Option Addr) (m d : Nat) (ys : List α) (hx : a.eval x = .slice B m d) (hr : RdK K w B m d ys) (hbd : n + m ≤ 8388608) (hbase : base ≤ w.heap.size)
    (h : ∀ A' c' w', OwK K w' base A' (n + m) c' (xs ++ ys) → w.grownBy w' (Value.slice A n c).ownBlock → wpList Tryd.prog ops Q rest (a.put o.dst (.slice A' (n + m) c')) w') :
    wpList Tryd.prog ops Q (o :: rest) a w := by
  obtain ⟨i0, hi, hz0, hz1, hz2⟩ := info_parts K.info
  have hlight := K.light
  cases B with
  | none =>
    have hd : d = 0 := hr.nil rfl
    subst hd
    have hm : m = 0 := by have := hr.cap; omega
    subst hm
    have hy : ys = [] := List.eq_nil_of_length_eq_zero hr.len
    subst hy
    refine wpList_append_own_none hgd s x K.t ho base K.e i0 1 K.under hi _ n (xs.map K.enc) hs hown.row hx ?_
    have := h A c w (by simpa using hown) (World.grownBy.refl w _)
    simpa using this
  | some ad =>
    refine wpList_append_own w hgd s x K.t ho base K.e i0 (K.enc K.zero) 1 K.bytes K.under hi hz0 hz1 hz2 K.zsize (by decide) _ n (xs.map K.enc) hs hown.row ad m d (ys.map K.enc) hx ?_ ?_ ?_ ?_ ?_ hbase ?_
    · rw [List.length_map, hr.len, Nat.mul_one]
    · intro j u hj
      rw [List.getElem?_map] at hj
      cases hy : ys[j]? with
      | none => rw [hy] at hj; cases hj
      | some y =>
        rw [hy] at hj
        cases hj
        have hjl : j < ys.length := (List.getElem?_eq_some_iff.1 hy).1
        obtain ⟨b, o', hA, hc⟩ := hr.cells (by rw [← hr.len]; omega)
        cases hA
        rw [Addr.add_lit]
        exact hc j y hy
    · intro u hu
      obtain ⟨y, _, rfl⟩ := List.mem_map.1 hu
      exact K.one y
    · unfold maxLen; omega
    · have : (n + m) * K.bytes ≤ 8388608 * 16 := Nat.mul_le_mul hbd hlight
      omega
    · intro v' w' hown' hgrow _
      have hlim : ∀ y ∈ xs ++ ys, K.ok y := by
        intro y hy
        rcases List.mem_append.1 hy with hy | hy
        · exact hown.lim y hy
        · exact hr.lim y hy
      rw [← List.map_append] at hown'
      rcases hown'.2 with ⟨rfl, h0⟩ | ⟨g, cap, cur, rfl, r⟩
      · have hh := h none 0 w' ⟨⟨hown'.1, .inl ⟨by rw [h0], h0⟩⟩, hlim⟩ hgrow
        rw [h0] at hh
        exact hh
      · exact h _ _ w' ⟨hown', hlim⟩ hgrow

/-- make of a row without elements, with room for n. -/
theorem make_own {α : Type} (K : Kd α) (w : World) {ops : Array Oper} {rest : List Oper} {o : Oper} {a : Act} {Q : Exit → Act → World → Prop} (hg : o.guard = none) (l c : Operand)
    (hop : o.op = Op.makeSlice K.t l c) (kl kc : IntKind) (C : Int) (n : Nat) (hl : a.eval l = .int kl 0) (hc : a.eval c = .int kc C) (hC : C = (n : Int)) (hn : n ≤ 8388608)
    (hK : ∀ w', OwK K w' w.heap.size (some ⟨w.heap.size, 0, none⟩) 0 n [] → Below w.heap.size w w' → wpList Tryd.prog ops Q rest (a.put o.dst (.slice (some ⟨w.heap.size, 0, none⟩) 0 n)) w') :
    wpList Tryd.prog ops Q (o :: rest) a w := by
  obtain ⟨i0, hi, hz0, hz1, hz2⟩ := info_parts K.info
  have hlight := K.light
  refine wpList_make_own w hg l c K.t hop w.heap.size K.e i0 (K.enc K.zero) 1 K.under hi hz0 hz1 kl kc C n hl hc hC ?_ (by unfold maxLen; omega) (Nat.le_refl _) ?_
  · rw [hz2]
    have : K.bytes * n ≤ 16 * 8388608 := Nat.mul_le_mul hlight hn
    omega
  · intro w' h1 h2
    exact hK w' ⟨by simpa using h1, fun _ hx => by cases hx⟩ (below_of_grownBy h2)

theorem madeCells_one (z : Value) (n : Nat) : (madeCells #[z] n).toList = List.replicate n z := by
  apply List.ext_getElem
  · simp [madeCells]
  · intro i h1 h2
    simp [madeCells, Nat.mod_one]

theorem cells_single {v : Value} (h : v.cells.size = 1) (h1 : v.oneCell' = true) : v.cells = #[v] := by
  cases v <;> first | rfl | (simp [Value.oneCell'] at h1)

/-- make of a row of n zero elements. -/
theorem make_full {α : Type} (K : Kd α) (w : World) {ops : Array Oper} {rest : List Oper} {o : Oper} {a : Act} {Q : Exit → Act → World → Prop} (hg : o.guard = none) (l c : Operand)
    (hop : o.op = Op.makeSlice K.t l c) (kl kc : IntKind) (L C : Int) (n : Nat) (hl : a.eval l = .int kl L) (hc : a.eval c = .int kc C) (hL : L = (n : Int)) (hC : C = (n : Int)) (hn : n ≤ 8388608) (hz : K.ok K.zero)
    (hK : ∀ w', OwK K w' w.heap.size (some ⟨w.heap.size, 0, none⟩) n n (List.replicate n K.zero) → Below w.heap.size w w' → wpList Tryd.prog ops Q rest (a.put o.dst (.slice (some ⟨w.heap.size, 0, none⟩) n n)) w') :
    wpList Tryd.prog ops Q (o :: rest) a w := by
  obtain ⟨i0, hi, hz0, hz1, hz2⟩ := info_parts K.info
  have hlight := K.light
  refine wpList_make_full w hg l c K.t hop w.heap.size K.e i0 (K.enc K.zero) 1 K.under hi hz0 hz1 kl kc L C n hl hc hL hC ?_ (by unfold maxLen; omega) (Nat.le_refl _) ?_
  · rw [hz2]
    have : K.bytes * n ≤ 16 * 8388608 := Nat.mul_le_mul hlight hn
    omega
  · intro w' h1 h2
    rw [Nat.mul_one, cells_single K.zsize (K.one _), madeCells_one, ← List.map_replicate] at h1
    refine hK w' ⟨h1, fun x hx => ?_⟩ (below_of_grownBy h2)
    rw [List.eq_of_mem_replicate hx]
    exact hz

theorem below_app {α : Type} {K : Kd α} {a w w' : World} {B : Nat} {A : Option Addr} {n c : Nat} {xs : List α} {o : Obj} (hb : Below B a w) (hB : B ≤ w.heap.size) (ho : OwK K w B A n c xs)
    (hg : (w.alloc o).grownBy w' (Value.slice A n c).ownBlock) : Below B a w' := by
  refine (hb.alloc hB o).grown hg (by simp; omega) fun k hk => ?_
  exact (ho.row.lt k hk).1
theorem below_app' {α : Type} {K : Kd α} {a w w' : World} {B : Nat} {A : Option Addr} {n c : Nat} {xs : List α} (hb : Below B a w) (hB : B ≤ w.heap.size) (ho : OwK K w B A n c xs)
    (hg : w.grownBy w' (Value.slice A n c).ownBlock) : Below B a w' := by
  refine hb.grown hg hB fun k hk => ?_
  exact (ho.row.lt k hk).1


/-- A new block of some elements. -/
theorem RdK.lits {α : Type} (K : Kd α) (w : World) (xs : List α) (hx : ∀ x ∈ xs, K.ok x) : RdK K (w.alloc (.cells (xs.map K.enc).toArray K.e)) (some ⟨w.heap.size, 0, none⟩) xs.length xs.length xs := by
  refine ⟨rfl, Nat.le_refl _, (fun h => by cases h), hx, fun _ => ⟨_, _, rfl, fun i y hy => ?_⟩⟩
  rw [Nat.zero_add, cell_of_row _ _ _ (xs.map K.enc).toArray K.e (0, 0) (heap_alloc_new w _)]
  simp [hy]
theorem bytes_of {l : List Nat} (h : ∀ x ∈ l, x < 256) : M.bytes (strOfNums (l.map fun x : Nat => (x : Int))) = l := by
  unfold M.bytes
  rw [strOfNums_data, List.map_map, List.map_map]
  induction l with
  | nil => rfl
  | cons x l ih =>
    rw [List.map_cons, ih fun y hy => h y (List.mem_cons_of_mem _ hy)]
    have := h x List.mem_cons_self
    congr 1
    show (UInt8.ofNat (Int.toNat (x : Int))).toNat = x
    rw [Int.toNat_natCast]
    simp only [UInt8.toNat_ofNat']
    omega
/-- A row of bytes as a text. -/
theorem OwK.back {w : World} {base : Nat} {A : Option Addr} {n c : Nat} {xs : List Nat} (h : OwK kU8 w base A n c xs) (hn : 0 < n) : ∃ u : ByteArray, M.bytes u = xs ∧ (convert 24 9 (.slice A n c)).run Tryd.prog w = .ok (.string u) w := by
  obtain ⟨b, o, rfl, hc⟩ := h.rd.cells hn
  refine ⟨strOfNums (xs.map fun x : Nat => (x : Int)), bytes_of h.lim, ?_⟩
  refine run_convert_bytes_arg (P := Tryd.prog) w 24 5 Tryd.underlying24 Tryd.underlying5 b o n c _ (by rw [List.length_map]; exact h.rd.len) (fun i hi => ?_) 9 Tryd.underlying9
  obtain ⟨x, hx⟩ : ∃ x, xs[i]? = some x := ⟨_, List.getElem?_eq_getElem (by rw [h.rd.len]; exact hi)⟩
  rw [hc i x hx, List.getD_eq_getElem?_getD, List.getElem?_map, hx]
  rfl

/-- append, as a step of a region that draws its order. -/
theorem app_step {α : Type} (K : Kd α) (w : World) {ops : Array Oper} {o : Oper} {a : Act} {KK : Act → World → Prop} {Q : Exit → Act → World → Prop} {E : Prop} (hgd : o.guard = none) (s x : Operand)
    (ho : o.op = .call { callee := .builtin .append, args := #[s, x], argTypes := #[K.t, K.t] })
    (base : Nat) (A : Option Addr) (n c : Nat) (xs : List α) (hs : a.eval s = .slice A n c) (hown : OwK K w base A n c xs)
    (ad : Addr) (m d : Nat) (ys : List α) (hx : a.eval x = .slice (some ad) m d) (hr : RdK K w (some ad) m d ys) (hbd : n + m ≤ 8388608) (hbase : base ≤ w.heap.size)
    (h : ∀ A' c' w', OwK K w' base A' (n + m) c' (xs ++ ys) → w.grownBy w' (Value.slice A n c).ownBlock → KK (a.put o.dst (.slice A' (n + m) c')) w') :
    if Region.wanted o (yielded ops a.tmps) = true then Oper.wp Tryd.prog o a w KK Q else E := by
  have hw : Region.wanted o (yielded ops a.tmps) = true := by simp [Region.wanted, hgd]
  rw [if_pos hw]
  obtain ⟨i0, hi, hz0, hz1, hz2⟩ := info_parts K.info
  have hlight := K.light
  refine wp_append_own w s x K.t ho base K.e i0 (K.enc K.zero) 1 K.bytes K.under hi hz0 hz1 hz2 K.zsize (by decide) _ n (xs.map K.enc) hs hown.row ad m d (ys.map K.enc) hx ?_ ?_ ?_ ?_ ?_ hbase ?_
  · rw [List.length_map, hr.len, Nat.mul_one]
  · intro j u hj
    rw [List.getElem?_map] at hj
    cases hy : ys[j]? with
    | none => rw [hy] at hj; cases hj
    | some y =>
      rw [hy] at hj
      cases hj
      have hjl : j < ys.length := (List.getElem?_eq_some_iff.1 hy).1
      obtain ⟨b, o', hA, hc⟩ := hr.cells (by rw [← hr.len]; omega)
      cases hA
      rw [Addr.add_lit]
      exact hc j y hy
  · intro u hu
    obtain ⟨y, _, rfl⟩ := List.mem_map.1 hu
    exact K.one y
  · unfold maxLen; omega
  · have : (n + m) * K.bytes ≤ 8388608 * 16 := Nat.mul_le_mul hbd hlight
    omega
  · intro v' w' hown' hgrow _
    have hlim : ∀ y ∈ xs ++ ys, K.ok y := by
      intro y hy
      rcases List.mem_append.1 hy with hy | hy
      · exact hown.lim y hy
      · exact hr.lim y hy
    rw [← List.map_append] at hown'
    rcases hown'.2 with ⟨rfl, h0⟩ | ⟨g, cap, cur, rfl, r⟩
    · have hh := h none 0 w' ⟨⟨hown'.1, .inl ⟨by rw [h0], h0⟩⟩, hlim⟩ hgrow
      rw [h0] at hh
      exact hh
    · exact h _ _ w' ⟨hown', hlim⟩ hgrow
theorem and15 (b : Nat) (h : b < 256) : bits .and .u8 (b : Int) 15 = ((b % 16 : Nat) : Int) := by
  have : ∀ b : Nat, b < 256 → bits .and .u8 (b : Int) 15 = ((b % 16 : Nat) : Int) := by decide +kernel
  exact this b h
end Go.Proofs.YtgglmmipdfcbpaaDoor
