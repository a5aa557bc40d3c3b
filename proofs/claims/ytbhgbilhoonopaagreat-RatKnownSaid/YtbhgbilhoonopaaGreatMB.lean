/-
  What our walks over the program say of memory: a slice that reads as a row (of limbs, bytes, bools); rows that the call itself made; append and make upon these.
-/
import Derived.Test.YtbhgbilhoonopaaGreatMA
import Derived.Test.YtbhgbilhoonopaaGreatProg
import Derived.WalkKit
import Derived.WalkSpells
import Derived.WalkLawsBesides
import Derived.Lib.Hide
import Derived.BigQuiet
import Derived.Deep.QuietTactic
import Derived.Laws.AppendOwnNone
namespace Go.Proofs.YtbhgbilhoonopaaGreat
open Go.RowKit
set_option linter.unusedVariables false

theorem ret_eq {a b : Value} (h : a = b) : Ending.returned a = .returned b := by rw [h]
theorem ret_int {k : IntKind} {a b : Int} (h : a = b) : Ending.returned (.int k a) = .returned (.int k b) := by rw [h]
theorem ret_bool {a b : Bool} (h : a = b) : Ending.returned (.bool a) = .returned (.bool b) := by rw [h]
theorem ret_slice {A : Option Addr} {n m c : Nat} (h : n = m) : Ending.returned (.slice A n c) = .returned (.slice A m c) := by rw [h]

theorem or_lo_hi (a b : Nat) (ha : a < 4294967296) (hb : b < 4294967296) : bits .or .u64 (a : Int) ((b : Int) * 4294967296) = ((a + 4294967296 * b : Nat) : Int) := by
  have e : ((b : Int) * 4294967296) = ((b * 4294967296 : Nat) : Int) := by omega
  rw [e, bits_or_u64_nat a (b * 4294967296) (by omega) (by omega)]
  have h := Nat.two_pow_add_eq_or_of_lt (i := 32) (b := a) (by omega) b
  have h2 : (2 : Nat) ^ 32 = 4294967296 := rfl
  rw [h2] at h
  rw [Nat.or_comm, Nat.mul_comm b, ← h, Nat.add_comm]
theorem or_hi_lo (a b : Nat) (ha : a < 4294967296) (hb : b < 4294967296) : bits .or .u64 ((b : Int) * 4294967296) (a : Int) = ((4294967296 * b + a : Nat) : Int) := by
  have e : ((b : Int) * 4294967296) = ((b * 4294967296 : Nat) : Int) := by omega
  rw [e, bits_or_u64_nat (b * 4294967296) a (by omega) (by omega)]
  have h := Nat.two_pow_add_eq_or_of_lt (i := 32) (b := a) (by omega) b
  have h2 : (2 : Nat) ^ 32 = 4294967296 := rfl
  rw [h2] at h
  rw [Nat.mul_comm b, ← h]

/-- A kind of elements, each of one cell: how they lie in memory, which there are, the numbers of their type and of the slices' type. -/
structure Kd (α : Type) where
  enc : α → Value
  ok : α → Prop
  e : TypeId
  t : TypeId
  zero : α
  bytes : Nat
  one : ∀ x, (enc x).oneCell' = true
  under : Tryz.prog.underlying t = some (.slice e)
  info : (Tryz.prog.info? e).map (fun i => (i.zero, i.size, i.bytes)) = some (some (enc zero), 1, bytes)
  zsize : (enc zero).cells.size = 1
  light : bytes ≤ 16

def kU32 : Kd Nat := ⟨fun x => .int .u32 (x : Int), fun x => x < M.R, 44, 22, 0, 4, fun _ => rfl, Tryz.underlying22, by kernel_rfl, rfl, by decide⟩

/-- A slice that reads as xs (nil and empty ones let in). -/
structure RdK {α : Type} (K : Kd α) (w : World) (A : Option Addr) (n c : Nat) (xs : List α) : Prop where
  len : xs.length = n
  cap : n ≤ c
  nil : A = none → c = 0
  lim : ∀ x ∈ xs, K.ok x
  cells : 0 < n → ∃ b o, A = some ⟨b, o, none⟩ ∧ ∀ (i : Nat) (x : α), xs[i]? = some x → w.cell? ⟨b, o + i, none⟩ = some (K.enc x)

section
variable {α : Type} {K : Kd α} {w w' : World} {A : Option Addr} {n c : Nat} {xs : List α}

theorem RdK.at_ (h : RdK K w A n c xs) {i : Nat} (hi : i < n) :
    ∃ b o x, A = some ⟨b, o, none⟩ ∧ xs[i]? = some x ∧ K.ok x ∧ w.cell? ⟨b, o + i, none⟩ = some (K.enc x) := by
  obtain ⟨b, o, hA, hc⟩ := h.cells (by omega)
  have hl : i < xs.length := by rw [h.len]; exact hi
  have hx : xs[i]? = some xs[i] := List.getElem?_eq_getElem hl
  exact ⟨b, o, xs[i], hA, hx, h.lim _ (List.getElem_mem hl), hc i _ hx⟩

/-- What lies in a block that stayed as it was reads as it did. -/
theorem RdK.keep (h : RdK K w A n c xs) (hk : ∀ p, A = some p → 0 < n → w'.heap[p.block]? = w.heap[p.block]?) : RdK K w' A n c xs := by
  refine ⟨h.len, h.cap, h.nil, h.lim, fun hn => ?_⟩
  obtain ⟨b, o, hA, hc⟩ := h.cells hn
  refine ⟨b, o, hA, fun i x hx => ?_⟩
  have := hk _ hA hn
  exact (World.cell?_of_block (a := ⟨b, o + i, none⟩) this).trans (hc i x hx)

theorem RdK.blk (h : RdK K w A n c xs) (hn : 0 < n) {p : Addr} (hA : A = some p) : p.block < w.heap.size := by
  obtain ⟨b, o, hA', hc⟩ := h.cells hn
  rw [hA'] at hA
  cases hA
  have hl : 0 < xs.length := by rw [h.len]; exact hn
  exact World.block_lt_of_cell? w _ (hc 0 _ (List.getElem?_eq_getElem hl))

theorem RdK.below (h : RdK K w A n c xs) (hb : Below w.heap.size w w') : RdK K w' A n c xs :=
  h.keep fun p hp hn => hb.block _ (h.blk hn hp)

/-- Behind a law that wrote one row: that row is another one. -/
theorem RdK.grown {row : Option Nat} (h : RdK K w A n c xs) (hg : w.grownBy w' row) (hr : ∀ p, A = some p → 0 < n → some p.block ≠ row) : RdK K w' A n c xs :=
  h.keep fun p hp hn => hg.block _ (h.blk hn hp) (hr p hp hn)

theorem RdK.empty (w : World) (A : Option Addr) (c : Nat) (hc : A = none → c = 0) : RdK K w A 0 c [] := ⟨rfl, Nat.zero_le _, hc, (fun _ hx => by cases hx), fun h => absurd h (by omega)⟩

/-- Its first elements. -/
theorem RdK.take (h : RdK K w A n c xs) {m : Nat} (hm : m ≤ n) : RdK K w A m c (xs.take m) := by
  refine ⟨by rw [List.length_take, h.len]; omega, by have := h.cap; omega, h.nil, fun x hx => h.lim x (List.mem_of_mem_take hx), fun hn => ?_⟩
  obtain ⟨b, o, hA, hc⟩ := h.cells (by omega)
  refine ⟨b, o, hA, fun i x hx => hc i x ?_⟩
  rw [List.getElem?_take] at hx
  split at hx
  · exact hx
  · cases hx

theorem RdK.drew (h : RdK K w A n c xs) : RdK K w.drew A n c xs := ⟨h.len, h.cap, h.nil, h.lim, h.cells⟩
theorem RdK.alloc (h : RdK K w A n c xs) (o : Obj) : RdK K (w.alloc o) A n c xs := h.below ((Below.refl _ _).alloc (Nat.le_refl _) o)

/-- A new block of one element. -/
theorem RdK.one (w : World) (x : α) (hx : K.ok x) : RdK K (w.alloc (.cells #[K.enc x] K.e)) (some ⟨w.heap.size, 0, none⟩) 1 1 [x] := by
  refine ⟨rfl, Nat.le_refl _, (fun h => by cases h), fun y hy => ?_, fun _ => ⟨_, _, rfl, fun i y hy => ?_⟩⟩
  · simp at hy; subst hy; exact hx
  · cases i with
    | zero =>
      simp at hy
      subst hy
      rw [cell_of_row _ _ _ #[K.enc x] K.e (0, 0) (heap_alloc_new w _)]
      rfl
    | succ i => simp at hy
end

/-- A slice that the call itself made: its block is known whole. -/
structure OwK {α : Type} (K : Kd α) (w : World) (base : Nat) (A : Option Addr) (n c : Nat) (xs : List α) : Prop where
  row : w.ownsRow base K.e 1 (.slice A n c) n (xs.map K.enc)
  lim : ∀ x ∈ xs, K.ok x

section
variable {α : Type} {K : Kd α} {w w' : World} {base : Nat} {A : Option Addr} {n c : Nat} {xs : List α}

theorem OwK.len (h : OwK K w base A n c xs) : xs.length = n := by have := h.row.1; simpa using this

theorem OwK.cases (h : OwK K w base A n c xs) : (A = none ∧ n = 0 ∧ c = 0 ∧ xs = []) ∨
    ∃ g cur, A = some ⟨g, 0, none⟩ ∧ base ≤ g ∧ w.heap[g]? = some (.cells cur K.e (0, 0)) ∧ n ≤ c ∧ c ≤ maxLen ∧ cur.size = c ∧ cur.toList.take n = xs.map K.enc := by
  rcases h.row.2 with ⟨hv, hn⟩ | ⟨g, cap, cur, hv, hb, hh, hnc, hcm, hcs, ht⟩
  · left
    injection hv with h1 h2 h3
    refine ⟨h1, hn, h3, List.eq_nil_of_length_eq_zero ?_⟩
    rw [h.len, hn]
  · right
    injection hv with h1 h2 h3
    subst h1 h3
    exact ⟨g, cur, rfl, hb, hh, hnc, hcm, by omega, by simpa using ht⟩

theorem OwK.rd (h : OwK K w base A n c xs) : RdK K w A n c xs := by
  rcases h.cases with ⟨rfl, rfl, rfl, rfl⟩ | ⟨g, cur, rfl, hb, hh, hnc, hcm, hcs, ht⟩
  · exact RdK.empty _ _ _ fun _ => rfl
  · refine ⟨h.len, hnc, (fun h => by cases h), h.lim, fun hn => ⟨g, 0, rfl, fun i x hx => ?_⟩⟩
    have := h.row.cells (g := g) rfl i (K.enc x) (by rw [List.getElem?_map, hx]; rfl)
    rw [Addr.add_lit] at this
    exact this

theorem OwK.mono {base' : Nat} (h : OwK K w base A n c xs) (hb : base' ≤ base) : OwK K w base' A n c xs := by
  refine ⟨⟨h.row.1, ?_⟩, h.lim⟩
  rcases h.row.2 with h' | ⟨g, cap, cur, hv, hg, r⟩
  · exact .inl h'
  · exact .inr ⟨g, cap, cur, hv, Nat.le_trans hb hg, r⟩

theorem grownBy_of_below (hb : Below w.heap.size w w') (row : Option Nat) : w.grownBy w' row := ⟨hb.os, hb.tape, hb.output, hb.size, fun k hk _ => hb.block k hk⟩
theorem below_of_grownBy (hg : w.grownBy w' none) : Below w.heap.size w w' := ⟨hg.os, hg.tape, hg.output, hg.size, fun k hk => hg.block k hk (by simp)⟩

theorem OwK.below (h : OwK K w base A n c xs) (hb : Below w.heap.size w w') : OwK K w' base A n c xs := by
  refine ⟨h.row.kept (w' := w') (row := none) (grownBy_of_below hb none) ?_, h.lim⟩
  cases hv : (Value.slice A n c).ownBlock <;> simp

theorem OwK.grown {row : Option Nat} (h : OwK K w base A n c xs) (hg : w.grownBy w' row) (hr : ∀ p, A = some p → some p.block ≠ row) : OwK K w' base A n c xs := by
  refine ⟨h.row.kept hg ?_, h.lim⟩
  cases A with
  | none => exact .inl rfl
  | some p => exact .inr (hr p rfl)

theorem OwK.drew (h : OwK K w base A n c xs) : OwK K w.drew base A n c xs := ⟨h.row.drew, h.lim⟩
theorem OwK.alloc (h : OwK K w base A n c xs) (o : Obj) : OwK K (w.alloc o) base A n c xs := ⟨h.row.alloc o, h.lim⟩

theorem OwK.nil_ (w : World) (base : Nat) : OwK K w base none 0 0 [] := ⟨World.ownsRow_nil w base _ 1, fun _ hx => by cases hx⟩

/-- Its first elements. -/
theorem OwK.take (h : OwK K w base A n c xs) {m : Nat} (hm : m ≤ n) : OwK K w base A m c (xs.take m) := by
  refine ⟨⟨by rw [List.length_map, List.length_take, h.len]; omega, ?_⟩, fun x hx => h.lim x (List.mem_of_mem_take hx)⟩
  rcases h.cases with ⟨rfl, rfl, rfl, rfl⟩ | ⟨g, cur, rfl, hb, hh, hnc, hcm, hcs, ht⟩
  · left
    have : m = 0 := by omega
    subst this
    exact ⟨rfl, rfl⟩
  · right
    refine ⟨g, c, cur, rfl, hb, hh, by omega, hcm, by omega, ?_⟩
    rw [Nat.mul_one, List.map_take, ← ht, List.take_take, Nat.min_eq_left hm]

theorem OwK.lt (h : OwK K w base A n c xs) {p : Addr} (hp : A = some p) : base ≤ p.block ∧ p.block < w.heap.size :=
  h.row.lt p.block (by subst hp; rfl)

/-- An empty slice literal. -/
theorem OwK.lit0 (hb : base ≤ w.heap.size) : OwK K (w.alloc (.cells #[] K.e)) base (some ⟨w.heap.size, 0, none⟩) 0 0 [] :=
  ⟨World.ownsRow_lit w #[] 0 hb (by unfold maxLen; omega) rfl, fun _ hx => by cases hx⟩
end

/-- append, whatever is appended, onto a row that the call made. -/
theorem app_own {α : Type} (K : Kd α) (w : World) {ops : Array Oper} {rest : List Oper} {o : Oper} {a : Act} {Q : Exit → Act → World → Prop} (hgd : o.guard = none) (s x : Operand)
    (ho : o.op = .call { callee := .builtin .append, args := #[s, x], argTypes := #[K.t, K.t] })
    (base : Nat) (A : Option Addr) (n c : Nat) (xs : List α) (hs : a.eval s = .slice A n c) (hown : OwK K w base A n c xs)
    (B : Option Addr) (m d : Nat) (ys : List α) (hx : a.eval x = .slice B m d) (hr : RdK K w B m d ys) (hbd : n + m ≤ 8388608) (hbase : base ≤ w.heap.size)
    (h : ∀ A' c' w', OwK K w' base A' (n + m) c' (xs ++ ys) → w.grownBy w' (Value.slice A n c).ownBlock → wpList Tryz.prog ops Q rest (a.put o.dst (.slice A' (n + m) c')) w') :
    wpList Tryz.prog ops Q (o :: rest) a w := by
  obtain ⟨i0, hi, hz0, hz1, hz2⟩ := info_parts K.info
  have hlight := K.light
  cases B with
  | none =>
    have hd : d = 0 := hr.nil rfl
    subst hd
    have hm : m = 0 := by have := hr.cap; omega
    subst hm
    have hy : ys = [] := List.eq_nil_of_length_eq_zero hr.len
    subst hy
    refine wpList_append_own_none hgd s x K.t ho base K.e i0 1 K.under hi _ n (xs.map K.enc) hs hown.row hx ?_
    have := h A c w (by simpa using hown) (World.grownBy.refl w _)
    simpa using this
  | some ad =>
    refine wpList_append_own w hgd s x K.t ho base K.e i0 (K.enc K.zero) 1 K.bytes K.under hi hz0 hz1 hz2 K.zsize (by decide) _ n (xs.map K.enc) hs hown.row ad m d (ys.map K.enc) hx ?_ ?_ ?_ ?_ ?_ hbase ?_
    · rw [List.length_map, hr.len, Nat.mul_one]
    · intro j u hj
      rw [List.getElem?_map] at hj
      cases hy : ys[j]? with
      | none => rw [hy] at hj; cases hj
      | some y =>
        rw [hy] at hj
        cases hj
        have hjl : j < ys.length := (List.getElem?_eq_some_iff.1 hy).1
        obtain ⟨b, o', hA, hc⟩ := hr.cells (by rw [← hr.len]; omega)
        cases hA
        rw [Addr.add_lit]
        exact hc j y hy
    · intro u hu
      obtain ⟨y, _, rfl⟩ := List.mem_map.1 hu
      exact K.one y
    · unfold maxLen; omega
    · have : (n + m) * K.bytes ≤ 8388608 * 16 := Nat.mul_le_mul hbd hlight
      omega
    · intro v' w' hown' hgrow _
      have hlim : ∀ y ∈ xs ++ ys, K.ok y := by
        intro y hy
        rcases List.mem_append.1 hy with hy | hy
        · exact hown.lim y hy
        · exact hr.lim y hy
      rw [← List.map_append] at hown'
      rcases hown'.2 with ⟨rfl, h0⟩ | ⟨g, cap, cur, rfl, r⟩
      · have hh := h none 0 w' ⟨⟨hown'.1, .inl ⟨by rw [h0], h0⟩⟩, hlim⟩ hgrow
        rw [h0] at hh
        exact hh
      · exact h _ _ w' ⟨hown', hlim⟩ hgrow

/-- make of a row without elements, with room for n. -/
theorem make_own {α : Type} (K : Kd α) (w : World) {ops : Array Oper} {rest : List Oper} {o : Oper} {a : Act} {Q : Exit → Act → World → Prop} (hg : o.guard = none) (l c : Operand)
    (hop : o.op = Op.makeSlice K.t l c) (kl kc : IntKind) (C : Int) (n : Nat) (hl : a.eval l = .int kl 0) (hc : a.eval c = .int kc C) (hC : C = (n : Int)) (hn : n ≤ 8388608)
    (hK : ∀ w', OwK K w' w.heap.size (some ⟨w.heap.size, 0, none⟩) 0 n [] → Below w.heap.size w w' → wpList Tryz.prog ops Q rest (a.put o.dst (.slice (some ⟨w.heap.size, 0, none⟩) 0 n)) w') :
    wpList Tryz.prog ops Q (o :: rest) a w := by
  obtain ⟨i0, hi, hz0, hz1, hz2⟩ := info_parts K.info
  have hlight := K.light
  refine wpList_make_own w hg l c K.t hop w.heap.size K.e i0 (K.enc K.zero) 1 K.under hi hz0 hz1 kl kc C n hl hc hC ?_ (by unfold maxLen; omega) (Nat.le_refl _) ?_
  · rw [hz2]
    have : K.bytes * n ≤ 16 * 8388608 := Nat.mul_le_mul hlight hn
    omega
  · intro w' h1 h2
    exact hK w' ⟨by simpa using h1, fun _ hx => by cases hx⟩ (below_of_grownBy h2)

theorem madeCells_one (z : Value) (n : Nat) : (madeCells #[z] n).toList = List.replicate n z := by
  apply List.ext_getElem
  · simp [madeCells]
  · intro i h1 h2
    simp [madeCells, Nat.mod_one]

theorem cells_single {v : Value} (h : v.cells.size = 1) (h1 : v.oneCell' = true) : v.cells = #[v] := by
  cases v <;> first | rfl | (simp [Value.oneCell'] at h1)

/-- make of a row of n zero elements. -/
theorem make_full {α : Type} (K : Kd α) (w : World) {ops : Array Oper} {rest : List Oper} {o : Oper} {a : Act} {Q : Exit → Act → World → Prop} (hg : o.guard = none) (l c : Operand)
    (hop : o.op = Op.makeSlice K.t l c) (kl kc : IntKind) (L C : Int) (n : Nat) (hl : a.eval l = .int kl L) (hc : a.eval c = .int kc C) (hL : L = (n : Int)) (hC : C = (n : Int)) (hn : n ≤ 8388608) (hz : K.ok K.zero)
    (hK : ∀ w', OwK K w' w.heap.size (some ⟨w.heap.size, 0, none⟩) n n (List.replicate n K.zero) → Below w.heap.size w w' → wpList Tryz.prog ops Q rest (a.put o.dst (.slice (some ⟨w.heap.size, 0, none⟩) n n)) w') :
    wpList Tryz.prog ops Q (o :: rest) a w := by
  obtain ⟨i0, hi, hz0, hz1, hz2⟩ := info_parts K.info
  have hlight := K.light
  refine wpList_make_full w hg l c K.t hop w.heap.size K.e i0 (K.enc K.zero) 1 K.under hi hz0 hz1 kl kc L C n hl hc hL hC ?_ (by unfold maxLen; omega) (Nat.le_refl _) ?_
  · rw [hz2]
    have : K.bytes * n ≤ 16 * 8388608 := Nat.mul_le_mul hlight hn
    omega
  · intro w' h1 h2
    rw [Nat.mul_one, cells_single K.zsize (K.one _), madeCells_one, ← List.map_replicate] at h1
    refine hK w' ⟨h1, fun x hx => ?_⟩ (below_of_grownBy h2)
    rw [List.eq_of_mem_replicate hx]
    exact hz

theorem below_app {α : Type} {K : Kd α} {a w w' : World} {B : Nat} {A : Option Addr} {n c : Nat} {xs : List α} {o : Obj} (hb : Below B a w) (hB : B ≤ w.heap.size) (ho : OwK K w B A n c xs)
    (hg : (w.alloc o).grownBy w' (Value.slice A n c).ownBlock) : Below B a w' := by
  refine (hb.alloc hB o).grown hg (by simp; omega) fun k hk => ?_
  exact (ho.row.lt k hk).1
theorem below_app' {α : Type} {K : Kd α} {a w w' : World} {B : Nat} {A : Option Addr} {n c : Nat} {xs : List α} (hb : Below B a w) (hB : B ≤ w.heap.size) (ho : OwK K w B A n c xs)
    (hg : w.grownBy w' (Value.slice A n c).ownBlock) : Below B a w' := by
  refine hb.grown hg hB fun k hk => ?_
  exact (ho.row.lt k hk).1

/-! ### Rows of limbs -/
abbrev Rd := RdK kU32
abbrev Own := OwK kU32

section
variable {w w' : World} {base : Nat} {A : Option Addr} {n c : Nat} {xs : List Nat}
theorem RdK.Lim (h : Rd w A n c xs) : M.Lim xs := h.lim
theorem OwK.Lim (h : Own w base A n c xs) : M.Lim xs := h.lim
theorem RdK.at32 (h : Rd w A n c xs) {i : Nat} (hi : i < n) :
    ∃ b o x, A = some ⟨b, o, none⟩ ∧ xs[i]? = some x ∧ x < M.R ∧ w.cell? ⟨b, o + i, none⟩ = some (.int .u32 (x : Int)) := h.at_ hi
theorem RdK.short (h : Rd w A n c xs) : Rd w A (M.tr xs).length c (M.tr xs) := by
  have := h.take (m := (M.tr xs).length) (by rw [← h.len]; exact M.tr_length_le xs)
  rw [← M.tr_prefix] at this
  exact this
theorem OwK.short (h : Own w base A n c xs) : Own w base A (M.tr xs).length c (M.tr xs) := by
  have := h.take (m := (M.tr xs).length) (by rw [← h.len]; exact M.tr_length_le xs)
  rw [← M.tr_prefix] at this
  exact this
end

/-- A call answers a new row: these limbs. -/
def Gives (w : World) (xs : List Nat) (e : Ending) (w' : World) : Prop :=
  ∃ A c, e = .returned (.slice A xs.length c) ∧ Own w' w.heap.size A xs.length c xs ∧ Below w.heap.size w w'

end Go.Proofs.YtbhgbilhoonopaaGreat

/-
  Rows that are written in place: a slice that lies somewhere in a block that the call made, and the world behind writes to it.
-/
namespace Go.Proofs.YtbhgbilhoonopaaGreat
open Go.RowKit
set_option linter.unusedVariables false

theorem grownBy_setCell (w : World) (p : Addr) (u : Value) : w.grownBy (w.setCell p u) (some p.block) :=
  ⟨rfl, rfl, rfl, by simp [World.setCell], fun k _ hk => heap_setCell_other w p k u (fun e => hk (by rw [e]))⟩

/-- A slice of n cells from o on in a block that may be written. -/
structure WrK {α : Type} (K : Kd α) (w : World) (g o n : Nat) (xs : List α) : Prop where
  len : xs.length = n
  lim : ∀ x ∈ xs, K.ok x
  blk : ∃ cur : Array Value, w.heap[g]? = some (.cells cur K.e (0, 0)) ∧ ∀ (i : Nat) (x : α), xs[i]? = some x → cur[o + i]? = some (K.enc x)

/-- w' is w but for the cells of block g from o on, which hold ys now. -/
structure PutK {α : Type} (K : Kd α) (w w' : World) (g o : Nat) (ys : List α) : Prop where
  grown : w.grownBy w' (some g)
  size : w'.heap.size = w.heap.size
  blk : ∃ cur cur' : Array Value, w.heap[g]? = some (.cells cur K.e (0, 0)) ∧ w'.heap[g]? = some (.cells cur' K.e (0, 0)) ∧ cur'.size = cur.size ∧
    (∀ (i : Nat) (y : α), ys[i]? = some y → cur'[o + i]? = some (K.enc y)) ∧ ∀ j, (j < o ∨ o + ys.length ≤ j) → cur'[j]? = cur[j]?

section
variable {α : Type} {K : Kd α} {w w' w'' : World} {g o n c : Nat} {xs ys : List α}

theorem WrK.rd (h : WrK K w g o n xs) (hc : n ≤ c) : RdK K w (some ⟨g, o, none⟩) n c xs := by
  obtain ⟨cur, hh, hx⟩ := h.blk
  exact ⟨h.len, hc, (fun e => by cases e), h.lim, fun _ => ⟨g, o, rfl, fun i x hi => by rw [cell_of_row w g (o + i) cur K.e (0, 0) hh]; exact hx i x hi⟩⟩

theorem PutK.start (h : WrK K w g o n xs) (o' : Nat) : PutK K w w g o' [] := by
  obtain ⟨cur, hh, _⟩ := h.blk
  exact ⟨World.grownBy.refl w _, rfl, cur, cur, hh, hh, rfl, (fun i y hi => by simp at hi), fun _ _ => rfl⟩

theorem PutK.drew (h : PutK K w w' g o ys) : PutK K w w'.drew g o ys := ⟨⟨h.grown.os, h.grown.tape, h.grown.output, h.grown.size, h.grown.block⟩, h.size, h.blk⟩
theorem PutK.drewN (h : PutK K w w' g o ys) (k : Nat) : PutK K w (w'.drewN k) g o ys := ⟨⟨h.grown.os, h.grown.tape, h.grown.output, h.grown.size, h.grown.block⟩, h.size, h.blk⟩

theorem PutK.cellOut (h : PutK K w w' g o ys) {j : Nat} (hj : j < o ∨ o + ys.length ≤ j) : w'.cell? ⟨g, j, none⟩ = w.cell? ⟨g, j, none⟩ := by
  obtain ⟨cur, cur', h1, h2, _, _, h3⟩ := h.blk
  rw [cell_of_row w g j cur K.e (0, 0) h1, cell_of_row w' g j cur' K.e (0, 0) h2, h3 j hj]

theorem PutK.frozen (h : PutK K w w' g o ys) (j : Nat) : w'.frozen? ⟨g, j, none⟩ = false := by
  obtain ⟨cur, cur', h1, h2, _⟩ := h.blk
  exact frozen_of_row w' g j cur' K.e h2

/-- One cell more behind. -/
theorem PutK.snoc (h : PutK K w w' g o ys) (z : α) {v : Value} (hv : w.cell? ⟨g, o + ys.length, none⟩ = some v) : PutK K w (w'.setCell ⟨g, o + ys.length, none⟩ (K.enc z)) g o (ys ++ [z]) := by
  obtain ⟨cur, cur', h1, h2, hs, h3, h4⟩ := h.blk
  rw [cell_of_row w g _ cur K.e (0, 0) h1] at hv
  have hlt : o + ys.length < cur.size := (Array.getElem?_eq_some_iff.1 hv).1
  refine ⟨⟨h.grown.os, h.grown.tape, h.grown.output, by simp [World.setCell]; have := h.size; omega, fun k hk hne => ?_⟩, by simp [World.setCell]; exact h.size, cur, _, h1, heap_setCell_same w' g _ cur' K.e _ h2, by simp [hs], fun i y hy => ?_, fun j hj => ?_⟩
  · rw [heap_setCell_other w' ⟨g, o + ys.length, none⟩ k _ (fun e => hne (by rw [e]))]
    exact h.grown.block k hk hne
  · rw [Array.getElem?_setIfInBounds]
    by_cases hi : i < ys.length
    · rw [if_neg (by omega)]
      exact h3 i y (by rw [List.getElem?_append_left hi] at hy; exact hy)
    · have hi2 : i = ys.length := by
        have := (List.getElem?_eq_some_iff.1 hy).1
        simp at this
        omega
      subst hi2
      rw [if_pos rfl, if_pos (by omega)]
      simp at hy
      rw [hy]
  · rw [Array.getElem?_setIfInBounds]
    simp at hj
    rw [if_neg (by omega)]
    exact h4 j (by omega)

/-- One cell more ahead. -/
theorem PutK.cons (h : PutK K w w' g (o + 1) ys) (z : α) {v : Value} (hv : w.cell? ⟨g, o, none⟩ = some v) : PutK K w (w'.setCell ⟨g, o, none⟩ (K.enc z)) g o (z :: ys) := by
  obtain ⟨cur, cur', h1, h2, hs, h3, h4⟩ := h.blk
  rw [cell_of_row w g _ cur K.e (0, 0) h1] at hv
  have hlt : o < cur.size := (Array.getElem?_eq_some_iff.1 hv).1
  refine ⟨⟨h.grown.os, h.grown.tape, h.grown.output, by simp [World.setCell]; have := h.size; omega, fun k hk hne => ?_⟩, by simp [World.setCell]; exact h.size, cur, _, h1, heap_setCell_same w' g _ cur' K.e _ h2, by simp [hs], fun i y hy => ?_, fun j hj => ?_⟩
  · rw [heap_setCell_other w' ⟨g, o, none⟩ k _ (fun e => hne (by rw [e]))]
    exact h.grown.block k hk hne
  · rw [Array.getElem?_setIfInBounds]
    cases i with
    | zero =>
      rw [if_pos (by omega), if_pos (by omega)]
      simp at hy
      rw [hy]
    | succ i =>
      rw [if_neg (by omega)]
      have := h3 i y (by simpa using hy)
      rw [← this]
      congr 1
      omega
  · rw [Array.getElem?_setIfInBounds]
    simp at hj
    rw [if_neg (by omega)]
    exact h4 j (by omega)

/-- What was put reads as such. -/
theorem PutK.wr (h : PutK K w w' g o ys) (hl : ∀ y ∈ ys, K.ok y) : WrK K w' g o ys.length ys := by
  obtain ⟨cur, cur', h1, h2, hs, h3, h4⟩ := h.blk
  exact ⟨rfl, hl, cur', h2, h3⟩

/-- Rows of other blocks read as they did. -/
theorem RdK.put {A : Option Addr} {m d : Nat} {zs : List α} {β : Type} {K' : Kd β} {us : List β} {g o : Nat} (h : RdK K w A m d zs) (hp : PutK K' w w' g o us) (hne : ∀ p, A = some p → 0 < m → p.block ≠ g) : RdK K w' A m d zs :=
  h.grown hp.grown fun p hA hm e => hne p hA hm (by injection e)
end

section
variable {α : Type} {K : Kd α} {w w' : World} {base g o n m c : Nat} {xs ys : List α}

/-- A piece of a row that the call made may be written. -/
theorem OwK.wr (h : OwK K w base (some ⟨g, 0, none⟩) n c xs) (hm : o + m ≤ n) : WrK K w g o m ((xs.drop o).take m) := by
  rcases h.cases with ⟨h0, _⟩ | ⟨g', cur, hg, hb, hh, hnc, hcm, hcs, ht⟩
  · cases h0
  · have e : g = g' := by injection hg with hg; injection hg
    subst e
    refine ⟨by rw [List.length_take, List.length_drop, h.len]; omega, fun x hx => h.lim x (List.mem_of_mem_drop (List.mem_of_mem_take hx)), cur, hh, fun i x hi => ?_⟩
    have hi' : i < m := by
      have := (List.getElem?_eq_some_iff.1 hi).1
      rw [List.length_take] at this
      omega
    rw [List.getElem?_take, if_pos hi', List.getElem?_drop] at hi
    have h2 : (xs.map K.enc)[o + i]? = some (K.enc x) := by rw [List.getElem?_map, hi]; rfl
    rw [← ht, List.getElem?_take, if_pos (by omega)] at h2
    simpa using h2

/-- The row that the call made, behind writes to a piece of it. -/
theorem OwK.put (h : OwK K w base (some ⟨g, 0, none⟩) n c xs) (hp : PutK K w w' g o ys) (hm : o + ys.length ≤ n) (hl : ∀ y ∈ ys, K.ok y) :
    OwK K w' base (some ⟨g, 0, none⟩) n c (xs.take o ++ ys ++ xs.drop (o + ys.length)) := by
  rcases h.cases with ⟨h0, _⟩ | ⟨g', cur, hg, hb, hh, hnc, hcm, hcs, ht⟩
  · cases h0
  · have e : g = g' := by injection hg with hg; injection hg
    subst e
    obtain ⟨cur1, cur', h1, h2, hs, h3, h4⟩ := hp.blk
    rw [hh] at h1
    injection h1 with h1
    injection h1 with h1
    subst h1
    have hxl := h.len
    refine ⟨⟨by simp [hxl]; omega, .inr ⟨g, c, cur', rfl, hb, h2, hnc, hcm, by omega, ?_⟩⟩, fun x hx => ?_⟩
    · rw [Nat.mul_one]
      apply List.ext_getElem?
      intro i
      rw [List.getElem?_take]
      by_cases hi : i < n
      · rw [if_pos hi]
        have hlook : cur'.toList[i]? = cur'[i]? := by simp
        rw [hlook, List.getElem?_map]
        by_cases h5 : i < o
        · rw [h4 i (by omega), List.append_assoc, List.getElem?_append_left (by rw [List.length_take]; omega), List.getElem?_take, if_pos h5]
          have : (cur.toList.take n)[i]? = cur[i]? := by rw [List.getElem?_take, if_pos hi]; simp
          rw [← this, ht, List.getElem?_map]
        · by_cases h6 : i < o + ys.length
          · rw [List.getElem?_append_left (by rw [List.length_append, List.length_take]; omega), List.getElem?_append_right (by rw [List.length_take]; omega), List.length_take, Nat.min_eq_left (by omega)]
            have h7 : i - o < ys.length := by omega
            have h8 := h3 (i - o) _ (List.getElem?_eq_getElem h7)
            rw [show o + (i - o) = i by omega] at h8
            rw [h8, List.getElem?_eq_getElem h7]
            rfl
          · rw [h4 i (by omega), List.getElem?_append_right (by rw [List.length_append, List.length_take]; omega), List.length_append, List.length_take, Nat.min_eq_left (by omega), List.getElem?_drop, show o + ys.length + (i - (o + ys.length)) = i by omega]
            have : (cur.toList.take n)[i]? = cur[i]? := by rw [List.getElem?_take, if_pos hi]; simp
            rw [← this, ht, List.getElem?_map]
      · rw [if_neg hi, List.getElem?_eq_none]
        simp [hxl]
        omega
    · rcases List.mem_append.1 hx with hx | hx
      · rcases List.mem_append.1 hx with hx | hx
        · exact h.lim x (List.mem_of_mem_take hx)
        · exact hl x hx
      · exact h.lim x (List.mem_of_mem_drop hx)

/-- One element written. -/
theorem OwK.set_ (h : OwK K w base (some ⟨g, 0, none⟩) n c xs) (j : Nat) (z : α) (hz : K.ok z) :
    OwK K (w.setCell ⟨g, j, none⟩ (K.enc z)) base (some ⟨g, 0, none⟩) n c (xs.set j z) ∧ w.grownBy (w.setCell ⟨g, j, none⟩ (K.enc z)) (some g) := by
  obtain ⟨h1, h2⟩ := h.row.stored j (K.enc z)
  refine ⟨⟨?_, fun x hx => ?_⟩, h2⟩
  · rw [List.map_set]
    exact h1
  · rcases List.mem_or_eq_of_mem_set hx with hx | rfl
    · exact h.lim x hx
    · exact hz

/-- Its cell. -/
theorem OwK.cellAt (h : OwK K w base (some ⟨g, 0, none⟩) n c xs) {j : Nat} {x : α} (hx : xs[j]? = some x) : w.cell? ⟨g, j, none⟩ = some (K.enc x) := by
  have hj : j < n := by rw [← h.len]; exact (List.getElem?_eq_some_iff.1 hx).1
  rw [h.row.cellAt j (by omega), List.getElem?_map, hx]
  rfl
theorem OwK.frozenAt (h : OwK K w base (some ⟨g, 0, none⟩) n c xs) (j : Nat) : w.frozen? ⟨g, j, none⟩ = false := h.row.frozenAt j
end

end Go.Proofs.YtbhgbilhoonopaaGreat
