/-
  api.Told: walked: of no error; of an error of lex.
-/
import Derived.Test.YtgglmmipdfcbpaaDoorZTold
import Derived.Laws.Rows
import Derived.Handy
namespace Go.Proofs.YtgglmmipdfcbpaaDoor
open Go.RowKit Go.Extern.Stop Go.Stop Go.Extern

set_option maxRecDepth 4000 in
theorem told_nil (w : World) : Calls Tryd.prog 24 #[.nilIface] w fun ev w' => ev = .returned (.agg #[.int .i64 0, .int .i64 0]) ∧ Below w.heap.size w w' := by
  go_enter Tryd.func24, Tryd.ntmps24
  go_wp2_with (go_at_call 34; refine (as_nil _ _).mono ?_; rintro _ _ ⟨rfl, rfl⟩)
  go_returns
  exact ⟨rfl, by go_grown⟩
set_option maxRecDepth 4000 in
set_option maxHeartbeats 4000000 in
theorem told_wrong (c o : Nat) (m k : Int) (w : World) (hg : w.cell? ⟨0, 0, none⟩ = some (.iface 96 (.agg #[.pointer (some ⟨1, 28, none⟩)])))
    (hx : w.cell? ⟨c, o, none⟩ = some (.int .i64 m)) (hy : w.cell? ⟨c, o + 1, none⟩ = some (.int .i64 k)) :
    Calls Tryd.prog 24 #[.iface 91 (.pointer (some ⟨c, o, none⟩))] w fun ev w' => ev = .returned (.agg #[.int .i64 m, .int .i64 k]) ∧ Below w.heap.size w w' := by
  have hlt : 0 < w.heap.size := by
    rcases Nat.eq_zero_or_pos w.heap.size with h0 | h
    · simp [World.cell?, h0] at hg
    · exact h
  have hcl : c < w.heap.size := by
    rcases Nat.lt_or_ge c w.heap.size with h | h
    · exact h
    · simp [World.cell?, Array.getElem?_eq_none h] at hx
  have h34 := as_wrong ⟨c, o, none⟩ ⟨w.heap.size + 1, 0, none⟩ (.pointer none) ((w.alloc (.cells #[.int .i64 0, .int .i64 0] 33)).alloc (.cells #[.pointer none] 62))
    (by rw [World.cell?_alloc_lt _ _ ⟨0, 0, none⟩ (by simp), World.cell?_alloc_lt _ _ ⟨0, 0, none⟩ hlt]; exact hg) (by simp) (by simp)
  have hx6 : ((((((w.alloc (.cells #[.int .i64 0, .int .i64 0] 33)).alloc (.cells #[.pointer (some ⟨c, o, none⟩)] 62)).alloc (.cells #[.pointer (some ⟨w.heap.size + 1, 0, none⟩)] 64)).alloc (.cells #[.pointer (some ⟨1, 64, none⟩), .pointer (some ⟨w.heap.size + 1 + 1, 0, none⟩), .int .u64 150] 77)).alloc (.cells #[.pointer (some ⟨1, 64, none⟩), .pointer (some ⟨w.heap.size + 1 + 1, 0, none⟩), .int .u64 150] 77)).alloc (.cells #[.pointer (some ⟨c, o, none⟩)] 62)).cell? ⟨c, o, none⟩ = some (.int .i64 m) := by
    repeat rw [World.cell?_alloc_lt _ _ ⟨c, o, none⟩ (by simp; omega)]
    exact hx
  have hy6 : ((((((w.alloc (.cells #[.int .i64 0, .int .i64 0] 33)).alloc (.cells #[.pointer (some ⟨c, o, none⟩)] 62)).alloc (.cells #[.pointer (some ⟨w.heap.size + 1, 0, none⟩)] 64)).alloc (.cells #[.pointer (some ⟨1, 64, none⟩), .pointer (some ⟨w.heap.size + 1 + 1, 0, none⟩), .int .u64 150] 77)).alloc (.cells #[.pointer (some ⟨1, 64, none⟩), .pointer (some ⟨w.heap.size + 1 + 1, 0, none⟩), .int .u64 150] 77)).alloc (.cells #[.pointer (some ⟨c, o, none⟩)] 62)).cell? ⟨c, o + 1, none⟩ = some (.int .i64 k) := by
    repeat rw [World.cell?_alloc_lt _ _ ⟨c, o + 1, none⟩ (by simp; omega)]
    exact hy
  go_enter Tryd.func24, Tryd.ntmps24
  go_wp2_with (go_at_call 34; refine h34.mono ?_; rintro _ _ ⟨rfl, rfl⟩)
  go_returns
  exact ⟨rfl, by go_grown⟩
end Go.Proofs.YtgglmmipdfcbpaaDoor
