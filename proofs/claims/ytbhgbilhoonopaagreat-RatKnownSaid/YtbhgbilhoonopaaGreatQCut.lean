/- strings.Cut at a stroke. -/
import Derived.Test.YtbhgbilhoonopaaGreatQRight
import Derived.Lib.Bytealg
import Derived.Laws.Externs
namespace Go.Proofs.YtbhgbilhoonopaaGreat
open Go.RowKit
set_option linter.unusedVariables false
set_option maxRecDepth 100000

theorem ib_no : ∀ L : List UInt8, 47 ∉ L.map UInt8.toNat → Lib.indexByte L 47 = -1
  | [], _ => rfl
  | b :: L, h => by
    rw [List.map_cons, List.mem_cons, not_or] at h
    have hb : (b == 47) = false := by
      rw [beq_eq_false_iff_ne]
      intro e
      exact h.1 (by rw [e]; rfl)
    unfold Lib.indexByte
    rw [hb, ib_no L h.2]
    rfl
theorem ib_yes : ∀ (L : List UInt8) (l1 l2 : List Nat), L.map UInt8.toNat = l1 ++ 47 :: l2 → 47 ∉ l1 → Lib.indexByte L 47 = l1.length
  | [], l1, l2, h, _ => by simp at h
  | b :: L, [], l2, h, _ => by
    rw [List.map_cons, List.nil_append, List.cons.injEq] at h
    have hb : b = 47 := UInt8.toNat_inj.1 (by rw [h.1]; rfl)
    subst hb
    rfl
  | b :: L, x :: l1, l2, h, hn => by
    rw [List.map_cons, List.cons_append, List.cons.injEq] at h
    rw [List.mem_cons, not_or] at hn
    have hb : (b == 47) = false := by
      rw [beq_eq_false_iff_ne]
      intro e
      refine hn.1 ?_
      rw [← h.1, e]
      rfl
    have ih := ib_yes L l1 l2 h.2 hn.2
    unfold Lib.indexByte
    rw [hb, ih]
    have : ((l1.length : Int) == -1) = false := by
      rw [beq_eq_false_iff_ne]
      omega
    rw [this]
    simp
theorem bytes_map (s : ByteArray) : M.bytes s = s.data.toList.map UInt8.toNat := rfl

set_option maxHeartbeats 1000000 in
theorem indexByte_any (s : ByteArray) (w : World) : Calls Tryz.prog 159 #[.string s, .int .u8 47] w (Ans w fun _ v => v = .int .i64 (Lib.indexByte s.data.toList 47)) := by
  go_enter Tryz.func159, Tryz.ntmps159
  go_wp2
  rw [run_callFunc_extern Tryz.func167 (by kernel_rfl) (by kernel_rfl) (by kernel_rfl) (e := Extern.BytealgIndexByte.indexByte) (by kernel_rfl), Lib.run_indexByteString]
  simp only [Result.andThen]
  rw [Oper.upon_value]
  go_wp2
  go_ret
  exact ⟨_, rfl, Below.refl _ _, rfl⟩

set_option maxHeartbeats 2000000 in
theorem index_any (s : ByteArray) (hs : s.size ≤ 1048576) (w : World) {i : Int} (hi : Lib.indexByte s.data.toList 47 = i) : Calls Tryz.prog 150 #[.string s, .string ⟨#[47]⟩] w (Ans w fun _ v => v = .int .i64 i) := by
  by_cases h1 : s = ⟨#[47]⟩
  · subst h1
    have h0 : i = 0 := by rw [← hi]; rfl
    subst h0
    clear hi
    go_enter Tryz.func150, Tryz.ntmps150
    go_wp2
    go_ret
    exact ⟨_, rfl, Below.refl _ _, rfl⟩
  · have hne : (([47] : List UInt8) == s.toList) = false := by
      rw [beq_eq_false_iff_ne]
      intro e
      rw [Lib.toList_data] at e
      refine h1 (ByteArray.ext ?_)
      rw [← Array.toList_inj, ← e]
    have HI := Lib.hid hi
    clear hi h1
    go_enter Tryz.func150, Tryz.ntmps150
    go_wp2_with fail
    have hc : (({ data := #[47] } : ByteArray)[0].toNat : Int) = 47 := rfl
    rw [hc]
    refine (indexByte_any s w).mono ?_
    rw [HI.out]
    rintro e w1 ⟨_, rfl, hb1, rfl⟩
    go_wp2_with fail
    go_ret
    exact ⟨_, rfl, hb1, rfl⟩

theorem bytes_take (s : ByteArray) {l1 l2 : List Nat} (h : M.bytes s = l1 ++ 47 :: l2) : M.bytes (s.extract 0 l1.length) = l1 ∧ M.bytes (s.extract (l1.length + 1) s.size) = l2 := by
  constructor
  · rw [M.bytes_extract, h, Nat.sub_zero, List.drop_zero, List.take_left]
  · rw [M.bytes_tail, h, show l1 ++ 47 :: l2 = (l1 ++ [47]) ++ l2 by simp, List.drop_left' (by simp)]

set_option maxHeartbeats 2000000 in
theorem lcut_no (s : ByteArray) (hs : s.size ≤ 1048576) (w : World) (h : 47 ∉ M.bytes s) : Calls Tryz.prog 125 #[.string s, .string ⟨#[47]⟩] w (Ans w fun _ v => v = .tuple #[.string s, .string ⟨#[]⟩, .bool false]) := by
  have hi := ib_no s.data.toList h
  have HI := Lib.hid (index_any s hs w hi)
  clear hi h
  go_enter Tryz.func125, Tryz.ntmps125
  go_wp2_with fail
  refine HI.out.mono ?_
  rintro e w1 ⟨_, rfl, hb1, rfl⟩
  go_wp2_with fail
  go_ret3
  exact ⟨_, rfl, hb1, rfl⟩
set_option maxHeartbeats 2000000 in
theorem scut_no (s : ByteArray) (hs : s.size ≤ 1048576) (w : World) (h : 47 ∉ M.bytes s) : Calls Tryz.prog 92 #[.string s, .string ⟨#[47]⟩] w (Ans w fun _ v => v = .tuple #[.string s, .string ⟨#[]⟩, .bool false]) := by
  have HI := Lib.hid (lcut_no s hs w h)
  clear h
  go_enter Tryz.func92, Tryz.ntmps92
  go_wp2_with fail
  refine HI.out.mono ?_
  rintro e w1 ⟨_, rfl, hb1, rfl⟩
  go_wp2_with fail
  go_ret3
  exact ⟨_, rfl, hb1, rfl⟩
set_option maxHeartbeats 2000000 in
theorem lcut_yes (s : ByteArray) (hs : s.size ≤ 1048576) (w : World) {l1 l2 : List Nat} (h : M.bytes s = l1 ++ 47 :: l2) (hn : 47 ∉ l1) : Calls Tryz.prog 125 #[.string s, .string ⟨#[47]⟩] w (Ans w fun _ v => v = .tuple #[.string (s.extract 0 l1.length), .string (s.extract (l1.length + 1) s.size), .bool true]) := by
  have hi := ib_yes s.data.toList l1 l2 h hn
  have hl : l1.length + 1 ≤ s.size := by rw [← M.bytes_len, h]; simp
  have HI := Lib.hid (index_any s hs w hi)
  clear hi h
  generalize l1.length = i at HI hl ⊢
  go_enter Tryz.func125, Tryz.ntmps125
  go_wp2_with fail
  refine HI.out.mono ?_
  rintro e w1 ⟨_, rfl, hb1, rfl⟩
  have i1 : (i : Int) + 1 ≤ (s.size : Int) := by omega
  go_wp2
  go_quiet (fail)
  go_wp2
  go_ret3
  exact ⟨_, rfl, below_drewN hb1 _, rfl⟩
set_option maxHeartbeats 2000000 in
theorem scut_yes (s : ByteArray) (hs : s.size ≤ 1048576) (w : World) {l1 l2 : List Nat} (h : M.bytes s = l1 ++ 47 :: l2) (hn : 47 ∉ l1) : Calls Tryz.prog 92 #[.string s, .string ⟨#[47]⟩] w (Ans w fun _ v => v = .tuple #[.string (s.extract 0 l1.length), .string (s.extract (l1.length + 1) s.size), .bool true]) := by
  have HI := Lib.hid (lcut_yes s hs w h hn)
  clear h
  go_enter Tryz.func92, Tryz.ntmps92
  go_wp2_with fail
  refine HI.out.mono ?_
  rintro e w1 ⟨_, rfl, hb1, rfl⟩
  go_wp2_with fail
  go_ret3
  exact ⟨_, rfl, hb1, rfl⟩

end Go.Proofs.YtbhgbilhoonopaaGreat
