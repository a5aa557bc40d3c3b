/-
  lex.Quote: the bytes of a text's token.
-/
import Derived.Test.YtgglmmipdfcbpaaDoorXQuo
import Derived.Deep.RegionLaw
namespace Go.Proofs.YtgglmmipdfcbpaaDoor
open Go.RowKit
set_option linter.unusedVariables false

theorem q1_lt (b : Nat) (h : b < 256) : ∀ x ∈ q1 b, x < 256 := by
  have hd : ∀ n, n < 16 → hexD n < 256 := fun n hn => by unfold hexD; split <;> omega
  intro x hx
  unfold q1 at hx
  split at hx
  · simp at hx; omega
  · split at hx
    · simp at hx; omega
    · split at hx
      · simp at hx; omega
      · have h1 := hd (b / 16) (by omega)
        have h2 := hd (b % 16) (by omega)
        simp at hx
        omega
theorem hexAt (n : Nat) (h : n < 16) : (sixteen[n]'h).toNat = hexD n := by
  have : ∀ n (h : n < 16), (sixteen[n]'h).toNat = hexD n := by decide
  exact this n h
set_option maxHeartbeats 4000000 in
theorem quoteL_c (s : ByteArray) (w : World) (hs : s.size ≤ 1048576) : Calls Tryd.prog 20 #[.string s] w fun e w' => (∃ t, e = .returned (.string t) ∧ M.bytes t = quo s) ∧ Below w.heap.size w w' := by
  go_enter Tryd.func20, Tryd.ntmps20
  go_wp2_with (first
    | (at_make; refine make_own kU8 _ rfl _ _ rfl .i64 .i64 _ (s.size + 2) rfl rfl (by omega) (by omega) ?_; intro w1 ho1 hb1; have HO1 := Lib.hid ho1; have HB1 := Lib.hid hb1; clear ho1 hb1)
    | (at_builtin; refine app_own kU8 _ rfl _ _ rfl w.heap.size _ 0 (s.size + 2) [] rfl (HO1.out.alloc _) _ 1 1 [34] rfl (RdK.lits kU8 _ [34] (by intro x hx; simp at hx; subst hx; show 34 < 256; decide)) (by omega) (by have := HB1.out.size; simp; omega) ?_; intro A2 c2 w2 ho2 hg2; have HO2 := Lib.hid ho2; have HB2 := Lib.hid (below_app HB1.out HB1.out.size HO1.out hg2); clear ho2 hg2))
  go_loopw [3, 4] (fun v i wr => ∃ (k : Nat) (A : Option Addr) (n c : Nat), k ≤ s.size ∧ i = .int .i64 k ∧ v = .slice A n c ∧ OwK kU8 wr w.heap.size A n c (34 :: q2 ((M.bytes s).take k)) ∧ Below w.heap.size w wr) (fun v i _ => s.size - (intOf i).toNat)
  case atStart => exact ⟨0, A2, 1, c2, Nat.zero_le _, rfl, rfl, HO2.out, HB2.out⟩
  case round =>
    obtain ⟨k, A, n, c, hk, rfl, rfl, ho, hbl⟩ := hrel
    clear HO1 HB1 HO2 HB2
    have HO := Lib.hid ho
    have HB := Lib.hid hbl
    have hn : n ≤ 4194305 := by
      rw [← ho.rd.len, List.length_cons]
      have h1 := q2_len ((M.bytes s).take k)
      rw [List.length_take, M.bytes_len] at h1
      omega
    have hn1 : 0 < n := by rw [← ho.rd.len, List.length_cons]; omega
    clear ho hbl
    by_cases hkn : k < s.size
    · have hx := M.bytes_get s k hkn
      have hkey : 34 :: q2 ((M.bytes s).take (k + 1)) = (34 :: q2 ((M.bytes s).take k)) ++ q1 s[k].toNat := by rw [q2_snoc _ k _ hx]; rfl
      have KEY := Lib.hid hkey
      clear hx hkey
      have hlt := byte_lt s k hkn
      cases b : (((s[k].toNat : Nat) : Int) == 34) with
      | true =>
        have e : s[k].toNat = 34 := by have := eq_of_beq b; omega
        have HQ := Lib.hid (show q1 s[k].toNat = [92, s[k].toNat] by rw [e]; rfl)
        clear e
        go_wp2_with (at_builtin; refine app_own kU8 _ rfl _ _ rfl w.heap.size A n c _ rfl (HO.out.alloc _) _ 2 2 [92, s[k].toNat] rfl (RdK.lits kU8 _ [92, s[k].toNat] (by intro x hx; show x < 256; simp at hx; omega)) (by omega) (by have := HB.out.size; simp; omega) ?_; intro A3 c3 w3 ho3 hg3; have HO3 := Lib.hid ho3; have HB3 := Lib.hid (below_app HB.out HB.out.size HO.out hg3); clear ho3 hg3)
        exact ⟨⟨k + 1, A3, n + 2, c3, by omega, by go_num, rfl, by rw [KEY.out, HQ.out]; exact HO3.out, HB3.out⟩, by simp [intOf]; omega⟩
      | false =>
        cases b2 : (((s[k].toNat : Nat) : Int) == 92) with
        | true =>
          have e : s[k].toNat = 92 := by have := eq_of_beq b2; omega
          have HQ := Lib.hid (show q1 s[k].toNat = [92, s[k].toNat] by rw [e]; rfl)
          clear e
          go_wp2_with (at_builtin; refine app_own kU8 _ rfl _ _ rfl w.heap.size A n c _ rfl (HO.out.alloc _) _ 2 2 [92, s[k].toNat] rfl (RdK.lits kU8 _ [92, s[k].toNat] (by intro x hx; show x < 256; simp at hx; omega)) (by omega) (by have := HB.out.size; simp; omega) ?_; intro A3 c3 w3 ho3 hg3; have HO3 := Lib.hid ho3; have HB3 := Lib.hid (below_app HB.out HB.out.size HO.out hg3); clear ho3 hg3)
          exact ⟨⟨k + 1, A3, n + 2, c3, by omega, by go_num, rfl, by rw [KEY.out, HQ.out]; exact HO3.out, HB3.out⟩, by simp [intOf]; omega⟩
        | false =>
          have eb : ¬ (s[k].toNat = 34 ∨ s[k].toNat = 92) := by
            rintro (e | e)
            · rw [e] at b; simp at b
            · rw [e] at b2; simp at b2
          have EB := Lib.hid eb
          clear eb
          cases a : (((s[k].toNat : Nat) : Int) == 10) with
          | true =>
            have e : s[k].toNat = 10 := by have := eq_of_beq a; omega
            have HQ := Lib.hid (show q1 s[k].toNat = [92, 110] by rw [e]; rfl)
            clear e
            go_wp2_with (at_builtin; refine app_own kU8 _ rfl _ _ rfl w.heap.size A n c _ rfl (HO.out.alloc _) _ 2 2 [92, 110] rfl (RdK.lits kU8 _ [92, 110] (by intro x hx; show x < 256; simp at hx; omega)) (by omega) (by have := HB.out.size; simp; omega) ?_; intro A3 c3 w3 ho3 hg3; have HO3 := Lib.hid ho3; have HB3 := Lib.hid (below_app HB.out HB.out.size HO.out hg3); clear ho3 hg3)
            exact ⟨⟨k + 1, A3, n + 2, c3, by omega, by go_num, rfl, by rw [KEY.out, HQ.out]; exact HO3.out, HB3.out⟩, by simp [intOf]; omega⟩
          | false =>
            have ea : s[k].toNat ≠ 10 := fun e => by rw [e] at a; simp at a
            have EA := Lib.hid ea
            clear ea
            cases r : prB ((s[k].toNat : Nat) : Int) with
            | true =>
              have HQ := Lib.hid (show q1 s[k].toNat = [s[k].toNat] by
                unfold q1
                rw [if_neg EA.out, if_neg EB.out, if_pos (by unfold prB at r; simp at r; omega)])
              go_wp2_with (first | (go_at_call 33; refine (printed_c _ _).mono ?_; rintro _ _ ⟨rfl, rfl⟩) | (at_builtin; refine app_own kU8 _ rfl _ _ rfl w.heap.size A n c _ rfl (HO.out.alloc _) _ 1 1 [s[k].toNat] rfl (RdK.lits kU8 _ [s[k].toNat] (by intro x hx; show x < 256; simp at hx; omega)) (by omega) (by have := HB.out.size; simp; omega) ?_; intro A3 c3 w3 ho3 hg3; have HO3 := Lib.hid ho3; have HB3 := Lib.hid (below_app HB.out HB.out.size HO.out hg3); clear ho3 hg3))
              exact ⟨⟨k + 1, A3, n + 1, c3, by omega, by go_num, rfl, by rw [KEY.out, HQ.out]; exact HO3.out, HB3.out⟩, by simp [intOf]; omega⟩
            | false =>
              have HQ := Lib.hid (show q1 s[k].toNat = [92, 120, hexD (s[k].toNat / 16), hexD (s[k].toNat % 16)] by
                unfold q1
                rw [if_neg EA.out, if_neg EB.out, if_neg (by unfold prB at r; simp at r; omega)])
              go_wp2_with (go_at_call 33; refine (printed_c _ _).mono ?_; rintro _ _ ⟨rfl, rfl⟩)
              have c1 : s[k].toNat / 16 < 16 := by omega
              have c2 : s[k].toNat % 16 < 16 := by omega
              have e1 : (((s[k].toNat : Nat) : Int) / 16).toNat = s[k].toNat / 16 := by omega
              have e2 : (((s[k].toNat : Nat) : Int) % 16).toNat = s[k].toNat % 16 := by omega
              have hx1 : (({ data := #[48, 49, 50, 51, 52, 53, 54, 55, 56, 57, 97, 98, 99, 100, 101, 102] } : ByteArray)[s[k].toNat / 16]'c1).toNat = hexD (s[k].toNat / 16) := hexAt _ c1
              have hx2 : (({ data := #[48, 49, 50, 51, 52, 53, 54, 55, 56, 57, 97, 98, 99, 100, 101, 102] } : ByteArray)[s[k].toNat % 16]'c2).toNat = hexD (s[k].toNat % 16) := hexAt _ c2
              have l1 : hexD (s[k].toNat / 16) < 256 := by unfold hexD; split <;> omega
              have l2 : hexD (s[k].toNat % 16) < 256 := by unfold hexD; split <;> omega
              have LL := Lib.hid (show ∀ x ∈ [92, 120, hexD (s[k].toNat / 16), hexD (s[k].toNat % 16)], kU8.ok x by intro x hx; show x < 256; simp at hx; omega)
              clear l1 l2
              have band := and15 s[k].toNat hlt
              have d1 : (0 : Int) ≤ ((s[k].toNat : Nat) : Int) / 16 := by omega
              have d2 : ((s[k].toNat : Nat) : Int) / 16 < 16 := by omega
              have d3 : (0 : Int) ≤ ((s[k].toNat : Nat) : Int) % 16 := by omega
              have d4 : ((s[k].toNat : Nat) : Int) % 16 < 16 := by omega
              go_region_law (refine app_step kU8 _ rfl (.tmp 22) (.tmp 29) rfl w.heap.size A n c _ rfl (HO.out.alloc _).drew _ 4 4 [92, 120, hexD (s[k].toNat / 16), hexD (s[k].toNat % 16)] rfl (RdK.lits kU8 wr [92, 120, hexD (s[k].toNat / 16), hexD (s[k].toNat % 16)] LL.out).drew (by omega) (by have := HB.out.size; simp; omega) ?_; intro A3 c3 w3 ho3 hg3; have HO3 := Lib.hid ho3; have HB3 := Lib.hid (below_app' (HB.out.alloc HB.out.size _).drew (by have := HB.out.size; simp; omega) (HO.out.alloc _).drew hg3); clear ho3 hg3)
              all_goals go_wp2
              all_goals exact ⟨⟨k + 1, A3, n + 4, c3, by omega, by go_num, rfl, by rw [KEY.out, HQ.out]; exact HO3.out, HB3.out⟩, by simp [intOf]; omega⟩
    · have hk2 : k = s.size := by omega
      have HX := Lib.hid (show (34 :: q2 ((M.bytes s).take k)) ++ [34] = quo s by
        rw [List.take_of_length_le (by rw [M.bytes_len]; omega)]
        rfl)
      clear hk2
      go_wp2_with (at_builtin; refine app_own kU8 _ rfl _ _ rfl w.heap.size A n c _ rfl (HO.out.alloc _) _ 1 1 [34] rfl (RdK.lits kU8 _ [34] (by intro x hx; simp at hx; subst hx; show 34 < 256; decide)) (by omega) (by have := HB.out.size; simp; omega) ?_; intro A3 c3 w3 ho3 hg3; have HB3 := Lib.hid (below_app HB.out HB.out.size HO.out hg3); obtain ⟨u, hu, hcv⟩ := ho3.back (by omega); have HU := Lib.hid hu; clear ho3 hg3 hu)
      go_ret
      exact ⟨⟨u, rfl, HU.out.trans HX.out⟩, HB3.out⟩
end Go.Proofs.YtgglmmipdfcbpaaDoor
