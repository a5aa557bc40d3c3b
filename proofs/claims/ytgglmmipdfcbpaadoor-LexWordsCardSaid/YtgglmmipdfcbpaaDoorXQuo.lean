/-
  A text's token: what it is, byte for byte.
-/
import Derived.Test.YtgglmmipdfcbpaaDoorXNumber
import Derived.Test.YtgglmmipdfcbpaaDoorMBy
import Derived.BigRegion
namespace Go.Proofs.YtgglmmipdfcbpaaDoor
open Go.RowKit
set_option linter.unusedVariables false

def hexD (n : Nat) : Nat := if n < 10 then 48 + n else 87 + n
/-- How a byte stands in a token. -/
def q1 (b : Nat) : List Nat := if b = 10 then [92, 110] else if b = 34 ∨ b = 92 then [92, b] else if 32 ≤ b ∧ b ≤ 126 then [b] else [92, 120, hexD (b / 16), hexD (b % 16)]
def q2 (l : List Nat) : List Nat := l.flatMap q1
/-- The bytes of a text's token. -/
def quo (s : ByteArray) : List Nat := 34 :: (q2 (M.bytes s) ++ [34])
theorem q1_len (b : Nat) : (q1 b).length ≤ 4 := by unfold q1; split <;> (try split) <;> (try split) <;> simp
theorem q2_len (l : List Nat) : (q2 l).length ≤ 4 * l.length := by
  induction l with
  | nil => simp [q2]
  | cons b l ih =>
    have := q1_len b
    simp only [q2, List.flatMap_cons, List.length_append, List.length_cons] at ih ⊢
    omega
theorem q2_snoc (l : List Nat) (k : Nat) (b : Nat) (h : l[k]? = some b) : q2 (l.take (k + 1)) = q2 (l.take k) ++ q1 b := by
  rw [List.take_add_one, h]
  simp [q2]
theorem bytes_app (s t : ByteArray) : M.bytes (s ++ t) = M.bytes s ++ M.bytes t := by
  unfold M.bytes
  rw [ByteArray.data_append, Array.toList_append, List.map_append]
theorem byte_lt (s : ByteArray) (k : Nat) (h : k < s.size) : s[k].toNat < 256 := s[k].toNat_lt
theorem bytes_one (s : ByteArray) (k : Nat) (h : k < s.size) : M.bytes (s.extract k (k + 1)) = [s[k].toNat] := by
  rw [M.bytes_extract, show k + 1 - k = 1 from by omega, List.take_one, List.head?_drop, M.bytes_get s k h]
  rfl
theorem size_bytes (s : ByteArray) : s.size = (M.bytes s).length := (M.bytes_len s).symm
/-- The sixteen digits. -/
def sixteen : ByteArray := ⟨#[48, 49, 50, 51, 52, 53, 54, 55, 56, 57, 97, 98, 99, 100, 101, 102]⟩
theorem hex_at (n : Nat) (h : n < 16) : M.bytes (sixteen.extract n (n + 1)) = [hexD n] := by
  rw [M.bytes_extract]
  have : ∀ n, n < 16 → ((M.bytes sixteen).drop n).take (n + 1 - n) = [hexD n] := by decide
  exact this n h

set_option maxHeartbeats 4000000 in
theorem quoteR_c (s : ByteArray) (w : World) (hs : s.size ≤ 1048576) : Calls Tryd.prog 21 #[.string s] w fun e w' => (∃ t, e = .returned (.string t) ∧ M.bytes t = quo s) ∧ Below w.heap.size w w' := by
  go_enter Tryd.func21, Tryd.ntmps21
  go_wp2
  go_loopw [3, 5] (fun v i wr => ∃ (k : Nat) (t : ByteArray), k ≤ s.size ∧ i = .int .i64 k ∧ v = .string t ∧ M.bytes t = 34 :: q2 ((M.bytes s).take k) ∧ Below w.heap.size w wr) (fun v i _ => s.size - (intOf i).toNat)
  case atStart => exact ⟨0, _, Nat.zero_le _, rfl, rfl, rfl, .refl _ _⟩
  case round =>
    obtain ⟨k, t, hk, rfl, rfl, hd, hbl⟩ := hrel
    have HD := Lib.hid hd
    have HB := Lib.hid hbl
    clear hd hbl
    have hts : t.size ≤ 4194305 := by
      rw [size_bytes, HD.out, List.length_cons]
      have h1 := q2_len ((M.bytes s).take k)
      rw [List.length_take, M.bytes_len] at h1
      omega
    by_cases hkn : k < s.size
    · have hx := M.bytes_get s k hkn
      have hkey : ∀ x : ByteArray, M.bytes x = q1 s[k].toNat → M.bytes (t ++ x) = 34 :: q2 ((M.bytes s).take (k + 1)) := fun x h => by
        rw [bytes_app, HD.out, q2_snoc _ k _ hx, h]; rfl
      have KEY := Lib.hid hkey
      have H1 := Lib.hid (bytes_one s k hkn)
      clear hx hkey
      have hlt := byte_lt s k hkn
      cases a : (((s[k].toNat : Nat) : Int) == 10) with
      | true =>
        have e : s[k].toNat = 10 := by have := eq_of_beq a; omega
        have HQ := Lib.hid (show M.bytes ⟨#[92, 110]⟩ = q1 s[k].toNat by rw [e]; rfl)
        clear e
        go_wp2
        exact ⟨⟨k + 1, _, by omega, by go_num, rfl, KEY.out _ HQ.out, HB.out⟩, by simp [intOf]; omega⟩
      | false =>
        have ea : s[k].toNat ≠ 10 := fun e => by rw [e] at a; simp at a
        have EA := Lib.hid ea
        clear ea
        have two : ∀ {b : Bool}, ((((s[k].toNat : Nat) : Int) == 34) = true ∨ (((s[k].toNat : Nat) : Int) == 92) = true) → q1 s[k].toNat = [92, s[k].toNat] := by
          intro b h
          unfold q1
          rw [if_neg EA.out, if_pos (by rcases h with h | h <;> (have := eq_of_beq h; omega))]
        have TWO := Lib.hid (@two true)
        clear two
        have conc : M.bytes ((t ++ ⟨#[92]⟩) ++ s.extract k (k + 1)) = M.bytes (t ++ ((⟨#[92]⟩ : ByteArray) ++ s.extract k (k + 1))) := by rw [bytes_app, bytes_app, bytes_app, bytes_app, List.append_assoc]
        have CONC := Lib.hid conc
        clear conc
        have t1 : (t ++ (⟨#[92]⟩ : ByteArray)).size ≤ 4194306 := by
          rw [ByteArray.size_append]
          have : (⟨#[92]⟩ : ByteArray).size = 1 := rfl
          omega
        have t2 : (s.extract k (k + 1)).size = 1 := by rw [size_bytes, H1.out]; rfl
        cases b : (((s[k].toNat : Nat) : Int) == 34) with
        | true =>
          have HQ := Lib.hid (show M.bytes ((⟨#[92]⟩ : ByteArray) ++ s.extract k (k + 1)) = q1 s[k].toNat by rw [TWO.out (.inl b), bytes_app, H1.out]; rfl)
          go_wp2
          exact ⟨⟨k + 1, _, by omega, by go_num, rfl, CONC.out.trans (KEY.out _ HQ.out), HB.out⟩, by simp [intOf]; omega⟩
        | false =>
          cases c : (((s[k].toNat : Nat) : Int) == 92) with
          | true =>
            have HQ := Lib.hid (show M.bytes ((⟨#[92]⟩ : ByteArray) ++ s.extract k (k + 1)) = q1 s[k].toNat by rw [TWO.out (.inr c), bytes_app, H1.out]; rfl)
            go_wp2
            exact ⟨⟨k + 1, _, by omega, by go_num, rfl, CONC.out.trans (KEY.out _ HQ.out), HB.out⟩, by simp [intOf]; omega⟩
          | false =>
            have eb : ¬ (s[k].toNat = 34 ∨ s[k].toNat = 92) := by
              rintro (e | e)
              · rw [e] at b; simp at b
              · rw [e] at c; simp at c
            have EB := Lib.hid eb
            clear eb CONC TWO t1
            by_cases r : 32 ≤ s[k].toNat ∧ s[k].toNat ≤ 126
            · have HQ := Lib.hid (show M.bytes (s.extract k (k + 1)) = q1 s[k].toNat by rw [H1.out]; unfold q1; rw [if_neg EA.out, if_neg EB.out, if_pos r])
              obtain ⟨r1, r2⟩ := r
              go_wp2
              exact ⟨⟨k + 1, _, by omega, by go_num, rfl, KEY.out _ HQ.out, HB.out⟩, by simp [intOf]; omega⟩
            · have rr : (decide (32 ≤ ((s[k].toNat : Nat) : Int)) && decide (((s[k].toNat : Nat) : Int) ≤ 126)) = false := by
                rw [Bool.and_eq_false_iff, decide_eq_false_iff_not, decide_eq_false_iff_not]
                omega
              have c1 : s[k].toNat / 16 < 16 := by omega
              have c2 : s[k].toNat % 16 < 16 := by omega
              have hfin : M.bytes (((t ++ ⟨#[92, 120]⟩) ++ sixteen.extract (s[k].toNat / 16) (s[k].toNat / 16 + 1)) ++ sixteen.extract (s[k].toNat % 16) (s[k].toNat % 16 + 1)) = 34 :: q2 ((M.bytes s).take (k + 1)) := by
                have h1 := KEY.out (⟨#[92, 120]⟩ ++ (sixteen.extract (s[k].toNat / 16) (s[k].toNat / 16 + 1) ++ sixteen.extract (s[k].toNat % 16) (s[k].toNat % 16 + 1))) (by
                  rw [bytes_app, bytes_app, hex_at _ c1, hex_at _ c2]
                  unfold q1
                  rw [if_neg EA.out, if_neg EB.out, if_neg (by intro h; rw [Bool.and_eq_false_iff, decide_eq_false_iff_not, decide_eq_false_iff_not] at rr; omega)]
                  rfl)
                rw [← h1]
                simp only [bytes_app, List.append_assoc]
              have FIN := Lib.hid hfin
              have s16 : M.bytes sixteen = M.bytes sixteen := rfl
              clear hfin s16
              go_wp2
              all_goals
                go_big_region
                go_wp2
                exact ⟨⟨k + 1, _, by omega, by go_num, rfl, FIN.out, HB.out.drew⟩, by simp [intOf]; omega⟩
    · have hk2 : k = s.size := by omega
      have HR := Lib.hid (show M.bytes (t ++ ⟨#[34]⟩) = quo s by
        rw [bytes_app, HD.out, List.take_of_length_le (by rw [M.bytes_len]; omega)]
        rfl)
      go_wp2
      go_ret
      exact ⟨⟨_, rfl, HR.out⟩, HB.out⟩
end Go.Proofs.YtgglmmipdfcbpaaDoor
