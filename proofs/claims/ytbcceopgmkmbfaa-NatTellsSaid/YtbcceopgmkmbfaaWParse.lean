/- nat.isDigits, nat.chunk, nat.Parse: for every text. -/
import Derived.Test.YtbcceopgmkmbfaaWDivLimb
import Derived.Test.YtbcceopgmkmbfaaDigits
namespace Go.Proofs.Ytbcceopgmkmbfaa
open Go.RowKit
set_option linter.unusedVariables false

theorem toNat_byte_le (x : UInt8) : x.toNat ≤ 255 := by have := x.toNat_lt; omega

set_option maxHeartbeats 1000000 in
theorem chunk_any (s : ByteArray) (w : World) (hs : s.size ≤ 9) (hd : M.Dig (M.bytes s)) :
    Calls Try.prog 60 #[.string s] w fun e w' => e = .returned (.int .u32 (M.dec 0 (M.bytes s) : Nat)) ∧ w = w' := by
  have HD := Lib.hid hd
  clear hd
  go_enter Try.func60, Try.ntmps60
  go_wp2
  go_loop [3, 7] (fun v i => ∃ k v' : Nat, k ≤ s.size ∧ i = .int .i64 k ∧ v = .int .u32 v' ∧ v' = M.dec 0 ((M.bytes s).take k)) (fun _ i => s.size - (intOf i).toNat)
  case atStart => exact ⟨0, 0, Nat.zero_le _, rfl, rfl, rfl⟩
  case round =>
    obtain ⟨k, v', hk, rfl, rfl, hv⟩ := hrel
    have HV := Lib.hid hv
    by_cases hkn : k < s.size
    · have hx := M.bytes_get s k hkn
      have hxd := HD.out _ (List.mem_of_getElem? hx)
      have hb : v' < 100000000 := by
        rw [hv]
        have h1 := M.dec_lt (l := (M.bytes s).take k) (fun x hx => HD.out x (List.mem_of_mem_take hx))
        have h2 : 10 ^ ((M.bytes s).take k).length ≤ 10 ^ 8 := Nat.pow_le_pow_right (by omega) (by rw [List.length_take]; omega)
        omega
      have hstep : M.dec 0 ((M.bytes s).take (k + 1)) = v' * 10 + (s[k].toNat - 48) := by
        rw [List.take_add_one, hx, hv]
        exact M.dec_snoc _ _ _
      have HST := Lib.hid hstep
      clear hv hstep hx
      go_wp2
      go_round
      case rel => exact ⟨k + 1, v' * 10 + (s[k].toNat - 48), by omega, by go_num, by go_num, HST.out.symm⟩
      case measure => simp [intOf]; omega
    · have HV2 := Lib.hid (show v' = M.dec 0 (M.bytes s) by rw [hv, List.take_of_length_le (by rw [M.bytes_len]; omega)])
      clear hv
      go_wp2
      go_ret
      exact ⟨ret_int (by rw [← HV2.out]), rfl⟩

theorem toList_empty {s : ByteArray} : s.toList.isEmpty = decide (s.size = 0) := by
  rw [Lib.toList_data, Lib.size_eq]
  cases s.data.toList <;> simp

set_option maxHeartbeats 2000000 in
theorem isDigits_any (s : ByteArray) (w : World) (hs : s.size ≤ 1048576) :
    Calls Try.prog 58 #[.string s] w fun e w' => e = .returned (.bool (decide (M.Digits (M.bytes s)))) ∧ w = w' := by
  have hlen := M.bytes_len s
  by_cases h0 : s.size = 0
  · have he : s.toList.isEmpty = true := by rw [toList_empty]; simp [h0]
    have hno : decide (M.Digits (M.bytes s)) = false := by
      rw [decide_eq_false_iff_not]
      intro hc
      exact hc.1 (List.eq_nil_of_length_eq_zero (by omega))
    rw [hno]
    clear hno hlen h0
    go_enter Try.func58, Try.ntmps58
    go_wp2
    go_ret
    exact ⟨rfl, rfl⟩
  · have he : s.toList.isEmpty = false := by rw [toList_empty]; simp [h0]
    have hpos : 0 < s.size := by omega
    have hx0 := M.bytes_get s 0 hpos
    by_cases hz : s[0].toNat = 48 ∧ 1 < s.size
    · have hno : decide (M.Digits (M.bytes s)) = false := by
        rw [decide_eq_false_iff_not]
        intro hc
        have := hc.2.1 (by rw [hx0, hz.1])
        omega
      rw [hno]
      obtain ⟨hz1, hz2⟩ := hz
      have hzb : ((s[0].toNat : Int) == 48) = true := by simp; omega
      clear hno hlen hx0 h0 hz1
      go_enter Try.func58, Try.ntmps58
      go_wp2
      go_ret
      exact ⟨rfl, rfl⟩
    · have main : ∀ (hyp : (((s[0].toNat : Int) == 48) = true ∧ s.size ≤ 1) ∨ ((s[0].toNat : Int) == 48) = false), Calls Try.prog 58 #[.string s] w fun e w' => e = .returned (.bool (decide (M.Digits (M.bytes s)))) ∧ w = w' := by
        have h1 : (M.bytes s)[0]? = some 48 → (M.bytes s).length = 1 := by
          intro h
          rw [hx0] at h
          injection h with h
          omega
        have h2 : M.bytes s ≠ [] := by
          intro h
          rw [h] at hlen
          simp at hlen
          omega
        have hiff : decide (M.Digits (M.bytes s)) = decide (M.Dig (M.bytes s)) := by
          rw [decide_eq_decide]
          exact ⟨fun h => h.2.2, fun h => ⟨h2, h1, h⟩⟩
        have HI := Lib.hid hiff
        clear hiff h1 h2 hx0 hz h0 hlen
        rintro (⟨hzb, hz1⟩ | hzb)
        all_goals
          go_enter Try.func58, Try.ntmps58
          go_wp2
          go_loop [18] (fun i => ∃ k : Nat, k ≤ s.size ∧ i = .int .i64 k ∧ M.Dig ((M.bytes s).take k)) (fun i => s.size - (intOf i).toNat)
          case atStart => exact ⟨0, Nat.zero_le _, rfl, by intro x hx; simp at hx⟩
          case round =>
            obtain ⟨k, hk, rfl, hd⟩ := hrel
            have HD := Lib.hid hd
            clear hd
            by_cases hkn : k < s.size
            · have hx := M.bytes_get s k hkn
              have HX := Lib.hid hx
              clear hx
              by_cases hlo : (s[k].toNat : Int) < 48
              · have HN := Lib.hid (show decide (M.Digits (M.bytes s)) = false by
                  rw [HI.out, decide_eq_false_iff_not]
                  intro hc
                  have := hc _ (List.mem_of_getElem? HX.out)
                  omega)
                go_wp2
                go_ret
                exact ⟨ret_bool HN.out.symm, rfl⟩
              · by_cases hhi : (57 : Int) < s[k].toNat
                · have HN := Lib.hid (show decide (M.Digits (M.bytes s)) = false by
                    rw [HI.out, decide_eq_false_iff_not]
                    intro hc
                    have := hc _ (List.mem_of_getElem? HX.out)
                    omega)
                  go_wp2
                  go_ret
                  exact ⟨ret_bool HN.out.symm, rfl⟩
                · have HN := Lib.hid (show M.Dig ((M.bytes s).take (k + 1)) by
                    rw [List.take_add_one, HX.out]
                    intro x hx
                    rcases List.mem_append.1 hx with hx | hx
                    · exact HD.out x hx
                    · simp at hx
                      subst hx
                      omega)
                  go_wp2
                  go_round
                  case rel => exact ⟨k + 1, by omega, by go_num, HN.out⟩
                  case measure => simp [intOf]; omega
            · have HN := Lib.hid (show decide (M.Digits (M.bytes s)) = true by
                rw [HI.out, decide_eq_true_iff]
                have := HD.out
                rw [List.take_of_length_le (by rw [M.bytes_len]; omega)] at this
                exact this)
              go_wp2
              go_ret
              exact ⟨ret_bool HN.out.symm, rfl⟩
      by_cases h48 : s[0].toNat = 48
      · exact main (.inl ⟨by simp; omega, by omega⟩)
      · exact main (.inr (by simp; omega))

end Go.Proofs.Ytbcceopgmkmbfaa
