/- nat.takeTimes: takes a row, so many times, out of another one in its own room. -/
import Derived.Test.YtbcceopgmkmbfaaWTimes
import Derived.Test.YtbcceopgmkmbfaaWSub32
import Derived.Test.YtbcceopgmkmbfaaMathDiv
namespace Go.Proofs.Ytbcceopgmkmbfaa
open Go.RowKit
set_option linter.unusedVariables false

def TakeT (w : World) (g o : Nat) (U T n : Nat) (e : Ending) (w' : World) : Prop :=
  ∃ (ys : List Nat) (bo : Nat), e = .returned (.bool (decide (bo ≠ 0))) ∧ bo ≤ 1 ∧ ys.length = n + 1 ∧ M.Lim ys ∧ U + M.R ^ (n + 1) * bo = M.val ys + T ∧ PutK kU32 w w' g o ys

set_option maxHeartbeats 2000000 in
theorem takeTimes_any (g o n c : Nat) (us : List Nat) (A : Option Addr) (c' : Nat) (vs : List Nat) (t : Nat) (w : World) (h : WrK kU32 w g o (n + 1) us) (h' : Rd w A n c' vs) (hne : ∀ p, A = some p → 0 < n → p.block ≠ g)
    (hn : n ≤ 4194303) (ht : t < 4294967296) :
    Calls Try.prog 74 #[.slice (some ⟨g, o, none⟩) (n + 1) c, .slice A n c', .int .u32 (t : Int)] w (TakeT w g o (M.val us) (t * M.val vs) n) := by
  have H := Lib.hid h
  have H' := Lib.hid h'
  have HNE := Lib.hid hne
  clear h h' hne
  go_enter Try.func74, Try.ntmps74
  go_wp2
  go_loopw [7, 8, 14] (fun q b i wr => ∃ (k cy bo : Nat) (zs : List Nat), k ≤ n ∧ i = .int .i64 k ∧ q = .int .u64 cy ∧ b = .int .u32 bo ∧ cy < 4294967296 ∧ bo ≤ 1 ∧ zs.length = k ∧ M.Lim zs ∧
      M.val (us.take k) + M.R ^ k * (bo + cy) = M.val zs + t * M.val (vs.take k) ∧ PutK kU32 w wr g o zs) (fun _ _ i _ => n - (intOf i).toNat)
  case atStart => exact ⟨0, 0, 0, [], Nat.zero_le _, rfl, rfl, rfl, by omega, by omega, rfl, M.Lim.nil, rfl, PutK.start H.out _⟩
  case round =>
    obtain ⟨k, cy, bo, zs, hk, rfl, rfl, rfl, hcy, hbo, hzl, hzs, hv, hp⟩ := hrel
    have HZL := Lib.hid hzl
    have HZS := Lib.hid hzs
    have HV := Lib.hid hv
    have HP := Lib.hid hp
    clear hzl hzs hv hp
    by_cases hkn : k < n
    · obtain ⟨b1, o1, u, hA, hu, hul, hcellu⟩ := (H.out.rd (c := n + 1) (Nat.le_refl _)).at32 (show k < n + 1 by omega)
      injection hA with hA
      injection hA with hA hA'
      subst hA hA'
      obtain ⟨b, o', v, hA, hvv, hvl, hcellv⟩ := (H'.out.put HP.out HNE.out).at32 hkn
      subst hA
      have hfz := HP.out.frozen (o + k)
      have hcellu' : wr.cell? ⟨g, o + k, none⟩ = some (.int .u32 (u : Int)) := by rw [HP.out.cellOut (by rw [HZL.out]; omega)]; exact hcellu
      have hpl := M.limb_mul_le (t := t) hvl (by rw [M.R_eq]; exact ht)
      obtain ⟨p, hp⟩ : ∃ p : Nat, p = v * t := ⟨_, rfl⟩
      rw [← hp] at hpl
      have hp2 : (v : Int) * (t : Int) = (p : Int) := by rw [hp]; simp
      have hd0 := Nat.mod_lt (cy + p) M.R_pos
      rw [M.R_eq] at hvl hul
      obtain ⟨d, hd⟩ : ∃ d : Nat, d = (cy + p) % M.R := ⟨_, rfl⟩
      obtain ⟨q, hq⟩ : ∃ q : Nat, q = (cy + p) / M.R := ⟨_, rfl⟩
      rw [← hd, M.R_eq] at hd0
      have hql : q < 4294967296 := by rw [hq, M.R_eq]; omega
      have hd2 : ((cy : Int) + (p : Int)) % 4294967296 = d := by rw [hd, M.R_eq]; omega
      have hq2 : ((cy : Int) + (p : Int)) / 4294967296 = q := by rw [hq, M.R_eq]; omega
      have hstep : ∀ z bo', u + 4294967296 * bo' = z + d + bo → M.val (us.take (k + 1)) + M.R ^ (k + 1) * (bo' + q) = M.val (zs ++ [z]) + t * M.val (vs.take (k + 1)) := by
        intro z bo' hz
        have := M.take_step hu hvv HZL.out HV.out (z := z) (bo' := bo') (by rw [← hp, ← hd, M.R_eq]; exact hz)
        rw [← hp, ← hq] at this
        exact this
      have HST := Lib.hid hstep
      have HC := Lib.hid hcellu
      clear hcellu hvv hu hd hq hstep hp
      go_wp2_with fail
      refine (sub32_any u d bo _ hul hd0 hbo).mono ?_
      rintro e w' ⟨z, bo', rfl, hz, hbo', hsum, rfl⟩
      have HSUM := Lib.hid hsum
      clear hsum
      go_wp2
      go_roundw
      case rel =>
        have hc2 := HC.out
        rw [← HZL.out] at hc2
        have hp3 := HP.out.snoc z hc2
        rw [HZL.out] at hp3
        exact ⟨k + 1, q, bo', zs ++ [z], by omega, by go_num, by go_num, by go_num, hql, hbo', by simp [HZL.out], M.Lim.append HZS.out (M.Lim.cons (by rw [M.R_eq]; exact hz) M.Lim.nil), HST.out z bo' HSUM.out, hp3⟩
      case measure => simp [intOf]; omega
    · obtain rfl : k = n := by omega
      obtain ⟨b1, o1, u, hA, hu, hul, hcellu⟩ := (H.out.rd (c := k + 1) (Nat.le_refl _)).at32 (show k < k + 1 by omega)
      injection hA with hA
      injection hA with hA hA'
      subst hA hA'
      have hfz := HP.out.frozen (o + k)
      have hcellu' : wr.cell? ⟨g, o + k, none⟩ = some (.int .u32 (u : Int)) := by rw [HP.out.cellOut (by rw [HZL.out]; omega)]; exact hcellu
      have hmod : (cy : Int) % 4294967296 = cy := by omega
      rw [M.R_eq] at hul
      have hv := HV.out
      rw [List.take_of_length_le (l := vs) (by rw [H'.out.len]; exact Nat.le_refl _)] at hv
      have hlast : ∀ z bo', u + 4294967296 * bo' = z + cy + bo → M.val us + M.R ^ (k + 1) * bo' = M.val (zs ++ [z]) + t * M.val vs := fun z bo' hz => M.take_last hu H.out.len HZL.out hv (by rw [M.R_eq]; exact hz)
      have HLAST := Lib.hid hlast
      have HC := Lib.hid hcellu
      clear hcellu hu hv hlast
      go_wp2_with fail
      refine (sub32_any u cy bo _ hul hcy hbo).mono ?_
      rintro e w' ⟨z, bo', rfl, hz, hbo', hsum, rfl⟩
      have HSUM := Lib.hid hsum
      clear hsum
      go_wp2
      go_ret
      have hc2 := HC.out
      rw [← HZL.out] at hc2
      have hp3 := HP.out.snoc z hc2
      rw [HZL.out] at hp3
      refine ⟨zs ++ [z], bo', ret_bool ?_, hbo', by simp [HZL.out], M.Lim.append HZS.out (M.Lim.cons (by rw [M.R_eq]; exact hz) M.Lim.nil), HLAST.out z bo' HSUM.out, hp3⟩
      rcases (show bo' = 0 ∨ bo' = 1 by omega) with rfl | rfl <;> rfl

end Go.Proofs.Ytbcceopgmkmbfaa
