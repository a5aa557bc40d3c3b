/- nat.addTimes and nat.scale, which write a row in its own room: for every row of limbs in a block that may be written. -/
import Derived.Test.YtbcceopgmkmbfaaWDivBy
namespace Go.Proofs.Ytbcceopgmkmbfaa
open Go.RowKit
set_option linter.unusedVariables false

def AddT (w : World) (g o : Nat) (S n : Nat) (e : Ending) (w' : World) : Prop :=
  ∃ (ys : List Nat) (cy : Nat), e = .returned (.int .u32 (cy : Int)) ∧ cy < M.R ∧ ys.length = n ∧ M.Lim ys ∧ M.val ys + M.R ^ n * cy = S ∧ PutK kU32 w w' g o ys

set_option maxHeartbeats 1000000 in
theorem addTimes_any (g o n c : Nat) (us : List Nat) (A : Option Addr) (c' : Nat) (xs : List Nat) (t : Nat) (w : World) (h : WrK kU32 w g o n us) (h' : Rd w A n c' xs) (hne : ∀ p, A = some p → 0 < n → p.block ≠ g)
    (hn : n ≤ 4194304) (ht : t < 4294967296) :
    Calls Try.prog 75 #[.slice (some ⟨g, o, none⟩) n c, .slice A n c', .int .u32 (t : Int)] w (AddT w g o (M.val us + t * M.val xs) n) := by
  have H := Lib.hid h
  have H' := Lib.hid h'
  have HNE := Lib.hid hne
  clear h h' hne
  go_enter Try.func75, Try.ntmps75
  go_wp2
  go_loopw [7, 12] (fun q i wr => ∃ (k cy : Nat) (zs : List Nat), k ≤ n ∧ i = .int .i64 k ∧ q = .int .u64 cy ∧ cy < 4294967296 ∧ zs.length = k ∧ M.Lim zs ∧
      M.val zs + M.R ^ k * cy = M.val (us.take k) + t * M.val (xs.take k) ∧ PutK kU32 w wr g o zs) (fun _ i _ => n - (intOf i).toNat)
  case atStart => exact ⟨0, 0, [], Nat.zero_le _, rfl, rfl, by omega, rfl, M.Lim.nil, rfl, PutK.start H.out _⟩
  case round =>
    obtain ⟨k, cy, zs, hk, rfl, rfl, hcy, hzl, hzs, hv, hp⟩ := hrel
    have HZL := Lib.hid hzl
    have HZS := Lib.hid hzs
    have HV := Lib.hid hv
    have HP := Lib.hid hp
    clear hzl hzs hv hp
    by_cases hkn : k < n
    · obtain ⟨b1, o1, u, hA, hu, hul, hcellu⟩ := (H.out.rd (c := n) (Nat.le_refl _)).at32 hkn
      injection hA with hA
      injection hA with hA hA'
      subst hA hA'
      obtain ⟨b, o', x, hA, hx, hxl, hcellx⟩ := (H'.out.put HP.out HNE.out).at32 hkn
      subst hA
      have hfz := HP.out.frozen (o + k)
      have hcellu' : wr.cell? ⟨g, o + k, none⟩ = some (.int .u32 (u : Int)) := by rw [HP.out.cellOut (by rw [HZL.out]; omega)]; exact hcellu
      have hstep := M.addTimes_step hu hx HZL.out HV.out
      have hpl := M.limb_mul_le (t := t) hxl (by rw [M.R_eq]; exact ht)
      obtain ⟨p, hp⟩ : ∃ p : Nat, p = x * t := ⟨_, rfl⟩
      rw [← hp] at hstep hpl
      have hp2 : (x : Int) * (t : Int) = (p : Int) := by rw [hp]; simp
      have hd0 := Nat.mod_lt (cy + (p + u)) M.R_pos
      rw [M.R_eq] at hxl hul
      obtain ⟨d, hd⟩ : ∃ d : Nat, d = (cy + (p + u)) % M.R := ⟨_, rfl⟩
      obtain ⟨q, hq⟩ : ∃ q : Nat, q = (cy + (p + u)) / M.R := ⟨_, rfl⟩
      rw [← hd, ← hq] at hstep
      rw [← hd] at hd0
      have hql : q < 4294967296 := by rw [hq, M.R_eq]; omega
      have hd2 : ((cy : Int) + ((p : Int) + (u : Int))) % 4294967296 = d := by rw [hd, M.R_eq]; omega
      have hq2 : ((cy : Int) + ((p : Int) + (u : Int))) / 4294967296 = q := by rw [hq, M.R_eq]; omega
      have HD := Lib.hid hd0
      have HST := Lib.hid hstep
      have HC := Lib.hid hcellu
      clear hcellu hx hu hd hq hstep hd0 hp
      go_wp2
      go_roundw
      case rel =>
        have hc2 := HC.out
        rw [← HZL.out] at hc2
        have hp3 := HP.out.snoc d hc2
        rw [HZL.out] at hp3
        exact ⟨k + 1, q, zs ++ [d], by omega, by go_num, by go_num, hql, by simp [HZL.out], M.Lim.append HZS.out (M.Lim.cons HD.out M.Lim.nil), HST.out, hp3⟩
      case measure => simp [intOf]; omega
    · have hkn' : k = n := by omega
      have hmod : (cy : Int) % 4294967296 = cy := by omega
      have hcyR : cy < M.R := by rw [M.R_eq]; exact hcy
      have hv := HV.out
      rw [hkn', List.take_of_length_le (by rw [H.out.len]; exact Nat.le_refl _), List.take_of_length_le (by rw [H'.out.len]; exact Nat.le_refl _)] at hv
      have HV2 := Lib.hid hv
      have HCR := Lib.hid hcyR
      have HK := Lib.hid hkn'
      clear hv HV hcyR hkn'
      go_wp2
      go_ret
      exact ⟨zs, cy, rfl, HCR.out, by rw [HZL.out, HK.out], HZS.out, HV2.out, HP.out⟩

set_option maxHeartbeats 1000000 in
theorem scale_any (g o n c : Nat) (xs : List Nat) (t pl : Nat) (w : World) (h : WrK kU32 w g o n xs) (hn : n ≤ 4194304) (ht : t < 4294967296) (hpl : pl < 4294967296) :
    Calls Try.prog 59 #[.slice (some ⟨g, o, none⟩) n c, .int .u32 (t : Int), .int .u32 (pl : Int)] w (AddT w g o (pl + t * M.val xs) n) := by
  have H := Lib.hid h
  clear h
  go_enter Try.func59, Try.ntmps59
  go_wp2
  go_loopw [7, 14] (fun q i wr => ∃ (k cy : Nat) (zs : List Nat), k ≤ n ∧ i = .int .i64 k ∧ q = .int .u64 cy ∧ cy < 4294967296 ∧ zs.length = k ∧ M.Lim zs ∧
      M.val zs + M.R ^ k * cy = pl + t * M.val (xs.take k) ∧ PutK kU32 w wr g o zs) (fun _ i _ => n - (intOf i).toNat)
  case atStart => exact ⟨0, pl, [], Nat.zero_le _, rfl, rfl, by omega, rfl, M.Lim.nil, by simp [M.val], PutK.start H.out _⟩
  case round =>
    obtain ⟨k, cy, zs, hk, rfl, rfl, hcy, hzl, hzs, hv, hp⟩ := hrel
    have HZL := Lib.hid hzl
    have HZS := Lib.hid hzs
    have HV := Lib.hid hv
    have HP := Lib.hid hp
    clear hzl hzs hv hp
    by_cases hkn : k < n
    · obtain ⟨b1, o1, x, hA, hx, hxl, hcellu⟩ := (H.out.rd (c := n) (Nat.le_refl _)).at32 hkn
      injection hA with hA
      injection hA with hA hA'
      subst hA hA'
      have hfz := HP.out.frozen (o + k)
      have hcellu' : wr.cell? ⟨g, o + k, none⟩ = some (.int .u32 (x : Int)) := by rw [HP.out.cellOut (by rw [HZL.out]; omega)]; exact hcellu
      have hstep := M.scale_step hx HZL.out HV.out
      have hpb := M.limb_mul_le (t := t) hxl (by rw [M.R_eq]; exact ht)
      obtain ⟨p, hp⟩ : ∃ p : Nat, p = x * t := ⟨_, rfl⟩
      rw [← hp] at hstep hpb
      have hp2 : (x : Int) * (t : Int) = (p : Int) := by rw [hp]; simp
      have hd0 := Nat.mod_lt (cy + p) M.R_pos
      rw [M.R_eq] at hxl
      obtain ⟨d, hd⟩ : ∃ d : Nat, d = (cy + p) % M.R := ⟨_, rfl⟩
      obtain ⟨q, hq⟩ : ∃ q : Nat, q = (cy + p) / M.R := ⟨_, rfl⟩
      rw [← hd, ← hq] at hstep
      rw [← hd] at hd0
      have hql : q < 4294967296 := by rw [hq, M.R_eq]; omega
      have hd2 : ((cy : Int) + (p : Int)) % 4294967296 = d := by rw [hd, M.R_eq]; omega
      have hq2 : ((cy : Int) + (p : Int)) / 4294967296 = q := by rw [hq, M.R_eq]; omega
      have HD := Lib.hid hd0
      have HST := Lib.hid hstep
      have HC := Lib.hid hcellu
      clear hcellu hx hd hq hstep hd0 hp
      go_wp2
      go_roundw
      case rel =>
        have hc2 := HC.out
        rw [← HZL.out] at hc2
        have hp3 := HP.out.snoc d hc2
        rw [HZL.out] at hp3
        exact ⟨k + 1, q, zs ++ [d], by omega, by go_num, by go_num, hql, by simp [HZL.out], M.Lim.append HZS.out (M.Lim.cons HD.out M.Lim.nil), HST.out, hp3⟩
      case measure => simp [intOf]; omega
    · have hkn' : k = n := by omega
      have hmod : (cy : Int) % 4294967296 = cy := by omega
      have hcyR : cy < M.R := by rw [M.R_eq]; exact hcy
      have hv := HV.out
      rw [hkn', List.take_of_length_le (by rw [H.out.len]; exact Nat.le_refl _)] at hv
      have HV2 := Lib.hid hv
      have HCR := Lib.hid hcyR
      have HK := Lib.hid hkn'
      clear hv HV hcyR hkn'
      go_wp2
      go_ret
      exact ⟨zs, cy, rfl, HCR.out, by rw [HZL.out, HK.out], HZS.out, HV2.out, HP.out⟩

end Go.Proofs.Ytbcceopgmkmbfaa
