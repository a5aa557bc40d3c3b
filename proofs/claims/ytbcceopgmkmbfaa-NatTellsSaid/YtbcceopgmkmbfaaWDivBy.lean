/- nat.divideBy divides a row in its own room by one limb: for every row of limbs in a block that may be written. -/
import Derived.Test.YtbcceopgmkmbfaaPut
import Derived.Test.YtbcceopgmkmbfaaWSum
namespace Go.Proofs.Ytbcceopgmkmbfaa
open Go.RowKit
set_option linter.unusedVariables false

def DivBy (w : World) (g o : Nat) (V d n : Nat) (e : Ending) (w' : World) : Prop :=
  ∃ ys, e = .returned (.int .u32 (V % d : Nat)) ∧ ys.length = n ∧ M.Lim ys ∧ M.val ys = V / d ∧ PutK kU32 w w' g o ys

set_option maxHeartbeats 1000000 in
theorem divideBy_any (g o n c : Nat) (xs : List Nat) (d : Nat) (w : World) (h : WrK kU32 w g o n xs) (hn : n ≤ 4194304) (hd : 0 < d) (hd' : d < 4294967296) :
    Calls Try.prog 47 #[.slice (some ⟨g, o, none⟩) n c, .int .u32 (d : Int)] w (DivBy w g o (M.val xs) d n) := by
  have H := Lib.hid h
  clear h
  go_enter Try.func47, Try.ntmps47
  go_wp2
  go_loopw [5, 6] (fun q i wr => ∃ (k left : Nat) (zs : List Nat), k ≤ n ∧ i = .int .i64 ((k : Int) - 1) ∧ q = .int .u64 left ∧ left < d ∧ zs.length = n - k ∧ M.Lim zs ∧
      M.val (xs.drop k) = M.val zs * d + left ∧ PutK kU32 w wr g (o + k) zs) (fun _ i _ => (intOf i + 1).toNat)
  case atStart => exact ⟨n, 0, [], Nat.le_refl _, rfl, rfl, hd, by simp, M.Lim.nil, by rw [List.drop_of_length_le (by rw [H.out.len]; exact Nat.le_refl _)]; simp [M.val], PutK.start H.out _⟩
  case round =>
    obtain ⟨k, left, zs, hk, rfl, rfl, hleft, hzl, hzs, hv, hp⟩ := hrel
    have HZL := Lib.hid hzl
    have HZS := Lib.hid hzs
    have HV := Lib.hid hv
    have HP := Lib.hid hp
    clear hzl hzs hv hp
    by_cases h0 : k = 0
    · subst h0
      have hdone := M.div_done hleft HV.out
      have HD := Lib.hid hdone
      clear hdone
      go_wp2
      go_ret
      refine ⟨zs, ret_int ?_, by rw [HZL.out]; omega, HZS.out, HD.out.1, HP.out⟩
      have := HD.out.2
      simp at this
      omega
    · obtain ⟨b, o', x, hA, hx, hxl, hcell⟩ := (H.out.rd (c := n) (Nat.le_refl _)).at32 (show k - 1 < n by omega)
      injection hA with hA
      injection hA with hA hA'
      subst hA hA'
      have hfz := HP.out.frozen (o + (k - 1))
      have hcell' : wr.cell? ⟨g, o + (k - 1), none⟩ = some (.int .u32 (x : Int)) := by rw [HP.out.cellOut (by omega)]; exact hcell
      rw [M.R_eq] at hxl
      obtain ⟨cur, hcur⟩ : ∃ cur : Nat, cur = 4294967296 * left + x := ⟨_, rfl⟩
      have hor : bits .or .u64 ((left : Int) * 4294967296) (x : Int) = (cur : Int) := by rw [hcur]; exact or_hi_lo x left hxl (by omega)
      have hcl : cur < 18446744073709551616 := by omega
      have hk1 : 1 ≤ k := by omega
      obtain ⟨q, hq⟩ : ∃ q : Nat, q = cur / d := ⟨_, rfl⟩
      obtain ⟨r, hr⟩ : ∃ r : Nat, r = cur % d := ⟨_, rfl⟩
      have hql : q < 4294967296 := by rw [hq, hcur]; exact M.div_limb_lt hleft (by rw [M.R_eq]; exact hxl)
      have hrl : r < d := by rw [hr]; exact Nat.mod_lt _ hd
      have hstep := M.div_step (x := x) hd HV.out
      rw [M.R_eq, ← hcur, ← hq, ← hr] at hstep
      have hq2 : (cur : Int) / (d : Int) = q := by rw [hq]; simp
      have hr2 : (cur : Int) % (d : Int) = r := by rw [hr]; simp
      have HST := Lib.hid hstep
      have HC := Lib.hid hcell
      have HX := Lib.hid hx
      clear hcur hcell hx hq hr hstep
      go_wp2
      go_roundw
      case rel =>
        have hpos : o + k = o + (k - 1) + 1 := by omega
        have hp2 := HP.out
        rw [hpos] at hp2
        refine ⟨k - 1, r, q :: zs, by omega, by go_num, by go_num, hrl, by simp [HZL.out]; omega, M.Lim.cons (by rw [M.R_eq]; exact hql) HZS.out, ?_, hp2.cons q HC.out⟩
        rw [M.drop_pred HX.out, show k - 1 + 1 = k by omega, M.val_cons, M.R_eq]
        exact HST.out
      case measure => simp [intOf]; omega

end Go.Proofs.Ytbcceopgmkmbfaa
