/- math/bits.Sub32: the difference of two limbs and a borrow, and what is borrowed. -/
import Derived.Test.YtbcceopgmkmbfaaWSum
namespace Go.Proofs.Ytbcceopgmkmbfaa
open Go.RowKit
set_option linter.unusedVariables false

theorem sub32_bits (x y z b bo : Nat) (hx : x < 4294967296) (hy : y < 4294967296) (hz : z < 4294967296) (hb : b ≤ 1) (hbo : bo ≤ 1) (h : x + 4294967296 * bo = z + y + b) :
    (((4294967295 ^^^ x) &&& y) ||| ((4294967295 ^^^ (x ^^^ y)) &&& z)) / 2147483648 = bo := by
  have e : (2147483648 : Nat) = 2 ^ 31 := rfl
  rw [e, ← Nat.shiftRight_eq_div_pow, Nat.shiftRight_or_distrib, Nat.shiftRight_and_distrib, Nat.shiftRight_and_distrib, Nat.shiftRight_xor_distrib, Nat.shiftRight_xor_distrib, Nat.shiftRight_xor_distrib,
    Nat.shiftRight_eq_div_pow, Nat.shiftRight_eq_div_pow, Nat.shiftRight_eq_div_pow, Nat.shiftRight_eq_div_pow, ← e, show 4294967295 / 2147483648 = 1 from rfl]
  have h1 : x / 2147483648 ≤ 1 := by omega
  have h2 : y / 2147483648 ≤ 1 := by omega
  have h3 : z / 2147483648 ≤ 1 := by omega
  have ex := Nat.div_add_mod x 2147483648
  have ey := Nat.div_add_mod y 2147483648
  have ez := Nat.div_add_mod z 2147483648
  have lx := Nat.mod_lt x (show 0 < 2147483648 by omega)
  have ly := Nat.mod_lt y (show 0 < 2147483648 by omega)
  have lz := Nat.mod_lt z (show 0 < 2147483648 by omega)
  generalize x / 2147483648 = xt at *
  generalize y / 2147483648 = yt at *
  generalize z / 2147483648 = zt at *
  rcases (show xt = 0 ∨ xt = 1 by omega) with rfl | rfl <;> rcases (show yt = 0 ∨ yt = 1 by omega) with rfl | rfl <;> rcases (show zt = 0 ∨ zt = 1 by omega) with rfl | rfl
  all_goals first
    | (show 0 = bo; omega)
    | (show 1 = bo; omega)

theorem or_lt32 {a b : Nat} (ha : a < 4294967296) (hb : b < 4294967296) : a ||| b < 4294967296 := Nat.or_lt_two_pow (n := 32) ha hb
theorem xor_lt32 {a b : Nat} (ha : a < 4294967296) (hb : b < 4294967296) : a ^^^ b < 4294967296 := Nat.xor_lt_two_pow (n := 32) ha hb
theorem and_lt32 {a b : Nat} (hb : b < 4294967296) : a &&& b < 4294967296 := Nat.lt_of_le_of_lt Nat.and_le_right hb

theorem sub32_int (x y z b bo : Nat) (hx : x < 4294967296) (hy : y < 4294967296) (hz : z < 4294967296) (hb : b ≤ 1) (hbo : bo ≤ 1) (h : x + 4294967296 * bo = z + y + b) :
    bits BinOp.or IntKind.u32 (bits BinOp.and IntKind.u32 (bits BinOp.xor IntKind.u32 IntKind.u32.max (x : Int)) (y : Int))
      (bits BinOp.and IntKind.u32 (bits BinOp.xor IntKind.u32 IntKind.u32.max (bits BinOp.xor IntKind.u32 (x : Int) (y : Int))) (z : Int)) / 2147483648 = (bo : Int) := by
  have em : IntKind.u32.max = ((4294967295 : Nat) : Int) := rfl
  have hxy := xor_lt32 hx hy
  have h1 := xor_lt32 (show (4294967295 : Nat) < 4294967296 by omega) hx
  have h2 := xor_lt32 (show (4294967295 : Nat) < 4294967296 by omega) hxy
  rw [em, u32_xor_nat _ _ hx hy, u32_xor_nat _ _ (by omega) hx, u32_xor_nat _ _ (by omega) hxy, u32_and_nat _ _ h1 hy, u32_and_nat _ _ h2 hz, u32_or_nat _ _ (and_lt32 hy) (and_lt32 hz)]
  have := sub32_bits x y z b bo hx hy hz hb hbo h
  rw [← this]
  simp

def Subs (w : World) (x y b : Nat) (e : Ending) (w' : World) : Prop :=
  ∃ z bo : Nat, e = .returned (.tuple #[.int .u32 (z : Int), .int .u32 (bo : Int)]) ∧ z < 4294967296 ∧ bo ≤ 1 ∧ x + 4294967296 * bo = z + y + b ∧ w = w'

set_option maxHeartbeats 400000 in
theorem sub32_any (x y b : Nat) (w : World) (hx : x < 4294967296) (hy : y < 4294967296) (hb : b ≤ 1) :
    Calls Try.prog 40 #[.int .u32 (x : Int), .int .u32 (y : Int), .int .u32 (b : Int)] w (Subs w x y b) := by
  go_enter Try.func40, Try.ntmps40
  obtain ⟨bo, z, hbo, hz, hsum⟩ : ∃ bo z : Nat, bo ≤ 1 ∧ z < 4294967296 ∧ x + 4294967296 * bo = z + y + b := by
    by_cases hlt : x < y + b
    · exact ⟨1, x + 4294967296 - y - b, by omega, by omega, by omega⟩
    · exact ⟨0, x - y - b, by omega, by omega, by omega⟩
  have hz2 : ((x : Int) - (y : Int) - (b : Int)) % 4294967296 = (z : Int) := by omega
  have HB := Lib.hid (sub32_int x y z b bo hx hy hz hb hbo hsum)
  go_wp2
  go_ret2
  refine ⟨z, bo, ret_eq ?_, hz, hbo, hsum, rfl⟩
  rw [← HB.out]
  rfl

end Go.Proofs.Ytbcceopgmkmbfaa
