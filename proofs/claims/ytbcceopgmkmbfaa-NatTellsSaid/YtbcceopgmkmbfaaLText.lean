/- Texts of numbers, in numbers alone. -/
import Derived.Test.YtbcceopgmkmbfaaLNum
namespace Go.Proofs.Ytbcceopgmkmbfaa
open Go.RowKit
set_option linter.unusedVariables false

theorem pow10 (k : Nat) : M.R ^ k ≤ 10 ^ (10 * k) := by
  rw [Nat.pow_mul]
  exact Nat.pow_le_pow_left (by decide) _

theorem txt_len {v k : Nat} (h : v < M.R ^ k) : (M.txt v).length ≤ 10 * k + 1 := by
  unfold M.txt
  split
  · simp
  · rw [List.length_reverse]
    have := M.lows_len_le (Nat.lt_of_lt_of_le h (pow10 k))
    omega

theorem txt_size {s : ByteArray} {v k : Nat} (h : M.bytes s = M.txt v) (hv : v < M.R ^ k) : s.size ≤ 10 * k + 1 := by
  rw [← M.bytes_len, h]
  exact txt_len hv

theorem parseN {s : ByteArray} {w : World} {v k : Nat} (h : M.bytes s = M.txt v) (hs : s.size ≤ 1048576) (hv : v < M.R ^ k) : Calls Try.prog 33 #[.string s] w (GivB w v k true) := by
  refine (parse_yes s w hs (by rw [h]; exact M.txt_digits v)).mono fun e w' r => givB hv ?_
  rw [h, M.dec_txt] at r
  exact r

theorem txt_ten {x : Nat} (h : x ≠ 0) : M.txt (x * 10) = M.txt x ++ [48] := by
  have h' : x * 10 ≠ 0 := by omega
  unfold M.txt
  rw [if_neg h, if_neg h', M.lows_pos h', List.reverse_cons, show x * 10 / 10 = x by omega, show 48 + x * 10 % 10 = 48 by omega]

theorem text_ten {s t : ByteArray} {x : Nat} (h : x ≠ 0) (hs : M.bytes s = M.txt x) (ht : M.bytes t = M.txt (x * 10)) : (t.toList == (s ++ ⟨#[48]⟩).toList) = true := by
  have e : t = s ++ ⟨#[48]⟩ := by
    apply M.bytes_inj
    rw [ht, txt_ten h, ← hs]
    unfold M.bytes
    obtain ⟨⟨l⟩⟩ := s
    simp
  rw [e]
  simp

end Go.Proofs.Ytbcceopgmkmbfaa
