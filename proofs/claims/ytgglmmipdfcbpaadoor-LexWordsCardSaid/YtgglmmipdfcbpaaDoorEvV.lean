/- Operations upon plain values. -/
import Derived.Test.YtgglmmipdfcbpaaDoorEvAr
namespace Go.Ev
variable {E : Env} {β β' : Bond} {s s' : AS} {w w' : World} {P : Program}

theorem most_eq (k : IntKind) : (most k : Int) = if k.signed then 2 ^ (k.bits - 1) else 2 ^ k.bits := by cases k <;> rfl
theorem wr_eq (k : IntKind) (n : Int) : wr k n = k.wrap n := by
  cases n with
  | ofNat m =>
    show (bif Nat.ble (Nat.succ m) (most k) then Int.ofNat m else bif isU k then .ofNat (Nat.mod m (most k)) else k.wrap (.ofNat m)) = _
    cases h : Nat.ble (Nat.succ m) (most k) with
    | true =>
      have h := le_of_ble h
      cases k <;> simp [most] at h <;> simp [IntKind.wrap, IntKind.bits, IntKind.signed] <;> omega
    | false =>
      cases k <;> simp [isU, kno, most, IntKind.wrap, IntKind.bits, IntKind.signed] <;> first | rfl | (show Int.ofNat (m % _) = _; simp)
  | negSucc m =>
    show (bif Nat.ble (Nat.succ m) (most k) && !isU k then Int.negSucc m else k.wrap (.negSucc m)) = _
    cases h : Nat.ble (Nat.succ m) (most k) && !isU k with
    | false => rfl
    | true =>
      simp only [Bool.and_eq_true] at h
      have h1 : m + 1 ≤ most k := le_of_ble h.1
      have h := h.2
      show Int.negSucc m = _
      have hx : Int.negSucc m = -(m : Int) - 1 := by rw [Int.negSucc_eq]; omega
      generalize Int.negSucc m = x at hx
      cases k <;> first | (simp [isU, kno] at h; done) | skip
      all_goals
        unfold most at h1
        dsimp only at h1
        simp only [IntKind.wrap, IntKind.bits, IntKind.signed, Bool.true_and, ge_iff_le, decide_eq_true_eq]
        simp only [Int.reducePow, Nat.reduceSub]
        omega
theorem wr_small {k : IntKind} {m : Nat} (h : m < most k) : k.wrap (m : Int) = m := by
  rw [← wr_eq]
  show (bif Nat.ble (Nat.succ m) (most k) then Int.ofNat m else _) = _
  rw [Nat.ble_eq_true_of_le (show Nat.succ m ≤ most k from h)]; rfl
theorem iadd_eq (x y : Int) : iadd x y = x + y := by cases x <;> cases y <;> rfl
theorem imul_eq (x y : Int) : imul x y = x * y := by cases x <;> cases y <;> rfl
theorem isub_eq (x y : Int) : isub x y = x - y := by
  cases x <;> cases y <;> first | rfl | skip
  rename_i m n
  show (bif Nat.ble n m then Int.ofNat (Nat.sub m n) else Int.sub (.ofNat m) (.ofNat n)) = _
  cases h : Nat.ble n m with
  | true =>
    have h := le_of_ble h
    show Int.ofNat (m - n) = (m : Int) - (n : Int)
    simp; omega
  | false => rfl
theorem nat_beq (m n : Nat) : Nat.beq m n = decide (m = n) := by
  by_cases h : m = n
  · subst h; simp
  · rw [show Nat.beq m n = false from Bool.eq_false_iff.2 fun e => h (eq_of_beq e)]; simp [h]
theorem ieq_eq (x y : Int) : ieq x y = (x == y) := by
  have nn : ∀ m n : Nat, (Nat.beq m n : Bool) = ((m : Int) == (n : Int)) := fun m n => by
    rw [nat_beq]
    by_cases h : m = n
    · subst h; simp
    · simp [h]; omega
  cases x with
  | ofNat m => cases y with
    | ofNat n => exact nn m n
    | negSucc n => rfl
  | negSucc m => cases y with
    | ofNat n => rfl
    | negSucc n =>
      show Nat.beq m n = _
      rw [nat_beq]
      by_cases h : m = n <;> simp [h]
theorem ilt_eq (x y : Int) : ilt x y = decide (x < y) := by
  cases x <;> cases y <;> simp [ilt] <;> rename_i m n
  · by_cases h : m < n
    · rw [Nat.ble_eq_true_of_le (show Nat.succ m ≤ n from h)]; simp [h]
    · rw [show Nat.ble (m + 1) n = false from Bool.eq_false_iff.2 fun e => h (le_of_ble e)]; simp [h]
  · omega
  · omega
  · by_cases h : n < m
    · rw [Nat.ble_eq_true_of_le (show Nat.succ n ≤ m from h)]; simp; omega
    · rw [show Nat.ble (n + 1) m = false from Bool.eq_false_iff.2 fun e => h (le_of_ble e)]; simp; omega
theorem run_ofSem {α : Type} {x : Sem α} {v : α} (h : ofSem x = some v) : x.run P w = .ok v w := by
  cases x <;> first | (cases h; rfl) | cases h
end Go.Ev
