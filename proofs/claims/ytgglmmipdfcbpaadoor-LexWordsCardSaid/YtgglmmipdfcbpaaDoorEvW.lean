/- Binary operations, conversions. -/
import Derived.Test.YtgglmmipdfcbpaaDoorEvV
import Derived.Laws.Strings
import Derived.Laws.StructEq
namespace Go.Ev
variable {E : Env} {β β' : Bond} {s s' : AS} {w w' : World} {P : Program}

theorem most_pos (k : IntKind) : 0 < most k := by cases k <;> decide
theorem bits_eq (k : IntKind) : bitsOf k = k.bits := by cases k <;> rfl
theorem most_le (k : IntKind) : most k ≤ 2 ^ k.bits := by cases k <;> decide
theorem most_pow (k : IntKind) : ∃ n, most k = 2 ^ n := by cases k <;> first | exact ⟨7, rfl⟩ | exact ⟨15, rfl⟩ | exact ⟨31, rfl⟩ | exact ⟨63, rfl⟩ | exact ⟨8, rfl⟩ | exact ⟨16, rfl⟩ | exact ⟨32, rfl⟩ | exact ⟨64, rfl⟩
theorem small2_some {x y : Int} {k : IntKind} {f : Nat → Nat → Option Value} {r : Option Value} {v : Value} (h : small2 x y k f r = some v) :
    (∃ m n : Nat, x = m ∧ y = n ∧ m < most k ∧ n < most k ∧ f m n = some v) ∨ r = some v := by
  unfold small2 at h
  cases x with
  | negSucc m => exact .inr h
  | ofNat m =>
    cases y with
    | negSucc n => exact .inr h
    | ofNat n =>
      dsimp only at h
      cases hb : Nat.ble (Nat.succ m) (most k) && Nat.ble (Nat.succ n) (most k) with
      | false => rw [hb] at h; exact .inr h
      | true =>
        rw [hb] at h
        simp only [Bool.and_eq_true] at hb
        exact .inl ⟨m, n, rfl, rfl, le_of_ble hb.1, le_of_ble hb.2, h⟩
theorem bits_small (k : IntKind) {m : Nat} (h : m < most k) : (BitVec.ofInt k.bits (m : Int)).toNat = m := by
  have := most_le k
  rw [BitVec.ofInt_natCast, BitVec.toNat_ofNat]
  exact Nat.mod_eq_of_lt (by omega)
theorem not_lt_dec (x y : Int) : decide (x ≤ y) = !decide (y < x) := by by_cases h : y < x <;> simp [h] <;> omega
theorem int2_run {op : BinOp} {k : IntKind} {x y : Int} {v : Value} {t : TypeId} (h : int2 op k x y = some v) : (Go.binOp op t (.int k x) (.int k y)).run P w = .ok v w ∧ (∃ b, v = .bool b) ∨ (Go.binOp op t (.int k x) (.int k y)).run P w = .ok v w ∧ (∃ k n, v = .int k n) := by
  have hp := most_pos k
  cases op <;> simp only [int2] at h
  case add => cases h; exact .inr ⟨by simp [Go.binOp, Op.intArith, wr_eq, iadd_eq], _, _, rfl⟩
  case sub => cases h; exact .inr ⟨by simp [Go.binOp, Op.intArith, wr_eq, isub_eq], _, _, rfl⟩
  case mul => cases h; exact .inr ⟨by simp [Go.binOp, Op.intArith, wr_eq, imul_eq], _, _, rfl⟩
  case quo =>
    rcases small2_some h with ⟨m, n, rfl, rfl, hm, hn, h⟩ | h
    · obtain ⟨h1, h⟩ := only_some h
      have h1 := le_of_ble h1
      cases h
      refine .inr ⟨?_, _, _, rfl⟩
      have hd : m / n < most k := Nat.lt_of_le_of_lt (Nat.div_le_self m n) hm
      have : ((m : Int).tdiv (n : Int)) = ((m / n : Nat) : Int) := rfl
      simp only [Go.binOp, ne_eq, not_true_eq_false, if_false, Op.intDiv, show ¬ (n : Int) = 0 from by omega, this, wr_small hd]
      rfl
    · have := run_ofSem (P := P) (w := w) h
      refine .inr ⟨by simpa [Go.binOp] using this, ?_⟩
      unfold Op.intDiv at h
      split at h
      · cases h
      · cases h; exact ⟨_, _, rfl⟩
  case rem =>
    rcases small2_some h with ⟨m, n, rfl, rfl, hm, hn, h⟩ | h
    · obtain ⟨h1, h⟩ := only_some h
      have h1 := le_of_ble h1
      cases h
      refine .inr ⟨?_, _, _, rfl⟩
      have : ((m : Int).tmod (n : Int)) = ((m % n : Nat) : Int) := rfl
      simp only [Go.binOp, ne_eq, not_true_eq_false, if_false, Op.intDiv, show ¬ (n : Int) = 0 from by omega, this]
      rfl
    · have := run_ofSem (P := P) (w := w) h
      refine .inr ⟨by simpa [Go.binOp] using this, ?_⟩
      unfold Op.intDiv at h
      split at h
      · cases h
      · cases h; exact ⟨_, _, rfl⟩
  case and =>
    rcases small2_some h with ⟨m, n, rfl, rfl, hm, hn, h⟩ | h
    · cases h
      refine .inr ⟨?_, _, _, rfl⟩
      obtain ⟨p, hpw⟩ := most_pow k
      have hl : m &&& n < most k := by rw [hpw] at hn ⊢; exact Nat.and_lt_two_pow _ hn
      simp only [Go.binOp, ne_eq, not_true_eq_false, if_false, Op.intBits, BitVec.toNat_and, bits_small k hm, bits_small k hn, wr_small hl]
      rfl
    · have := run_ofSem (P := P) (w := w) h
      refine .inr ⟨by simpa [Go.binOp] using this, ?_⟩
      cases h; exact ⟨_, _, rfl⟩
  case or =>
    rcases small2_some h with ⟨m, n, rfl, rfl, hm, hn, h⟩ | h
    · cases h
      refine .inr ⟨?_, _, _, rfl⟩
      obtain ⟨p, hpw⟩ := most_pow k
      have hl : m ||| n < most k := by rw [hpw] at hm hn ⊢; exact Nat.or_lt_two_pow hm hn
      simp only [Go.binOp, ne_eq, not_true_eq_false, if_false, Op.intBits, BitVec.toNat_or, bits_small k hm, bits_small k hn, wr_small hl]
      rfl
    · have := run_ofSem (P := P) (w := w) h
      refine .inr ⟨by simpa [Go.binOp] using this, ?_⟩
      cases h; exact ⟨_, _, rfl⟩
  case xor =>
    rcases small2_some h with ⟨m, n, rfl, rfl, hm, hn, h⟩ | h
    · cases h
      refine .inr ⟨?_, _, _, rfl⟩
      obtain ⟨p, hpw⟩ := most_pow k
      have hl : m ^^^ n < most k := by rw [hpw] at hm hn ⊢; exact Nat.xor_lt_two_pow hm hn
      simp only [Go.binOp, ne_eq, not_true_eq_false, if_false, Op.intBits, BitVec.toNat_xor, bits_small k hm, bits_small k hn, wr_small hl]
      rfl
    · have := run_ofSem (P := P) (w := w) h
      refine .inr ⟨by simpa [Go.binOp] using this, ?_⟩
      cases h; exact ⟨_, _, rfl⟩
  case andNot =>
    have := run_ofSem (P := P) (w := w) h
    refine .inr ⟨by simpa [Go.binOp] using this, ?_⟩
    cases h; exact ⟨_, _, rfl⟩
  case eql => cases h; exact .inl ⟨by simp [Go.binOp, Op.intCmp, ieq_eq], _, rfl⟩
  case neq => cases h; exact .inl ⟨by simp [Go.binOp, Op.intCmp, ieq_eq, bne], _, rfl⟩
  case lss => cases h; exact .inl ⟨by simp [Go.binOp, Op.intCmp, ilt_eq], _, rfl⟩
  case leq => cases h; exact .inl ⟨by simp [Go.binOp, Op.intCmp, ilt_eq, not_lt_dec], _, rfl⟩
  case gtr => cases h; exact .inl ⟨by simp [Go.binOp, Op.intCmp, ilt_eq], _, rfl⟩
  case geq => cases h; exact .inl ⟨by simp [Go.binOp, Op.intCmp, ilt_eq, not_lt_dec], _, rfl⟩
  case shl => cases h
  case shr => cases h
theorem min_bif (n : Nat) (k : IntKind) : (bif Nat.ble n (bitsOf k) then n else bitsOf k) = min n k.bits := by
  rw [bits_eq]
  by_cases h : n ≤ k.bits
  · rw [Nat.ble_eq_true_of_le h, Nat.min_eq_left h]; rfl
  · rw [show Nat.ble n k.bits = false from Bool.eq_false_iff.2 fun e => h (le_of_ble e), Nat.min_eq_right (by omega)]; rfl
theorem shl_run {k k' : IntKind} {x y : Int} {v : Value} (h : shl k x y k' = some v) : (Op.shift .shl k x k' y).run P w = .ok v w ∧ ∃ k n, v = .int k n := by
  unfold shl at h
  cases x with
  | negSucc m =>
    refine ⟨run_ofSem h, ?_⟩
    unfold Op.shift at h
    dsimp only at h
    split at h
    · cases h
    · cases h; exact ⟨_, _, rfl⟩
  | ofNat m =>
    cases y with
    | negSucc n => cases h
    | ofNat n =>
      cases h
      refine ⟨?_, _, _, rfl⟩
      rw [wr_eq, min_bif]
      simp [Op.shift, show ¬ ((n : Int) < 0) from by omega]
theorem shr_run {k k' : IntKind} {x y : Int} {v : Value} (h : shr k x y k' = some v) : (Op.shift .shr k x k' y).run P w = .ok v w ∧ ∃ k n, v = .int k n := by
  unfold shr at h
  cases x with
  | negSucc m =>
    refine ⟨run_ofSem h, ?_⟩
    unfold Op.shift at h
    dsimp only at h
    split at h
    · cases h
    · cases h; exact ⟨_, _, rfl⟩
  | ofNat m =>
    cases y with
    | negSucc n => cases h
    | ofNat n =>
      cases h
      refine ⟨?_, _, _, rfl⟩
      rw [min_bif]
      simp [Op.shift, show ¬ ((n : Int) < 0) from by omega]
      exact (Int.ofNat_fdiv m (2 ^ min n k.bits)).symm ▸ rfl

/-- Without a block. -/
def bare : Value → Bool
  | .bool _ | .int .. | .string _ => true
  | _ => false
theorem VR.bare {v : Value} (h : bare v = true) : VR β v v := by
  cases v <;> first | exact .bool _ | exact .int _ _ | exact .string _ | cases h
theorem intOp_run {op : BinOp} {k k' : IntKind} {x y : Int} {v : Value} {t : TypeId} (h : intOp op k x k' y = some v) : (Go.binOp op t (.int k x) (.int k' y)).run P w = .ok v w ∧ bare v = true := by
  have kk : ∀ k k', Nat.beq (kno k) (kno k') = true → k = k' := by intro k k' h; cases k <;> cases k' <;> first | rfl | cases h
  unfold intOp at h
  split at h
  · obtain ⟨h1, k1, n1, rfl⟩ := shl_run (P := P) (w := w) h
    exact ⟨by simpa [Go.binOp] using h1, rfl⟩
  · obtain ⟨h1, k1, n1, rfl⟩ := shr_run (P := P) (w := w) h
    exact ⟨by simpa [Go.binOp] using h1, rfl⟩
  · obtain ⟨h1, h5⟩ := only_some h
    have := kk _ _ h1
    subst this
    rcases int2_run (P := P) (w := w) (t := t) h5 with ⟨h2, b, rfl⟩ | ⟨h2, k1, n1, rfl⟩
    · exact ⟨h2, rfl⟩
    · exact ⟨h2, rfl⟩
theorem bytesEq_eq : ∀ (a b : List UInt8), bytesEq a b = (a == b)
  | [], [] => rfl
  | [], _ :: _ => rfl
  | _ :: _, [] => rfl
  | a :: x, b :: y => by
    show (bif Nat.beq a.toNat b.toNat then bytesEq x y else false) = _
    rw [nat_beq, bytesEq_eq x y]
    by_cases h : a = b
    · subst h; simp
    · have : ¬ a.toNat = b.toNat := fun e => h (UInt8.toNat.inj e)
      simp [h, this]
theorem strOp_run {op : BinOp} {m n : ByteArray} {v : Value} {t : TypeId} (h : strOp op m n = some v) : (Go.binOp op t (.string m) (.string n)).run P w = .ok v w ∧ bare v = true := by
  unfold strOp at h
  split at h
  · cases h; exact ⟨by simp [Go.binOp, Op.stringOp, ByteArray.toList_eq, bytesEq_eq], rfl⟩
  · cases h; exact ⟨by simp [Go.binOp, Op.stringOp, ByteArray.toList_eq, bytesEq_eq], rfl⟩
  · obtain ⟨h1, h⟩ := only_some h
    cases h
    have h1 : m.size + n.size ≤ 2 ^ 40 := le_of_ble h1
    have : ¬ (((m.size + n.size : Nat) : Int) > IntKind.i64.max) := by rw [show IntKind.i64.max = 9223372036854775807 from rfl]; omega
    exact ⟨by simp only [Go.binOp, Op.stringOp, if_neg this]; rfl, rfl⟩
  · cases h; exact ⟨by simp [Go.binOp, Op.stringOp, ByteArray.toList_eq], rfl⟩
  · cases h; exact ⟨by simp [Go.binOp, Op.stringOp, ByteArray.toList_eq, bytesEq_eq], rfl⟩
  · cases h; exact ⟨by simp [Go.binOp, Op.stringOp, ByteArray.toList_eq, bytesEq_eq], rfl⟩
  · cases h; exact ⟨by simp [Go.binOp, Op.stringOp, ByteArray.toList_eq], rfl⟩
  · cases h
theorem run_eqGuard {op : BinOp} {t : TypeId} {x y : Operand} {a b : Value} (h : ∀ s, a ≠ .agg s) (hn : a = .nilIface → b = .nilIface → (∃ v, x = .const v) ∨ ∃ v, y = .const v) : (eqGuard op t x y a b).run P w = .ok () w := by
  unfold eqGuard
  cases hop : (match op with | .eql | .neq => true | _ => false) with
  | false => cases op <;> first | (cases hop; done) | simp
  | true =>
    cases a with
    | agg s => exact absurd rfl (h s)
    | nilIface =>
      cases b with
      | nilIface =>
        rcases hn rfl rfl with ⟨v, rfl⟩ | ⟨v, rfl⟩
        · cases op <;> simp
        · cases op <;> cases x <;> simp
      | _ => cases op <;> simp
    | _ => cases op <;> simp
/-- No number, no text. -/
def ref : Value → Bool
  | .bool _ | .pointer _ | .slice .. | .map _ | .func .. | .nilFunc | .iface .. | .nilIface => true
  | _ => false
theorem binOp_eql {t : TypeId} {a b : Value} (h : ref a = true) : Go.binOp .eql t a b = (do pure (.bool (← Op.equal t a b))) := by
  cases a <;> first | (cases h; done) | (cases b <;> rfl)
theorem binOp_neq {t : TypeId} {a b : Value} (h : ref a = true) : Go.binOp .neq t a b = (do pure (.bool (!(← Op.equal t a b)))) := by
  cases a <;> first | (cases h; done) | (cases b <;> rfl)
set_option maxHeartbeats 4000000 in
theorem run_equal (hE : EnvOK E P) {t : TypeId} {x y : Operand} {a b a' b' : Value} {r : Bool} (ha : VR β a a') (hb : VR β b b') (h : equal E x y t a b = some r) :
    ((Op.equal t a' b').run P w = .ok r w ∧ ref a' = true) ∧ (∀ s, a' ≠ .agg s) ∧ (a' = .nilIface → b' = .nilIface → (∃ v, x = .const v) ∨ ∃ v, y = .const v) := by
  unfold equal at h
  cases hu : E.und t with
  | none => rw [hu] at h; cases h
  | some d =>
    rw [hu] at h
    have hu := run_und hE hu
    obtain ⟨dd, key⟩ : ∃ dd, ∀ u v : Value, Op.equal t u v = Op.equalIn (dd + 1) t u v := ⟨9999, fun u v => rfl⟩
    split at h <;> first | (cases h; done) | skip
    all_goals
      have hd := Option.some.inj ‹some d = some _›
      subst hd
    case h_11 =>
      cases ha; cases hb
      split at h
      · cases h
        exact ⟨⟨by simp [key, Op.equalIn, hu], rfl⟩, fun s e => (by cases e), fun _ _ => .inl ⟨_, rfl⟩⟩
      · cases h
        exact ⟨⟨by simp [key, Op.equalIn, hu], rfl⟩, fun s e => (by cases e), fun _ _ => .inr ⟨_, rfl⟩⟩
      · cases h
    all_goals
      cases h
      cases ha <;> cases hb <;> exact ⟨⟨by simp [key, Op.equalIn, hu], rfl⟩, fun s e => (by cases e), fun e e' => (by first | (cases e; done) | (cases e'; done))⟩
theorem part_sim (hE : EnvOK E P) {t : TypeId} {cs cs' : List Value} {off : Nat} {v : Value} (hc : All2 (VR β) cs cs') (hp : Ev.part E t cs off = some v) :
    ∃ v', (Go.part t cs'.toArray off).run P w = .ok v' w ∧ VR β v v' := by
  obtain ⟨ag, n, hs, hp2⟩ := pbind_some hp
  obtain ⟨⟨d, hd, hag⟩, hn⟩ := shape_ok hs
  cases ag with
  | true =>
    obtain ⟨hle, h3⟩ := only_some (show only (Nat.ble (off + n) cs.length) _ = some v from hp2)
    cases h3
    refine ⟨.agg (cs'.toArray.extract off (off + n)), by simp [Go.part, run_isAgg hE hd, hag, run_size hE hn], .aggL ?_⟩
    have := (hc.drop off).take n
    simpa [List.extract_eq_take_drop] using this
  | false =>
    obtain ⟨v', h3, r⟩ := hc.get (show cs[off]? = some v from hp2)
    exact ⟨v', by simp [Go.part, run_isAgg hE hd, hag, h3], r⟩
theorem kno_eq {k k' : IntKind} (h : Nat.beq (kno k) (kno k') = true) : k = k' := by cases k <;> cases k' <;> first | rfl | cases h
theorem fieldsEq_run (hE : EnvOK E P) {eq : TypeId → Value → Value → Option Bool} {d : Nat} (hq : ∀ (t : TypeId) (a b a' b' : Value) r, VR β a a' → VR β b b' → eq t a b = some r → (Op.equalIn d t a' b').run P w = .ok r w)
    {xs ys xs' ys' : List Value} (hx : All2 (VR β) xs xs') (hy : All2 (VR β) ys ys') : ∀ (l : List Field) {r : Bool}, fieldsEq eq E xs ys l = some r → (Op.eqFields d xs'.toArray ys'.toArray l).run P w = .ok r w := by
  intro l
  induction l with
  | nil => intro r h; cases h; simp [Op.eqFields]
  | cons f l ih =>
    intro r h
    obtain ⟨h1, h⟩ := only_some h
    obtain ⟨a, h2, h⟩ := obind_some h
    obtain ⟨b, h3, h⟩ := obind_some h
    obtain ⟨q, h4, h⟩ := obind_some h
    obtain ⟨a', h5, r1⟩ := part_sim (P := P) (w := w) hE hx h2
    obtain ⟨b', h6, r2⟩ := part_sim (P := P) (w := w) hE hy h3
    have h7 := hq _ _ _ _ _ _ r1 r2 h4
    have hn : f.name ≠ "_" := by simpa using h1
    unfold Op.eqFields
    rw [if_pos hn]
    simp only [Sem.run_bind, h5, h6, h7, Result.andThen_ok]
    cases q with
    | true => simpa using ih h
    | false => cases h; simp
theorem eqAt_run (hE : EnvOK E P) : ∀ (d : Nat) (t : TypeId) (a b a' b' : Value) (r : Bool), VR β a a' → VR β b b' → eqAt E d t a b = some r → ∀ k, (Op.equalIn (k + d) t a' b').run P w = .ok r w := by
  intro d
  induction d with
  | zero => intro t a b a' b' r _ _ h; cases h
  | succ d ih =>
    intro t a b a' b' r ha hb h k
    unfold eqAt at h
    split at h
    · rename_i hu
      cases h; cases ha; cases hb
      exact run_equalIn_bool w _ _ _ _ (und_ok hE hu)
    · rename_i hu
      cases ha; cases hb
      obtain ⟨h1, h2⟩ := only_some h
      cases h2
      have := kno_eq h1
      subst this
      rw [ieq_eq]
      exact run_equalIn_int w _ _ _ _ _ _ (und_ok hE hu)
    · rename_i p q hu
      cases h; cases ha; cases hb
      rw [bytesEq_eq, show k + (d + 1) = (k + d) + 1 from rfl]
      have := run_equalIn_string w (P := P) (k + d) t p q (und_ok hE hu)
      simpa [ByteArray.toList_eq] using this
    · rename_i fs xs ys hu
      obtain ⟨h1, h2⟩ := only_some h
      obtain ⟨xs', rfl, hx⟩ := ha.of_agg
      obtain ⟨ys', rfl, hy⟩ := hb.of_agg
      have hu := und_ok hE hu
      have hf : P.fieldsOf t = fs := by simp [Program.fieldsOf, hu]
      rw [show k + (d + 1) = (k + d) + 1 from rfl, run_equalIn_struct w (k + d) t xs' ys' (by rw [hf]; exact hu) (hE.calm t h1).1, hf]
      have := fieldsEq_run (w := w) hE (fun t a b a' b' r h1 h2 h3 => ih t a b a' b' r h1 h2 h3 k) hx hy fs.toList h2
      simpa using this
    · cases h
theorem run_equal2 (hE : EnvOK E P) {op : BinOp} (hop : op = .eql ∨ op = .neq) {t : TypeId} {x y : Operand} {a b a' b' : Value} {r : Bool} (ha : VR β a a') (hb : VR β b b') (h : equal2 E x y t a b = some r) :
    ((do eqGuard op t x y a' b'; Go.binOp op t a' b' : Sem Value)).run P w = .ok (.bool (if op = .eql then r else !r)) w := by
  unfold equal2 at h
  split at h
  · obtain ⟨h1, h2⟩ := only_some h
    obtain ⟨xs', rfl, hx⟩ := ha.of_agg
    obtain ⟨ys', rfl, hy⟩ := hb.of_agg
    have h3 := eqAt_run (P := P) (w := w) hE 8 _ _ _ _ _ _ ha hb h2 9992
    have h4 := run_eqGuard_agg (P := P) w op t x y xs' ys' (hE.calm t h1).2
    rcases hop with rfl | rfl
    · simp only [Sem.run_bind, h4, Result.andThen_ok, run_eql_struct, h3]; rfl
    · simp only [Sem.run_bind, h4, Result.andThen_ok, run_neq_struct, h3]; rfl
  · obtain ⟨⟨h3, h6⟩, h4, h5⟩ := run_equal (P := P) (w := w) hE ha hb h
    rcases hop with rfl | rfl
    · simp only [Sem.run_bind, run_eqGuard (P := P) (w := w) h4 h5, Result.andThen_ok, binOp_eql h6, h3, Sem.run_pure]; rfl
    · simp only [Sem.run_bind, run_eqGuard (P := P) (w := w) h4 h5, Result.andThen_ok, binOp_neq h6, h3, Sem.run_pure]; rfl
theorem binOp_sim (hE : EnvOK E P) {op : BinOp} {t : TypeId} {x y : Operand} {a b a' b' : Value} {v : Value} (ha : VR β a a') (hb : VR β b b') (h : binOp E op t x y a b = some v) :
    ((do eqGuard op t x y a' b'; Go.binOp op t a' b' : Sem Value)).run P w = .ok v w ∧ bare v = true := by
  unfold binOp at h
  split at h
  · rename_i k m k' n
    cases ha; cases hb
    obtain ⟨h1, h2⟩ := intOp_run (P := P) (w := w) (t := t) h
    have hg := run_eqGuard (P := P) (w := w) (op := op) (t := t) (x := x) (y := y) (a := .int k m) (b := .int k' n) (fun s e => by cases e) (fun e => by cases e)
    exact ⟨by simp only [Sem.run_bind, hg, Result.andThen_ok, h1], h2⟩
  · rename_i m n
    cases ha; cases hb
    obtain ⟨h1, h2⟩ := strOp_run (P := P) (w := w) (t := t) h
    have hg := run_eqGuard (P := P) (w := w) (op := op) (t := t) (x := x) (y := y) (a := .string m) (b := .string n) (fun s e => by cases e) (fun e => by cases e)
    exact ⟨by simp only [Sem.run_bind, hg, Result.andThen_ok, h1], h2⟩
  · unfold otherOp at h
    split at h
    · obtain ⟨r, h1, h2⟩ := obind_some h
      cases h2
      exact ⟨run_equal2 hE (.inl rfl) ha hb h1, rfl⟩
    · obtain ⟨r, h1, h2⟩ := obind_some h
      cases h2
      exact ⟨run_equal2 hE (.inr rfl) ha hb h1, rfl⟩
    · cases h
end Go.Ev
