import Derived.Laws.Strings
import Derived.Laws.StructEq
import Derived.Test.YthhkpoobcnmdgaaDoorBE2
/- Binary operations, conversions. -/
namespace Go.Ev
variable {E : Env} {β β' : Bond} {s s' : AS} {w w' : World} {P : Program}

theorem most_pos (k : IntKind) : 0 < most k := by cases k <;> decide
theorem bits_eq (k : IntKind) : bitsOf k = k.bits := by cases k <;> rfl
theorem most_le (k : IntKind) : most k ≤ 2 ^ k.bits := by cases k <;> decide
theorem most_pow (k : IntKind) : ∃ n, most k = 2 ^ n := by cases k <;> first | exact ⟨7, rfl⟩ | exact ⟨15, rfl⟩ | exact ⟨31, rfl⟩ | exact ⟨63, rfl⟩ | exact ⟨8, rfl⟩ | exact ⟨16, rfl⟩ | exact ⟨32, rfl⟩ | exact ⟨64, rfl⟩
theorem small2_some {x y : Int} {k : IntKind} {f : Nat → Nat → Option Value} {r : Option Value} {v : Value} (h : small2 x y k f r = some v) :
    (∃ m n : Nat, x = m ∧ y = n ∧ m < most k ∧ n < most k ∧ f m n = some v) ∨ r = some v := by
  unfold small2 at h
  cases x with
  | negSucc m => exact .inr h
  | ofNat m =>
    cases y with
    | negSucc n => exact .inr h
    | ofNat n =>
      dsimp only at h
      cases hb : Nat.ble (Nat.succ m) (most k) && Nat.ble (Nat.succ n) (most k) with
      | false => rw [hb] at h; exact .inr h
      | true =>
        rw [hb] at h
        simp only [Bool.and_eq_true] at hb
        exact .inl ⟨m, n, rfl, rfl, le_of_ble hb.1, le_of_ble hb.2, h⟩
theorem bits_small (k : IntKind) {m : Nat} (h : m < most k) : (BitVec.ofInt k.bits (m : Int)).toNat = m := by
  have := most_le k
  rw [BitVec.ofInt_natCast, BitVec.toNat_ofNat]
  exact Nat.mod_eq_of_lt (by omega)
theorem not_lt_dec (x y : Int) : decide (x ≤ y) = !decide (y < x) := by by_cases h : y < x <;> simp [h] <;> omega
theorem int2_run {op : BinOp} {k : IntKind} {x y : Int} {v : Value} {t : TypeId} (h : int2 op k x y = some v) : (Go.binOp op t (.int k x) (.int k y)).run P w = .ok v w ∧ (∃ b, v = .bool b) ∨ (Go.binOp op t (.int k x) (.int k y)).run P w = .ok v w ∧ (∃ k n, v = .int k n) := by
  have hp := most_pos k
  cases op <;> simp only [int2] at h
  case add => cases h; exact .inr ⟨by simp [Go.binOp, Op.intArith, wr_eq, iadd_eq], _, _, rfl⟩
  case sub => cases h; exact .inr ⟨by simp [Go.binOp, Op.intArith, wr_eq, isub_eq], _, _, rfl⟩
  case mul => cases h; exact .inr ⟨by simp [Go.binOp, Op.intArith, wr_eq, imul_eq], _, _, rfl⟩
  case quo =>
    rcases small2_some h with ⟨m, n, rfl, rfl, hm, hn, h⟩ | h
    · obtain ⟨h1, h⟩ := only_some h
      have h1 := le_of_ble h1
      cases h
      refine .inr ⟨?_, _, _, rfl⟩
      have hd : m / n < most k := Nat.lt_of_le_of_lt (Nat.div_le_self m n) hm
      have : ((m : Int).tdiv (n : Int)) = ((m / n : Nat) : Int) := rfl
      simp only [Go.binOp, ne_eq, not_true_eq_false, if_false, Op.intDiv, show ¬ (n : Int) = 0 from by omega, this, wr_small hd]
      rfl
    · have := run_ofSem (P := P) (w := w) h
      refine .inr ⟨by simpa [Go.binOp] using this, ?_⟩
      unfold Op.intDiv at h
      split at h
      · cases h
      · cases h; exact ⟨_, _, rfl⟩
  case rem =>
    rcases small2_some h with ⟨m, n, rfl, rfl, hm, hn, h⟩ | h
    · obtain ⟨h1, h⟩ := only_some h
      have h1 := le_of_ble h1
      cases h
      refine .inr ⟨?_, _, _, rfl⟩
      have : ((m : Int).tmod (n : Int)) = ((m % n : Nat) : Int) := rfl
      simp only [Go.binOp, ne_eq, not_true_eq_false, if_false, Op.intDiv, show ¬ (n : Int) = 0 from by omega, this]
      rfl
    · have := run_ofSem (P := P) (w := w) h
      refine .inr ⟨by simpa [Go.binOp] using this, ?_⟩
      unfold Op.intDiv at h
      split at h
      · cases h
      · cases h; exact ⟨_, _, rfl⟩
  case and =>
    rcases small2_some h with ⟨m, n, rfl, rfl, hm, hn, h⟩ | h
    · cases h
      refine .inr ⟨?_, _, _, rfl⟩
      obtain ⟨p, hpw⟩ := most_pow k
      have hl : m &&& n < most k := by rw [hpw] at hn ⊢; exact Nat.and_lt_two_pow _ hn
      simp only [Go.binOp, ne_eq, not_true_eq_false, if_false, Op.intBits, BitVec.toNat_and, bits_small k hm, bits_small k hn, wr_small hl]
      rfl
    · have := run_ofSem (P := P) (w := w) h
      refine .inr ⟨by simpa [Go.binOp] using this, ?_⟩
      cases h; exact ⟨_, _, rfl⟩
  case or =>
    rcases small2_some h with ⟨m, n, rfl, rfl, hm, hn, h⟩ | h
    · cases h
      refine .inr ⟨?_, _, _, rfl⟩
      obtain ⟨p, hpw⟩ := most_pow k
      have hl : m ||| n < most k := by rw [hpw] at hm hn ⊢; exact Nat.or_lt_two_pow hm hn
      simp only [Go.binOp, ne_eq, not_true_eq_false, if_false, Op.intBits, BitVec.toNat_or, bits_small k hm, bits_small k hn, wr_small hl]
      rfl
    · have := run_ofSem (P := P) (w := w) h
      refine .inr ⟨by simpa [Go.binOp] using this, ?_⟩
      cases h; exact ⟨_, _, rfl⟩
  case xor =>
    rcases small2_some h with ⟨m, n, rfl, rfl, hm, hn, h⟩ | h
    · cases h
      refine .inr ⟨?_, _, _, rfl⟩
      obtain ⟨p, hpw⟩ := most_pow k
      have hl : m ^^^ n < most k := by rw [hpw] at hm hn ⊢; exact Nat.xor_lt_two_pow hm hn
      simp only [Go.binOp, ne_eq, not_true_eq_false, if_false, Op.intBits, BitVec.toNat_xor, bits_small k hm, bits_small k hn, wr_small hl]
      rfl
    · have := run_ofSem (P := P) (w := w) h
      refine .inr ⟨by simpa [Go.binOp] using this, ?_⟩
      cases h; exact ⟨_, _, rfl⟩
  case andNot =>
    have := run_ofSem (P := P) (w := w) h
    refine .inr ⟨by simpa [Go.binOp] using this, ?_⟩
    cases h; exact ⟨_, _, rfl⟩
  case eql => cases h; exact .inl ⟨by simp [Go.binOp, Op.intCmp, ieq_eq], _, rfl⟩
  case neq => cases h; exact .inl ⟨by simp [Go.binOp, Op.intCmp, ieq_eq, bne], _, rfl⟩
  case lss => cases h; exact .inl ⟨by simp [Go.binOp, Op.intCmp, ilt_eq], _, rfl⟩
  case leq => cases h; exact .inl ⟨by simp [Go.binOp, Op.intCmp, ilt_eq, not_lt_dec], _, rfl⟩
  case gtr => cases h; exact .inl ⟨by simp [Go.binOp, Op.intCmp, ilt_eq], _, rfl⟩
  case geq => cases h; exact .inl ⟨by simp [Go.binOp, Op.intCmp, ilt_eq, not_lt_dec], _, rfl⟩
  case shl => cases h
  case shr => cases h
theorem min_bif (n : Nat) (k : IntKind) : (bif Nat.ble n (bitsOf k) then n else bitsOf k) = min n k.bits := by
  rw [bits_eq]
  by_cases h : n ≤ k.bits
  · rw [Nat.ble_eq_true_of_le h, Nat.min_eq_left h]; rfl
  · rw [show Nat.ble n k.bits = false from Bool.eq_false_iff.2 fun e => h (le_of_ble e), Nat.min_eq_right (by omega)]; rfl
theorem shl_run {k k' : IntKind} {x y : Int} {v : Value} (h : shl k x y k' = some v) : (Op.shift .shl k x k' y).run P w = .ok v w ∧ ∃ k n, v = .int k n := by
  unfold shl at h
  cases x with
  | negSucc m =>
    refine ⟨run_ofSem h, ?_⟩
    unfold Op.shift at h
    dsimp only at h
    split at h
    · cases h
    · cases h; exact ⟨_, _, rfl⟩
  | ofNat m =>
    cases y with
    | negSucc n => cases h
    | ofNat n =>
      cases h
      refine ⟨?_, _, _, rfl⟩
      rw [wr_eq, min_bif]
      simp [Op.shift, show ¬ ((n : Int) < 0) from by omega]
theorem shr_run {k k' : IntKind} {x y : Int} {v : Value} (h : shr k x y k' = some v) : (Op.shift .shr k x k' y).run P w = .ok v w ∧ ∃ k n, v = .int k n := by
  unfold shr at h
  cases x with
  | negSucc m =>
    refine ⟨run_ofSem h, ?_⟩
    unfold Op.shift at h
    dsimp only at h
    split at h
    · cases h
    · cases h; exact ⟨_, _, rfl⟩
  | ofNat m =>
    cases y with
    | negSucc n => cases h
    | ofNat n =>
      cases h
      refine ⟨?_, _, _, rfl⟩
      rw [min_bif]
      simp [Op.shift, show ¬ ((n : Int) < 0) from by omega]
      exact (Int.ofNat_fdiv m (2 ^ min n k.bits)).symm ▸ rfl

/-- Without a block. -/
def bare : Value → Bool
  | .bool _ | .int .. | .string _ => true
  | _ => false
theorem VR.bare {v : Value} (h : bare v = true) : VR β v v := by
  cases v <;> first | exact .bool _ | exact .int _ _ | exact .string _ | cases h
theorem intOp_run {op : BinOp} {k k' : IntKind} {x y : Int} {v : Value} {t : TypeId} (h : intOp op k x k' y = some v) : (Go.binOp op t (.int k x) (.int k' y)).run P w = .ok v w ∧ bare v = true := by
  have kk : ∀ k k', Nat.beq (kno k) (kno k') = true → k = k' := by intro k k' h; cases k <;> cases k' <;> first | rfl | cases h
  unfold intOp at h
  split at h
  · obtain ⟨h1, k1, n1, rfl⟩ := shl_run (P := P) (w := w) h
    exact ⟨by simpa [Go.binOp] using h1, rfl⟩
  · obtain ⟨h1, k1, n1, rfl⟩ := shr_run (P := P) (w := w) h
    exact ⟨by simpa [Go.binOp] using h1, rfl⟩
  · obtain ⟨h1, h5⟩ := only_some h
    have := kk _ _ h1
    subst this
    rcases int2_run (P := P) (w := w) (t := t) h5 with ⟨h2, b, rfl⟩ | ⟨h2, k1, n1, rfl⟩
    · exact ⟨h2, rfl⟩
    · exact ⟨h2, rfl⟩
theorem bytesEq_eq : ∀ (a b : List UInt8), bytesEq a b = (a == b)
  | [], [] => rfl
  | [], _ :: _ => rfl
  | _ :: _, [] => rfl
  | a :: x, b :: y => by
    show (bif Nat.beq a.toNat b.toNat then bytesEq x y else false) = _
    rw [nat_beq, bytesEq_eq x y]
    by_cases h : a = b
    · subst h; simp
    · have : ¬ a.toNat = b.toNat := fun e => h (UInt8.toNat.inj e)
      simp [h, this]
theorem strOp_run {op : BinOp} {m n : ByteArray} {v : Value} {t : TypeId} (h : strOp op m n = some v) : (Go.binOp op t (.string m) (.string n)).run P w = .ok v w ∧ bare v = true := by
  unfold strOp at h
  split at h
  · cases h; exact ⟨by simp [Go.binOp, Op.stringOp, ByteArray.toList_eq, bytesEq_eq], rfl⟩
  · cases h; exact ⟨by simp [Go.binOp, Op.stringOp, ByteArray.toList_eq, bytesEq_eq], rfl⟩
  · obtain ⟨h1, h⟩ := only_some h
    cases h
    have h1 : m.size + n.size ≤ 2 ^ 40 := le_of_ble h1
    have : ¬ (((m.size + n.size : Nat) : Int) > IntKind.i64.max) := by rw [show IntKind.i64.max = 9223372036854775807 from rfl]; omega
    exact ⟨by simp only [Go.binOp, Op.stringOp, if_neg this]; rfl, rfl⟩
  · cases h; exact ⟨by simp [Go.binOp, Op.stringOp, ByteArray.toList_eq], rfl⟩
  · cases h; exact ⟨by simp [Go.binOp, Op.stringOp, ByteArray.toList_eq, bytesEq_eq], rfl⟩
  · cases h; exact ⟨by simp [Go.binOp, Op.stringOp, ByteArray.toList_eq, bytesEq_eq], rfl⟩
  · cases h; exact ⟨by simp [Go.binOp, Op.stringOp, ByteArray.toList_eq], rfl⟩
  · cases h
theorem run_eqGuard {op : BinOp} {t : TypeId} {x y : Operand} {a b : Value} (h : ∀ s, a ≠ .agg s) (hn : a = .nilIface → b = .nilIface → (∃ v, x = .const v) ∨ ∃ v, y = .const v) : (eqGuard op t x y a b).run P w = .ok () w := by
  unfold eqGuard
  cases hop : (match op with | .eql | .neq => true | _ => false) with
  | false => cases op <;> first | (cases hop; done) | simp
  | true =>
    cases a with
    | agg s => exact absurd rfl (h s)
    | nilIface =>
      cases b with
      | nilIface =>
        rcases hn rfl rfl with ⟨v, rfl⟩ | ⟨v, rfl⟩
        · cases op <;> simp
        · cases op <;> cases x <;> simp
      | _ => cases op <;> simp
    | _ => cases op <;> simp
/-- No number, no text. -/
def ref : Value → Bool
  | .bool _ | .pointer _ | .slice .. | .map _ | .func .. | .nilFunc | .iface .. | .nilIface => true
  | _ => false
theorem binOp_eql {t : TypeId} {a b : Value} (h : ref a = true) : Go.binOp .eql t a b = (do pure (.bool (← Op.equal t a b))) := by
  cases a <;> first | (cases h; done) | (cases b <;> rfl)
theorem binOp_neq {t : TypeId} {a b : Value} (h : ref a = true) : Go.binOp .neq t a b = (do pure (.bool (!(← Op.equal t a b)))) := by
  cases a <;> first | (cases h; done) | (cases b <;> rfl)
set_option maxHeartbeats 4000000 in
theorem run_equal (hE : EnvOK E P) {t : TypeId} {x y : Operand} {a b a' b' : Value} {r : Bool} (ha : VR β a a') (hb : VR β b b') (h : equal E x y t a b = some r) :
    ((Op.equal t a' b').run P w = .ok r w ∧ ref a' = true) ∧ (∀ s, a' ≠ .agg s) ∧ (a' = .nilIface → b' = .nilIface → (∃ v, x = .const v) ∨ ∃ v, y = .const v) := by
  unfold equal at h
  cases hu : E.und t with
  | none => rw [hu] at h; cases h
  | some d =>
    rw [hu] at h
    have hu := run_und hE hu
    obtain ⟨dd, key⟩ : ∃ dd, ∀ u v : Value, Op.equal t u v = Op.equalIn (dd + 1) t u v := ⟨9999, fun u v => rfl⟩
    split at h <;> first | (cases h; done) | skip
    all_goals
      have hd := Option.some.inj ‹some d = some _›
      subst hd
    case h_11 =>
      cases ha; cases hb
      split at h
      · cases h
        exact ⟨⟨by simp [key, Op.equalIn, hu], rfl⟩, fun s e => (by cases e), fun _ _ => .inl ⟨_, rfl⟩⟩
      · cases h
        exact ⟨⟨by simp [key, Op.equalIn, hu], rfl⟩, fun s e => (by cases e), fun _ _ => .inr ⟨_, rfl⟩⟩
      · cases h
    all_goals
      cases h
      cases ha <;> cases hb <;> exact ⟨⟨by simp [key, Op.equalIn, hu], rfl⟩, fun s e => (by cases e), fun e e' => (by first | (cases e; done) | (cases e'; done))⟩
theorem part_sim (hE : EnvOK E P) {t : TypeId} {cs cs' : List Value} {off : Nat} {v : Value} (hc : All2 (VR β) cs cs') (hp : Ev.part E t cs off = some v) :
    ∃ v', (Go.part t cs'.toArray off).run P w = .ok v' w ∧ VR β v v' := by
  obtain ⟨ag, n, hs, hp2⟩ := pbind_some hp
  obtain ⟨⟨d, hd, hag⟩, hn⟩ := shape_ok hs
  cases ag with
  | true =>
    obtain ⟨hle, h3⟩ := only_some (show only (Nat.ble (off + n) cs.length) _ = some v from hp2)
    cases h3
    refine ⟨.agg (cs'.toArray.extract off (off + n)), by simp [Go.part, run_isAgg hE hd, hag, run_size hE hn], .aggL ?_⟩
    have := (hc.drop off).take n
    simpa [List.extract_eq_take_drop] using this
  | false =>
    obtain ⟨v', h3, r⟩ := hc.get (show cs[off]? = some v from hp2)
    exact ⟨v', by simp [Go.part, run_isAgg hE hd, hag, h3], r⟩
theorem kno_eq {k k' : IntKind} (h : Nat.beq (kno k) (kno k') = true) : k = k' := by cases k <;> cases k' <;> first | rfl | cases h
theorem fieldsEq_run (hE : EnvOK E P) {eq : TypeId → Value → Value → Option Bool} {d : Nat} (hq : ∀ (t : TypeId) (a b a' b' : Value) r, VR β a a' → VR β b b' → eq t a b = some r → (Op.equalIn d t a' b').run P w = .ok r w)
    {xs ys xs' ys' : List Value} (hx : All2 (VR β) xs xs') (hy : All2 (VR β) ys ys') : ∀ (l : List Field) {r : Bool}, fieldsEq eq E xs ys l = some r → (Op.eqFields d xs'.toArray ys'.toArray l).run P w = .ok r w := by
  intro l
  induction l with
  | nil => intro r h; cases h; simp [Op.eqFields]
  | cons f l ih =>
    intro r h
    obtain ⟨h1, h⟩ := only_some h
    obtain ⟨a, h2, h⟩ := obind_some h
    obtain ⟨b, h3, h⟩ := obind_some h
    obtain ⟨q, h4, h⟩ := obind_some h
    obtain ⟨a', h5, r1⟩ := part_sim (P := P) (w := w) hE hx h2
    obtain ⟨b', h6, r2⟩ := part_sim (P := P) (w := w) hE hy h3
    have h7 := hq _ _ _ _ _ _ r1 r2 h4
    have hn : f.name ≠ "_" := by simpa using h1
    unfold Op.eqFields
    rw [if_pos hn]
    simp only [Sem.run_bind, h5, h6, h7, Result.andThen_ok]
    cases q with
    | true => simpa using ih h
    | false => cases h; simp
theorem eqAt_run (hE : EnvOK E P) : ∀ (d : Nat) (t : TypeId) (a b a' b' : Value) (r : Bool), VR β a a' → VR β b b' → eqAt E d t a b = some r → ∀ k, (Op.equalIn (k + d) t a' b').run P w = .ok r w := by
  intro d
  induction d with
  | zero => intro t a b a' b' r _ _ h; cases h
  | succ d ih =>
    intro t a b a' b' r ha hb h k
    unfold eqAt at h
    split at h
    · rename_i hu
      cases h; cases ha; cases hb
      exact run_equalIn_bool w _ _ _ _ (und_ok hE hu)
    · rename_i hu
      cases ha; cases hb
      obtain ⟨h1, h2⟩ := only_some h
      cases h2
      have := kno_eq h1
      subst this
      rw [ieq_eq]
      exact run_equalIn_int w _ _ _ _ _ _ (und_ok hE hu)
    · rename_i p q hu
      cases h; cases ha; cases hb
      rw [bytesEq_eq, show k + (d + 1) = (k + d) + 1 from rfl]
      have := run_equalIn_string w (P := P) (k + d) t p q (und_ok hE hu)
      simpa [ByteArray.toList_eq] using this
    · rename_i fs xs ys hu
      obtain ⟨h1, h2⟩ := only_some h
      obtain ⟨xs', rfl, hx⟩ := ha.of_agg
      obtain ⟨ys', rfl, hy⟩ := hb.of_agg
      have hu := und_ok hE hu
      have hf : P.fieldsOf t = fs := by simp [Program.fieldsOf, hu]
      rw [show k + (d + 1) = (k + d) + 1 from rfl, run_equalIn_struct w (k + d) t xs' ys' (by rw [hf]; exact hu) (hE.calm t h1).1, hf]
      have := fieldsEq_run (w := w) hE (fun t a b a' b' r h1 h2 h3 => ih t a b a' b' r h1 h2 h3 k) hx hy fs.toList h2
      simpa using this
    · cases h
theorem run_equal2 (hE : EnvOK E P) {op : BinOp} (hop : op = .eql ∨ op = .neq) {t : TypeId} {x y : Operand} {a b a' b' : Value} {r : Bool} (ha : VR β a a') (hb : VR β b b') (h : equal2 E x y t a b = some r) :
    ((do eqGuard op t x y a' b'; Go.binOp op t a' b' : Sem Value)).run P w = .ok (.bool (if op = .eql then r else !r)) w := by
  unfold equal2 at h
  split at h
  · obtain ⟨h1, h2⟩ := only_some h
    obtain ⟨xs', rfl, hx⟩ := ha.of_agg
    obtain ⟨ys', rfl, hy⟩ := hb.of_agg
    have h3 := eqAt_run (P := P) (w := w) hE 8 _ _ _ _ _ _ ha hb h2 9992
    have h4 := run_eqGuard_agg (P := P) w op t x y xs' ys' (hE.calm t h1).2
    rcases hop with rfl | rfl
    · simp only [Sem.run_bind, h4, Result.andThen_ok, run_eql_struct, h3]; rfl
    · simp only [Sem.run_bind, h4, Result.andThen_ok, run_neq_struct, h3]; rfl
  · obtain ⟨⟨h3, h6⟩, h4, h5⟩ := run_equal (P := P) (w := w) hE ha hb h
    rcases hop with rfl | rfl
    · simp only [Sem.run_bind, run_eqGuard (P := P) (w := w) h4 h5, Result.andThen_ok, binOp_eql h6, h3, Sem.run_pure]; rfl
    · simp only [Sem.run_bind, run_eqGuard (P := P) (w := w) h4 h5, Result.andThen_ok, binOp_neq h6, h3, Sem.run_pure]; rfl
theorem binOp_sim (hE : EnvOK E P) {op : BinOp} {t : TypeId} {x y : Operand} {a b a' b' : Value} {v : Value} (ha : VR β a a') (hb : VR β b b') (h : binOp E op t x y a b = some v) :
    ((do eqGuard op t x y a' b'; Go.binOp op t a' b' : Sem Value)).run P w = .ok v w ∧ bare v = true := by
  unfold binOp at h
  split at h
  · rename_i k m k' n
    cases ha; cases hb
    obtain ⟨h1, h2⟩ := intOp_run (P := P) (w := w) (t := t) h
    have hg := run_eqGuard (P := P) (w := w) (op := op) (t := t) (x := x) (y := y) (a := .int k m) (b := .int k' n) (fun s e => by cases e) (fun e => by cases e)
    exact ⟨by simp only [Sem.run_bind, hg, Result.andThen_ok, h1], h2⟩
  · rename_i m n
    cases ha; cases hb
    obtain ⟨h1, h2⟩ := strOp_run (P := P) (w := w) (t := t) h
    have hg := run_eqGuard (P := P) (w := w) (op := op) (t := t) (x := x) (y := y) (a := .string m) (b := .string n) (fun s e => by cases e) (fun e => by cases e)
    exact ⟨by simp only [Sem.run_bind, hg, Result.andThen_ok, h1], h2⟩
  · unfold otherOp at h
    split at h
    · obtain ⟨r, h1, h2⟩ := obind_some h
      cases h2
      exact ⟨run_equal2 hE (.inl rfl) ha hb h1, rfl⟩
    · obtain ⟨r, h1, h2⟩ := obind_some h
      cases h2
      exact ⟨run_equal2 hE (.inr rfl) ha hb h1, rfl⟩
    · cases h
end Go.Ev
/- The operations, one by one. -/
namespace Go.Ev
variable {E : Env} {β β' : Bond} {s s' : AS} {w w' : World} {P : Program}

inductive ResOK (β : Bond) : Option Value → Next → Prop
  | value {v v' : Value} (h : VR β v v') : ResOK β (some v) (.value v')
  | skip : ResOK β none .skip
/-- The program's side does as the evaluator's. -/
def Did (E : Env) (P : Program) (β : Bond) (s : AS) (w : World) (s' : AS) (x : Sem Next) (r : Option Value) : Prop :=
  ∃ res w' β', x.run P w = .ok res w' ∧ ResOK β' r res ∧ Post E β s w β' s' w'
theorem Did.val (h : Sim E β s w) {y : Sem Value} {v v' : Value} (hr : y.run P w = .ok v' w) (hv : VR β v v') : Did E P β s w s (do pure (.value (← y))) (some v) :=
  ⟨_, w, β, by simp only [Sem.run_bind, hr, Result.andThen_ok, Sem.run_pure], .value hv, .refl h⟩
theorem val_some {v : Option Value} {r : Option Value × AS} (h : val v s = some r) : ∃ u, v = some u ∧ r = (some u, s) := by
  obtain ⟨u, h1, h2⟩ := obind_some h
  cases h2
  exact ⟨u, h1, rfl⟩

section
variable {nt : Nat} {t : Fr} {a : Act} (h : Sim E β s w) (ht : TR β nt t a.tmps)
include h ht
theorem aval_sim {x : Operand} {v : Value} (hx : aval E t x = some v) : VR β v (a.eval x) := by
  cases x with
  | tmp i =>
    obtain ⟨v', h1, r⟩ := ht.get i v hx
    show VR β v (a.tmps.getD i undef)
    rw [Array.getD_eq_getD_getElem?, h1]; exact r
  | const c =>
    obtain ⟨h1, h2⟩ := only_some (show only (plain 6 c) (some c) = some v from hx)
    cases h2
    exact .plain h1
  | global g =>
    obtain ⟨h1, h2⟩ := only_some (show only (Nat.ble (Nat.succ g) E.ng && !E.isLaid g) _ = some v from hx)
    cases h2
    rw [Bool.and_eq_true, Bool.not_eq_true'] at h1
    have := VR.ptr (o := 0) (h.glob g (le_of_ble h1.1) h1.2)
    exact this
  | func f =>
    cases hx
    exact .func f rfl rfl (fun i v v' hv => by simp at hv) (fun i v v' hv => by simp at hv)
theorem avals_sim {l : List Operand} {vs : List Value} (hx : avals E t l = some vs) : All2 (VR β) vs (l.map a.eval) := by
  induction l generalizing vs with
  | nil => cases hx; exact .nil
  | cons x l ih =>
    obtain ⟨v, h1, h2⟩ := obind_some (show obind (aval E t x) _ = some vs from hx)
    obtain ⟨us, h3, h4⟩ := obind_some h2
    cases h4
    exact .cons (aval_sim h ht h1) (ih h3)
theorem pairs_sim {l : List (Nat × Operand)} {vs : List (Nat × Value)} (hx : pairsOf E t l = some vs) : All2 (fun p q => p.1 = q.1 ∧ VR β p.2 q.2) vs (l.map fun p => (p.1, a.eval p.2)) := by
  induction l generalizing vs with
  | nil => cases hx; exact .nil
  | cons x l ih =>
    obtain ⟨v, h1, h2⟩ := obind_some (show obind (aval E t x.2) _ = some vs from hx)
    obtain ⟨us, h3, h4⟩ := obind_some h2
    cases h4
    exact .cons ⟨rfl, aval_sim h ht h1⟩ (ih h3)
end

/-! New variables. -/
theorem rowAt_sim (h : Sim E β s w) (t : TypeId) {vs vs' : List Value} (hv : All2 (VR β) vs vs') (h1 : allOne vs = true) :
    Post E β s w (upd β s.next (w.heap.size, 0, none)) (rowAt s t vs) (push w (.cells vs'.toArray t)) := by
  have hext : Ext β (upd β s.next (w.heap.size, 0, none)) := .upd (h.unset (Nat.le_refl _))
  exact Post.made h (.cells rfl (fun N z e => by cases e) (fun _ => ⟨rfl, by simp [hv.len]⟩) (by simp [hv.len]) (fun i v hi hg => by
    rw [get_ofList, if_pos (by omega)] at hg
    obtain ⟨v', h2, r⟩ := hv.get (show vs[i]? = some v by simpa using hg)
    exact ⟨v', by simpa using h2, r.ext hext, allOne_get h1 (show vs[i]? = some v by simpa using hg)⟩) (fun k _ _ h2 => by simp at h2)) (fun f rel n e => by cases e)
theorem newVar_sim (h : Sim E β s w) {t : TypeId} {vs : List Value} {v' : Value} {r : Option Value × AS} (hv : All2 (VR β) vs v'.cells.toList) (hr : Ev.newVar s t vs = some r) :
    ∃ β', (Go.newVar t v').run P w = .ok ⟨w.heap.size, 0, none⟩ (push w (.cells v'.cells t)) ∧ Post E β s w β' r.2 (push w (.cells v'.cells t)) ∧ ∃ u, r.1 = some u ∧ VR β' u (.pointer (some ⟨w.heap.size, 0, none⟩)) := by
  obtain ⟨h1, h2⟩ := only_some hr
  cases h2
  have p := rowAt_sim h t hv h1
  exact ⟨_, by simp [Go.newVar, Go.newRow, newObj, Sem.run, push], by simpa using p, _, rfl, .ptr (sh := 0) 0 (upd_eq _ _ _)⟩

/-! Parts. -/
theorem field_sim (hE : EnvOK E P) {t : TypeId} {x x' : Value} {i : Nat} {v : Value} (hx : VR β x x') (hf : Ev.field E t x i = some v) :
    ∃ v', (Instr.field t x' i).run P w = .ok v' w ∧ VR β v v' := by
  obtain ⟨f, h1, h2⟩ := obind_some hf
  unfold Env.fieldOf at h1
  split at h1
  · rename_i fs hu
    split at h2
    · rename_i cs
      obtain ⟨cs', rfl, hc⟩ := hx.of_agg
      obtain ⟨v', h3, r⟩ := part_sim (P := P) (w := w) hE hc h2
      exact ⟨v', by simp [Instr.field, run_und hE hu, show fs[i]? = some f by simpa using h1, asAgg]; simpa using h3, r⟩
    · cases h2
  · cases h1
theorem fieldAddr_sim (hE : EnvOK E P) {t : TypeId} {x x' : Value} {i : Nat} {v : Value} (hx : VR β x x') (hf : Ev.fieldAddr E t x i = some v) :
    ∃ v', (Instr.fieldAt t x' i).run P w = .ok v' w ∧ VR β v v' := by
  obtain ⟨n, h1, h2⟩ := obind_some hf
  obtain ⟨f, h3, h4⟩ := obind_some h1
  obtain ⟨z, h5, h6⟩ := obind_some h4
  obtain ⟨h7, h8⟩ := only_some h6
  cases h8
  have h7 : 1 ≤ z := le_of_ble h7
  unfold Env.fieldOf at h3
  split at h3
  · rename_i fs hu
    unfold ptr at h2
    split at h2
    · rename_i b o
      cases h2
      cases hx with
      | ptr _ hb =>
        refine ⟨_, ?_, .ptr (Nat.add o f.offset) hb⟩
        simp [Instr.fieldAt, run_und hE hu, show fs[i]? = some f by simpa using h3, Instr.sureAddr, fieldPlace, run_size hE h5, show ¬ z = 0 by omega, add_addr, Nat.add_assoc]
    · cases h2
  · cases h3
theorem nat_some {v : Value} {n : Nat} (h : nat v = some n) : ∃ k, v = .int k (n : Int) := by
  unfold nat at h
  split at h
  · cases h; exact ⟨_, rfl⟩
  · cases h
theorem idx_some {v : Value} {n k : Nat} (h : idx v n = some k) : k < n ∧ ∃ kk, v = .int kk (k : Int) := by
  obtain ⟨i, h1, h2⟩ := obind_some h
  obtain ⟨h3, h4⟩ := only_some h2
  cases h4
  exact ⟨le_of_ble h3, nat_some h1⟩
theorem indexAddr_sim (hE : EnvOK E P) {t : TypeId} {x x' i i' : Value} {v : Value} (hx : VR β x x') (hi : VR β i i') (hf : Ev.indexAddr E t x i = some v) :
    ∃ v', (Instr.indexAt t x' i').run P w = .ok v' w ∧ VR β v v' := by
  obtain ⟨n, z, h1, h2⟩ := pbind_some hf
  unfold Env.elemOf at h1
  split at h1
  · rename_i n0 e hu
    obtain ⟨z0, h3, h4⟩ := obind_some h1
    cases h4
    simp only at h2
    unfold ptr at h2
    split at h2
    · rename_i b o
      obtain ⟨k, h5, h6⟩ := obind_some h2
      cases h6
      obtain ⟨hk, kk, rfl⟩ := idx_some h5
      cases hi
      cases hx with
      | ptr _ hb =>
        refine ⟨_, ?_, .ptr (Nat.add o (Nat.mul k z)) hb⟩
        simp [Instr.indexAt, asIntOf, run_und hE hu, Instr.sureAddr, hk, run_size hE h3, add_addr, Nat.add_assoc]
    · cases h2
  · rename_i e hu
    obtain ⟨z0, h3, h4⟩ := obind_some h1
    cases h4
    simp only at h2
    unfold inSlice at h2
    split at h2
    · rename_i b o len cap
      obtain ⟨k, h5, h6⟩ := obind_some h2
      cases h6
      obtain ⟨hk, kk, rfl⟩ := idx_some h5
      cases hi
      cases hx with
      | slice _ _ hb =>
        refine ⟨_, ?_, .ptr (Nat.add o (Nat.mul k z)) hb⟩
        simp [Instr.indexAt, asIntOf, run_und hE hu, hk, run_size hE h3, add_addr, Nat.add_assoc]
      | tail => omega
    · cases h2
  · cases h1
theorem index_sim (hE : EnvOK E P) {t : TypeId} {x x' i i' : Value} {v : Value} (hx : VR β x x') (hi : VR β i i') (hf : Ev.index E t x i = some v) :
    ∃ v', (Instr.index t x' i').run P w = .ok v' w ∧ VR β v v' := by
  unfold Ev.index at hf
  split at hf
  · rename_i n e cs hu
    obtain ⟨k, h5, h6⟩ := obind_some hf
    obtain ⟨z, h7, h8⟩ := obind_some h6
    obtain ⟨hk, kk, rfl⟩ := idx_some h5
    cases hi
    obtain ⟨cs', rfl, hc⟩ := hx.of_agg
    obtain ⟨v', h3, r⟩ := part_sim (P := P) (w := w) hE hc h8
    refine ⟨v', ?_, r⟩
    simp [Instr.index, asIntOf, run_und hE hu, hk, run_size hE h7]
    simpa using h3
  · rename_i b hu
    obtain ⟨k, h5, h6⟩ := obind_some hf
    obtain ⟨c, h7, h8⟩ := obind_some h6
    cases h8
    obtain ⟨hk, kk, rfl⟩ := idx_some h5
    cases hi
    cases hx
    refine ⟨_, ?_, .int .u8 _⟩
    have : b[k]? = some c := by
      have h9 : k < b.size := hk
      rw [getElem?_pos b k h9]
      have h7 : b.data[k]? = some c := by simpa using h7
      rw [Array.getElem?_eq_getElem h9] at h7
      exact h7
    simp [Instr.index, asIntOf, run_und hE hu, this]
  · cases hf
end Go.Ev
/- Slices of slices; composite values. -/
namespace Go.Ev
variable {E : Env} {β β' : Bond} {s s' : AS} {w w' : World} {P : Program}

inductive OR (β : Bond) : Option Value → Option Value → Prop
  | none : OR β none none
  | some {v v' : Value} (h : VR β v v') : OR β (some v) (some v')
theorem bound_run {v v' : Option Value} {d top top' n : Nat} {code : BoundsCode} (hv : OR β v v') (ht : top ≤ top') (h : bound v d top = some n) :
    (match v' with | some v => Instr.sliceBound v top' code | none => (pure d : Sem Nat)).run P w = .ok n w ∧ (v = none → n = d) := by
  cases hv with
  | none => cases h; exact ⟨rfl, fun _ => rfl⟩
  | some hv =>
    obtain ⟨i, h1, h2⟩ := obind_some (show obind _ _ = Option.some n from h)
    obtain ⟨h3, h4⟩ := only_some h2
    cases h4
    have h3 := le_of_ble h3
    obtain ⟨k, rfl⟩ := nat_some h1
    cases hv
    refine ⟨?_, fun e => by cases e⟩
    simp [Instr.sliceBound, asIntOf]
    intro h9
    omega
theorem bounds_run {lo hi mx lo' hi' mx' : Option Value} {len cap cap' l hh m : Nat} {isS : Bool} (hlo : OR β lo lo') (hhi : OR β hi hi') (hmx : OR β mx mx') (hc : cap ≤ cap') (h : bounds lo hi mx len cap = some (l, hh, m)) :
    ∃ m', (Instr.sliceBounds isS len cap' lo' hi' mx').run P w = .ok (l, hh, m') w ∧ m ≤ m' ∧ l ≤ hh ∧ hh ≤ m ∧ (cap = cap' → m' = m) ∧ (mx ≠ none → m' = m) ∧ m' ≤ cap' := by
  obtain ⟨h0, h⟩ := only_some h
  obtain ⟨m1, h1, h⟩ := obind_some h
  obtain ⟨h2, h3, h⟩ := obind_some h
  obtain ⟨l1, h4, h⟩ := obind_some h
  obtain ⟨h5, h6⟩ := only_some h
  cases h6
  simp only [Bool.and_eq_true] at h5
  have h51 := le_of_ble h5.1
  have h52 := le_of_ble h5.2
  have r4 := bound_run (P := P) (w := w) (code := if mx'.isSome then .slice3C else .sliceB) hlo (Nat.le_refl hh) h4
  cases hmx with
  | none =>
    cases h1
    have r3 := bound_run (P := P) (w := w) (code := if isS then .sliceAcap else .sliceAlen) hhi hc h3
    refine ⟨cap', ?_, hc, h52, h51, fun e => e.symm, fun e => absurd rfl e, Nat.le_refl _⟩
    cases hhi with
    | none =>
      cases hlo with
      | none => cases h3; cases h4; simp [Instr.sliceBounds]
      | some hlo =>
        cases h3
        have := r4.1
        simp at this
        simp [Instr.sliceBounds, this]
    | some hhi =>
      have r31 := r3.1
      simp only at r31
      cases hlo with
      | none => cases h4; simp [Instr.sliceBounds, r31]
      | some hlo =>
        have := r4.1
        simp at this
        simp [Instr.sliceBounds, this, r31]
  | some hmx =>
    have r1 := bound_run (P := P) (w := w) (d := cap) (code := if isS then .slice3Acap else .slice3Alen) (.some hmx) hc h1
    have hm : m ≤ cap := by
      obtain ⟨i, h8, h9⟩ := obind_some (show obind _ _ = some m from h1)
      obtain ⟨h10, h11⟩ := only_some h9
      cases h11
      exact le_of_ble h10
    have r3 := bound_run (P := P) (w := w) (code := .slice3B) hhi (Nat.le_refl m) h3
    refine ⟨m, ?_, Nat.le_refl _, h52, h51, fun _ => rfl, fun _ => rfl, Nat.le_trans hm hc⟩
    have r11 := r1.1
    simp only at r11
    cases hhi with
    | none => simp at h0
    | some hhi =>
      have r31 := r3.1
      simp only at r31
      cases hlo with
      | none => cases h4; simp [Instr.sliceBounds, r11, r31]
      | some hlo =>
        have := r4.1
        simp at this
        simp [Instr.sliceBounds, this, r11, r31]
theorem slice_sim (hE : EnvOK E P) (h : Sim E β s w) {t : TypeId} {x x' : Value} {lo hi mx lo' hi' mx' : Option Value} {v : Value} (hx : VR β x x') (hlo : OR β lo lo') (hhi : OR β hi hi') (hmx : OR β mx mx') (hf : Ev.slice E s t x lo hi mx = some v) :
    ∃ v', (Instr.sliceAt t x' lo' hi' mx').run P w = .ok v' w ∧ VR β v v' := by
  unfold Ev.slice at hf
  split at hf
  · rename_i hu
    unfold sliceStr at hf
    split at hf
    · obtain ⟨h1, hf⟩ := only_some hf
      obtain ⟨l, p, h2, hf⟩ := pbind_some hf
      cases hf
      cases hx
      obtain ⟨m', hr, _⟩ := bounds_run (P := P) (w := w) (isS := false) hlo hhi .none (Nat.le_refl _) h2
      cases hmx with
      | some _ => simp at h1
      | none => exact ⟨_, by simp [Instr.sliceAt, run_und hE hu, Instr.slice, hr], .string _⟩
    · cases hf
  · rename_i e hu
    obtain ⟨z, hz, hf⟩ := obind_some hf
    unfold sliceS at hf
    split at hf
    · rename_i len cap
      obtain ⟨l, ⟨hh, m⟩, h2, hf⟩ := pbind_some hf
      cases hf
      cases hx
      obtain ⟨m', hr, hm1, hl, hhm, hm2, _⟩ := bounds_run (P := P) (w := w) (isS := true) hlo hhi hmx (Nat.le_refl _) h2
      have := hm2 rfl
      subst this
      refine ⟨_, ?_, .nilSlice (hh - l) (m' - l)⟩
      simp [Instr.sliceAt, run_und hE hu, Instr.slice, hr, run_size hE hz]
    · rename_i b o len cap hfx
      obtain ⟨l, ⟨hh, m⟩, h2, hf⟩ := pbind_some hf
      obtain ⟨n, tb, e', fro, fam, hbc, hf⟩ := inCells_some (show inCells _ _ = some v from hf)
      cases hx with
      | slice _ _ hb hm hg hN =>
        rename_i c sh cap' g
        obtain ⟨m', hr, hm1, hl, hhm, hm2, hm3, hm4⟩ := bounds_run (P := P) (w := w) (isS := true) hlo hhi hmx hm h2
        obtain ⟨arr, fro', ha, hg0, hN0, hz0, hn0, hc0, hfr0⟩ := h.row hb hbc
        have run : (Instr.sliceAt t (.slice (some ⟨c, sh + o, none⟩) len cap') lo' hi' mx').run P w = .ok (.slice (some (if m' = l then ⟨c, sh + o, none⟩ else ⟨c, sh + o + l * z, none⟩)) (hh - l) (m' - l)) w := by
          by_cases e : m' = l
          · simp [Instr.sliceAt, run_und hE hu, Instr.slice, hr, run_size hE hz, e]
          · simp [Instr.sliceAt, run_und hE hu, Instr.slice, hr, run_size hE hz, e, add_addr]
        refine ⟨_, run, ?_⟩
        cases fam with
        | none =>
          have hgn : g = none := by cases g with | none => rfl | some G => cases hg0
          subst hgn
          have := hm2 (hg rfl).symm
          subst this
          cases hf
          by_cases e : m' = l
          · rw [if_pos e, show Nat.beq m' l = true by rw [e]; exact Nat.beq_refl l]
            exact .slice _ _ hb (Nat.le_refl _) (fun _ => rfl) (fun N z e => by cases e)
          · rw [if_neg e, show Nat.beq m' l = false from Bool.eq_false_iff.2 fun e' => e (eq_of_beq e'), Nat.add_assoc]
            exact .slice _ _ hb (Nat.le_refl _) (fun _ => rfl) (fun N z e => by cases e)
        | some q =>
          obtain ⟨hee, hf5⟩ := only_some (show only (Nat.beq e e') _ = some v from hf)
          clear hf
          have := eq_of_beq hee
          subst this
          cases hf5
          obtain ⟨⟨N, z1⟩, rfl⟩ : ∃ G, g = some G := by cases g with | none => cases hg0 | some G => exact ⟨G, rfl⟩
          obtain ⟨hsN, hz1⟩ := hN0 N z1 rfl
          rw [hz] at hz1; cases hz1
          by_cases e : m' = l
          · rw [if_pos e]
            have e1 : Nat.sub hh l = 0 := by show hh - l = 0; omega
            have e2 : Nat.sub m l = 0 := by show m - l = 0; omega
            have e3 : hh - l = 0 := by omega
            have e4 : m' - l = 0 := by omega
            rw [e1, e2, e3, e4]
            exact .tail _ hb
          · rw [if_neg e, Nat.add_assoc]
            refine .slice (o + l * z) (hh - l) hb (show m - l ≤ m' - l by omega) (fun e => by cases e) (fun N' z' e => ?_)
            cases e
            have := hN N z rfl
            have h9 : l * z + (m' - l) * z = m' * z := by rw [← Nat.add_mul]; congr 1; omega
            have h10 : m' * z ≤ cap' * z := Nat.mul_le_mul_right _ hm4
            omega
      | tail _ hb =>
        rename_i c sh c' o' G
        obtain ⟨m', hr, hm1, hl, hhm, hm2, hm3, hm4⟩ := bounds_run (P := P) (w := w) (isS := true) hlo hhi hmx (Nat.le_refl _) h2
        have : m' = 0 := by omega
        subst this
        have : m = 0 := by omega
        subst this
        have : hh = 0 := by omega
        subst this
        have : l = 0 := by omega
        subst this
        refine ⟨.slice (some ⟨c', o', none⟩) 0 0, by simp [Instr.sliceAt, run_und hE hu, Instr.slice, hr, run_size hE hz], ?_⟩
        cases fam with
        | none => cases hf; exact .tail _ hb
        | some q => obtain ⟨_, hf⟩ := only_some (show only _ _ = some v from hf); cases hf; exact .tail _ hb
    · cases hf
  · rename_i n e hu
    obtain ⟨z, hz, hf⟩ := obind_some hf
    obtain ⟨l, ⟨hh, m⟩, h2, hf⟩ := pbind_some hf
    unfold ptr at hf
    split at hf
    · rename_i b o hq1 hq2
      obtain ⟨n0, tb, e', fro, fam, hbc, hf⟩ := inCells_some (show inCells _ _ = some v from hf)
      obtain ⟨hfm, hf⟩ := only_some hf
      cases hf
      cases hx with
      | ptr _ hb =>
        rename_i c sh g
        obtain ⟨m', hr, hm1, hl, hhm, hm2, hm3, hm4⟩ := bounds_run (P := P) (w := w) (isS := false) hlo hhi hmx (Nat.le_refl _) h2
        have := hm2 rfl
        subst this
        obtain ⟨arr, fro', ha, hg0, _⟩ := h.row hb hbc
        have hgn : g = none := by
          cases g with
          | none => rfl
          | some G => cases fam with | none => cases hg0 | some q => cases hfm
        subst hgn
        by_cases e : m' = l
        · refine ⟨.slice (some ⟨c, sh + o, none⟩) (hh - l) 0, by simp [Instr.sliceAt, run_und hE hu, Instr.sureAddr, hr, run_size hE hz, e], ?_⟩
          rw [show Nat.beq m' l = true by rw [e]; exact Nat.beq_refl l]
          have e1 : Nat.sub m' l = 0 := by show m' - l = 0; omega
          rw [e1]
          exact .slice _ _ hb (Nat.le_refl _) (fun _ => rfl) (fun N z e => by cases e)
        · refine ⟨.slice (some ⟨c, sh + o + l * z, none⟩) (hh - l) (m' - l), by simp [Instr.sliceAt, run_und hE hu, Instr.sureAddr, hr, run_size hE hz, e, add_addr], ?_⟩
          rw [show Nat.beq m' l = false from Bool.eq_false_iff.2 fun e' => e (eq_of_beq e'), Nat.add_assoc]
          exact .slice _ _ hb (Nat.le_refl _) (fun _ => rfl) (fun N z e => by cases e)
    · cases hf
  · cases hf
end Go.Ev
/- Composite values; rows of zeros. -/
namespace Go.Ev
variable {E : Env} {β β' : Bond} {s s' : AS} {w w' : World} {P : Program}

/-- Cells that stand for an array's. -/
def CR (β : Bond) (n : Nat) (c : Tr Value) (arr : Array Value) : Prop := arr.size = n ∧ ∀ i v, i < n → c.get i = some v → ∃ v', arr[i]? = some v' ∧ VR β v v' ∧ oneCell v = true
theorem CR.list {vs vs' : List Value} (hv : All2 (VR β) vs vs') (h1 : allOne vs = true) : CR β vs.length (ofList vs 0 .nil) vs'.toArray :=
  ⟨by simp [hv.len], fun i v hi hg => by
    rw [get_ofList, if_pos (by omega)] at hg
    have hg : vs[i]? = some v := by simpa using hg
    obtain ⟨v', h2, r⟩ := hv.get hg
    exact ⟨v', by simpa using h2, r, allOne_get h1 hg⟩⟩
theorem CR.stored {n : Nat} {c : Tr Value} {arr : Array Value} (h : CR β n c arr) {o : Nat} {vs vs' : List Value} (hv : All2 (VR β) vs vs') (h1 : allOne vs = true) (ho : o + vs.length ≤ n) : CR β n (ofList vs o c) (wrl arr o vs') := by
  refine ⟨by rw [wrl_size, h.1], fun i v hi hg => ?_⟩
  rw [get_ofList] at hg
  rw [wrl_get _ _ _ _ (by rw [← hv.len, h.1]; exact ho), ← hv.len]
  by_cases hc : o ≤ i ∧ i < o + vs.length
  · rw [if_pos hc] at hg
    rw [if_pos hc]
    obtain ⟨v', h2, r⟩ := hv.get hg
    exact ⟨v', h2, r, allOne_get h1 hg⟩
  · rw [if_neg hc] at hg
    rw [if_neg hc]
    exact h.2 i v hi hg
theorem foldl_wrl (o : Nat) : ∀ (l : List Value) (k : Nat) (cs : Array Value), (l.zipIdx k).foldl (fun cs (p : Value × Nat) => cs.setIfInBounds (o + p.2) p.1) cs = wrl cs (o + k) l := by
  intro l
  induction l with
  | nil => intro k cs; rfl
  | cons v l ih => intro k cs; simp only [List.zipIdx_cons, List.foldl_cons, wrl]; rw [ih]; rfl
theorem fill_sim {place : Nat → Option (Nat × Nat)} {n : Nat} : ∀ {ps ps' : List (Nat × Value)} {c c' : Tr Value} {arr : Array Value}, All2 (fun p q => p.1 = q.1 ∧ VR β p.2 q.2) ps ps' → CR β n c arr → Ev.fill place n ps c = some c' →
    ∃ arr', Instr.fill place arr ps' = some arr' ∧ CR β n c' arr' := by
  intro ps
  induction ps with
  | nil => intro ps' c c' arr hp hc h; cases hp; cases h; exact ⟨arr, rfl, hc⟩
  | cons p ps ih =>
    intro ps' c c' arr hp hc h
    cases hp with
    | cons hq hp =>
      rename_i q ps'
      obtain ⟨off, size, h1, h2⟩ := pbind_some (show pbind (place p.1) _ = some c' from h)
      obtain ⟨h3, h4⟩ := only_some h2
      simp only [Bool.and_eq_true] at h3
      have h31 := eq_of_beq h3.1.1
      have h32 : off + size ≤ n := le_of_ble h3.1.2
      have hv := hq.2.parts
      have hsz : q.2.cells.size = size := by rw [parts_size, ← hv.len, h31]
      obtain ⟨arr', h5, h6⟩ := ih hp (hc.stored (o := off) hv h3.2 (by omega)) h4
      refine ⟨arr', ?_, h6⟩
      obtain ⟨i, u⟩ := q
      simp only at hq hsz
      unfold Instr.fill
      rw [← hq.1, h1]
      dsimp only
      rw [if_neg (show ¬ ((decide (u.cells.size ≠ size) || decide (off + u.cells.size > arr.size)) = true) from by
        rw [hc.1, hsz]; simp; omega)]
      have : (u.cells.zipIdx.foldl (fun cs (p : Value × Nat) => cs.setIfInBounds (off + p.2) p.1) arr) = wrl arr off (Ev.parts u) := by
        rw [← parts_eq, ← Array.foldl_toList, Array.toList_zipIdx, foldl_wrl]; rfl
      rw [← h5, ← this]
theorem cellsGo_sim {n : Nat} {c : Tr Value} {arr : Array Value} (h : CR β n c arr) {l : List Value} (hl : cellsGo c n 0 = some l) : All2 (VR β) l arr.toList := by
  obtain ⟨h1, h2⟩ := cellsGo_some hl
  refine .of_get (by rw [h1]; simp [h.1]) fun i a b ha hb => ?_
  have hi : i < n := by rw [← h1]; exact (List.getElem?_eq_some_iff.1 ha).1
  obtain ⟨v', h3, r, _⟩ := h.2 i a hi (by have := h2 i a ha; rwa [Nat.zero_add] at this)
  rw [show arr.toList[i]? = arr[i]? by simp, h3] at hb
  cases hb; exact r
theorem plain_parts {n : Nat} {zv : Value} (h : plain n zv = true) : All2 (VR β) (parts zv) (parts zv) := (VR.plain (β := β) h).parts

theorem sizes_run (hE : EnvOK E P) : ∀ {fs : List Field} {l : List (Nat × Nat)}, sizes E fs = some l → (fs.mapM fun f => Prod.mk f.offset <$> Go.sizeOf f.type).run P w = .ok l w := by
  intro fs
  induction fs with
  | nil => intro l h; cases h; simp
  | cons f fs ih =>
    intro l h
    obtain ⟨n, h1, h2⟩ := obind_some (show obind (E.size f.type) _ = some l from h)
    obtain ⟨r, h3, h4⟩ := obind_some h2
    cases h4
    simp [List.mapM_cons, run_size hE h1, ih h3]
theorem build_sim (hE : EnvOK E P) {t : TypeId} {ps ps' : List (Nat × Value)} {v : Value} (hp : All2 (fun p q => p.1 = q.1 ∧ VR β p.2 q.2) ps ps') (h : Ev.build E t ps = some v) :
    ∃ v', (Instr.build t ps'.toArray).run P w = .ok v' w ∧ VR β v v' := by
  obtain ⟨p, h1, h2⟩ := obind_some h
  obtain ⟨zv, h3, h4⟩ := obind_some h2
  obtain ⟨h5, h6⟩ := only_some h4
  obtain ⟨c, h7, h8⟩ := obind_some h6
  obtain ⟨l, h9, h10⟩ := obind_some h8
  cases h10
  obtain ⟨d, hd, hpl⟩ := obind_some h1
  unfold zeroOk at h5
  simp only [Bool.and_eq_true] at h5
  have hz := run_zero hE h3 w
  obtain ⟨arr', hf, hc⟩ := fill_sim (place := placeAt p) hp (CR.list (plain_parts (β := β) h5.1) h5.2) h7
  have hcells : zv.cells = (parts zv).toArray := by rw [← parts_eq]
  refine ⟨.agg arr', ?_, .aggL (by simpa using cellsGo_sim hc h9)⟩
  unfold placesOf at hpl
  split at hpl
  · rename_i fs
    obtain ⟨L, h11, h12⟩ := obind_some hpl
    cases h12
    have hs := sizes_run (P := P) (w := w) hE h11
    have hpe : (fun x => L[x]?) = placeAt (.str L) := by funext x; rfl
    simp [Instr.build, hz, run_und hE hd, Array.mapM_eq_mapM_toList, hs, hcells, hpe, hf]
  · rename_i n e
    obtain ⟨z, h11, h12⟩ := obind_some hpl
    cases h12
    have hpe : (fun i => some (i * z, z)) = placeAt (.arr z) := by funext x; rfl
    simp [Instr.build, hz, run_und hE hd, run_size hE h11, hcells, hpe, hf]
  · cases hpl

/-! rows of zeros -/
theorem zeros_len (z : List Value) : ∀ n, (zeros z n).length = n * z.length := by
  intro n
  induction n with
  | zero => simp [zeros]
  | succ n ih => simp [zeros, ih, Nat.add_mul, Nat.add_comm]
theorem zeros_get (z : List Value) : ∀ n i, i < n * z.length → (zeros z n)[i]? = z[i % z.length]? := by
  intro n
  induction n with
  | zero => intro i h; simp at h
  | succ n ih =>
    intro i h
    rw [Nat.add_mul, Nat.one_mul] at h
    show (z ++ zeros z n)[i]? = _
    by_cases hi : i < z.length
    · rw [List.getElem?_append_left hi, Nat.mod_eq_of_lt hi]
    · rw [List.getElem?_append_right (by omega), ih _ (by omega), ← Nat.mod_eq_sub_mod (by omega)]
theorem zeros_one {z : List Value} (h : allOne z = true) : ∀ n, allOne (zeros z n) = true := by
  intro n
  induction n with
  | zero => rfl
  | succ n ih => exact allOne_append h ih
theorem zeros_all {z : List Value} (h : All2 (VR β) z z) : ∀ n, All2 (VR β) (zeros z n) (zeros z n) := by
  intro n
  induction n with
  | zero => exact .nil
  | succ n ih => exact h.append ih
/-- The model's row of zeros. -/
theorem zeros_eq {zv : Value} {z : Nat} (hz : (parts zv).length = z) (n : Nat) : (Array.range (n * z)).map (fun i => (if n * z = 0 then #[] else zv.cells)[i % (if n * z = 0 then #[] else zv.cells).size]!) = (zeros (parts zv) n).toArray := by
  have hcells : zv.cells = (parts zv).toArray := by rw [← parts_eq]
  apply Array.ext_getElem?
  intro i
  by_cases hi : i < n * z
  · have hne : ¬ n * z = 0 := by omega
    have hpos : 0 < z := by
      rcases Nat.eq_zero_or_pos z with h | h
      · subst h; simp at hne
      · exact h
    have hlt : i % z < (parts zv).length := by rw [hz]; exact Nat.mod_lt _ hpos
    rw [show (zeros (parts zv) n).toArray[i]? = (zeros (parts zv) n)[i]? from by simp, zeros_get _ _ _ (by rw [hz]; exact hi), hz]
    simp [if_neg hne, hi, hcells, hz]
    rw [List.getElem?_eq_getElem hlt]; rfl
  · have : (zeros (parts zv) n).length ≤ i := by rw [zeros_len, hz]; omega
    rw [show (zeros (parts zv) n).toArray[i]? = (zeros (parts zv) n)[i]? from by simp, List.getElem?_eq_none this]
    simp; omega
end Go.Ev
/- New rows, conversions, texts. -/
namespace Go.Ev
variable {E : Env} {β β' : Bond} {s s' : AS} {w w' : World} {P : Program}

theorem wrap64 {n : Nat} (h : n < 2 ^ 63) : IntKind.i64.wrap (n : Int) = n := wr_small (k := .i64) h
/-- A row that is told by its cells. -/
theorem rowC_sim (h : Sim E β s w) {n : Nat} {c : Tr Value} {arr : Array Value} (e : TypeId) (hc : CR β n c arr) (len : Nat) (cap : Nat) :
    Post E β s w (upd β s.next (w.heap.size, 0, none)) (s.alloc (.cells n c e (0, 0) none)) (push w (.cells arr e)) ∧
    VR (upd β s.next (w.heap.size, 0, none)) (.slice (some ⟨s.next, 0, none⟩) len cap) (.slice (some ⟨w.heap.size, 0, none⟩) len cap) := by
  have hext : Ext β (upd β s.next (w.heap.size, 0, none)) := .upd (h.unset (Nat.le_refl _))
  refine ⟨Post.made h (.cells rfl (fun N z e => by cases e) (fun _ => ⟨rfl, hc.1⟩) (by rw [hc.1]; omega) (fun i v hi hg => ?_) (fun k _ _ h2 => by simp at h2)) (fun f rel n e => by cases e),
    .slice (sh := 0) 0 len (upd_eq _ _ _) (Nat.le_refl _) (fun _ => rfl) (fun N z e => by cases e)⟩
  obtain ⟨v', h2, r, h3⟩ := hc.2 i v hi hg
  exact ⟨v', by rw [Nat.zero_add]; exact h2, r.ext hext, h3⟩
theorem no_zeros {zv : Value} {z n : Nat} (hz : (parts zv).length = z) (h : n * z = 0) : Array.map (fun _ => (default : Value)) (Array.range 0) = (zeros (parts zv) n).toArray := by
  have : (zeros (parts zv) n) = [] := List.length_eq_zero_iff.1 (by rw [zeros_len, hz]; exact h)
  rw [this]; simp
theorem zeroRow_sim {e : TypeId} {n m : Nat} {c : Tr Value} (h : zeroRow E e n = some (c, m)) :
    ∃ z zv, E.size e = some z ∧ E.zero e = some zv ∧ (parts zv).length = z ∧ m = n * z ∧ n * z ≤ 2 ^ 24 ∧ CR β m c (zeros (parts zv) n).toArray := by
  obtain ⟨z, h1, h2⟩ := obind_some h
  obtain ⟨zv, h3, h4⟩ := obind_some h2
  obtain ⟨h5, h6⟩ := only_some h4
  cases h6
  simp only [Bool.and_eq_true] at h5
  have hz := eq_of_beq h5.1.2
  refine ⟨z, zv, h1, h3, hz, rfl, le_of_ble h5.1.1.1, ?_⟩
  have := CR.list (zeros_all (plain_parts (β := β) h5.1.1.2) n) (zeros_one h5.2 n)
  rw [zeros_len, hz] at this
  exact this
theorem buildSlice_sim (hE : EnvOK E P) (h : Sim E β s w) {t e : TypeId} {len sz n : Nat} {ps ps' : List (Nat × Value)} {z c : Tr Value} (hp : All2 (fun p q => p.1 = q.1 ∧ VR β p.2 q.2) ps ps')
    (he : sliceElem E t = some e) (hz : zeroRow E e len = some (z, n)) (hs : E.size e = some sz) (hf : Ev.fill (placeAt (.arr sz)) n ps z = some c) :
    ∃ w' β', (Instr.buildSlice t len ps'.toArray).run P w = .ok (.slice (some ⟨w.heap.size, 0, none⟩) len len) w' ∧ Post E β s w β' (s.alloc (.cells n c e (0, 0) none)) w' ∧
      VR β' (.slice (some ⟨s.next, 0, none⟩) len len) (.slice (some ⟨w.heap.size, 0, none⟩) len len) := by
  obtain ⟨z0, zv, h1, h2, h3, rfl, h5, h6⟩ := zeroRow_sim (β := β) hz
  rw [hs] at h1; cases h1
  obtain ⟨arr, h7, h8⟩ := fill_sim hp h6 hf
  obtain ⟨p, r⟩ := rowC_sim h e h8 len len
  refine ⟨_, _, ?_, p, r⟩
  have hpe : (fun i => some (i * sz, sz)) = placeAt (.arr sz) := by funext x; rfl
  have hze := zeros_eq h3 len
  have hb : ¬ 16777216 < len * sz := by omega
  by_cases h0 : len * sz = 0
  · simp only [Instr.buildSlice, Sem.run_bind, run_und hE (elem_ok he), run_size hE hs, Result.andThen_ok]
    simp [h0, hpe]
    rw [no_zeros h3 h0, h7]
    simp [Go.newRow, newObj, Sem.run, push]
  · simp only [if_neg h0] at hze
    simp only [Instr.buildSlice, Sem.run_bind, run_und hE (elem_ok he), run_size hE hs, Result.andThen_ok]
    simp [h0, hpe, hb, run_zero hE h2]
    rw [hze, h7]
    simp [Go.newRow, newObj, Sem.run, push]
theorem makeRow_sim (hE : EnvOK E P) (h : Sim E β s w) {t e : TypeId} {len cap : Nat} {k k' : IntKind} {r : Option Value × AS} (he : sliceElem E t = some e) (hr : makeRow E s e len cap = some r) :
    ∃ w' β', (Instr.makeSlice t (.int k len) (.int k' cap)).run P w = .ok (.slice (some ⟨w.heap.size, 0, none⟩) len cap) w' ∧ Post E β s w β' r.2 w' ∧ ∃ u, r.1 = some u ∧ VR β' u (.slice (some ⟨w.heap.size, 0, none⟩) len cap) := by
  obtain ⟨i, h1, h2⟩ := obind_some hr
  obtain ⟨h3, h4⟩ := only_some h2
  simp only [Bool.and_eq_true] at h3
  have h31 : len ≤ cap := le_of_ble h3.1
  have h32 : (cap + 1) * (i.bytes + i.size + 1) ≤ 2 ^ 40 := le_of_ble h3.2
  obtain ⟨z, n, h5, h6⟩ := pbind_some h4
  cases h6
  obtain ⟨z0, zv, h7, h8, h9, rfl, _, h10⟩ := zeroRow_sim (β := β) h5
  have hsz : E.size e = some i.size := by unfold Env.size; rw [h1]; rfl
  rw [hsz] at h7; cases h7
  obtain ⟨p, q⟩ := rowC_sim h e h10 len cap
  refine ⟨_, _, ?_, p, _, rfl, q⟩
  have hze := zeros_eq h9 cap
  have hcap : cap + 1 ≤ 2 ^ 40 := Nat.le_trans (by
    have : (cap + 1) * 1 ≤ (cap + 1) * (i.bytes + i.size + 1) := Nat.mul_le_mul_left _ (by omega)
    omega) h32
  have hby : i.bytes * cap ≤ 2 ^ 40 := by
    have : cap * i.bytes ≤ (cap + 1) * (i.bytes + i.size + 1) := Nat.mul_le_mul (by omega) (by omega)
    rw [Nat.mul_comm]; omega
  have w1 := wrap64 (n := len) (by omega)
  have w2 := wrap64 (n := cap) (by omega)
  have c1 : ¬ ((cap : Int) < 0) := by omega
  have c2 : ¬ ((len : Int) < 0) := by omega
  have c3 : ¬ ((cap : Int) < (len : Int)) := by omega
  have c4 : ¬ (281474976710656 : Int) < (i.bytes : Int) * (cap : Int) := by rw [← Int.natCast_mul]; omega
  by_cases h0 : cap * i.size = 0
  · simp [Instr.makeSlice, run_und hE (elem_ok he), asInt, asIntOf, run_info hE h1, w1, w2, c1, c2, c3, c4, run_size hE hsz, h0]
    rw [no_zeros h9 h0]
    simp [Go.newRow, newObj, Sem.run, push]
  · simp only [if_neg h0] at hze
    simp [Instr.makeSlice, run_und hE (elem_ok he), asInt, asIntOf, run_info hE h1, w1, w2, c1, c2, c3, c4, run_size hE hsz, h0, run_zero hE h8]
    rw [hze]
    simp [Go.newRow, newObj, Sem.run, push]
end Go.Ev
