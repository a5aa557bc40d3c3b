/- What code leaves of the evaluator's own memory. -/
import Derived.Test.YtgglmmipdfcbpaaDoorEvC1
namespace Go.Ev
variable {E : Env} {s s' : AS}

theorem after_some {r : Out} {k : Act'} {e : AExit → Act'} {x : AExit × Fr × List Nat × AS} (h : after r k e = some x) :
    ∃ ex t d s, r = some (ex, t, d, s) ∧ ((ex = .normal ∧ k t d s = some x) ∨ (ex ≠ .normal ∧ e ex t d s = some x)) := by
  cases r with
  | none => cases h
  | some p =>
    obtain ⟨ex, t, d, s⟩ := p
    cases ex with
    | normal => exact ⟨_, t, d, s, rfl, .inl ⟨rfl, h⟩⟩
    | exit id => exact ⟨_, t, d, s, rfl, .inr ⟨by simp, h⟩⟩
    | ret => exact ⟨_, t, d, s, rfl, .inr ⟨by simp, h⟩⟩
/-- The marks of memory stand below its end. -/
def Low (s : AS) : Prop := s.mark ≤ s.next
theorem aopsD_kept {H : Hand} (hH : HandKept H) {nt : Nat} {all : Array Oper} : ∀ (l : List Oper) {bs : List Nat} {i : Nat} {p : Past} {t : Fr} {s : AS} {r : Fr × AS}, aopsD E H nt all l bs i p t s = some r → Kept s r.2 := by
  intro l
  induction l with
  | nil => intro bs i p t s r h; cases h; exact .refl s
  | cons o l ih =>
    intro bs i p t s r h
    cases bs with
    | nil => cases h
    | cons b bs =>
      obtain ⟨g, _, h⟩ := obind_some (show obind (wanted all t o.guard) _ = some r from h)
      cases g with
      | false =>
        simp only [cond_false] at h
        obtain ⟨t', _, h⟩ := obind_some h
        exact ih h
      | true =>
        simp only [cond_true] at h
        obtain ⟨v, s1, h1, h⟩ := pbind_some h
        obtain ⟨t', _, h⟩ := obind_some h
        obtain ⟨p', _, h⟩ := obind_some h
        exact (Kept.out (aop_kept hH h1)).trans (ih h)
theorem invokeF_kept {H : Hand} (hH : HandKept H) {f : Value} {args : List Value} {r : Value × AS} (hr : invokeF H f args s = some r) : Kept s r.2 := by
  unfold invokeF at hr
  split at hr
  · exact hH.call _ _ _ _ hr
  · cases hr
theorem overAt_kept {l : Nat} {dl : List Nat} {t : Fr} {d : List Nat} {x : AExit × Fr × List Nat × AS} (h : overAt l dl t d s = some x) : Kept s x.2.2.2 := by
  unfold overAt at h
  split at h
  · split at h <;> first | (cases h; done) | (cases h; exact .put _ _ _)
  · cases h
theorem loopN_kept {f : Act'} (hf : ∀ t d s x, f t d s = some x → Kept s x.2.2.2) : ∀ n t d s x, loopN f n t d s = some x → Kept s x.2.2.2 := by
  intro n
  induction n with
  | zero => intro t d s x h; cases h
  | succ n ih =>
    intro t d s x h
    obtain ⟨ex, t1, d1, s1, h1, h2⟩ := after_some (show after (f t d s) (loopN f n) out = some x from h)
    rcases h2 with ⟨_, h2⟩ | ⟨_, h2⟩
    · exact (hf _ _ _ _ h1).trans (ih _ _ _ _ h2)
    · cases h2; have := hf _ _ _ _ h1; exact this
theorem acode_kept {H : Hand} (hH : HandKept H) {nt : Nat} {rnd : Option Nat} (c : Code) : ∀ t d s x, acode E H nt rnd c t d s = some x → Kept s x.2.2.2 := by
  induction c with
  | skip => intro t d s x h; cases h; exact .refl s
  | label l => intro t d s x h; cases h; exact .refl s
  | exit id => intro t d s x h; cases h; exact .refl s
  | ret => intro t d s x h; cases h; exact .refl s
  | goto l => intro t d s x h; cases h
  | refuse y => intro t d s x h; cases h
  | scope b ih => intro t d s x h; cases h
  | region id ops draw =>
    intro t d s x h
    have h : region E H nt ops draw t d s = some x := h
    unfold region at h
    obtain ⟨t', s', h1, h2⟩ := pbind_some h
    cases h2
    cases draw with
    | true => exact aopsD_kept hH _ (show _ from h1)
    | false => exact aops_kept hH _ (show _ from h1)
  | seq a b iha ihb =>
    intro t d s x h
    obtain ⟨ex, t1, d1, s1, h1, h2⟩ := after_some (show after (acode E H nt rnd a t d s) (acode E H nt rnd b) out = some x from h)
    rcases h2 with ⟨_, h2⟩ | ⟨_, h2⟩
    · exact (iha _ _ _ _ h1).trans (ihb _ _ _ _ h2)
    · cases h2; have := iha _ _ _ _ h1; exact this
  | cond y a b iha ihb =>
    intro t d s x h
    have h : branch E y (acode E H nt rnd a) (acode E H nt rnd b) t d s = some x := h
    unfold branch at h
    split at h
    · rename_i c _
      cases c with
      | true => exact iha _ _ _ _ h
      | false => exact ihb _ _ _ _ h
    · cases h
  | block id c ih =>
    intro t d s x h
    obtain ⟨ex, t1, d1, s1, h1, h2⟩ := after_some (show after (acode E H nt rnd c t d s) (out .normal) (inBlock id) = some x from h)
    rcases h2 with ⟨he, h2⟩ | ⟨he, h2⟩
    · subst he; cases h2; have := ih _ _ _ _ h1; exact this
    · cases ex <;> (cases h2; have := ih _ _ _ _ h1; exact this)
  | loop c ih => exact loopN_kept ih H.fuel
  | rangeFunc f ps as bd _ _ =>
    intro t d s x h
    obtain ⟨fv, _, h⟩ := obind_some (show rangeOver E H nt rnd f ps.toList as bd t d s = some x from h)
    obtain ⟨dd, q, h1, h⟩ := pbind_some h
    obtain ⟨v, s2, h2, h3⟩ := pbind_some h
    have k1 : Kept s q.2 := by
      unfold defsOf at h1
      split at h1
      · cases h1; exact .alloc _ _
      · split at h1
        · cases h1; exact .refl s
        · cases h1
    exact (k1.trans (.alloc _ _)).trans ((invokeF_kept hH h2).trans (overAt_kept h3))
theorem takeAll_kept : ∀ (d : List Nat) {s s' : AS}, takeAll d s = some s' → Kept s s' := by
  intro d
  induction d with
  | nil => intro s s' h; cases h; exact .refl s
  | cons r d ih =>
    intro s s' h
    unfold takeAll at h
    split at h
    · exact (Kept.put _ _ _).trans (ih h)
    · cases h
theorem acallF_kept {H : Hand} (hH : HandKept H) {f : FuncId} {args : List Value} {r : Value × AS} (h : acallF E H f args s = some r) : Kept s r.2 := by
  obtain ⟨fn, _, h⟩ := obind_some h
  obtain ⟨c, _, h⟩ := obind_some h
  unfold ended at h
  cases hc : acode E H (Nat.add args.length (Nat.sub fn.ntmps args.length)) none c (ofList args 0 .nil) [] s with
  | none => rw [hc] at h; cases h
  | some p =>
    rw [hc] at h
    have k := acode_kept hH c _ _ _ _ hc
    obtain ⟨ex, t, d, s1⟩ := p
    have fin : leave E fn.results.toList (out .ret) t d s1 = some r → Kept s r.2 := by
      intro h
      obtain ⟨s2, h1, h⟩ := obind_some h
      obtain ⟨vs, h2, h⟩ := obind_some h
      cases h
      exact k.trans (takeAll_kept d h1)
    cases ex with
    | normal => exact fin h
    | ret => exact fin h
    | exit id => cases h
theorem endRound_kept {l : Nat} {e : AExit} {r : Value × AS} (h : endRound l e s = some r) : Kept s r.2 := by
  unfold endRound at h
  split at h
  · split at h <;> (cases h; exact .put _ _ _)
  · cases h
theorem around_kept {H : Hand} (hH : HandKept H) {l : Nat} {args : List Value} {r : Value × AS} (h : around E H l args s = some r) : Kept s r.2 := by
  unfold around at h
  split at h
  · obtain ⟨t1, _, h⟩ := obind_some h
    split at h
    · rename_i t2 s2 hc
      have k1 := acode_kept hH _ _ _ _ _ hc
      unfold bodyOf at h
      split at h
      · split at h
        · rename_i e t3 s3 hb
          have k2 := acode_kept hH _ _ _ _ _ hb
          exact k1.trans ((Kept.put _ _ _).trans (k2.trans (endRound_kept h)))
        · cases h
      · cases h
    · cases h
  · cases h
end Go.Ev
