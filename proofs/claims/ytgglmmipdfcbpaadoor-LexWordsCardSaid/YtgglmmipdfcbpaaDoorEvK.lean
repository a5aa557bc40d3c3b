/- What an operation leaves of the evaluator's own memory. -/
import Derived.Test.YtgglmmipdfcbpaaDoorEvO9
namespace Go.Ev
variable {E : Env} {s s' : AS}

structure HandKept (H : Hand) : Prop where
  call : ∀ f args s r, H.call f args s = some r → Kept s r.2
  round : ∀ l args s r, H.round l args s = some r → Kept s r.2
theorem val_kept {v : Option Value} {r : Option Value × AS} (h : val v s = some r) : Kept s r.2 := by
  obtain ⟨u, _, rfl⟩ := val_some h
  exact .refl s
theorem bif_some {α : Type} {b : Bool} {x y : Option α} {r : α} (h : (bif b then x else y) = some r) : x = some r ∨ y = some r := by
  cases b
  · exact .inr h
  · exact .inl h
theorem append_kept {t : TypeId} {x : Value} {new : List Value} {k : Nat} {r : Value × AS} (hr : append E s t x new k = some r) : Kept s r.2 := by
  unfold append at hr
  split at hr
  · obtain ⟨_, _, hr⟩ := obind_some hr
    obtain ⟨_, _, hr⟩ := obind_some hr
    obtain ⟨_, hr⟩ := only_some hr
    obtain ⟨_, _, hr⟩ := obind_some hr
    obtain ⟨_, hr⟩ := only_some hr
    split at hr
    · rcases bif_some hr with hr | hr
      · obtain ⟨_, hr⟩ := only_some hr
        cases hr; exact .refl s
      · obtain ⟨_, hr⟩ := only_some hr
        cases hr; exact (Kept.alloc s _).trans (.alloc _ _)
    · exact appendTo_kept (v := r.1) (s' := r.2) hr
    · cases hr
  · cases hr
theorem copy_kept {t : TypeId} {x y : Value} {r : Option Value × AS} (hr : copyB E s t x y = some r) : Kept s r.2 := by
  unfold copyB at hr
  split at hr
  · obtain ⟨_, _, hr⟩ := obind_some hr
    obtain ⟨_, _, hr⟩ := obind_some hr
    obtain ⟨_, _, hr⟩ := obind_some hr
    split at hr
    · cases hr; exact .refl s
    · obtain ⟨_, h1, hr⟩ := obind_some hr
      cases hr
      exact store_kept h1
    · cases hr
  · cases hr
theorem builtin_kept {b : Builtin} {ts : List TypeId} {args : List Value} {r : Option Value × AS} (hr : builtin E b ts args s = some r) : Kept s r.2 := by
  unfold builtin at hr
  split at hr
  · exact val_kept hr
  · exact val_kept hr
  · obtain ⟨v, s1, h1, rfl⟩ := vals_some hr
    obtain ⟨e, he, h1⟩ := obind_some h1
    obtain ⟨z, hz, h1⟩ := obind_some h1
    cases z with
    | true =>
      obtain ⟨_, _, h1⟩ := obind_some (show appendZ E s _ e _ _ = some (v, s1) from h1)
      obtain ⟨_, h1⟩ := only_some h1
      obtain ⟨_, _, h1⟩ := obind_some h1
      obtain ⟨_, _, h1⟩ := obind_some h1
      obtain ⟨_, h1⟩ := only_some h1
      exact append_kept h1
    | false =>
      obtain ⟨_, _, h1⟩ := obind_some (show appendV E s _ e _ _ = some (v, s1) from h1)
      obtain ⟨_, _, h1⟩ := obind_some h1
      obtain ⟨_, _, h1⟩ := obind_some h1
      exact append_kept h1
  · exact copy_kept hr
  · obtain ⟨_, hr⟩ := only_some hr
    exact val_kept hr
  · obtain ⟨_, hr⟩ := only_some hr
    exact val_kept hr
  · cases hr
theorem invoke_kept {H : Hand} (hH : HandKept H) {f : Value} {args : List Value} {r : Value × AS} (hr : invoke H f args s = some r) : Kept s r.2 := by
  unfold invoke at hr
  split at hr
  · exact hH.call _ _ _ _ hr
  · exact hH.round _ _ _ _ hr
  · cases hr
theorem newVar_kept {t : TypeId} {vs : List Value} {r : Option Value × AS} (hr : newVar s t vs = some r) : Kept s r.2 := by
  obtain ⟨_, h2⟩ := only_some hr
  cases h2
  exact .alloc _ _
theorem mapUpdate_kept {t : TypeId} {x k v : Value} (hr : mapUpdate E s t x k v = some s') : Kept s s' := by
  unfold mapUpdate at hr
  split at hr
  · split at hr
    · split at hr
      · cases hr; exact .put _ _ _
      · cases hr
    · cases hr
  · cases hr
theorem aop_kept {H : Hand} (hH : HandKept H) {o : Op} {t : Fr} {r : Option Value × AS} (hr : aop o E H t s = some r) : Kept s r.2 := by
  cases o
  case move x => exact val_kept (show val (aval E t x) s = some r from hr)
  case assign x => exact val_kept (show val (aval E t x) s = some r from hr)
  case pick c x y =>
    have hr : oPick c x y E H t s = some r := hr
    unfold oPick at hr
    split at hr <;> first | (cases hr; exact .refl s) | cases hr
  case alloc e =>
    obtain ⟨_, _, hr⟩ := obind_some (show oAlloc e E H t s = some r from hr)
    obtain ⟨_, hr⟩ := only_some hr
    exact newVar_kept hr
  case box e x =>
    obtain ⟨_, _, hr⟩ := obind_some (show oBox e x E H t s = some r from hr)
    exact newVar_kept hr
  case build ty ps =>
    obtain ⟨_, _, hr⟩ := obind_some (show oBuild ty ps E H t s = some r from hr)
    exact val_kept hr
  case buildSlice ty len ps =>
    obtain ⟨_, _, hr⟩ := obind_some (show oBuildSlice ty len ps E H t s = some r from hr)
    obtain ⟨_, _, hr⟩ := obind_some hr
    obtain ⟨_, _, _, hr⟩ := pbind_some hr
    obtain ⟨_, _, hr⟩ := obind_some hr
    obtain ⟨_, _, hr⟩ := obind_some hr
    cases hr
    exact .alloc _ _
  case insert ty m k x =>
    obtain ⟨_, _, hr⟩ := obind_some (show oMapUpdate ty m k x E H t s = some r from hr)
    obtain ⟨_, _, hr⟩ := obind_some hr
    obtain ⟨_, _, hr⟩ := obind_some hr
    obtain ⟨s1, h1, rfl⟩ := nothing_some hr
    exact mapUpdate_kept h1
  case mapUpdate ty m k x =>
    obtain ⟨_, _, hr⟩ := obind_some (show oMapUpdate ty m k x E H t s = some r from hr)
    obtain ⟨_, _, hr⟩ := obind_some hr
    obtain ⟨_, _, hr⟩ := obind_some hr
    obtain ⟨s1, h1, rfl⟩ := nothing_some hr
    exact mapUpdate_kept h1
  case load ty x =>
    obtain ⟨_, _, hr⟩ := obind_some (show oLoad ty x E H t s = some r from hr)
    unfold addr at hr
    split at hr <;> first | exact val_kept hr | cases hr
  case store ty x y =>
    obtain ⟨_, _, hr⟩ := obind_some (show oStore ty x y E H t s = some r from hr)
    unfold addr at hr
    split at hr
    · obtain ⟨_, _, hr⟩ := obind_some hr
      obtain ⟨s1, h1, rfl⟩ := nothing_some hr
      obtain ⟨_, h1⟩ := only_some h1
      obtain ⟨_, _, h1⟩ := obind_some h1
      obtain ⟨_, h1⟩ := only_some h1
      exact store_kept h1
    · cases hr
  case nilCheck x =>
    have hr : oNilCheck x E H t s = some r := hr
    unfold oNilCheck at hr
    split at hr <;> first | (cases hr; exact .refl s) | (cases hr; done)
  case binOp op ty x y yt =>
    obtain ⟨_, _, hr⟩ := obind_some (show oBin op ty x y E H t s = some r from hr)
    obtain ⟨_, _, hr⟩ := obind_some hr
    exact val_kept hr
  case unOp op ty x =>
    have hr : oUn op x E H t s = some r := hr
    unfold oUn at hr
    split at hr <;> first | exact val_kept hr | cases hr
  case convert src dst x =>
    obtain ⟨_, _, hr⟩ := obind_some (show oConvert src dst x E H t s = some r from hr)
    split at hr
    · exact val_kept hr
    · obtain ⟨v1, s1, h1, rfl⟩ := vals_some hr
      obtain ⟨_, _, h1⟩ := obind_some h1
      split at h1
      · obtain ⟨_, _, h1⟩ := obind_some h1
        obtain ⟨_, h1⟩ := only_some h1
        cases h1
        exact (Kept.alloc s _).trans (.alloc _ _)
      · cases h1
    · exact val_kept hr
  case makeInterface ty x =>
    have hr : oIface ty x E H t s = some r := hr
    unfold oIface at hr
    split at hr <;> first | (cases hr; exact .refl s) | cases hr
  case makeFunc fn first captured =>
    have hr : oFunc fn first captured E H t s = some r := hr
    unfold oFunc at hr
    split at hr
    · obtain ⟨_, _, hr⟩ := obind_some hr
      obtain ⟨_, _, hr⟩ := obind_some hr
      cases hr; exact .refl s
    · cases hr
  case makeMap ty rs =>
    obtain ⟨_, hr⟩ := only_some (show oMap ty rs E H t s = some r from hr)
    cases hr
    exact .alloc _ _
  case makeSlice ty l c =>
    obtain ⟨_, _, hr⟩ := obind_some (show oMakeSlice ty l c E H t s = some r from hr)
    obtain ⟨_, _, hr⟩ := obind_some hr
    obtain ⟨_, _, hr⟩ := obind_some hr
    obtain ⟨_, _, hr⟩ := obind_some hr
    obtain ⟨_, _, hr⟩ := obind_some hr
    obtain ⟨_, _, hr⟩ := obind_some hr
    obtain ⟨_, hr⟩ := only_some hr
    obtain ⟨_, _, _, hr⟩ := pbind_some hr
    cases hr
    exact .alloc _ _
  case slice ty x lo hi mx =>
    obtain ⟨_, _, hr⟩ := obind_some (show oSlice ty x lo hi mx E H t s = some r from hr)
    obtain ⟨_, _, hr⟩ := obind_some hr
    obtain ⟨_, _, hr⟩ := obind_some hr
    obtain ⟨_, _, hr⟩ := obind_some hr
    exact val_kept hr
  case fieldAddr ty x f =>
    obtain ⟨_, _, hr⟩ := obind_some (show oFieldAddr ty x f E H t s = some r from hr)
    exact val_kept hr
  case field ty x f =>
    obtain ⟨_, _, hr⟩ := obind_some (show oField ty x f E H t s = some r from hr)
    exact val_kept hr
  case indexAddr ty x i =>
    obtain ⟨_, _, hr⟩ := obind_some (show oIndexAddr ty x i E H t s = some r from hr)
    obtain ⟨_, _, hr⟩ := obind_some hr
    exact val_kept hr
  case index ty x i =>
    obtain ⟨_, _, hr⟩ := obind_some (show oIndex ty x i E H t s = some r from hr)
    obtain ⟨_, _, hr⟩ := obind_some hr
    exact val_kept hr
  case lookup ty x k ok =>
    obtain ⟨_, _, hr⟩ := obind_some (show oLookup ty x k ok E H t s = some r from hr)
    obtain ⟨_, _, hr⟩ := obind_some hr
    exact val_kept hr
  case range ty x =>
    have hr : oRange ty x E H t s = some r := hr
    unfold oRange at hr
    split at hr <;> first | (cases hr; exact .alloc _ _) | cases hr
  case next it str =>
    obtain ⟨_, hr⟩ := only_some (show oNext it str E H t s = some r from hr)
    split at hr
    · split at hr
      · unfold nextStr at hr
        rcases bif_some hr with hr | hr <;> (cases hr; first | exact .put _ _ _ | exact .refl s)
      · cases hr
    · cases hr
  case typeAssert x xt u ok =>
    obtain ⟨_, _, hr⟩ := obind_some (show oAssert x u ok E H t s = some r from hr)
    exact val_kept hr
  case extract x i =>
    have hr : oExtract x i E H t s = some r := hr
    unfold oExtract at hr
    split at hr <;> first | exact val_kept hr | cases hr
  case call c =>
    obtain ⟨args, _, hr⟩ := obind_some (show oCall c E H t s = some r from hr)
    have hr : callOf c.callee c.argTypes.toList args E H t s = some r := hr
    unfold callOf at hr
    split at hr
    · obtain ⟨_, _, hr⟩ := obind_some hr
      obtain ⟨v1, s1, h1, rfl⟩ := vals_some hr
      exact invoke_kept hH h1
    · exact builtin_kept hr
    · cases hr
  all_goals (cases hr)

theorem aops_kept {H : Hand} (hH : HandKept H) {nt : Nat} {all : Array Oper} : ∀ (l : List Oper) {t : Fr} {s : AS} {r : Fr × AS}, aops E H nt all l t s = some r → Kept s r.2 := by
  intro l
  induction l with
  | nil => intro t s r h; cases h; exact .refl s
  | cons o l ih =>
    intro t s r h
    obtain ⟨b, _, h⟩ := obind_some (show obind (wanted all t o.guard) _ = some r from h)
    cases b with
    | false =>
      obtain ⟨t', _, h⟩ := obind_some (show obind (putDst nt t o.dst none) _ = some r from h)
      exact ih h
    | true =>
      obtain ⟨v, s1, h1, h⟩ := pbind_some (show pbind (aop o.op E H t s) _ = some r from h)
      obtain ⟨t', _, h⟩ := obind_some h
      exact (aop_kept hH h1).trans (ih h)
theorem mem_keepBelow {m j : Nat} : ∀ {l w : List Nat}, j ∈ keepBelow m l w ↔ (j ∈ l ∧ j < m) ∨ j ∈ w := by
  intro l
  induction l with
  | nil => intro w; simp [keepBelow]
  | cons i l ih =>
    intro w
    unfold keepBelow
    by_cases h : i < m
    · rw [Nat.ble_eq_true_of_le (show Nat.succ i ≤ m from h)]
      show j ∈ i :: keepBelow m l w ↔ _
      rw [List.mem_cons, ih, List.mem_cons]
      constructor
      · rintro (rfl | ⟨h1, h2⟩ | h1)
        · exact .inl ⟨.inl rfl, h⟩
        · exact .inl ⟨.inr h1, h2⟩
        · exact .inr h1
      · rintro (⟨rfl | h1, h2⟩ | h1)
        · exact .inl rfl
        · exact .inr (.inl ⟨h1, h2⟩)
        · exact .inr (.inr h1)
    · rw [show Nat.ble (Nat.succ i) m = false from Bool.eq_false_iff.2 fun e => h (le_of_ble e)]
      show j ∈ keepBelow m l w ↔ _
      rw [ih, List.mem_cons]
      constructor
      · rintro (⟨h1, h2⟩ | h1)
        · exact .inl ⟨.inr h1, h2⟩
        · exact .inr h1
      · rintro (⟨rfl | h1, h2⟩ | h1)
        · exact absurd h2 h
        · exact .inl ⟨h1, h2⟩
        · exact .inr h1
/-- Out of an operation's own reckoning of what it wrote. -/
theorem Kept.out {s s1 : AS} (h : Kept ⟨s.heap, s.next, s.next, []⟩ s1) : Kept s ⟨s1.heap, s1.next, s.mark, keepBelow s.mark s1.wr s.wr⟩ :=
  ⟨rfl, h.next, fun _ hj => mem_keepBelow.2 (.inr hj), fun j h1 h2 h3 => h.keep j h1 h1 fun e => h3 (mem_keepBelow.2 (.inl ⟨e, h2⟩))⟩
end Go.Ev
