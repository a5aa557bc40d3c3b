/- What operations look at: where the foot is none, or one block, the operation changes nothing, and its answer is told by that block. -/
import Derived.Test.YtgglmmipdfcbpaaDoorEvC5
namespace Go.Ev
variable {E : Env} {s s2 : AS}

/-- Two memories agree on what a value's foot names. -/
def AtFoot (s s2 : AS) (f : Foot) : Prop := ∀ b, f = .one b → s2.heap.get b = s.heap.get b
theorem loadVar_at {ty : TypeId} {a : Addr} (h : s2.heap.get a.block = s.heap.get a.block) : loadVar E s2 ty a = loadVar E s ty a := by
  have h1 : ∀ n, cells s2 a.block a.off n = cells s a.block a.off n := fun n => by
    cases n with
    | zero => rfl
    | succ n => unfold cells; dsimp only; rw [h]
  have h2 : cell s2 a.block a.off = cell s a.block a.off := by unfold cell; rw [h]
  unfold loadVar
  simp only [h1, h2]
theorem lookup_at {ty : TypeId} {x k : Value} {ok : Bool} (h : AtFoot s s2 (footOf (some x))) : lookup E s2 ty x k ok = lookup E s ty x k ok := by
  have h1 : entriesOf s2 x = entriesOf s x := by
    unfold entriesOf
    split
    · rfl
    · rw [h _ rfl]
    · rfl
  unfold lookup
  rw [h1]
theorem lenB_at {ty : TypeId} {x : Value} (h : AtFoot s s2 (footOf (some x))) : lenB E s2 ty x = lenB E s ty x := by
  unfold lenB
  split <;> first | rfl | rw [h _ rfl]
theorem sliceS_at {e : TypeId} {z : Nat} {x : Value} {lo hi mx : Option Value} (h : AtFoot s s2 (footOf (some x))) : sliceS s2 e z x lo hi mx = sliceS s e z x lo hi mx := by
  unfold sliceS
  split
  · rfl
  · rename_i b o len cap
    have := h b rfl
    unfold sliceOf
    rw [this]
  · rfl
theorem sliceArr_at {z : Nat} {x : Value} {l h1 m : Nat} (h : AtFoot s s2 (footOf (some x))) : (ptr x fun b o => sliceArr s2 z b o l h1 m) = ptr x fun b o => sliceArr s z b o l h1 m := by
  unfold ptr
  split
  · rename_i b o
    have := h b rfl
    unfold sliceArr
    dsimp only
    rw [this]
  · rfl
theorem slice_at {t : TypeId} {x : Value} {lo hi mx : Option Value} (h : AtFoot s s2 (footOf (some x))) : slice E s2 t x lo hi mx = slice E s t x lo hi mx := by
  unfold slice
  split
  · rfl
  · simp only [sliceS_at h]
  · simp only [sliceArr_at h]
  · rfl
theorem footOf_any {v : Option Value} (h : footOf v ≠ .any) : ∃ x, v = some x := by
  cases v with
  | none => exact absurd rfl h
  | some x => exact ⟨x, rfl⟩

theorem val_at {u u2 : Option Value} {r : Option Value × AS} (hu : u2 = u) (h : val u s = some r) : r.2 = s ∧ val u2 s2 = some (r.1, s2) := by
  obtain ⟨v, h1, rfl⟩ := val_some h
  subst hu
  refine ⟨rfl, ?_⟩
  rw [h1]
  rfl
theorem val_at2 {u : Option Value} {r : Option Value × AS} (h : val u s = some r) : r.2 = s ∧ val u s2 = some (r.1, s2) := val_at rfl h
theorem obind_at {α β γ : Type} {o : Option α} {f : α → Option β} {g : α → Option γ} {r : β} {Q : Prop} {r2 : γ} (h : obind o f = some r) (hf : ∀ a, o = some a → f a = some r → Q ∧ g a = some r2) : Q ∧ obind o g = some r2 := by
  obtain ⟨a, h1, h2⟩ := obind_some h
  obtain ⟨q, h3⟩ := hf a h1 h2
  exact ⟨q, by rw [h1]; exact h3⟩

theorem aop_foot {H : Hand} {o : Op} {t : Fr} {r : Option Value × AS} (hf : foot E t o ≠ .any) (hb : AtFoot s s2 (foot E t o)) (h : aop o E H t s = some r) : r.2 = s ∧ aop o E H t s2 = some (r.1, s2) := by
  cases o with
  | move x => exact val_at2 (show val (aval E t x) s = some r from h)
  | assign x => exact val_at2 (show val (aval E t x) s = some r from h)
  | pick c a b =>
    have h : oPick c a b E H t s = some r := h
    show _ ∧ oPick c a b E H t s2 = _
    unfold oPick at h ⊢
    split at h
    · cases h; exact ⟨rfl, rfl⟩
    · cases h
  | build ty ps => exact obind_at (show obind (pairsOf E t ps.toList) _ = some r from h) fun a _ h => val_at2 h
  | nilCheck x =>
    have h : oNilCheck x E H t s = some r := h
    show _ ∧ oNilCheck x E H t s2 = _
    unfold oNilCheck at h ⊢
    split at h
    · cases h
    · cases h
    · cases h
    · cases h
    · cases h; exact ⟨rfl, rfl⟩
    · cases h
  | binOp op ty x y p => exact obind_at (show obind (aval E t x) _ = some r from h) fun a _ h => obind_at h fun b _ h => val_at2 h
  | unOp op ty x =>
    have h : oUn op x E H t s = some r := h
    show _ ∧ oUn op x E H t s2 = _
    unfold oUn at h ⊢
    split at h
    · exact val_at2 h
    · exact val_at2 h
    · cases h
  | makeInterface ty x =>
    have h : oIface ty x E H t s = some r := h
    show _ ∧ oIface ty x E H t s2 = _
    unfold oIface at h ⊢
    split at h
    · cases h
    · cases h; exact ⟨rfl, rfl⟩
    · cases h
  | makeFunc fn first captured =>
    have h : oFunc fn first captured E H t s = some r := h
    show _ ∧ oFunc fn first captured E H t s2 = _
    unfold oFunc at h ⊢
    split at h
    · exact obind_at h fun a _ h => obind_at h fun b _ h => by cases h; exact ⟨rfl, rfl⟩
    · cases h
  | fieldAddr ty x f => exact obind_at (show obind (aval E t x) _ = some r from h) fun a _ h => val_at2 h
  | field ty x f => exact obind_at (show obind (aval E t x) _ = some r from h) fun a _ h => val_at2 h
  | indexAddr ty x i => exact obind_at (show obind (aval E t x) _ = some r from h) fun a _ h => obind_at h fun b _ h => val_at2 h
  | index ty x i => exact obind_at (show obind (aval E t x) _ = some r from h) fun a _ h => obind_at h fun b _ h => val_at2 h
  | typeAssert x y u ok => exact obind_at (show obind (aval E t x) _ = some r from h) fun a _ h => val_at2 h
  | extract x i =>
    have h : oExtract x i E H t s = some r := h
    show _ ∧ oExtract x i E H t s2 = _
    unfold oExtract at h ⊢
    split at h
    · exact val_at2 h
    · cases h
  | load ty x =>
    refine obind_at (show obind (aval E t x) _ = some r from h) fun v hv h => ?_
    have hb : AtFoot s s2 (footOf (aval E t x)) := hb
    rw [hv] at hb
    unfold addr at h ⊢
    split at h
    · rename_i a
      exact val_at (loadVar_at (hb a.block rfl)) h
    · cases h
  | lookup ty x k ok =>
    refine obind_at (show obind (aval E t x) _ = some r from h) fun v hv h => ?_
    have hb : AtFoot s s2 (footOf (aval E t x)) := hb
    rw [hv] at hb
    exact obind_at h fun k _ h => val_at (lookup_at hb) h
  | slice ty x lo hi mx =>
    refine obind_at (show obind (aval E t x) _ = some r from h) fun v hv h => ?_
    have hb : AtFoot s s2 (footOf (aval E t x)) := hb
    rw [hv] at hb
    exact obind_at h fun lo _ h => obind_at h fun hi _ h => obind_at h fun mx _ h => val_at (slice_at hb) h
  | call c =>
    have hf : footCall E t c ≠ .any := hf
    have hb : AtFoot s s2 (footCall E t c) := hb
    unfold footCall at hf hb
    split at hf
    · rename_i x hc hx
      rw [hc, hx] at hb
      have h : oCall c E H t s = some r := h
      show _ ∧ oCall c E H t s2 = _
      unfold oCall at h ⊢
      rw [hx, hc] at h ⊢
      refine obind_at h fun args ha h => ?_
      obtain ⟨v, h1, h2⟩ := obind_some (show obind (aval E t x) _ = some args from ha)
      obtain ⟨vs, h3, h4⟩ := obind_some h2
      cases h3
      cases h4
      have hb : AtFoot s s2 (footOf (aval E t x)) := hb
      rw [h1] at hb
      have h : builtin E .len c.argTypes.toList [v] s = some r := h
      show _ ∧ builtin E .len c.argTypes.toList [v] s2 = _
      cases hts : c.argTypes.toList with
      | nil => rw [hts] at h; cases h
      | cons ty l =>
        rw [hts] at h
        exact val_at (lenB_at hb) (show val (lenB E s ty v) s = some r from h)
    · exact absurd rfl hf
  | _ => exact absurd rfl hf
end Go.Ev
