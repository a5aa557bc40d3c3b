import Derived.Test.YthhkpoobcnmdgaaDoorBZ1
import Derived.Test.YthhkpoobcnmdgaaDoorXOne2B
import Derived.Test.YthhkpoobcnmdgaaDoorLLexJoinsB
/-
  litmusref05.Tokens: walked.
-/
namespace Go.Proofs.YthhkpoobcnmdgaaDoor
open Go.RowKit
set_option linter.unusedVariables false

/-- The tokens of what is left at place k; c: a comment has begun. -/
def Lxc (c : Bool) (l : List Nat) (k : Nat) (ts : List Tk) (r : Option Nat) : Prop := TokL (l.drop (skipL l c)) (k + skipL l c) ts r
theorem Lxc.start {l : List Nat} {k : Nat} {ts : List Tk} {r : Option Nat} (h : Lxc false l k ts r) : Lx l k ts r := h
theorem Lxc.step {c c' : Bool} {b : Nat} {l : List Nat} {k : Nat} {ts : List Tk} {r : Option Nat} (hs : skipL (b :: l) c = skipL l c' + 1) (h : Lxc c' l (k + 1) ts r) : Lxc c (b :: l) k ts r := by
  unfold Lxc at h ⊢
  rw [hs, List.drop_succ_cons, show k + (skipL l c' + 1) = k + 1 + skipL l c' by omega]
  exact h
theorem Lxc.blank {b : Nat} {l : List Nat} {k : Nat} {ts : List Tk} {r : Option Nat} (hb : blB (b : Int) = true) (h : Lxc false l (k + 1) ts r) : Lxc false (b :: l) k ts r := .step (by rw [skipL_f, if_pos hb]) h
theorem Lxc.note {l : List Nat} {k : Nat} {ts : List Tk} {r : Option Nat} (h : Lxc true (59 :: l) k ts r) : Lxc false (59 :: l) k ts r := by
  have e : skipL (59 :: l) false = skipL (59 :: l) true := by rw [skipL_f, skipL_t, if_neg (by decide), if_pos rfl, if_neg (by decide)]
  unfold Lxc at h ⊢
  rw [e]; exact h
theorem Lxc.inside {b : Nat} {l : List Nat} {k : Nat} {ts : List Tk} {r : Option Nat} (hb : b ≠ 10) (h : Lxc true l (k + 1) ts r) : Lxc true (b :: l) k ts r := .step (by rw [skipL_t, if_neg hb]) h
theorem Lxc.line {l : List Nat} {k : Nat} {ts : List Tk} {r : Option Nat} (h : Lxc false (10 :: l) k ts r) : Lxc true (10 :: l) k ts r := by
  have e : skipL (10 :: l) true = skipL (10 :: l) false := by rw [skipL_f, skipL_t, if_pos rfl, if_pos (by decide)]
  unfold Lxc at h ⊢
  rw [e]; exact h
theorem Lxc.tok {l : List Nat} {k d : Nat} {b : List Nat} {n : Nat} {ts : List Tk} {r : Option Nat} (h : okT l = some (d, b, n)) (h2 : Lxc false (l.drop n) (k + n) ts r) : Lxc false l k (⟨d, b, k⟩ :: ts) r := by
  unfold okT at h
  cases h1 : oneL l with
  | none => rw [h1] at h; cases h
  | some p =>
    obtain ⟨d', b', n'⟩ := p
    rw [h1] at h
    dsimp only at h
    split at h
    · rename_i hp
      injection h with h
      injection h with e1 h
      injection h with e2 e3
      subst e1 e2 e3
      have ho := one_inv h1
      have hf := ho.first
      unfold Lxc
      rw [skip_zero (not_blank (by omega)) hf.2, List.drop_zero, Nat.add_zero]
      exact .tok ho.ne ho hp h2
    · cases h
theorem Lxc.wrong {l : List Nat} {k : Nat} (hl : l ≠ []) (hb : blB (hd l) = false) (h9 : hd l ≠ 59) (h : okT l = none) : Lxc false l k [] (some k) := by
  unfold Lxc
  rw [skip_zero hb h9, List.drop_zero, Nat.add_zero]
  unfold okT at h
  cases h1 : oneL l with
  | none => exact .none hl h1
  | some p =>
    obtain ⟨d', b', n'⟩ := p
    rw [h1] at h
    dsimp only at h
    split at h
    · cases h
    · rename_i hp
      exact .glued hl (one_inv h1) (by simpa using hp)
theorem ok_len {l : List Nat} {d : Nat} {b : List Nat} {n : Nat} (h : okT l = some (d, b, n)) : 0 < n ∧ n ≤ l.length := by
  unfold okT at h
  cases h1 : oneL l with
  | none => rw [h1] at h; cases h
  | some p =>
    obtain ⟨d', b', n'⟩ := p
    rw [h1] at h
    dsimp only at h
    have := (one_inv h1).len
    split at h
    · injection h with h
      injection h with e1 h
      injection h with e2 e3
      subst e3
      omega
    · cases h
theorem drop_cons {s : ByteArray} {k : Nat} (h : k < s.size) : (M.bytes s).drop k = s[k].toNat :: (M.bytes s).drop (k + 1) := by
  have hl : k < (M.bytes s).length := by rw [M.bytes_len]; exact h
  rw [List.drop_eq_getElem_cons hl]
  congr 1
  have := M.bytes_get s k h
  rw [List.getElem?_eq_getElem hl] at this
  exact Option.some.inj this

/-- What the document's Tokens answers. -/
def RefP (s : ByteArray) (w : World) (e : Ending) (w' : World) : Prop := ∃ ts r, Lx (M.bytes s) 0 ts r ∧ Below w.heap.size w w' ∧
  ((r = none ∧ ∃ es A c, es.map TE.tk = ts ∧ e = .returned (.tuple #[.slice A es.length c, .agg #[.int .i64 0, .int .i64 0]]) ∧ OwT w' w.heap.size A es.length c es) ∨
   (∃ k, r = some k ∧ e = .returned (.tuple #[.slice none 0 0, .agg #[.int .i64 4, .int .i64 k]])))
theorem Ak.set2 {w : World} {g : Nat} {x0 x1 : Value} {t : TypeId} (h : Ak w g #[x0, x1] t) (y0 y1 : Value) : Ak ((w.setCell ⟨g, 0, none⟩ y0).setCell ⟨g, 1, none⟩ y1) g #[y0, y1] t :=
  ⟨heap_setCell_same _ g 1 #[y0, x1] t y1 (heap_setCell_same w g 0 #[x0, x1] t y0 h.row)⟩
theorem in_bl (b : Int) (w : World) : Calls Tryd.prog 22 #[.string ⟨#[32, 9, 10, 13]⟩, .int .u8 b] w fun e w' => e = .returned (.bool (blB b)) ∧ w = w' :=
  (inR_c ⟨#[32, 9, 10, 13]⟩ b w (by decide)).mono fun _ _ h => ⟨by rw [h.1, in_blanks'], h.2⟩
theorem inT {b : Int} {v : Bool} (h : blB b = v) (w : World) : Calls Tryd.prog 22 #[.string ⟨#[32, 9, 10, 13]⟩, .int .u8 b] w fun e w' => e = .returned (.bool v) ∧ w = w' := by subst h; exact in_bl b w

set_option maxRecDepth 20000 in
set_option maxHeartbeats 8000000 in
theorem tokensRef_c (s : ByteArray) (hs : s.size ≤ 1000000) (w : World) : Calls Tryd.prog 10 #[.string s] w (RefP s w) := by
  have HA := Lib.hid (Ak.new w #[.int .i64 0, .int .i64 0] 33)
  have HB0 := Lib.hid (bx_alloc w (.cells #[.int .i64 0, .int .i64 0] 33))
  go_enter Tryd.func10, Tryd.ntmps10
  go_wp2
  go_loopw [4, 5] (fun v i wr => ∃ (k : Nat) (es : List TE) (A : Option Addr) (c : Nat), k ≤ s.size ∧ es.length ≤ k ∧ i = .int .i64 k ∧ v = .slice A es.length c ∧
    (∀ ts r, Lxc false ((M.bytes s).drop k) k ts r → Lx (M.bytes s) 0 (es.map TE.tk ++ ts) r) ∧ OwT wr (w.heap.size + 1) A es.length c es ∧ Ak wr w.heap.size #[.int .i64 0, .int .i64 0] 33 ∧ Below w.heap.size w wr) (fun _ i _ => s.size - (intOf i).toNat)
  case atStart => exact ⟨0, [], none, 0, Nat.zero_le _, Nat.le_refl _, rfl, rfl, fun ts r h => h, World.ownsRow_nil _ _ _ _, HA.out, HB0.out⟩
  case round =>
    obtain ⟨k, es, A, c, hk, hek, rfl, rfl, ht, ho, ha, hb⟩ := hrel
    have HT := Lib.hid ht
    have HO := Lib.hid ho
    have HK := Lib.hid ha
    have HB := Lib.hid hb
    have HN := Lib.hid (OwT.nilcap ho)
    clear ht ho ha hb
    by_cases hkn : k < s.size
    · have HC := Lib.hid (drop_cons hkn)
      have l0 := byte_lt s k hkn
      cases hbl : blB ((s[k].toNat : Nat) : Int) with
      | true =>
        have IN := Lib.hid fun w => inT hbl w
        have HBL := Lib.hid hbl
        clear hbl
        go_wp2_with (go_at_call 22; refine (IN.out _).mono ?_; rintro _ _ ⟨rfl, rfl⟩)
        go_roundw
        case rel => exact ⟨k + 1, es, A, c, by omega, by omega, by go_num, rfl, fun ts r h => HT.out ts r (by rw [HC.out]; exact .blank HBL.out h), HO.out, HK.out, HB.out⟩
        case measure => simp [intOf]; omega
      | false =>
        have IN := Lib.hid fun w => inT hbl w
        have HBL := Lib.hid hbl
        clear hbl
        by_cases h59 : s[k].toNat = 59
        · have g1 : (((s[k].toNat : Nat) : Int) == 59) = true := by simp [h59]
          have H59 := Lib.hid h59
          clear h59
          go_wp2_with (go_at_call 22; refine (IN.out _).mono ?_; rintro _ _ ⟨rfl, rfl⟩)
          go_loop [5] (fun i => ∃ j : Nat, k ≤ j ∧ j ≤ s.size ∧ i = .int .i64 j ∧ (∀ ts r, Lxc true ((M.bytes s).drop j) j ts r → Lx (M.bytes s) 0 (es.map TE.tk ++ ts) r)) (fun i => s.size - (intOf i).toNat)
          case atStart => exact ⟨k, Nat.le_refl _, hk, rfl, fun ts r h => HT.out ts r (by rw [HC.out, H59.out] at h ⊢; exact .note h)⟩
          case round =>
            obtain ⟨j, hkj, hj, rfl, hd⟩ := hrel
            have HE := Lib.hid hd
            clear hd
            by_cases hjn : j < s.size
            · have HJ := Lib.hid (drop_cons hjn)
              cases c10 : (((s[j].toNat : Nat) : Int) == 10) with
              | true =>
                have hne : (((s[j].toNat : Nat) : Int) != 10) = false := by unfold bne; rw [c10]; rfl
                have h10 : s[j].toNat = 10 := by have := eq_of_beq c10; omega
                have H10 := Lib.hid h10
                have hjk : k < j := by
                  rcases Nat.lt_or_eq_of_le hkj with h | h
                  · exact h
                  · subst h; have := H59.out; omega
                clear h10
                go_wp2
                go_round
                case rel => exact ⟨j, es, A, c, by omega, by omega, by go_num, rfl, fun ts r h => HE.out ts r (by rw [HJ.out, H10.out] at h ⊢; exact .line h), HO.out, HK.out, HB.out⟩
                case measure => simp [intOf]; omega
              | false =>
                have hne : (((s[j].toNat : Nat) : Int) != 10) = true := by unfold bne; rw [c10]; rfl
                have H10 := Lib.hid (show s[j].toNat ≠ 10 by have := ne_of_beq_false c10; omega)
                go_wp2
                go_round
                case rel => exact ⟨j + 1, by omega, by omega, by go_num, fun ts r h => HE.out ts r (by rw [HJ.out]; exact .inside H10.out h)⟩
                case measure => simp [intOf]; omega
            · have hje : j = s.size := by omega
              have hjk : k < j := by omega
              have HZ := Lib.hid (drop_nil (s := s) (n := j) hjn)
              go_wp2
              go_round
              case rel => exact ⟨j, es, A, c, by omega, by omega, by go_num, rfl, fun ts r h => HE.out ts r (by rw [HZ.out] at h ⊢; exact h), HO.out, HK.out, HB.out⟩
              case measure => simp [intOf]; omega
        · have g1 : (((s[k].toNat : Nat) : Int) == 59) = false := by simp; omega
          have HHD := Lib.hid (show hd ((M.bytes s).drop k) = ((s[k].toNat : Nat) : Int) by rw [HC.out]; rfl)
          have H59 := Lib.hid h59
          clear h59
          go_wp2_with (go_at_call 22; refine (IN.out _).mono ?_; rintro _ _ ⟨rfl, rfl⟩)
          refine (oneRef_c s k _ hs hkn).mono ?_
          rintro e w5 ⟨he, hb⟩
          have HB5 := Lib.hid (HB.out.trans (hb.mono HB.out.size))
          have HK5 := Lib.hid (HK.out.below hb)
          have HO5 := Lib.hid (show OwT w5 (w.heap.size + 1) A es.length c es from ownsRow_at HO.out fun g hg => hb.block g (HO.out.lt g hg).2)
          have hz5 := Nat.le_trans (Nat.le_of_lt_succ (Nat.lt_succ_of_le HB.out.size)) hb.size
          have hlt := (Array.getElem?_eq_some_iff.1 HK5.out.row).1
          clear hb
          cases hok : okT ((M.bytes s).drop k) with
          | none =>
            rw [hok] at he
            obtain ⟨v, he, d, t, hv⟩ := (show ∃ v, e = .returned (.tuple #[v, .int .i64 0]) ∧ ∃ (d : Int) (t : ByteArray), v = .agg #[.int .i64 d, .string t, .int .i64 k] from he)
            subst hv
            subst he
            have HL := Lib.hid (HT.out [] (some k) (.wrong (drop_ne hkn) (by rw [HHD.out]; exact HBL.out) (by rw [HHD.out]; have := H59.out; omega) hok))
            have v0 := HK5.out.at 0 (v := .int .i64 0) rfl
            have v1 := HK5.out.at 1 (v := .int .i64 0) rfl
            have f0 := HK5.out.f 0
            have f1 := HK5.out.f 1
            clear hok
            go_wp2
            have AE : Ak (((w5.setCell ⟨w.heap.size, 0, none⟩ (.int .i64 4)).setCell ⟨w.heap.size, 1, none⟩ (.int .i64 k)).alloc (.cells #[.int .i64 d, .string t, .int .i64 k] 43)) w.heap.size #[.int .i64 4, .int .i64 k] 33 := (HK5.out.set2 (.int .i64 4) (.int .i64 k)).below (bx_alloc _ _)
            have BE : Below w.heap.size w (((w5.setCell ⟨w.heap.size, 0, none⟩ (.int .i64 4)).setCell ⟨w.heap.size, 1, none⟩ (.int .i64 k)).alloc (.cells #[.int .i64 d, .string t, .int .i64 k] 43)) := ((HB5.out.setCell (p := ⟨w.heap.size, 0, none⟩) (Nat.le_refl _) (.int .i64 4)).setCell (p := ⟨w.heap.size, 1, none⟩) (Nat.le_refl _) (.int .i64 k)).alloc (by first | exact hz5 | (simp only [World.size_setCell]; exact hz5)) _
            generalize ((w5.setCell ⟨w.heap.size, 0, none⟩ (.int .i64 4)).setCell ⟨w.heap.size, 1, none⟩ (.int .i64 k)).alloc (.cells #[.int .i64 d, .string t, .int .i64 k] 43) = WE at AE BE ⊢
            have r0 := AE.at 0 (v := .int .i64 4) rfl
            have r1 := AE.at 1 (v := .int .i64 k) rfl
            refine bodyPost_ret (by simp [results, Tryd.results10, go_sem, r0, r1]; try rfl) rfl ?_
            exact ⟨_, some k, HL.out, BE, .inr ⟨k, rfl, rfl⟩⟩
          | some p =>
            obtain ⟨d, b, n⟩ := p
            rw [hok] at he
            obtain ⟨hn0, t, he, htb⟩ := (show 0 < n ∧ ∃ t, e = .returned (.tuple #[.agg #[.int .i64 d, .string t, .int .i64 k], .int .i64 n]) ∧ M.bytes t = b from he)
            subst he
            subst htb
            have hnl := ok_len hok
            rw [List.length_drop, M.bytes_len] at hnl
            have hg0 : ((n : Int) == 0) = false := by simp; omega
            have HK' := Lib.hid hok
            clear hok
            have RO := Lib.hid (show RdT ((w5.alloc (.cells #[.int .i64 d, .string t, .int .i64 k] 43)).alloc (.cells #[.int .i64 d, .string t, .int .i64 k] 43)) (some ⟨w5.heap.size + 1, 0, none⟩) 1 1 [⟨d, t, k⟩] by
              have R := rd_one (w5.alloc (.cells #[.int .i64 d, .string t, .int .i64 k] 43)) d t k
              rwa [show (w5.alloc (.cells #[.int .i64 d, .string t, .int .i64 k] 43)).heap.size = w5.heap.size + 1 by simp] at R)
            go_wp2_with (at_builtin; refine app_rowT _ (by rfl) _ _ rfl rfl ((World.ownsRow.alloc HO5.out _).alloc _) rfl RO.out (fun h => (by cases h)) (fun h => (by cases h)) (by omega) (by simp; omega) ?_; intro A' c' w7 how hgr; have HOW := Lib.hid how; have HGR := Lib.hid hgr; clear how hgr)
            have hrow : ∀ g, (Value.slice A es.length c).ownBlock = some g → w.heap.size + 1 ≤ g := fun g e => (HO5.out.lt g e).1
            go_roundw
            case rel =>
              refine ⟨k + n, es ++ [⟨d, t, k⟩], A', c', by omega, by rw [List.length_append]; show es.length + 1 ≤ _; omega, by go_num, by rw [List.length_append]; rfl, fun ts r h => ?_, by rw [List.length_append]; exact HOW.out, ⟨?_⟩, ?_⟩
              · rw [List.map_append, List.append_assoc]
                exact HT.out _ _ (Lxc.tok HK'.out (by rw [List.drop_drop]; exact h))
              · rw [HGR.out.block w.heap.size (by simp; omega) (fun e => by have := hrow _ e.symm; omega), Below.heap_alloc _ _ _ (by simp; omega), Below.heap_alloc _ _ _ (by omega)]
                exact HK5.out.row
              · exact ((HB5.out.alloc hz5 _).alloc (by simp; omega) _).grown HGR.out (by simp; omega) (fun g e => by have := hrow g e; omega)
            case measure => simp [intOf]; omega
    · obtain rfl : k = s.size := by omega
      have HL := Lib.hid (show Lx (M.bytes s) 0 (es.map TE.tk) none by
        have := HT.out [] none (by rw [drop_nil hkn]; exact .done)
        rwa [List.append_nil] at this)
      have v0 := HK.out.at 0 (v := .int .i64 0) rfl
      have v1 := HK.out.at 1 (v := .int .i64 0) rfl
      have f0 := HK.out.f 0
      have f1 := HK.out.f 1
      go_wp2
      have AE := HK.out.set2 (.int .i64 0) (.int .i64 0)
      have BE := (HB.out.setCell (p := ⟨w.heap.size, 0, none⟩) (Nat.le_refl _) (.int .i64 0)).setCell (p := ⟨w.heap.size, 1, none⟩) (Nat.le_refl _) (.int .i64 0)
      have OE : OwT ((wr.setCell ⟨w.heap.size, 0, none⟩ (.int .i64 0)).setCell ⟨w.heap.size, 1, none⟩ (.int .i64 0)) (w.heap.size + 1) A es.length c es := ownsRow_at HO.out fun g hg => by
        have := (HO.out.lt g hg).1
        rw [Below.heap_setCell _ _ _ _ (show g ≠ w.heap.size by omega), Below.heap_setCell _ _ _ _ (show g ≠ w.heap.size by omega)]
      generalize (wr.setCell ⟨w.heap.size, 0, none⟩ (.int .i64 0)).setCell ⟨w.heap.size, 1, none⟩ (.int .i64 0) = WE at AE BE OE ⊢
      have r0 := AE.at 0 (v := .int .i64 0) rfl
      have r1 := AE.at 1 (v := .int .i64 0) rfl
      refine bodyPost_ret (by simp [results, Tryd.results10, go_sem, r0, r1]; try rfl) rfl ?_
      exact ⟨_, none, HL.out, BE, .inl ⟨rfl, es, A, c, rfl, rfl, ownsRow_lower OE (by omega)⟩⟩
end Go.Proofs.YthhkpoobcnmdgaaDoor
