import Derived.Deep.QuietTactic
import Derived.BigQuiet
import Derived.Test.YthhkpoobcnmdgaaDoorProg
import Derived.WalkKit
import Derived.LaidEql
import Derived.Stop.Asserts
import Derived.RowKitTokens
import Derived.Laws.Rows
import Derived.Handy
import Derived.Test.YthhkpoobcnmdgaaDoorBA1
/-
  lex.Tokens: walked.
-/
namespace Go.Proofs.YthhkpoobcnmdgaaDoor
open Go.RowKit Go.Shelf
set_option linter.unusedVariables false
attribute [local go_sem] Oper.semAt_some

theorem each_c (s : ByteArray) (w : World) : Calls Tryd.prog 21 #[.string s] w fun e w' => e = .returned (.func (.func 29) #[] #[.pointer (some ⟨w.heap.size, 0, none⟩)]) ∧ w' = w.alloc (.cells #[.string s] 9) := by
  go_enter Tryd.func21, Tryd.ntmps21
  go_wp2
  go_ret
  exact ⟨rfl, rfl⟩

/-- What Tokens answers. -/
def TokP (s : ByteArray) (w : World) (e : Ending) (w' : World) : Prop := ∃ ts r, Lexes s ts r ∧ Below w.heap.size w w' ∧
  ((r = none ∧ ∃ es A c, es.map TE.tk = ts ∧ e = .returned (.tuple #[.slice A es.length c, .nilIface]) ∧ OwT w' w.heap.size A es.length c es) ∨
   (∃ k c, r = some k ∧ e = .returned (.tuple #[.slice none 0 0, .iface 90 (.pointer (some ⟨c, 0, none⟩))]) ∧ c < w'.heap.size ∧ w'.cell? ⟨c, 0, none⟩ = some (.int .i64 4) ∧ w'.cell? ⟨c, 1, none⟩ = some (.int .i64 k)))

theorem ownsRow_at {w w' : World} {base : Nat} {e : TypeId} {size : Nat} {v : Value} {n : Nat} {xs : List Value} (h : w.ownsRow base e size v n xs) (hk : ∀ g, v.ownBlock = some g → w'.heap[g]? = w.heap[g]?) : w'.ownsRow base e size v n xs := by
  rcases h.2 with h2 | ⟨g, cap, cur, hv, hb, hh, r⟩
  · exact ⟨h.1, .inl h2⟩
  · exact ⟨h.1, .inr ⟨g, cap, cur, hv, hb, (hk g (by rw [hv]; rfl)).trans hh, r⟩⟩
theorem ownsRow_lower {w : World} {base base' : Nat} {e : TypeId} {size : Nat} {v : Value} {n : Nat} {xs : List Value} (h : w.ownsRow base e size v n xs) (hb : base' ≤ base) : w.ownsRow base' e size v n xs :=
  ⟨h.1, h.2.imp id fun ⟨g, cap, cur, hv, hb2, r⟩ => ⟨g, cap, cur, hv, Nat.le_trans hb hb2, r⟩⟩
/-- What the loop keeps: o: the block of out; p, q: those of the results. -/
def TokI (w : World) (o p q z : Nat) (m : Nat) (pre : List Tk) (W : World) : Prop := Below w.heap.size w W ∧ Boxed W p 26 (.slice none 0 0) ∧ Boxed W q 28 .nilIface ∧
  z ≤ m ∧ ∃ es A c, es.map TE.tk = pre ∧ Boxed W o 26 (.slice A es.length c) ∧ OwT W m A es.length c es
def TokX (w : World) (p q z : Nat) (k : Nat) (W : World) : Prop := Below w.heap.size w W ∧ ∃ c, (c < W.heap.size ∧ c ≠ z + 1 ∧ c ≠ z) ∧ Boxed W p 26 (.slice none 0 0) ∧ Boxed W q 28 (.iface 90 (.pointer (some ⟨c, 0, none⟩))) ∧ W.cell? ⟨c, 0, none⟩ = some (.int .i64 4) ∧ W.cell? ⟨c, 1, none⟩ = some (.int .i64 k)

set_option maxRecDepth 100000 in
set_option maxHeartbeats 4000000 in
theorem tokens_in (s : ByteArray) (hs : s.size ≤ 1048576) (w : World) : CallsIn Fence.wide 5 Tryd.prog 9 #[.string s] w (TokP s w) := by
  refine callsIn_of_wp_marks Tryd.func9 rfl trivial ?_ rfl
  simp only [Tryd.ntmps9, List.size_toArray, List.length_cons, List.length_nil, Nat.reduceAdd, Nat.reduceSub, Array.replicate_succ, Array.replicate_zero, List.push_toArray, List.append_toArray, List.nil_append, List.cons_append]
  gi_wp2_with (refine ⟨trivial, ?_⟩; gi_at_call 21; refine (callsIn_wide.2 (each_c s _)).mono ?_; rintro e w' ⟨rfl, rfl⟩)
  have b2 := Boxed.new w 26 (.slice none 0 0)
  have b3 := Boxed.new (w.alloc (.cells #[.slice none 0 0] 26)) 28 .nilIface
  have b4 := Boxed.new ((w.alloc (.cells #[.slice none 0 0] 26)).alloc (.cells #[.nilIface] 28)) 26 (.slice none 0 0)
  have b5 := Boxed.new (((w.alloc (.cells #[.slice none 0 0] 26)).alloc (.cells #[.nilIface] 28)).alloc (.cells #[.slice none 0 0] 26)) 9 (.string s)
  have bb := (((bx_alloc w (.cells #[.slice none 0 0] 26)).trans ((bx_alloc (w.alloc (.cells #[.slice none 0 0] 26)) (.cells #[.nilIface] 28)).mono (by simp))).trans ((bx_alloc ((w.alloc (.cells #[.slice none 0 0] 26)).alloc (.cells #[.nilIface] 28)) (.cells #[.slice none 0 0] 26)).mono (by simp; omega))).trans
    ((bx_alloc (((w.alloc (.cells #[.slice none 0 0] 26)).alloc (.cells #[.nilIface] 28)).alloc (.cells #[.slice none 0 0] 26)) (.cells #[.string s] 9)).mono (by simp; omega))
  replace b2 := ((b2.alloc (.cells #[.nilIface] 28)).alloc (.cells #[.slice none 0 0] 26)).alloc (.cells #[.string s] 9)
  replace b3 := (b3.alloc (.cells #[.slice none 0 0] 26)).alloc (.cells #[.string s] 9)
  replace b4 := b4.alloc (.cells #[.string s] 9)
  simp only [World.size_alloc] at b2 b3 b4 b5 bb
  generalize hW0 : (((w.alloc (.cells #[.slice none 0 0] 26)).alloc (.cells #[.nilIface] 28)).alloc (.cells #[.slice none 0 0] 26)).alloc (.cells #[.string s] 9) = W0 at b2 b3 b4 b5 bb ⊢
  have hz : W0.heap.size = w.heap.size + 4 := by rw [← hW0]; simp
  clear hW0
  have HB := Lib.hid bb
  have HZ := Lib.hid hz
  have B2 := Lib.hid b2
  have B3 := Lib.hid b3
  have B4 := Lib.hid b4
  have B5 := Lib.hid b5
  clear bb b2 b3 b4 b5
  have keep : ∀ m pre W W', TokI w (w.heap.size + 1 + 1) w.heap.size (w.heap.size + 1) (W0.heap.size + 2) m pre W → Same2 (W0.heap.size + 1) W0.heap.size W W' → TokI w (w.heap.size + 1 + 1) w.heap.size (w.heap.size + 1) (W0.heap.size + 2) m pre W' := by
    rintro m pre W W' ⟨hb, h2, h3, hm, es, A, c, he, h4, h5⟩ hS
    refine ⟨hS.below hb (Nat.le_refl _) (by omega) (by omega), (hS.block _ h2.lt (by omega) (by omega)).trans h2, (hS.block _ h3.lt (by omega) (by omega)).trans h3, hm, es, A, c, he, (hS.block _ h4.lt (by omega) (by omega)).trans h4, ownsRow_at h5 fun g hg => ?_⟩
    have := h5.lt g hg
    exact hS.block g this.2 (by omega) (by omega)
  refine wpIn_each (n := 5) (by omega) (w.heap.size + 1 + 1 + 1) s hs rfl rfl ⟨by omega, B5.out.cell⟩ (fun j => j = w.heap.size ∨ j = w.heap.size + 1 ∨ j = w.heap.size + 1 + 1) (by rintro j (rfl | rfl | rfl) <;> omega) (by omega)
    (TokI w (w.heap.size + 1 + 1) w.heap.size (w.heap.size + 1) (W0.heap.size + 2)) (TokX w w.heap.size (w.heap.size + 1) W0.heap.size) keep ?hIx ?h0 ?tok ?wrong ?done ?stop
  case hIx =>
    rintro k W W' ⟨hb, c, hc, h2, h3, h4, h5⟩ hS
    exact ⟨hS.below hb (Nat.le_refl _) (by omega) (by omega), c, ⟨Nat.lt_of_lt_of_le hc.1 hS.size, hc.2⟩, (hS.block _ h2.lt (by omega) (by omega)).trans h2, (hS.block _ h3.lt (by omega) (by omega)).trans h3, (hS.cell hc.1 hc.2.1 hc.2.2).trans h4, (hS.cell hc.1 hc.2.1 hc.2.2).trans h5⟩
  case h0 => exact fun m hm => ⟨HB.out, B2.out, B3.out, hm, [], none, 0, rfl, B4.out, World.ownsRow_nil _ _ _ _⟩
  case tok =>
    rintro m pre t d k W hd hp hm hmW hi
    have KP := Lib.hid keep
    clear keep
    unfold RoundB
    gi_wp2
    refine ⟨bx_alloc _ _, fun W₂ hS hZ => ?_⟩
    obtain ⟨hb, h2, h3, hm2, es, A, c, rfl, h4, h5⟩ := KP.out _ _ _ _ hi ((Same2.of_below (bx_alloc W _)).trans hS)
    have a2 : Ak W₂ W.heap.size #[.int .i64 d, .string t, .int .i64 k] 43 := ⟨(hS.block W.heap.size (by simp) (by omega) (by omega)).trans (heap_alloc_new W _)⟩
    have t0 := a2.at 0 (v := .int .i64 d) rfl
    have t1 := a2.at 1 (v := .string t) rfl
    have t2 := a2.at 2 (v := .int .i64 k) rfl
    have hw2 : W.heap.size ≤ W₂.heap.size := by have := hS.size; simp at this; omega
    have hl : es.length < 1048576 := by rw [List.length_map] at hp; exact hp
    have H2 := Lib.hid h2
    have H3 := Lib.hid h3
    have H4 := Lib.hid h4
    have H5 := Lib.hid h5
    have HBB := Lib.hid hb
    have hc4 := h4.cell
    have hf4 := h4.frozen
    have hlt := h4.lt
    clear h2 h3 h4 h5 hb hS hZ a2 hi hp
    gi_wp2_with (gi_at_builtin; refine app_tokIn _ rfl _ _ rfl m es.length c A es rfl (H5.out.alloc _) W₂.heap.size ⟨d, t, k⟩ rfl (heap_alloc_new W₂ _) (by omega) (by simp; omega) ?_; intro A' c' w' how hgr; have hv1 := (H4.out.alloc (.cells #[.int .i64 d, .string t, .int .i64 k] 43)).kept hgr (by intro e; have := ((H5.out.alloc (.cells #[.int .i64 d, .string t, .int .i64 k] 43)).lt _ e.symm).1; omega); have hc1 := hv1.cell; have hf1 := hv1.frozen; have HV := Lib.hid hv1; have HO := Lib.hid how; have HG := Lib.hid hgr; clear hv1 how hgr)
    have hrow : ∀ g, (Value.slice A es.length c).ownBlock = some g → m ≤ g := fun g e => (H5.out.lt g e).1
    have nb : ∀ j, j < m → some j ≠ (Value.slice A es.length c).ownBlock := fun j hj e => by have := hrow j e.symm; omega
    have hsz : W₂.heap.size + 1 ≤ w'.heap.size := by have := HG.out.size; simp at this; omega
    have kept : ∀ j, j < m → j ≠ w.heap.size + 1 + 1 → (w'.setCell ⟨w.heap.size + 1 + 1, 0, none⟩ (.slice A' (es.length + 1) c')).heap[j]? = W₂.heap[j]? := by
      intro j hj hne
      rw [Below.heap_setCell _ _ _ _ hne, HG.out.block j (by simp; omega) (nb j hj), Below.heap_alloc _ _ _ (by omega)]
    refine ⟨⟨((HBB.out.alloc (Nat.le_trans (by omega) hw2) _).grown HG.out (by simp; omega) (fun g e => by have := hrow g e; omega)).setCell (p := ⟨w.heap.size + 1 + 1, 0, none⟩) (show w.heap.size ≤ w.heap.size + 1 + 1 by omega) _, (kept _ (by omega) (by omega)).trans H2.out, (kept _ (by omega) (by omega)).trans H3.out, hm2, es ++ [⟨d, t, k⟩], A', c', by simp [TE.tk], ?_, ?_⟩, ?_, ?_⟩
    · rw [List.length_append]; exact HV.out.set _
    · rw [List.length_append]
      exact ownsRow_at HO.out fun g hg => Below.heap_setCell _ _ _ _ (by have := (HO.out.lt g hg).1; intro e; subst e; dsimp only at this; omega)
    · rw [World.size_setCell]; omega
    · exact fun j hj hC => kept j hj fun e => hC (.inr (.inr e))
  case wrong =>
    rintro m pre c k W hm hmW hc hx hy hcL hcD hi
    have KP := Lib.hid keep
    clear keep
    unfold RoundB
    gi_wp2
    refine ⟨bx_alloc _ _, fun W₂ hS hZ => ?_⟩
    obtain ⟨hb, h2, h3, hm2, es, A, cc, rfl, h4, h5⟩ := KP.out _ _ _ _ hi ((Same2.of_below (bx_alloc W _)).trans hS)
    have hS2 := (Same2.of_below (L := W0.heap.size + 1) (D := W0.heap.size) (bx_alloc W (.cells #[.int .i64 0, .string ⟨#[]⟩, .int .i64 0] 43))).trans hS
    have hx2 := (hS2.cell hc hcL hcD).trans hx
    have hy2 := (hS2.cell hc hcL hcD).trans hy
    have hlt2 := h2.lt
    have hlt3 := h3.lt
    have hc2 := h2.cell
    have hf2 := h2.frozen
    have hc3 := h3.cell
    have hf3 := h3.frozen
    have hn2 : c ≠ w.heap.size := by rintro rfl; rw [hc2] at hx2; cases hx2
    have hn3 : c ≠ w.heap.size + 1 := by rintro rfl; rw [hc3] at hx2; cases hx2
    have hcl2 : c < W₂.heap.size := Nat.lt_of_lt_of_le hc hS2.size
    have H2 := Lib.hid h2
    have H3 := Lib.hid h3
    have HBB := Lib.hid hb
    have HX := Lib.hid hx2
    have HY := Lib.hid hy2
    clear hx hy hx2 hy2 h2 h3 h4 h5 hb hS hS2 hZ hi
    gi_wp2
    have kept : ∀ j, j ≠ w.heap.size → j ≠ w.heap.size + 1 → ((W₂.setCell ⟨w.heap.size, 0, none⟩ (.slice none 0 0)).setCell ⟨w.heap.size + 1, 0, none⟩ (.iface 90 (.pointer (some ⟨c, 0, none⟩)))).heap[j]? = W₂.heap[j]? := by
      intro j h1 h2
      rw [Below.heap_setCell _ _ _ _ h2, Below.heap_setCell _ _ _ _ h1]
    refine ⟨⟨(HBB.out.setCell (p := ⟨w.heap.size, 0, none⟩) (Nat.le_refl _) _).setCell (p := ⟨w.heap.size + 1, 0, none⟩) (show w.heap.size ≤ w.heap.size + 1 by omega) _, c, ⟨by simp only [World.size_setCell]; exact hcl2, hcL, hcD⟩, (H2.out.set _).other (by omega) _, (H3.out.other (by omega) _).set _,
      (World.cell?_of_block (a := ⟨c, 0, none⟩) (kept c hn2 hn3)).trans HX.out, (World.cell?_of_block (a := ⟨c, 1, none⟩) (kept c hn2 hn3)).trans HY.out⟩, by simp only [World.size_setCell]; exact Nat.le_refl _, fun j hj hC => kept j (fun e => hC (.inl e)) (fun e => hC (.inr (.inl e)))⟩
  case done =>
    rintro m ts W hl hm ⟨hb, h2, h3, hm2, es, A, c, rfl, h4, h5⟩ hD
    have hc4 := h4.cell
    have hc2 := h2.cell
    have hf2 := h2.frozen
    have hc3 := h3.cell
    have hf3 := h3.frozen
    have H2 := Lib.hid h2
    have H3 := Lib.hid h3
    have H5 := Lib.hid h5
    have HBB := Lib.hid hb
    have HD := Lib.hid hD
    have HL := Lib.hid hl
    clear h2 h3 h4 h5 hb hD hl keep
    gi_wp2
    have K2 := (H2.out.set (.slice A es.length c)).other (B' := w.heap.size + 1) (by omega) .nilIface
    have K3 := (H3.out.other (B' := w.heap.size) (by omega) (.slice A es.length c)).set .nilIface
    have KB := (HBB.out.setCell (p := ⟨w.heap.size, 0, none⟩) (Nat.le_refl _) (.slice A es.length c)).setCell (p := ⟨w.heap.size + 1, 0, none⟩) (show w.heap.size ≤ w.heap.size + 1 by omega) .nilIface
    have kept : ∀ j, j ≠ w.heap.size → j ≠ w.heap.size + 1 → ((W.setCell ⟨w.heap.size, 0, none⟩ (.slice A es.length c)).setCell ⟨w.heap.size + 1, 0, none⟩ .nilIface).heap[j]? = W.heap[j]? := by
      intro j h1 h2
      rw [Below.heap_setCell _ _ _ _ h2, Below.heap_setCell _ _ _ _ h1]
    have KD := (kept W0.heap.size (by omega) (by omega)).trans HD.out
    have K5 : OwT ((W.setCell ⟨w.heap.size, 0, none⟩ (.slice A es.length c)).setCell ⟨w.heap.size + 1, 0, none⟩ .nilIface) m A es.length c es := ownsRow_at H5.out fun g hg => by
      have := (H5.out.lt g hg).1
      exact kept g (by omega) (by omega)
    clear kept hc2 hc3 hc4 hf2 hf3
    generalize (W.setCell ⟨w.heap.size, 0, none⟩ (.slice A es.length c)).setCell ⟨w.heap.size + 1, 0, none⟩ .nilIface = W5 at K2 K3 KB KD K5 ⊢
    refine ⟨by simp, .inl ⟨_, _, rfl, run_takeDeferred KD, ?_⟩⟩
    have r2 : (W5.putObj W0.heap.size (.deferred none)).cell? ⟨w.heap.size, 0, none⟩ = some (.slice A es.length c) := (World.cell?_of_block (a := ⟨w.heap.size, 0, none⟩) (World.putObj_heap_other (show w.heap.size ≠ W0.heap.size by omega))).trans K2.cell
    have r3 : (W5.putObj W0.heap.size (.deferred none)).cell? ⟨w.heap.size + 1, 0, none⟩ = some .nilIface := (World.cell?_of_block (a := ⟨w.heap.size + 1, 0, none⟩) (World.putObj_heap_other (show w.heap.size + 1 ≠ W0.heap.size by omega))).trans K3.cell
    refine ⟨_, (by simp [results, Tryd.results9, go_sem, r2, r3]; try rfl), _, none, HL.out, (Same2.putL W0.heap.size W0.heap.size W5 (.deferred none)).below KB (Nat.le_refl _) (by omega) (by omega), .inl ⟨rfl, es, A, c, rfl, rfl, ?_⟩⟩
    have K6 : OwT (W5.putObj W0.heap.size (.deferred none)) m A es.length c es := ownsRow_at K5 fun g hg => by
      have := (K5.lt g hg).1
      exact World.putObj_heap_other (by omega)
    exact ownsRow_lower K6 (by omega)
  case stop =>
    rintro ts k W hl ⟨hb, c, hc, h2, h3, h4, h5⟩ hD
    refine ⟨by simp, .inl ⟨_, _, rfl, run_takeDeferred hD, ?_⟩⟩
    have r2 : (W.putObj W0.heap.size (.deferred none)).cell? ⟨w.heap.size, 0, none⟩ = some (.slice none 0 0) := (World.cell?_of_block (a := ⟨w.heap.size, 0, none⟩) (World.putObj_heap_other (show w.heap.size ≠ W0.heap.size by omega))).trans h2.cell
    have r3 : (W.putObj W0.heap.size (.deferred none)).cell? ⟨w.heap.size + 1, 0, none⟩ = some (.iface 90 (.pointer (some ⟨c, 0, none⟩))) := (World.cell?_of_block (a := ⟨w.heap.size + 1, 0, none⟩) (World.putObj_heap_other (show w.heap.size + 1 ≠ W0.heap.size by omega))).trans h3.cell
    refine ⟨_, (by simp [results, Tryd.results9, go_sem, r2, r3]; try rfl), _, some k, hl, (Same2.putL W0.heap.size W0.heap.size W (.deferred none)).below hb (Nat.le_refl _) (by omega) (by omega), .inr ⟨k, c, rfl, rfl, by simp only [World.putObj_size]; exact hc.1, ?_, ?_⟩⟩
    · exact (World.cell?_of_block (a := ⟨c, 0, none⟩) (World.putObj_heap_other hc.2.2)).trans h4
    · exact (World.cell?_of_block (a := ⟨c, 1, none⟩) (World.putObj_heap_other hc.2.2)).trans h5
theorem tokens_c (s : ByteArray) (hs : s.size ≤ 1048576) (w : World) : Calls Tryd.prog 9 #[.string s] w (TokP s w) := callsIn_wide.1 (tokens_in s hs w)
end Go.Proofs.YthhkpoobcnmdgaaDoor
/-
  lex upon rows of bytes: the same answers, told of lists.
-/
namespace Go.Proofs.YthhkpoobcnmdgaaDoor
open Go.RowKit
set_option linter.unusedVariables false

/-- The first byte; -1: there is none. -/
def hd : List Nat → Int
  | [] => -1
  | b :: _ => (b : Int)
theorem by_hd (s : ByteArray) (k : Nat) : by_ s k = hd ((M.bytes s).drop k) := by
  by_cases h : k < s.size
  · rw [by_at h]
    have hg := M.bytes_get s k h
    have hl : k < (M.bytes s).length := by rw [M.bytes_len]; exact h
    rw [List.drop_eq_getElem_cons hl]
    rw [List.getElem?_eq_getElem hl] at hg
    injection hg with hg
    rw [hg]; rfl
  · rw [by_out (by omega), List.drop_of_length_le (by rw [M.bytes_len]; omega)]; rfl
theorem hd_nil {l : List Nat} : hd l = -1 ↔ l = [] := by
  cases l with
  | nil => simp [hd]
  | cons b l => simp only [hd, reduceCtorEq]
theorem hd_app {l r : List Nat} (h : l ≠ []) : hd (l ++ r) = hd l := by
  cases l with
  | nil => exact absurd rfl h
  | cons b l => rfl
theorem hd_take {l : List Nat} {n : Nat} (h : 0 < n) : hd (l.take n) = hd l := by
  cases l with
  | nil => simp
  | cons b l => cases n with
    | zero => omega
    | succ n => rfl

/-- How many at the start are so. -/
def run (p : Int → Bool) : List Nat → Nat
  | [] => 0
  | b :: l => if p (b : Int) = true then run p l + 1 else 0
theorem run_le (p : Int → Bool) (l : List Nat) : run p l ≤ l.length := by
  induction l with
  | nil => exact Nat.le_refl _
  | cons b l ih => unfold run; split <;> simp <;> omega
theorem run_app {p : Int → Bool} {l r : List Nat} (hp : run p l < l.length ∨ p (hd r) = false) : run p (l ++ r) = run p l := by
  induction l with
  | nil =>
    rcases hp with h | h
    · simp at h
    · cases r with
      | nil => rfl
      | cons b r =>
        show run p (b :: r) = 0
        unfold run
        rw [if_neg (by rw [show p (b : Int) = false from h]; decide)]
  | cons b l ih =>
    show run p (b :: (l ++ r)) = _
    unfold run
    split
    · rename_i hb
      rw [ih]
      rcases hp with h | h
      · left
        unfold run at h
        rw [if_pos hb] at h
        simp at h
        omega
      · exact .inr h
    · rfl
theorem run_take {p : Int → Bool} {l : List Nat} {n : Nat} : run p (l.take n) = min n (run p l) := by
  induction l generalizing n with
  | nil => simp [run]
  | cons b l ih =>
    cases n with
    | zero => simp [run]
    | succ n =>
      rw [List.take_succ_cons]
      unfold run
      split
      · rw [ih]; omega
      · simp
theorem isEnd_run {p : Int → Bool} {s : ByteArray} {a k : Nat} (h : IsEnd p s a k) : k = a + run p ((M.bytes s).drop a) := by
  obtain ⟨h1, h2, h3, h4⟩ := h
  generalize hn : k - a = n
  induction n generalizing a with
  | zero =>
    obtain rfl : a = k := by omega
    by_cases hk : a < s.size
    · have h5 := h4 hk
      rw [by_hd] at h5
      generalize (M.bytes s).drop a = l at h5
      cases l with
      | nil => rfl
      | cons b l =>
        unfold run
        rw [if_neg (by rw [show p (b : Int) = false from h5]; decide)]
        rfl
    · rw [List.drop_of_length_le (by rw [M.bytes_len]; omega)]; rfl
  | succ n ih =>
    have h5 := h3 a (Nat.le_refl _) (by omega)
    have hl : a < (M.bytes s).length := by rw [M.bytes_len]; omega
    have := ih (a := a + 1) (by omega) (fun j hj hj2 => h3 j (by omega) hj2) (by omega)
    rw [List.drop_eq_getElem_cons hl]
    rw [by_hd, List.drop_eq_getElem_cons hl] at h5
    have h5 : p (((M.bytes s)[a] : Nat) : Int) = true := h5
    unfold run
    rw [if_pos h5]
    omega

/-! The tokens of a kind. -/
def nameLen (l : List Nat) : Nat := if letB (hd l) = true then (if hd (l.drop (1 + run wordB (l.drop 1))) = 63 then 1 + run wordB (l.drop 1) + 1 else 1 + run wordB (l.drop 1)) else 0
def dashL (l : List Nat) : Nat := if hd l = 45 then 1 else 0
def numLen (l : List Nat) : Nat := if run digB (l.drop (dashL l)) = 0 then 0 else if hd (l.drop (dashL l)) = 48 then (if dashL l = 0 then 1 else 0) else dashL l + run digB (l.drop (dashL l))
def signLen (l : List Nat) : Nat :=
  if (hd l = 60 ∧ hd (l.drop 1) = 61) ∨ (hd l = 61 ∧ hd (l.drop 1) = 61) ∨ (hd l = 45 ∧ hd (l.drop 1) = 62) then 2
  else if hd l = 43 ∨ hd l = 45 ∨ hd l = 42 ∨ hd l = 60 ∨ hd l = 61 then 1 else 0
def hexL (l : List Nat) : Int × Int := if 0 ≤ hexV (hd (l.drop 2)) ∧ 0 ≤ hexV (hd (l.drop 3)) then (16 * hexV (hd (l.drop 2)) + hexV (hd (l.drop 3)), 4) else (0, 0)
def itemL (l : List Nat) : Int × Int :=
  if prB (hd l) = false then (0, 0) else if hd l ≠ 92 then (hd l, 1)
  else if hd (l.drop 1) = 34 ∨ hd (l.drop 1) = 92 then (hd (l.drop 1), 2) else if hd (l.drop 1) = 110 then (10, 2) else if hd (l.drop 1) = 120 then hexL l else (0, 0)
def textGL : Nat → List Nat → Nat → List Nat → Option (List Nat × Nat)
  | 0, _, _, _ => none
  | f + 1, l, k, out => if l = [] then none else if hd l = 34 then some (out, k + 1) else
      if (itemL l).2 = 0 then none else textGL f (l.drop (itemL l).2.toNat) (k + (itemL l).2.toNat) (out ++ [(itemL l).1.toNat])
def textL (l : List Nat) : Option (List Nat × Nat) := if hd l = 34 then textGL l.length (l.drop 1) 1 [] else none
def cutL (l : List Nat) (n : Nat) : Option (List Nat × Nat) := if 0 < n then some (l.take n, n) else none
def orK (d : Nat) (o : Option (List Nat × Nat)) (r : Option (Nat × List Nat × Nat)) : Option (Nat × List Nat × Nat) := match o with
  | some (b, n) => some (d, b, n)
  | none => r
def oneL (l : List Nat) : Option (Nat × List Nat × Nat) :=
  if hd l = 40 then some (0, [], 1) else if hd l = 41 then some (1, [], 1) else
    orK 2 (cutL l (numLen l)) (orK 3 (textL l) (orK 4 (cutL l (nameLen l)) (orK 5 (cutL l (signLen l)) none)))

theorem nameL_list (s : ByteArray) : nameL s = nameLen (M.bytes s) := by
  obtain ⟨r, h⟩ := name_ex s
  rw [nameL_eq h]
  have b0 := by_hd s 0
  rw [List.drop_zero] at b0
  unfold nameLen
  rcases h with ⟨h1, rfl⟩ | ⟨h1, h2, rfl⟩ | ⟨h1, h2, k, h3, rfl⟩
  · rw [← b0, by_out (by omega)]; rfl
  · rw [← b0, h2]; rfl
  · have hk := isEnd_run h3
    rw [← b0, if_pos h2, ← hk, ← by_hd]
    by_cases h6 : by_ s k = 63
    · have : k < s.size := by
        by_cases h : k < s.size
        · exact h
        · rw [by_out (by omega)] at h6; cases h6
      rw [if_pos ⟨this, h6⟩, if_pos h6]
    · rw [if_neg (fun h => h6 h.2), if_neg h6]
theorem numL_list (s : ByteArray) (hp : 0 < s.size) : numL s = numLen (M.bytes s) := by
  obtain ⟨r, h⟩ := number_ex s hp
  rw [numL_eq h]
  have b0 := by_hd s 0
  rw [List.drop_zero] at b0
  have hd0 : dash s 0 = dashL (M.bytes s) := by unfold dash dashL; rw [b0]
  obtain ⟨k, h1, rfl⟩ := h
  have hk := isEnd_run h1
  unfold numLen
  rw [← hd0, ← by_hd]
  by_cases e : run digB ((M.bytes s).drop (dash s 0)) = 0
  · rw [if_pos (by omega), if_pos e]
  · rw [if_neg (by omega), if_neg e, ← hk]
theorem signN_list (s : ByteArray) : signN s = signLen (M.bytes s) := by
  have b0 := by_hd s 0
  have b1 := by_hd s 1
  rw [List.drop_zero] at b0
  unfold signN signLen
  rw [← b0, ← b1]
  by_cases h : (by_ s 0 = 60 ∧ by_ s 1 = 61) ∨ (by_ s 0 = 61 ∧ by_ s 1 = 61) ∨ (by_ s 0 = 45 ∧ by_ s 1 = 62)
  · have : 2 ≤ s.size := by
      by_cases h2 : 2 ≤ s.size
      · exact h2
      · rw [by_out (k := 1) (by omega)] at h; omega
    rw [if_pos ⟨this, h⟩, if_pos h]
  · rw [if_neg (fun g => h g.2), if_neg h]
theorem hexV_neg : hexV (-1) = -1 := by decide
theorem hexN_list (s : ByteArray) : hexN s = hexL (M.bytes s) := by
  unfold hexN hexL
  rw [← by_hd, ← by_hd]
  by_cases h : 0 ≤ hexV (by_ s 2) ∧ 0 ≤ hexV (by_ s 3)
  · have : 4 ≤ s.size := by
      by_cases h2 : 4 ≤ s.size
      · exact h2
      · rw [by_out (k := 3) (by omega), hexV_neg] at h; omega
    rw [if_pos ⟨this, h⟩, if_pos h]
  · rw [if_neg (fun g => h g.2), if_neg h]
theorem itemN_list (s : ByteArray) : itemN s = itemL (M.bytes s) := by
  have b0 := by_hd s 0
  rw [List.drop_zero] at b0
  unfold itemN itemL
  rw [← b0, ← by_hd, hexN_list]
  by_cases h2 : s.size < 2
  · rw [if_pos h2, by_out (k := 1) (by omega)]; rfl
  · rw [if_neg h2]
theorem textG_list (s : ByteArray) (f k : Nat) (out : List Nat) : textG s f k out = textGL f ((M.bytes s).drop k) k out := by
  induction f generalizing k out with
  | zero => rfl
  | succ f ih =>
    rw [textG, textGL, ← by_hd, itemN_list, M.bytes_tail]
    by_cases h : s.size ≤ k
    · rw [if_pos h, if_pos (by rw [List.drop_of_length_le (by rw [M.bytes_len]; exact h)])]
    · have hne : (M.bytes s).drop k ≠ [] := fun e => by
        have := congrArg List.length e
        rw [List.length_drop, M.bytes_len] at this
        simp at this
        omega
      rw [if_neg h, if_neg hne, ih, List.drop_drop]
theorem textN_list (s : ByteArray) : textN s = textL (M.bytes s) := by
  have b0 := by_hd s 0
  rw [List.drop_zero] at b0
  unfold textN textL
  rw [← b0, textG_list, M.bytes_len]
theorem cutB_list (s : ByteArray) (k n : Nat) : cutB s k n = cutL ((M.bytes s).drop k) n := by
  unfold cutB cutL
  rw [M.bytes_extract, show k + n - k = n by omega]
theorem firstF_list (s : ByteArray) (k : Nat) (hk : k < s.size) : firstF s k 6 = oneL ((M.bytes s).drop k) := by
  have hx : (s.extract k s.size).size = s.size - k := by rw [ByteArray.size_extract]; omega
  have h2 : rdB s k 2 = cutL ((M.bytes s).drop k) (numLen ((M.bytes s).drop k)) := by
    show cutB s k _ = _
    rw [cutB_list, numL_list _ (by omega), M.bytes_tail]
  have h3 : rdB s k 3 = textL ((M.bytes s).drop k) := by
    show textN _ = _
    rw [textN_list, M.bytes_tail]
  have h4 : rdB s k 4 = cutL ((M.bytes s).drop k) (nameLen ((M.bytes s).drop k)) := by
    show cutB s k _ = _
    rw [cutB_list, nameL_list, M.bytes_tail]
  have h5 : rdB s k 5 = cutL ((M.bytes s).drop k) (signLen ((M.bytes s).drop k)) := by
    show cutB s k _ = _
    rw [cutB_list, signN_list, M.bytes_tail]
  unfold oneL
  rw [← h2, ← h3, ← h4, ← h5, ← by_hd]
  have h0 : rdB s k 0 = if by_ s k = 40 then some ([], 1) else none := rfl
  have h1 : rdB s k 1 = if by_ s k = 41 then some ([], 1) else none := rfl
  have e : firstF s k 6 = orK 0 (rdB s k 0) (orK 1 (rdB s k 1) (orK 2 (rdB s k 2) (orK 3 (rdB s k 3) (orK 4 (rdB s k 4) (orK 5 (rdB s k 5) none))))) := rfl
  rw [e, h0, h1]
  by_cases e0 : by_ s k = 40
  · rw [if_pos e0, if_pos e0]; rfl
  · rw [if_neg e0, if_neg e0]
    by_cases e1 : by_ s k = 41
    · rw [if_pos e1, if_pos e1]; rfl
    · rw [if_neg e1, if_neg e1]; rfl

def partL (d : Nat) (l : List Nat) : Bool := d == 0 || d == 1 || l.isEmpty || hd l == 40 || hd l == 41 || hd l == 59 || blB (hd l)
theorem partB_list (d : Nat) (s : ByteArray) : partB (d : Int) s = partL d (M.bytes s) := by
  have b0 := by_hd s 0
  rw [List.drop_zero] at b0
  unfold partB partL
  rw [← b0]
  have e0 : ((d : Int) == 0) = (d == 0) := by rw [Bool.eq_iff_iff]; simp
  have e1 : ((d : Int) == 1) = (d == 1) := by rw [Bool.eq_iff_iff]; simp; omega
  have e2 : decide (s.size = 0) = (M.bytes s).isEmpty := by rw [Bool.eq_iff_iff, decide_eq_true_iff, List.isEmpty_iff, ← List.length_eq_zero_iff, M.bytes_len]
  rw [e0, e1, e2]
/-- How many bytes at the start are blanks or of comments; true: a comment has begun. -/
def skipL : List Nat → Bool → Nat
  | [], _ => 0
  | b :: l, true => if b = 10 then skipL l false + 1 else skipL l true + 1
  | b :: l, false => if blB (b : Int) = true then skipL l false + 1 else if b = 59 then skipL l true + 1 else 0
theorem skipL_t (b : Nat) (l : List Nat) : skipL (b :: l) true = if b = 10 then skipL l false + 1 else skipL l true + 1 := by rw [skipL]
theorem skipL_f (b : Nat) (l : List Nat) : skipL (b :: l) false = if blB (b : Int) = true then skipL l false + 1 else if b = 59 then skipL l true + 1 else 0 := by rw [skipL]
theorem skipE_list (s : ByteArray) (k : Nat) (c : Bool) (hk : k ≤ s.size) : skipE s k c = k + skipL ((M.bytes s).drop k) c := by
  generalize hn : s.size - k = n
  induction n generalizing k c with
  | zero => rw [skip_end c (by omega), List.drop_of_length_le (by rw [M.bytes_len]; omega)]; rfl
  | succ n ih =>
    have hl : k < (M.bytes s).length := by rw [M.bytes_len]; omega
    have hb := by_hd s k
    rw [List.drop_eq_getElem_cons hl] at hb ⊢
    have hb : by_ s k = ((M.bytes s)[k] : Int) := hb
    rw [skipE, dif_pos (by omega), hb]
    have i1 := ih (k + 1) false (by omega) (by omega)
    have i2 := ih (k + 1) true (by omega) (by omega)
    generalize (M.bytes s)[k] = b
    cases c with
    | true =>
      rw [if_pos rfl]
      unfold skipL
      by_cases h : b = 10
      · rw [if_pos (by omega), if_pos h, i1]; omega
      · rw [if_neg (by omega), if_neg h, i2]; omega
    | false =>
      rw [if_neg (by decide)]
      unfold skipL
      by_cases h : blB (b : Int) = true
      · rw [if_pos h, if_pos h, i1]; omega
      · rw [if_neg h, if_neg h]
        by_cases h2 : b = 59
        · rw [if_pos (by omega), if_pos h2, i2]; omega
        · rw [if_neg (by omega), if_neg h2]; omega
end Go.Proofs.YthhkpoobcnmdgaaDoor
/-
  lex upon rows of bytes: tokens with something behind them, tokens by themselves, a text's token.
-/
namespace Go.Proofs.YthhkpoobcnmdgaaDoor
open Go.RowKit
set_option linter.unusedVariables false

theorem drop_app {l r : List Nat} {n : Nat} (h : n ≤ l.length) : (l ++ r).drop n = l.drop n ++ r := List.drop_append_of_le_length h
theorem hd_drop_app {l r : List Nat} {n : Nat} (h : n < l.length) : hd ((l ++ r).drop n) = hd (l.drop n) := by
  rw [drop_app (by omega), hd_app (by intro e; have := congrArg List.length e; simp at this; omega)]
theorem hd_drop_none {l : List Nat} {n : Nat} (h : l.length ≤ n) : hd (l.drop n) = -1 := by rw [List.drop_of_length_le h]; rfl
theorem lt_of_hd {l : List Nat} {n : Nat} (h : hd (l.drop n) ≠ -1) : n < l.length := by
  by_cases g : n < l.length
  · exact g
  · exact absurd (hd_drop_none (by omega)) h
theorem hd_nat (l : List Nat) : -1 ≤ hd l := by cases l <;> simp [hd] <;> omega

/-- A first byte behind which a token ends: there is none, or one of ( ) ; or a blank. -/
def Stop (b : Int) : Prop := b = -1 ∨ b = 40 ∨ b = 41 ∨ b = 59 ∨ blB b = true
theorem Stop.cases {b : Int} (h : Stop b) : digB b = false ∧ wordB b = false ∧ b ≠ 63 ∧ b ≠ 61 ∧ b ≠ 62 := by
  have hc : b = -1 ∨ b = 40 ∨ b = 41 ∨ b = 59 ∨ b = 32 ∨ b = 9 ∨ b = 10 ∨ b = 13 := by
    unfold Stop blB at h
    simpa [or_assoc] using h
  rcases hc with rfl | rfl | rfl | rfl | rfl | rfl | rfl | rfl <;> decide
theorem stop_part {d : Nat} {l : List Nat} (h : partL d l = true) (h0 : d ≠ 0) (h1 : d ≠ 1) : Stop (hd l) := by
  unfold partL at h
  simp only [Bool.or_eq_true, beq_iff_eq, List.isEmpty_iff] at h
  unfold Stop
  rcases h with (((((h | h) | h) | h) | h) | h) | h
  · exact absurd h h0
  · exact absurd h h1
  · rw [h]; exact .inl rfl
  · exact .inr (.inl h)
  · exact .inr (.inr (.inl h))
  · exact .inr (.inr (.inr (.inl h)))
  · exact .inr (.inr (.inr (.inr h)))
theorem part_stop {d : Nat} {l : List Nat} (h : Stop (hd l)) : partL d l = true := by
  unfold partL
  simp only [Bool.or_eq_true, beq_iff_eq, List.isEmpty_iff]
  rcases h with h | h | h | h | h
  · exact .inl (.inl (.inl (.inl (.inr (hd_nil.1 h)))))
  · exact .inl (.inl (.inl (.inr h)))
  · exact .inl (.inl (.inr h))
  · exact .inl (.inr h)
  · exact .inr h
theorem part_hd {d : Nat} {l l' : List Nat} (h : hd l = hd l') : partL d l = partL d l' := by
  have e : l.isEmpty = l'.isEmpty := by
    rw [Bool.eq_iff_iff, List.isEmpty_iff, List.isEmpty_iff, ← hd_nil, ← hd_nil, h]
  unfold partL
  rw [h, e]

/-! Numbers. -/
theorem numLen_def (l : List Nat) : numLen l = if run digB (l.drop (dashL l)) = 0 then 0 else if hd (l.drop (dashL l)) = 48 then (if dashL l = 0 then 1 else 0) else dashL l + run digB (l.drop (dashL l)) := rfl
theorem nameLen_def (l : List Nat) : nameLen l = if letB (hd l) = true then (if hd (l.drop (1 + run wordB (l.drop 1))) = 63 then 1 + run wordB (l.drop 1) + 1 else 1 + run wordB (l.drop 1)) else 0 := rfl
theorem signLen_def (l : List Nat) : signLen l = if (hd l = 60 ∧ hd (l.drop 1) = 61) ∨ (hd l = 61 ∧ hd (l.drop 1) = 61) ∨ (hd l = 45 ∧ hd (l.drop 1) = 62) then 2 else if hd l = 43 ∨ hd l = 45 ∨ hd l = 42 ∨ hd l = 60 ∨ hd l = 61 then 1 else 0 := rfl
theorem numLen_le (l : List Nat) : numLen l ≤ l.length := by
  unfold numLen
  have h := run_le digB (l.drop (dashL l))
  rw [List.length_drop] at h
  split
  · omega
  · split <;> (try split) <;> omega
theorem dash_app {l r : List Nat} (h : l ≠ []) : dashL (l ++ r) = dashL l := by unfold dashL; rw [hd_app h]
theorem dash_le1 (l : List Nat) : dashL l ≤ 1 := by unfold dashL; split <;> omega
theorem dash_len {l : List Nat} (h : l ≠ []) : dashL l ≤ l.length := by
  have := dash_le1 l
  have : 0 < l.length := List.length_pos_iff.2 h
  omega
theorem numLen_app {l r : List Nat} (h : l ≠ []) (hr : run digB (l.drop (dashL l)) < l.length - dashL l ∨ digB (hd r) = false) : numLen (l ++ r) = numLen l := by
  have hd1 := dash_len h
  unfold numLen
  rw [dash_app h, drop_app hd1, run_app (by rw [List.length_drop]; exact hr)]
  by_cases e : run digB (l.drop (dashL l)) = 0
  · rw [if_pos e, if_pos e]
  · have : l.drop (dashL l) ≠ [] := by intro g; rw [g] at e; exact e rfl
    rw [if_neg e, if_neg e, hd_app this]
/-- A number's first byte is a digit, or - . -/
theorem numLen_pos {l : List Nat} (h : 0 < numLen l) : digB (hd (l.drop (dashL l))) = true ∧ (dashL l = 1 → hd (l.drop 1) ≠ 48) := by
  unfold numLen at h
  split at h
  · omega
  · rename_i h1
    refine ⟨?_, ?_⟩
    · generalize l.drop (dashL l) = m at h1
      cases m with
      | nil => exact absurd rfl h1
      | cons b m =>
        unfold run at h1
        split at h1
        · assumption
        · exact absurd rfl h1
    · intro hd1 h48
      rw [hd1, h48] at h
      simp at h
theorem run_zero {p : Int → Bool} {l : List Nat} (h : p (hd l) = false) : run p l = 0 := by
  cases l with
  | nil => rfl
  | cons b l => unfold run; rw [if_neg (by rw [show p (b : Int) = false from h]; decide)]
theorem run_pos {p : Int → Bool} {l : List Nat} (h : p (hd l) = true) (hp : p (-1) = false) : 0 < run p l := by
  cases l with
  | nil => rw [show hd [] = -1 from rfl, hp] at h; cases h
  | cons b l => unfold run; rw [if_pos (show p (b : Int) = true from h)]; omega
theorem numLen_zero {l : List Nat} (h : digB (hd (l.drop (dashL l))) = false) : numLen l = 0 := by unfold numLen; rw [if_pos (run_zero h)]
theorem numLen_dash0 {l : List Nat} (h : hd l = 45) (h2 : hd (l.drop 1) = 48) : numLen l = 0 := by
  have hd1 : dashL l = 1 := by unfold dashL; rw [if_pos h]
  unfold numLen
  rw [hd1, if_pos h2]
  split <;> simp
theorem numLen_none {l : List Nat} (h : hd l ≠ 45) (h2 : digB (hd l) = false) : numLen l = 0 :=
  numLen_zero (by unfold dashL; rw [if_neg h, List.drop_zero]; exact h2)

/-! A text's bytes. -/
theorem hex_app {l r : List Nat} (h : (hexL l).2 ≠ 0) : hexL (l ++ r) = hexL l ∧ 4 ≤ l.length := by
  unfold hexL at h
  split at h
  · rename_i h1
    have hl : 3 < l.length := lt_of_hd fun e => by rw [e, hexV_neg] at h1; omega
    refine ⟨?_, by omega⟩
    unfold hexL
    rw [hd_drop_app (by omega), hd_drop_app (by omega)]
  · exact absurd rfl h
theorem item_app {l r : List Nat} (h : (itemL l).2 ≠ 0) : itemL (l ++ r) = itemL l ∧ (itemL l).2.toNat ≤ l.length ∧ 0 < (itemL l).2.toNat := by
  unfold itemL at h
  by_cases c0 : prB (hd l) = false
  · rw [if_pos c0] at h; exact absurd rfl h
  · rw [if_neg c0] at h
    have hl : l ≠ [] := by intro e; rw [e] at c0; exact c0 (by decide)
    have hp : 0 < l.length := List.length_pos_iff.2 hl
    by_cases c1 : hd l ≠ 92
    · unfold itemL
      rw [hd_app hl, if_neg c0, if_pos c1, if_neg c0, if_pos c1]
      exact ⟨rfl, hp, Nat.one_pos⟩
    · rw [if_neg c1] at h
      have h1 : hd (l.drop 1) ≠ -1 := by
        intro e
        rw [e] at h
        exact h rfl
      have hl1 := lt_of_hd h1
      have e1 : hd ((l ++ r).drop 1) = hd (l.drop 1) := hd_drop_app hl1
      unfold itemL
      rw [hd_app hl, e1, if_neg c0, if_neg c1, if_neg c0, if_neg c1]
      by_cases c2 : hd (l.drop 1) = 34 ∨ hd (l.drop 1) = 92
      · rw [if_pos c2, if_pos c2]; exact ⟨rfl, (show 2 ≤ l.length by omega), (show 0 < 2 by decide)⟩
      · rw [if_neg c2, if_neg c2]
        by_cases c3 : hd (l.drop 1) = 110
        · rw [if_pos c3, if_pos c3]; exact ⟨rfl, (show 2 ≤ l.length by omega), (show 0 < 2 by decide)⟩
        · rw [if_neg c3, if_neg c3]
          by_cases c4 : hd (l.drop 1) = 120
          · rw [if_neg c2, if_neg c3, if_pos c4] at h
            rw [if_pos c4, if_pos c4]
            obtain ⟨h5, h6⟩ := hex_app (r := r) h
            refine ⟨h5, ?_⟩
            unfold hexL at h ⊢
            split at h
            · rename_i h7
              rw [if_pos h7]
              exact ⟨(show 4 ≤ l.length by omega), (show 0 < 4 by decide)⟩
            · exact absurd rfl h
          · rw [if_neg c2, if_neg c3, if_neg c4] at h
            exact absurd rfl h
theorem textGL_app {f g : Nat} {l r : List Nat} {k : Nat} {out b : List Nat} {n : Nat} (h : textGL f l k out = some (b, n)) (hg : f ≤ g) : textGL g (l ++ r) k out = some (b, n) := by
  induction f generalizing g l k out with
  | zero => cases h
  | succ f ih =>
    cases g with
    | zero => omega
    | succ g =>
      rw [textGL] at h ⊢
      by_cases c0 : l = []
      · rw [if_pos c0] at h; cases h
      · rw [if_neg c0] at h
        rw [if_neg (by simp [c0]), hd_app c0]
        by_cases c1 : hd l = 34
        · rw [if_pos c1] at h ⊢; exact h
        · rw [if_neg c1] at h ⊢
          by_cases c2 : (itemL l).2 = 0
          · rw [if_pos c2] at h; cases h
          · obtain ⟨e1, e2, e3⟩ := item_app (r := r) c2
            rw [if_neg c2] at h
            rw [e1, if_neg c2, drop_app e2]
            exact ih h (by omega)
theorem textGL_val {f : Nat} {l : List Nat} {k : Nat} {out b : List Nat} {n : Nat} (h : textGL f l k out = some (b, n)) : k < n ∧ n ≤ k + l.length ∧ hd (l.drop (n - k - 1)) = 34 := by
  induction f generalizing l k out with
  | zero => cases h
  | succ f ih =>
    rw [textGL] at h
    by_cases c0 : l = []
    · rw [if_pos c0] at h; cases h
    · rw [if_neg c0] at h
      have hp : 0 < l.length := List.length_pos_iff.2 c0
      by_cases c1 : hd l = 34
      · rw [if_pos c1] at h
        injection h with h
        injection h with h1 h2
        subst h2
        refine ⟨by omega, by omega, ?_⟩
        rw [show k + 1 - k - 1 = 0 by omega]; exact c1
      · rw [if_neg c1] at h
        by_cases c2 : (itemL l).2 = 0
        · rw [if_pos c2] at h; cases h
        · rw [if_neg c2] at h
          obtain ⟨e1, e2, e3⟩ := item_app (r := []) c2
          obtain ⟨h1, h2, h3⟩ := ih h
          rw [List.length_drop] at h2
          rw [List.drop_drop] at h3
          refine ⟨by omega, by omega, ?_⟩
          rw [← h3]
          congr 2
          omega
theorem textL_app {l r : List Nat} {b : List Nat} {n : Nat} (h : textL l = some (b, n)) : textL (l ++ r) = some (b, n) := by
  unfold textL at h ⊢
  split at h
  · rename_i h0
    have hl : l ≠ [] := by intro e; rw [e] at h0; cases h0
    have hp : 0 < l.length := List.length_pos_iff.2 hl
    rw [hd_app hl, if_pos h0, drop_app (by omega)]
    exact textGL_app h (by simp)
  · cases h
theorem textL_hd {l : List Nat} {p : List Nat × Nat} (h : textL l = some p) : hd l = 34 := by
  unfold textL at h
  split at h
  · assumption
  · cases h
theorem textL_not {l : List Nat} (h : hd l ≠ 34) : textL l = none := by unfold textL; rw [if_neg h]
theorem textL_val {l : List Nat} {b : List Nat} {n : Nat} (h : textL l = some (b, n)) : 1 < n ∧ n ≤ l.length := by
  have h0 := textL_hd h
  unfold textL at h
  rw [if_pos h0] at h
  obtain ⟨h1, h2, _⟩ := textGL_val h
  rw [List.length_drop] at h2
  have hl : l ≠ [] := by intro e; rw [e] at h0; cases h0
  have hp : 0 < l.length := List.length_pos_iff.2 hl
  omega

/-! Names, signs. -/
theorem nameLen_pos {l : List Nat} (h : 0 < nameLen l) : letB (hd l) = true := by
  unfold nameLen at h
  split at h
  · assumption
  · omega
theorem nameLen_not {l : List Nat} (h : letB (hd l) = false) : nameLen l = 0 := by unfold nameLen; rw [if_neg (by rw [h]; decide)]
theorem nameLen_le (l : List Nat) : nameLen l ≤ l.length := by
  unfold nameLen
  split
  · rename_i h
    have hl : l ≠ [] := by intro e; rw [e] at h; exact absurd h (by decide)
    have hp : 0 < l.length := List.length_pos_iff.2 hl
    have h2 := run_le wordB (l.drop 1)
    rw [List.length_drop] at h2
    split
    · rename_i h3
      have := lt_of_hd (l := l) (n := 1 + run wordB (l.drop 1)) (by rw [h3]; decide)
      omega
    · omega
  · omega
theorem signLen_le (l : List Nat) : signLen l ≤ l.length := by
  unfold signLen
  split
  · rename_i h
    have := lt_of_hd (l := l) (n := 1) (by omega)
    omega
  · split
    · rename_i h
      have := lt_of_hd (l := l) (n := 0) (by rw [List.drop_zero]; omega)
      omega
    · omega
end Go.Proofs.YthhkpoobcnmdgaaDoor
/-
  lex upon rows of bytes: the token at a text's start, with something behind it, by itself; the token of a text.
-/
namespace Go.Proofs.YthhkpoobcnmdgaaDoor
open Go.RowKit
set_option linter.unusedVariables false

theorem one_open {l : List Nat} (h : hd l = 40) : oneL l = some (0, [], 1) := by unfold oneL; rw [if_pos h]
theorem one_close {l : List Nat} (h : hd l = 41) : oneL l = some (1, [], 1) := by unfold oneL; rw [if_neg (by omega), if_pos h]
theorem cut_pos {l : List Nat} {n : Nat} (h : 0 < n) : cutL l n = some (l.take n, n) := by unfold cutL; rw [if_pos h]
theorem cut_zero {l : List Nat} {n : Nat} (h : n = 0) : cutL l n = none := by unfold cutL; rw [if_neg (by omega)]
theorem num_hd {l : List Nat} (h : 0 < numLen l) : hd l = 45 ∨ digB (hd l) = true := by
  by_cases e : hd l = 45
  · exact .inl e
  · have := (numLen_pos h).1
    unfold dashL at this
    rw [if_neg e, List.drop_zero] at this
    exact .inr this
theorem dig_range {b : Int} (h : digB b = true) : 48 ≤ b ∧ b ≤ 57 := by unfold digB at h; simpa using h
theorem let_range {b : Int} (h : letB b = true) : (65 ≤ b ∧ b ≤ 90) ∨ (97 ≤ b ∧ b ≤ 122) := by unfold letB at h; simpa using h
theorem not_dig {b : Int} (h : ¬ (48 ≤ b ∧ b ≤ 57)) : digB b = false := by
  cases e : digB b with
  | false => rfl
  | true => exact absurd (dig_range e) h
theorem not_let {b : Int} (h : ¬ ((65 ≤ b ∧ b ≤ 90) ∨ (97 ≤ b ∧ b ≤ 122))) : letB b = false := by
  cases e : letB b with
  | false => rfl
  | true => exact absurd (let_range e) h
theorem sign_hd {l : List Nat} (h : 0 < signLen l) : hd l = 43 ∨ hd l = 45 ∨ hd l = 42 ∨ hd l = 60 ∨ hd l = 61 := by
  unfold signLen at h
  split at h
  · omega
  · split at h
    · assumption
    · omega
theorem one_num {l : List Nat} (h : 0 < numLen l) : oneL l = some (2, l.take (numLen l), numLen l) := by
  have h1 := num_hd h
  have h2 : hd l ≠ 40 ∧ hd l ≠ 41 := by
    rcases h1 with h1 | h1
    · omega
    · have := dig_range h1; omega
  unfold oneL
  rw [if_neg h2.1, if_neg h2.2, cut_pos h]
  rfl
theorem one_text {l b : List Nat} {n : Nat} (h : textL l = some (b, n)) : oneL l = some (3, b, n) := by
  have h1 := textL_hd h
  unfold oneL
  rw [if_neg (by omega), if_neg (by omega), cut_zero (numLen_none (by omega) (not_dig (by omega))), h]
  rfl
theorem one_name {l : List Nat} (h : 0 < nameLen l) : oneL l = some (4, l.take (nameLen l), nameLen l) := by
  have h1 := let_range (nameLen_pos h)
  unfold oneL
  rw [if_neg (by omega), if_neg (by omega), cut_zero (numLen_none (by omega) (not_dig (by omega))), textL_not (by omega), cut_pos h]
  rfl
theorem one_sign {l : List Nat} (h : 0 < signLen l) (h0 : numLen l = 0) : oneL l = some (5, l.take (signLen l), signLen l) := by
  have h1 := sign_hd h
  unfold oneL
  rw [if_neg (by omega), if_neg (by omega), cut_zero h0, textL_not (by omega), cut_zero (nameLen_not (not_let (by omega))), cut_pos h]
  rfl
/-- How a token can come. -/
inductive One (l : List Nat) : Nat → List Nat → Nat → Prop
  | opens (h : hd l = 40) : One l 0 [] 1
  | closes (h : hd l = 41) : One l 1 [] 1
  | num (h : 0 < numLen l) : One l 2 (l.take (numLen l)) (numLen l)
  | text {b n} (h : textL l = some (b, n)) : One l 3 b n
  | name (h : 0 < nameLen l) : One l 4 (l.take (nameLen l)) (nameLen l)
  | sign (h : 0 < signLen l) (h0 : numLen l = 0) : One l 5 (l.take (signLen l)) (signLen l)
theorem one_inv {l : List Nat} {d : Nat} {b : List Nat} {n : Nat} (h : oneL l = some (d, b, n)) : One l d b n := by
  unfold oneL at h
  split at h
  · rename_i h0; cases h; exact .opens h0
  · split at h
    · rename_i h0; cases h; exact .closes h0
    · by_cases c1 : 0 < numLen l
      · rw [cut_pos c1] at h; cases h; exact .num c1
      · rw [cut_zero (by omega)] at h
        cases c2 : textL l with
        | some p =>
          obtain ⟨b', n'⟩ := p
          rw [c2] at h; cases h; exact .text c2
        | none =>
          rw [c2] at h
          by_cases c3 : 0 < nameLen l
          · rw [cut_pos c3] at h; cases h; exact .name c3
          · rw [cut_zero (l := l) (n := nameLen l) (by omega)] at h
            by_cases c4 : 0 < signLen l
            · rw [cut_pos c4] at h; cases h; exact .sign c4 (by omega)
            · rw [cut_zero (l := l) (n := signLen l) (by omega)] at h; cases h
theorem One.eq {l : List Nat} {d : Nat} {b : List Nat} {n : Nat} (h : One l d b n) : oneL l = some (d, b, n) := by
  cases h with
  | opens h => exact one_open h
  | closes h => exact one_close h
  | num h => exact one_num h
  | text h => exact one_text h
  | name h => exact one_name h
  | sign h h0 => exact one_sign h h0
theorem One.len {l : List Nat} {d : Nat} {b : List Nat} {n : Nat} (h : One l d b n) : 0 < n ∧ n ≤ l.length ∧ d ≤ 5 := by
  have hp : hd l ≠ -1 → 0 < l.length := fun h => List.length_pos_iff.2 fun e => h (hd_nil.2 e)
  cases h with
  | opens h => have := hp (by omega); omega
  | closes h => have := hp (by omega); omega
  | num h => have := numLen_le l; omega
  | text h => have := textL_val h; omega
  | name h => have := nameLen_le l; omega
  | sign h h0 => have := signLen_le l; omega
theorem one_none {l : List Nat} : oneL l = none ↔ hd l ≠ 40 ∧ hd l ≠ 41 ∧ numLen l = 0 ∧ textL l = none ∧ nameLen l = 0 ∧ signLen l = 0 := by
  constructor
  · intro h
    refine ⟨fun e => ?_, fun e => ?_, ?_, ?_, ?_, ?_⟩
    · rw [one_open e] at h; cases h
    · rw [one_close e] at h; cases h
    · apply Nat.eq_zero_of_not_pos; intro e; rw [one_num e] at h; cases h
    · cases e : textL l with
      | none => rfl
      | some p => obtain ⟨b, n⟩ := p; rw [one_text e] at h; cases h
    · apply Nat.eq_zero_of_not_pos; intro e; rw [one_name e] at h; cases h
    · apply Nat.eq_zero_of_not_pos; intro e
      have hz : numLen l = 0 := by apply Nat.eq_zero_of_not_pos; intro e2; rw [one_num e2] at h; cases h
      rw [one_sign e hz] at h; cases h
  · rintro ⟨h1, h2, h3, h4, h5, h6⟩
    unfold oneL
    rw [if_neg h1, if_neg h2, cut_zero h3, h4, cut_zero h5, cut_zero h6]; rfl

/-! With something behind it. -/
theorem numLen_app2 {l r : List Nat} (h : 0 < numLen l) (hr : numLen l < l.length ∨ digB (hd r) = false) : numLen (l ++ r) = numLen l := by
  have hl : l ≠ [] := by intro e; have := numLen_le l; rw [e] at this h; simp at this; omega
  have hp := (numLen_pos h).1
  have hd1 := dash_len hl
  have hne : l.drop (dashL l) ≠ [] := by intro g; rw [g] at hp; cases hp
  have hrun := run_pos hp (by decide)
  by_cases e : hd (l.drop (dashL l)) = 48
  · have hd0 : dashL l = 0 := by
      by_cases g : dashL l = 0
      · exact g
      · have : dashL l = 1 := by have := dash_le1 l; omega
        have h2 := (numLen_pos h).2 this
        rw [this] at e
        exact absurd e h2
    unfold numLen
    rw [dash_app hl, drop_app hd1, hd_app hne, if_pos e, if_pos e]
    have a1 : ¬ run digB (l.drop (dashL l) ++ r) = 0 := Nat.ne_of_gt (run_pos (by rw [hd_app hne]; exact hp) (by decide))
    have a2 : ¬ run digB (l.drop (dashL l)) = 0 := Nat.ne_of_gt hrun
    rw [if_neg a1, if_neg a2]
  · refine numLen_app hl ?_
    rcases hr with hr | hr
    · left
      unfold numLen at hr
      rw [if_neg (by omega), if_neg e] at hr
      omega
    · exact .inr hr
theorem numLen_sign {l r : List Nat} (h : 0 < signLen l) (h0 : numLen l = 0) (hr : 1 < l.length ∨ digB (hd r) = false) : numLen (l ++ r) = 0 := by
  have hs := sign_hd h
  have hl : l ≠ [] := by intro e; rw [e] at hs; simp [hd] at hs
  by_cases e : hd l = 45
  · have hdl : dashL (l ++ r) = 1 := by unfold dashL; rw [hd_app hl, if_pos e]
    have hdl0 : dashL l = 1 := by unfold dashL; rw [if_pos e]
    by_cases g : 1 < l.length
    · have e1 : hd ((l ++ r).drop 1) = hd (l.drop 1) := hd_drop_app g
      cases c : digB (hd (l.drop 1)) with
      | false => exact numLen_zero (by rw [hdl, e1]; exact c)
      | true =>
        refine numLen_dash0 (by rw [hd_app hl]; exact e) ?_
        rw [e1]
        unfold numLen at h0
        have := run_pos c (by decide)
        rw [hdl0, if_neg (by omega)] at h0
        by_cases k : hd (l.drop 1) = 48
        · exact k
        · rw [if_neg k] at h0; omega
    · rcases hr with hr | hr
      · exact absurd hr g
      · refine numLen_zero ?_
        have hp : 0 < l.length := List.length_pos_iff.2 hl
        rw [hdl, drop_app (by omega), List.drop_of_length_le (by omega)]
        exact hr
  · exact numLen_none (by rw [hd_app hl]; exact e) (by rw [hd_app hl]; exact not_dig (by omega))
theorem nameLen_app {l r : List Nat} (hl : l ≠ []) (hr : nameLen l < l.length ∨ (wordB (hd r) = false ∧ hd r ≠ 63)) : nameLen (l ++ r) = nameLen l := by
  have hp : 0 < l.length := List.length_pos_iff.2 hl
  cases c : letB (hd l) with
  | false => rw [nameLen_not c, nameLen_not (by rw [hd_app hl]; exact c)]
  | true =>
    have hrl := run_le wordB (l.drop 1)
    rw [List.length_drop] at hrl
    unfold nameLen at hr ⊢
    rw [hd_app hl, if_pos c, if_pos c]
    rw [if_pos c] at hr
    by_cases g : 1 + run wordB (l.drop 1) < l.length
    · rw [drop_app (l := l) (n := 1) (by omega), run_app (by rw [List.length_drop]; exact .inl (by omega)), hd_drop_app g]
    · have e : 1 + run wordB (l.drop 1) = l.length := by omega
      have hn : hd (l.drop (1 + run wordB (l.drop 1))) = -1 := hd_drop_none (by omega)
      rw [if_neg (by rw [hn]; decide)] at hr
      have hr2 : wordB (hd r) = false ∧ hd r ≠ 63 := by
        rcases hr with h | h
        · omega
        · exact h
      have hx : hd ((l ++ r).drop (1 + run wordB (l.drop 1))) ≠ 63 := by rw [drop_app (by omega), List.drop_of_length_le (by omega), List.nil_append]; exact hr2.2
      have hy : ¬ hd (l.drop (1 + run wordB (l.drop 1))) = 63 := by rw [hn]; decide
      rw [drop_app (l := l) (n := 1) (by omega), run_app (.inr hr2.1), if_neg hx, if_neg hy]
theorem signLen_app {l r : List Nat} (hl : l ≠ []) (hr : 1 < l.length ∨ (hd r ≠ 61 ∧ hd r ≠ 62)) : signLen (l ++ r) = signLen l := by
  have hp : 0 < l.length := List.length_pos_iff.2 hl
  unfold signLen
  rw [hd_app hl]
  by_cases g : 1 < l.length
  · rw [hd_drop_app g]
  · have h2 : hd r ≠ 61 ∧ hd r ≠ 62 := by
      rcases hr with h | h
      · exact absurd h g
      · exact h
    have e : l.drop 1 = [] := List.drop_of_length_le (by omega)
    have e1 : hd (l.drop 1) = -1 := by rw [e]; rfl
    have e2 : hd ((l ++ r).drop 1) = hd r := by rw [drop_app (by omega), e, List.nil_append]
    rw [e1, e2, if_neg (show ¬ ((hd l = 60 ∧ hd r = 61) ∨ (hd l = 61 ∧ hd r = 61) ∨ (hd l = 45 ∧ hd r = 62)) by omega), if_neg (show ¬ ((hd l = 60 ∧ (-1 : Int) = 61) ∨ (hd l = 61 ∧ (-1 : Int) = 61) ∨ (hd l = 45 ∧ (-1 : Int) = 62)) by omega)]
theorem one_app {l r : List Nat} {d : Nat} {b : List Nat} {n : Nat} (h : One l d b n) (hr : n < l.length ∨ d = 0 ∨ d = 1 ∨ d = 3 ∨ Stop (hd r)) : One (l ++ r) d b n := by
  have hn := h.len
  have hl : l ≠ [] := by intro e; rw [e] at hn; simp at hn; omega
  have hs : n < l.length ∨ d = 0 ∨ d = 1 ∨ d = 3 ∨ (digB (hd r) = false ∧ wordB (hd r) = false ∧ hd r ≠ 63 ∧ hd r ≠ 61 ∧ hd r ≠ 62) := by
    rcases hr with h | h | h | h | h
    · exact .inl h
    · exact .inr (.inl h)
    · exact .inr (.inr (.inl h))
    · exact .inr (.inr (.inr (.inl h)))
    · exact .inr (.inr (.inr (.inr h.cases)))
  have tk : ∀ m, m ≤ l.length → (l ++ r).take m = l.take m := fun m hm => List.take_append_of_le_length hm
  cases h with
  | opens h => exact .opens (by rw [hd_app hl]; exact h)
  | closes h => exact .closes (by rw [hd_app hl]; exact h)
  | num h =>
    have e := numLen_app2 (r := r) h (by
      rcases hs with h | h | h | h | h
      · exact .inl h
      · omega
      · omega
      · omega
      · exact .inr h.1)
    have := One.num (l := l ++ r) (by omega)
    rwa [e, tk _ (by omega)] at this
  | text h => exact .text (textL_app h)
  | name h =>
    have e := nameLen_app (r := r) hl (by
      rcases hs with h | h | h | h | h
      · exact .inl h
      · omega
      · omega
      · omega
      · exact .inr ⟨h.2.1, h.2.2.1⟩)
    have := One.name (l := l ++ r) (by omega)
    rwa [e, tk _ (by omega)] at this
  | sign h h0 =>
    have e := signLen_app (r := r) hl (by
      rcases hs with h | h | h | h | h
      · exact .inl (by omega)
      · omega
      · omega
      · omega
      · exact .inr ⟨h.2.2.2.1, h.2.2.2.2⟩)
    have e0 := numLen_sign (r := r) h h0 (by
      rcases hs with h | h | h | h | h
      · exact .inl (by omega)
      · omega
      · omega
      · omega
      · exact .inr h.1)
    have := One.sign (l := l ++ r) (by omega) e0
    rwa [e, tk _ (by omega)] at this

/-! By itself. -/
theorem drop_take' (l : List Nat) (n a : Nat) : (l.take n).drop a = (l.drop a).take (n - a) := List.drop_take ..
theorem one_take {l : List Nat} {d : Nat} {b : List Nat} {n : Nat} (h : One l d b n) (h3 : d ≠ 3) : One (l.take n) d b n ∧ (2 ≤ d → b = l.take n) := by
  have hn := h.len
  have hh : hd (l.take n) = hd l := hd_take hn.1
  have hlen : (l.take n).length = n := by rw [List.length_take]; omega
  cases h with
  | opens h => exact ⟨.opens (by rw [hh]; exact h), fun h => by omega⟩
  | closes h => exact ⟨.closes (by rw [hh]; exact h), fun h => by omega⟩
  | num h =>
    refine ⟨?_, fun _ => rfl⟩
    have hdl : dashL (l.take (numLen l)) = dashL l := by unfold dashL; rw [hh]
    have hp := (numLen_pos h).1
    have hrun := run_pos hp (by decide)
    have a0 : ¬ run digB (l.drop (dashL l)) = 0 := Nat.ne_of_gt hrun
    have e : numLen (l.take (numLen l)) = numLen l := by
      have hrt := run_take (p := digB) (l := l.drop (dashL l)) (n := numLen l - dashL l)
      by_cases c : hd (l.drop (dashL l)) = 48
      · have hd0 : dashL l = 0 := by
          by_cases g : dashL l = 0
          · exact g
          · have : dashL l = 1 := by have := dash_le1 l; omega
            have h2 := (numLen_pos h).2 this
            rw [this] at c
            exact absurd c h2
        have hn1 : numLen l = 1 := by rw [numLen_def, if_neg a0, if_pos c, if_pos hd0]
        rw [hn1] at hdl hrt hh ⊢
        rw [numLen_def, hdl, drop_take', hrt, if_neg (by omega), hd_take (by omega), if_pos c, if_pos hd0]
      · have hn1 : numLen l = dashL l + run digB (l.drop (dashL l)) := by rw [numLen_def, if_neg a0, if_neg c]
        obtain ⟨m, hm⟩ : ∃ m, numLen l = m := ⟨_, rfl⟩
        rw [hm] at hdl hrt hh hn1 ⊢
        have e2 : min (m - dashL l) (run digB (l.drop (dashL l))) = run digB (l.drop (dashL l)) := by omega
        rw [numLen_def, hdl, drop_take', hrt, e2, if_neg a0, hd_take (by omega), if_neg c, hn1]
    have := One.num (l := l.take (numLen l)) (by omega)
    rwa [e, List.take_take, Nat.min_self] at this
  | text h => exact absurd rfl h3
  | name h =>
    refine ⟨?_, fun _ => rfl⟩
    have hc := nameLen_pos h
    have e : nameLen (l.take (nameLen l)) = nameLen l := by
      have hrt := run_take (p := wordB) (l := l.drop 1) (n := nameLen l - 1)
      by_cases c : hd (l.drop (1 + run wordB (l.drop 1))) = 63
      · have hn1 : nameLen l = 1 + run wordB (l.drop 1) + 1 := by rw [nameLen_def, if_pos hc, if_pos c]
        obtain ⟨m, hm⟩ : ∃ m, nameLen l = m := ⟨_, rfl⟩
        rw [hm] at hrt hh hn1 ⊢
        have e2 : min (m - 1) (run wordB (l.drop 1)) = run wordB (l.drop 1) := by omega
        rw [nameLen_def, hh, if_pos hc, drop_take' l m 1, hrt, e2, drop_take' l m, hd_take (by omega), if_pos c, hn1]
      · have hn1 : nameLen l = 1 + run wordB (l.drop 1) := by rw [nameLen_def, if_pos hc, if_neg c]
        obtain ⟨m, hm⟩ : ∃ m, nameLen l = m := ⟨_, rfl⟩
        rw [hm] at hrt hh hn1 ⊢
        have e2 : min (m - 1) (run wordB (l.drop 1)) = run wordB (l.drop 1) := by omega
        have e3 : m - (1 + run wordB (l.drop 1)) = 0 := by omega
        rw [nameLen_def, hh, if_pos hc, drop_take' l m 1, hrt, e2, drop_take' l m, e3, List.take_zero, if_neg (by decide), hn1]
    have := One.name (l := l.take (nameLen l)) (by omega)
    rwa [e, List.take_take, Nat.min_self] at this
  | sign h h0 =>
    refine ⟨?_, fun _ => rfl⟩
    have hs := sign_hd h
    by_cases c : (hd l = 60 ∧ hd (l.drop 1) = 61) ∨ (hd l = 61 ∧ hd (l.drop 1) = 61) ∨ (hd l = 45 ∧ hd (l.drop 1) = 62)
    · have hn2 : signLen l = 2 := by unfold signLen; rw [if_pos c]
      have h1 : hd ((l.take (signLen l)).drop 1) = hd (l.drop 1) := by rw [drop_take', hd_take (by omega)]
      have e : signLen (l.take (signLen l)) = signLen l := by
        rw [hn2] at hh h1 ⊢
        rw [signLen_def, hh, h1, if_pos c]
      have z : numLen (l.take (signLen l)) = 0 := by
        by_cases g : hd l = 45
        · refine numLen_zero ?_
          unfold dashL
          rw [hh, if_pos g, h1]
          exact not_dig (by omega)
        · exact numLen_none (by rw [hh]; exact g) (by rw [hh]; exact not_dig (by omega))
      have := One.sign (l := l.take (signLen l)) (by omega) z
      rwa [e, List.take_take, Nat.min_self] at this
    · have hn2 : signLen l = 1 := by unfold signLen; rw [if_neg c, if_pos hs]
      have h1 : hd ((l.take (signLen l)).drop 1) = -1 := hd_drop_none (by omega)
      have e : signLen (l.take (signLen l)) = signLen l := by
        rw [hn2] at hh h1 ⊢
        rw [signLen_def, hh, h1, if_neg (show ¬ ((hd l = 60 ∧ (-1 : Int) = 61) ∨ (hd l = 61 ∧ (-1 : Int) = 61) ∨ (hd l = 45 ∧ (-1 : Int) = 62)) by omega), if_pos hs]
      have z : numLen (l.take (signLen l)) = 0 := by
        by_cases g : hd l = 45
        · refine numLen_zero ?_
          unfold dashL
          rw [hh, if_pos g, h1]
          decide
        · exact numLen_none (by rw [hh]; exact g) (by rw [hh]; exact not_dig (by omega))
      have := One.sign (l := l.take (signLen l)) (by omega) z
      rwa [e, List.take_take, Nat.min_self] at this
end Go.Proofs.YthhkpoobcnmdgaaDoor
/-
  lex upon rows of bytes: a text's token; a line end behind; rows of tokens.
-/
namespace Go.Proofs.YthhkpoobcnmdgaaDoor
open Go.RowKit
set_option linter.unusedVariables false

/-! A text's token. -/
theorem hex_digits : ∀ n, n < 16 → hexV (hexD n : Int) = n ∧ 32 ≤ hexD n ∧ hexD n ≤ 126 := by decide
theorem q1_item (b : Nat) (hb : b < 256) (y : List Nat) : itemL (q1 b ++ y) = ((b : Int), ((q1 b).length : Int)) ∧ hd (q1 b ++ y) ≠ 34 ∧ q1 b ++ y ≠ [] := by
  unfold q1
  by_cases c1 : b = 10
  · subst c1; rw [if_pos rfl]; exact ⟨rfl, (show ¬ (92 : Int) = 34 by decide), by simp⟩
  · rw [if_neg c1]
    by_cases c2 : b = 34 ∨ b = 92
    · rw [if_pos c2]
      rcases c2 with rfl | rfl
      · exact ⟨rfl, (show ¬ (92 : Int) = 34 by decide), by simp⟩
      · exact ⟨rfl, (show ¬ (92 : Int) = 34 by decide), by simp⟩
    · rw [if_neg c2]
      by_cases c3 : 32 ≤ b ∧ b ≤ 126
      · rw [if_pos c3]
        have h1 : hd ([b] ++ y) = (b : Int) := rfl
        refine ⟨?_, by rw [h1]; omega, by simp⟩
        unfold itemL
        rw [h1, if_neg (by unfold prB; simp; omega), if_pos (by omega)]; rfl
      · rw [if_neg c3]
        obtain ⟨x1, _, _⟩ := hex_digits (b / 16) (by omega)
        obtain ⟨x2, _, _⟩ := hex_digits (b % 16) (by omega)
        refine ⟨?_, (show ¬ (92 : Int) = 34 by decide), by simp⟩
        have e : itemL ([92, 120, hexD (b / 16), hexD (b % 16)] ++ y) = hexL ([92, 120, hexD (b / 16), hexD (b % 16)] ++ y) := rfl
        rw [e]
        have e2 : hexL ([92, 120, hexD (b / 16), hexD (b % 16)] ++ y) = if 0 ≤ hexV (hexD (b / 16) : Int) ∧ 0 ≤ hexV (hexD (b % 16) : Int) then (16 * hexV (hexD (b / 16) : Int) + hexV (hexD (b % 16) : Int), 4) else (0, 0) := rfl
        rw [e2, x1, x2, if_pos (by omega)]
        have : 16 * ((b / 16 : Nat) : Int) + ((b % 16 : Nat) : Int) = (b : Int) := by omega
        rw [this]; rfl
theorem q1_pos (b : Nat) : 0 < (q1 b).length := by unfold q1; split <;> (try split) <;> (try split) <;> simp
theorem textGL_q (l : List Nat) (hl : ∀ b ∈ l, b < 256) (y : List Nat) (f k : Nat) (out : List Nat) (hf : l.length < f) : textGL f (q2 l ++ 34 :: y) k out = some (out ++ l, k + (q2 l).length + 1) := by
  induction l generalizing f k out with
  | nil =>
    cases f with
    | zero => simp at hf
    | succ f =>
      rw [textGL, if_neg (by simp [q2]), if_pos (by rfl)]
      simp [q2]
  | cons b l ih =>
    cases f with
    | zero => simp at hf
    | succ f =>
      have e : q2 (b :: l) ++ 34 :: y = q1 b ++ (q2 l ++ 34 :: y) := by simp [q2]
      obtain ⟨h1, h2, h3⟩ := q1_item b (hl b (by simp)) (q2 l ++ 34 :: y)
      have hp := q1_pos b
      rw [e, textGL, if_neg h3, if_neg h2, h1]
      dsimp only
      rw [if_neg (by omega), Int.toNat_natCast, List.drop_left, Int.toNat_natCast, ih (fun b hb => hl b (by simp [hb])) _ _ _ (by simp at hf; omega)]
      simp [q2]
      omega
/-- The token of a text. -/
def quoB (l : List Nat) : List Nat := 34 :: (q2 l ++ [34])
theorem text_quo (l : List Nat) (hl : ∀ b ∈ l, b < 256) (y : List Nat) : textL (quoB l ++ y) = some (l, (quoB l).length) := by
  unfold textL quoB
  rw [if_pos (show hd (34 :: (q2 l ++ [34]) ++ y) = 34 from rfl)]
  have e : (34 :: (q2 l ++ [34]) ++ y).drop 1 = q2 l ++ 34 :: y := by simp
  have hlen : l.length ≤ (q2 l).length := by
    clear hl e
    induction l with
    | nil => simp
    | cons b l ih =>
      have := q1_pos b
      simp only [q2, List.flatMap_cons, List.length_append, List.length_cons] at ih ⊢
      omega
  rw [e, textGL_q l hl y _ _ _ (by simp; omega)]
  simp
  omega
theorem One.quo (l : List Nat) (hl : ∀ b ∈ l, b < 256) (y : List Nat) : One (quoB l ++ y) 3 l (quoB l).length := .text (text_quo l hl y)
theorem q1_prints (b : Nat) (hb : b < 256) : ∀ c ∈ q1 b, 32 ≤ c ∧ c ≤ 126 := by
  intro c hc
  unfold q1 at hc
  have x1 := hex_digits (b / 16) (by omega)
  have x2 := hex_digits (b % 16) (by omega)
  split at hc
  · simp at hc; omega
  · split at hc
    · simp at hc; omega
    · split at hc
      · simp at hc; omega
      · simp at hc; omega
theorem quo_prints (l : List Nat) (hl : ∀ b ∈ l, b < 256) : ∀ c ∈ quoB l, 32 ≤ c ∧ c ≤ 126 := by
  intro c hc
  unfold quoB q2 at hc
  simp only [List.mem_cons, List.mem_append, List.mem_flatMap, List.not_mem_nil, or_false] at hc
  rcases hc with rfl | ⟨b, hb, hc⟩ | rfl
  · omega
  · exact q1_prints b (hl b hb) c hc
  · omega
theorem quo_inj {l m : List Nat} (hl : ∀ b ∈ l, b < 256) (hm : ∀ b ∈ m, b < 256) (h : quoB l = quoB m) : l = m := by
  have a := text_quo l hl []
  have b := text_quo m hm []
  rw [h] at a
  rw [a] at b
  injection b with b
  injection b
/-- What a text's token tells are bytes. -/
theorem item_byte {l : List Nat} (hl : ∀ b ∈ l, b < 256) (h : (itemL l).2 ≠ 0) : 0 ≤ (itemL l).1 ∧ (itemL l).1 < 256 := by
  have hh : ∀ n, hd (l.drop n) < 256 := fun n => by
    cases e : l.drop n with
    | nil => decide
    | cons b m =>
      have : b ∈ l := List.mem_of_mem_drop (by rw [e]; simp : b ∈ l.drop n)
      have := hl b this
      show (b : Int) < 256
      omega
  have h0 := hh 0
  rw [List.drop_zero] at h0
  have h1 := hh 1
  have hn1 := hd_nat (l.drop 1)
  unfold itemL at h ⊢
  split at h
  · exact absurd rfl h
  · rename_i c0
    rw [if_neg c0]
    have hr : 32 ≤ hd l := by unfold prB at c0; simp at c0; omega
    split at h
    · rename_i c1
      rw [if_pos c1]; exact ⟨by dsimp only; omega, h0⟩
    · rename_i c1
      rw [if_neg c1]
      split at h
      · rename_i c2; rw [if_pos c2]; exact ⟨by dsimp only; omega, h1⟩
      · rename_i c2
        rw [if_neg c2]
        split at h
        · rename_i c3; rw [if_pos c3]; exact ⟨by decide, by decide⟩
        · rename_i c3
          rw [if_neg c3]
          split at h
          · rename_i c4
            rw [if_pos c4]
            unfold hexL at h ⊢
            split at h
            · rename_i c5
              rw [if_pos c5]
              have r2 := hexV_range (hd (l.drop 2))
              have r3 := hexV_range (hd (l.drop 3))
              exact ⟨by dsimp only; omega, by dsimp only; omega⟩
            · exact absurd rfl h
          · exact absurd rfl h
theorem textGL_bytes {f : Nat} {l : List Nat} {k : Nat} {out b : List Nat} {n : Nat} (hl : ∀ b ∈ l, b < 256) (ho : ∀ b ∈ out, b < 256) (h : textGL f l k out = some (b, n)) : ∀ c ∈ b, c < 256 := by
  induction f generalizing l k out with
  | zero => cases h
  | succ f ih =>
    rw [textGL] at h
    split at h
    · cases h
    · split at h
      · injection h with h; injection h with h1 h2; subst h1; exact ho
      · split at h
        · cases h
        · rename_i c
          have hb := item_byte hl c
          refine ih (fun b hb => hl b (List.mem_of_mem_drop hb)) ?_ h
          intro c hc
          rcases List.mem_append.1 hc with hc | hc
          · exact ho c hc
          · simp at hc; omega
theorem One.bytes {l : List Nat} {d : Nat} {b : List Nat} {n : Nat} (h : One l d b n) (hl : ∀ b ∈ l, b < 256) : ∀ c ∈ b, c < 256 := by
  have ht : ∀ m, ∀ c ∈ l.take m, c < 256 := fun m c hc => hl c (List.mem_of_mem_take hc)
  cases h with
  | opens h => simp
  | closes h => simp
  | num h => exact ht _
  | text h =>
    unfold textL at h
    split at h
    · exact textGL_bytes (fun b hb => hl b (List.mem_of_mem_drop hb)) (by simp) h
    · cases h
  | name h => exact ht _
  | sign h h0 => exact ht _

/-! A line end behind. -/
theorem item_nl {l r : List Nat} (hl : l ≠ []) (h : (itemL l).2 = 0) : (itemL (l ++ 10 :: r)).2 = 0 := by
  have hp : 0 < l.length := List.length_pos_iff.2 hl
  have hx : ∀ n, n ≤ l.length → hd ((l ++ 10 :: r).drop n) = hd (l.drop n) ∨ (hd ((l ++ 10 :: r).drop n) = 10 ∧ hd (l.drop n) = -1) := fun n hn => by
    by_cases g : n < l.length
    · exact .inl (hd_drop_app g)
    · right
      have e : l.drop n = [] := List.drop_of_length_le (by omega)
      rw [drop_app hn, e]; exact ⟨rfl, rfl⟩
  unfold itemL at h ⊢
  rw [hd_app hl]
  split
  · rfl
  · rename_i c0
    rw [if_neg c0] at h
    split
    · rename_i c1; rw [if_pos c1] at h; exact absurd h (show ¬ (1 : Int) = 0 by decide)
    · rename_i c1
      rw [if_neg c1] at h
      rcases hx 1 hp with e | ⟨e, e'⟩
      · rw [e]
        split
        · rename_i c2; rw [if_pos c2] at h; exact absurd h (show ¬ (2 : Int) = 0 by decide)
        · rename_i c2
          rw [if_neg c2] at h
          split
          · rename_i c3; rw [if_pos c3] at h; exact absurd h (show ¬ (2 : Int) = 0 by decide)
          · rename_i c3
            rw [if_neg c3] at h
            split
            · rename_i c4
              rw [if_pos c4] at h
              have h1l := lt_of_hd (l := l) (n := 1) (by omega)
              unfold hexL at h ⊢
              split at h
              · exact absurd h (show ¬ (4 : Int) = 0 by decide)
              · rename_i c5
                have hv : hexV 10 = -1 := by decide
                rcases hx 2 (by omega) with e2 | ⟨e2, _⟩
                · by_cases g3 : 3 ≤ l.length
                  · rcases hx 3 g3 with e3 | ⟨e3, _⟩
                    · rw [e2, e3, if_neg c5]
                    · rw [e3, hv, if_neg (by omega)]
                  · have : hd (l.drop 2) = -1 := hd_drop_none (by omega)
                    rw [e2, this, hexV_neg, if_neg (by omega)]
                · rw [e2, hv, if_neg (by omega)]
            · rfl
      · rw [e]; rfl
theorem textGL_nl {f g : Nat} {l r : List Nat} {k : Nat} {out : List Nat} (h : textGL f l k out = none) (hf : l.length < f) : textGL g (l ++ 10 :: r) k out = none := by
  induction g generalizing f l k out with
  | zero => rfl
  | succ g ih =>
    cases f with
    | zero => omega
    | succ f =>
      rw [textGL] at h ⊢
      rw [if_neg (by simp)]
      by_cases c0 : l = []
      · subst c0
        rw [if_neg (show ¬ hd ([] ++ 10 :: r) = 34 from (show ¬ (10 : Int) = 34 by decide)), if_pos (by rfl)]
      · have hp : 0 < l.length := List.length_pos_iff.2 c0
        rw [if_neg c0] at h
        rw [hd_app c0]
        by_cases c1 : hd l = 34
        · rw [if_pos c1] at h; cases h
        · rw [if_neg c1] at h ⊢
          by_cases c2 : (itemL l).2 = 0
          · rw [if_pos (item_nl c0 c2)]
          · obtain ⟨e1, e2, e3⟩ := item_app (r := 10 :: r) c2
            rw [if_neg c2] at h
            rw [e1, if_neg c2, drop_app e2]
            exact ih h (by rw [List.length_drop]; omega)
theorem stop_nl (r : List Nat) : Stop (hd (10 :: r)) := .inr (.inr (.inr (.inr rfl)))
theorem one_nl {l r : List Nat} (hl : l ≠ []) : oneL (l ++ 10 :: r) = oneL l := by
  cases h : oneL l with
  | some p =>
    obtain ⟨d, b, n⟩ := p
    exact (one_app (one_inv h) (.inr (.inr (.inr (.inr (stop_nl r)))))).eq
  | none =>
    obtain ⟨h1, h2, h3, h4, h5, h6⟩ := one_none.1 h
    have hp : 0 < l.length := List.length_pos_iff.2 hl
    have hs := (stop_nl r).cases
    have hnl : nameLen (l ++ 10 :: r) = 0 := by rw [nameLen_app hl (.inr ⟨hs.2.1, hs.2.2.1⟩)]; exact h5
    have hsl : signLen (l ++ 10 :: r) = 0 := by rw [signLen_app hl (.inr ⟨hs.2.2.2.1, hs.2.2.2.2⟩)]; exact h6
    have hnum : numLen (l ++ 10 :: r) = 0 := by rw [numLen_app hl (.inr hs.1)]; exact h3
    refine one_none.2 ⟨by rw [hd_app hl]; exact h1, by rw [hd_app hl]; exact h2, hnum, ?_, hnl, hsl⟩
    unfold textL at h4 ⊢
    rw [hd_app hl]
    split
    · rename_i c
      rw [if_pos c] at h4
      rw [drop_app (by omega)]
      exact textGL_nl h4 (by rw [List.length_drop]; omega)
    · rfl
end Go.Proofs.YthhkpoobcnmdgaaDoor
/-
  lex upon rows of bytes: rows of tokens; tokens written one behind the other; texts with a line end between.
-/
namespace Go.Proofs.YthhkpoobcnmdgaaDoor
open Go.RowKit
set_option linter.unusedVariables false

/-- The tokens of what is left, at place k (no blank stands there), and where the first one is that is none. -/
inductive TokL : List Nat → Nat → List Tk → Option Nat → Prop
  | done {k : Nat} : TokL [] k [] none
  | none {l : List Nat} {k : Nat} (hl : l ≠ []) (h : oneL l = .none) : TokL l k [] (some k)
  | glued {l : List Nat} {k d : Nat} {b : List Nat} {n : Nat} (hl : l ≠ []) (h : One l d b n) (h2 : partL d (l.drop n) = false) : TokL l k [] (some k)
  | tok {l : List Nat} {k d : Nat} {b : List Nat} {n : Nat} {ts : List Tk} {r : Option Nat} (hl : l ≠ []) (h : One l d b n) (h2 : partL d (l.drop n) = true)
      (h3 : TokL ((l.drop n).drop (skipL (l.drop n) false)) (k + n + skipL (l.drop n) false) ts r) : TokL l k (⟨d, b, k⟩ :: ts) r
def Lx (l : List Nat) (k : Nat) (ts : List Tk) (r : Option Nat) : Prop := TokL (l.drop (skipL l false)) (k + skipL l false) ts r

theorem One.uniq {l : List Nat} {d d' : Nat} {b b' : List Nat} {n n' : Nat} (h : One l d b n) (h' : One l d' b' n') : d = d' ∧ b = b' ∧ n = n' := by
  have e := h.eq.symm.trans h'.eq
  injection e with e
  injection e with e1 e
  injection e with e2 e3
  exact ⟨e1, e2, e3⟩
theorem TokL.uniq {l : List Nat} {k : Nat} {ts ts' : List Tk} {r r' : Option Nat} (h : TokL l k ts r) (h' : TokL l k ts' r') : ts = ts' ∧ r = r' := by
  induction h generalizing ts' r' with
  | done => cases h' with
    | done => exact ⟨rfl, rfl⟩
    | none g _ => exact absurd rfl g
    | glued g _ _ => exact absurd rfl g
    | tok g _ _ _ => exact absurd rfl g
  | none hl h1 => cases h' with
    | done => exact absurd rfl hl
    | none _ _ => exact ⟨rfl, rfl⟩
    | glued _ g _ => rw [g.eq] at h1; cases h1
    | tok _ g _ _ => rw [g.eq] at h1; cases h1
  | glued hl h1 h2 => cases h' with
    | done => exact absurd rfl hl
    | none _ g => rw [h1.eq] at g; cases g
    | glued _ _ _ => exact ⟨rfl, rfl⟩
    | tok _ g g2 _ =>
      obtain ⟨rfl, rfl, rfl⟩ := h1.uniq g
      rw [h2] at g2; cases g2
  | tok hl h1 h2 h3 ih => cases h' with
    | done => exact absurd rfl hl
    | none _ g => rw [h1.eq] at g; cases g
    | glued _ g g2 =>
      obtain ⟨rfl, rfl, rfl⟩ := h1.uniq g
      rw [h2] at g2; cases g2
    | tok _ g _ g3 =>
      obtain ⟨rfl, rfl, rfl⟩ := h1.uniq g
      obtain ⟨e1, e2⟩ := ih g3
      rw [e1, e2]
      exact ⟨rfl, rfl⟩
theorem Lx.uniq {l : List Nat} {k : Nat} {ts ts' : List Tk} {r r' : Option Nat} (h : Lx l k ts r) (h' : Lx l k ts' r') : ts = ts' ∧ r = r' := TokL.uniq h h'

theorem Toks.list {s : ByteArray} {k : Nat} {ts : List Tk} {r : Option Nat} (h : Toks s k ts r) (hk : k ≤ s.size) : TokL ((M.bytes s).drop k) k ts r := by
  have ne : ∀ {k}, k < s.size → (M.bytes s).drop k ≠ [] := fun {k} hk e => by
    have := congrArg List.length e
    rw [List.length_drop, M.bytes_len] at this
    simp at this
    omega
  induction h with
  | done h => rw [List.drop_of_length_le (by rw [M.bytes_len]; omega)]; exact .done
  | none h h1 => exact .none (ne h) (by rw [← firstF_list s _ h]; exact h1)
  | glued h h1 h2 =>
    rw [firstF_list s _ h] at h1
    rw [partB_list, M.bytes_tail, ← List.drop_drop] at h2
    exact .glued (ne h) (one_inv h1) h2
  | tok h h1 h2 h3 ih =>
    have hp := firstF_pos h h1
    rw [firstF_list s _ h] at h1
    rw [partB_list, M.bytes_tail, ← List.drop_drop] at h2
    have hs := skip_le s _ false hp.2
    have := ih hs.2
    rw [skipE_list s _ false hp.2] at this
    refine .tok (ne h) (one_inv h1) h2 ?_
    simp only [List.drop_drop]
    exact this
theorem Lexes.list {s : ByteArray} {ts : List Tk} {r : Option Nat} (h : Lexes s ts r) : Lx (M.bytes s) 0 ts r := by
  have := Toks.list h (skip_le s 0 false (Nat.zero_le _)).2
  rw [skipE_list s 0 false (Nat.zero_le _), List.drop_zero, Nat.zero_add] at this
  unfold Lx
  rw [Nat.zero_add]
  exact this

/-! Blanks, comments. -/
def Gap (g : List Nat) : Prop := ∀ y, skipL (g ++ y) false = g.length + skipL y false
theorem Lx.gap {g y : List Nat} {k : Nat} {ts : List Tk} {r : Option Nat} (hg : Gap g) (h : Lx y (k + g.length) ts r) : Lx (g ++ y) k ts r := by
  unfold Lx at h ⊢
  rw [hg y]
  have e : (g ++ y).drop (g.length + skipL y false) = y.drop (skipL y false) := by
    rw [List.drop_append, List.drop_of_length_le (by omega), List.nil_append, show g.length + skipL y false - g.length = skipL y false by omega]
  rw [e, ← Nat.add_assoc]
  exact h
theorem skip_zero {l : List Nat} (h : blB (hd l) = false) (h2 : hd l ≠ 59) : skipL l false = 0 := by
  cases l with
  | nil => rfl
  | cons b l =>
    rw [skipL_f]
    rw [if_neg (by rw [show blB (b : Int) = false from h]; decide), if_neg (by intro e; exact h2 (by show (b : Int) = 59; omega))]
theorem not_blank {b : Int} (h : b ≠ 32 ∧ b ≠ 9 ∧ b ≠ 10 ∧ b ≠ 13) : blB b = false := by unfold blB; simpa using ⟨⟨⟨h.1, h.2.1⟩, h.2.2.1⟩, h.2.2.2⟩
theorem One.first {l : List Nat} {d : Nat} {b : List Nat} {n : Nat} (h : One l d b n) : 33 ≤ hd l ∧ hd l ≠ 59 := by
  cases h with
  | opens h => omega
  | closes h => omega
  | num h =>
    rcases num_hd h with h | h
    · omega
    · have := dig_range h; omega
  | text h => have := textL_hd h; omega
  | name h => have := let_range (nameLen_pos h); omega
  | sign h h0 => have := sign_hd h; omega
theorem One.ne {l : List Nat} {d : Nat} {b : List Nat} {n : Nat} (h : One l d b n) : l ≠ [] := by
  have := h.len
  intro e
  rw [e] at this
  simp at this
  omega
theorem Lx.tok {x y : List Nat} {k d : Nat} {b : List Nat} {ts : List Tk} {r : Option Nat} (hx : One x d b x.length) (hp : partL d y = true) (h : Lx y (k + x.length) ts r) : Lx (x ++ y) k (⟨d, b, k⟩ :: ts) r := by
  have h1 : One (x ++ y) d b x.length := one_app hx (by
    by_cases h0 : d = 0
    · exact .inr (.inl h0)
    · by_cases h1 : d = 1
      · exact .inr (.inr (.inl h1))
      · exact .inr (.inr (.inr (.inr (stop_part hp h0 h1)))))
  have hf := h1.first
  unfold Lx
  rw [skip_zero (not_blank (by omega)) hf.2, List.drop_zero, Nat.add_zero]
  refine .tok h1.ne h1 ?_ ?_
  · rw [List.drop_left]; exact hp
  · rw [List.drop_left]; exact h
theorem Lx.nil (k : Nat) : Lx [] k [] none := .done

/-! Tokens written one behind the other. -/
def laid (t : Tk) : List Nat := if t.d = 0 then [40] else if t.d = 1 then [41] else if t.d = 3 then quoB t.l else t.l
def Good (t : Tk) : Prop := One (laid t) t.d t.l (laid t).length
theorem One.good {l : List Nat} {d : Nat} {b : List Nat} {n : Nat} (h : One l d b n) (hl : ∀ b ∈ l, b < 256) (k : Nat) : Good ⟨d, b, k⟩ := by
  have hn := h.len
  unfold Good laid
  dsimp only
  by_cases h0 : d = 0
  · subst h0
    rw [if_pos rfl]
    cases h with
    | opens h => exact .opens rfl
  · rw [if_neg h0]
    by_cases h1 : d = 1
    · subst h1
      rw [if_pos rfl]
      cases h with
      | closes h => exact .closes rfl
    · rw [if_neg h1]
      by_cases h3 : d = 3
      · subst h3
        rw [if_pos rfl]
        have := One.quo b (h.bytes hl) []
        rwa [List.append_nil] at this
      · rw [if_neg h3]
        obtain ⟨e1, e2⟩ := one_take h h3
        have e2 := e2 (by omega)
        have : b.length = n := by rw [e2, List.length_take]; omega
        rw [this]
        rw [← e2] at e1
        exact e1
theorem TokL.good {l : List Nat} {k : Nat} {ts : List Tk} {r : Option Nat} (h : TokL l k ts r) (hl : ∀ b ∈ l, b < 256) : ∀ t ∈ ts, Good t ∧ t.d ≤ 5 ∧ ∀ c ∈ t.l, c < 256 := by
  induction h with
  | done => simp
  | none _ _ => simp
  | glued _ _ _ => simp
  | tok _ h _ _ ih =>
    intro t ht
    rcases List.mem_cons.1 ht with rfl | ht
    · exact ⟨h.good hl _, h.len.2.2, h.bytes hl⟩
    · exact ih (fun b hb => hl b (List.mem_of_mem_drop (List.mem_of_mem_drop hb))) t ht
theorem TokL.place {l : List Nat} {k : Nat} {ts : List Tk} {r : Option Nat} (h : TokL l k ts r) : (∀ t ∈ ts, k ≤ t.k ∧ t.k < k + l.length) ∧ (∀ i t u, ts[i]? = some t → ts[i + 1]? = some u → t.k < u.k) ∧ (∀ e, r = some e → k ≤ e ∧ e < k + l.length) := by
  induction h with
  | done => simp
  | @none l k hl h1 =>
    have : 0 < l.length := List.length_pos_iff.2 hl
    exact ⟨by simp, by simp, fun e he => by cases he; omega⟩
  | @glued l k d b n hl h1 h2 =>
    have : 0 < l.length := List.length_pos_iff.2 hl
    exact ⟨by simp, by simp, fun e he => by cases he; omega⟩
  | @tok l k d b n ts r hl h1 h2 h3 ih =>
    obtain ⟨i1, i2, i3⟩ := ih
    have hn := h1.len
    simp only [List.length_drop] at i1 i3
    refine ⟨?_, ?_, ?_⟩
    · intro t ht
      rcases List.mem_cons.1 ht with rfl | ht
      · exact ⟨Nat.le_refl _, by show k < _; omega⟩
      · have := i1 t ht; omega
    · intro i t u ht hu
      cases i with
      | zero =>
        simp at ht
        subst ht
        rw [List.getElem?_cons_succ] at hu
        have := i1 u (List.mem_of_getElem? hu)
        show k < u.k
        omega
      | succ i => exact i2 i t u (by simpa using ht) (by simpa using hu)
    · intro e he
      have := i3 e he
      omega

/-- What a token says, but for its place. -/
def Tk.say (t : Tk) : Nat × List Nat := (t.d, t.l)
def plainB (ts : List Tk) : List Nat := ts.flatMap fun t => laid t ++ [32]
theorem gap_blank : Gap [32] := fun y => by
  show skipL (32 :: y) false = 1 + skipL y false
  rw [skipL_f, if_pos (by decide)]
  omega
theorem plain_lex (ts : List Tk) (hg : ∀ t ∈ ts, Good t) (k : Nat) : ∃ us, Lx (plainB ts) k us none ∧ us.map Tk.say = ts.map Tk.say := by
  induction ts generalizing k with
  | nil => exact ⟨[], Lx.nil k, rfl⟩
  | cons t ts ih =>
    obtain ⟨us, h1, h2⟩ := ih (fun t ht => hg t (by simp [ht])) (k + (laid t).length + 1)
    refine ⟨⟨t.d, t.l, k⟩ :: us, ?_, by simp [h2, Tk.say]⟩
    have e : plainB (t :: ts) = laid t ++ ([32] ++ plainB ts) := by simp [plainB]
    rw [e]
    exact Lx.tok (hg t (by simp)) (part_stop (.inr (.inr (.inr (.inr rfl))))) (Lx.gap gap_blank h1)
theorem plain_snoc {ts : List Tk} {i : Nat} {t : Tk} (h : ts[i]? = some t) : plainB (ts.take (i + 1)) = plainB (ts.take i) ++ laid t ++ [32] := by
  rw [List.take_add_one, h]
  simp [plainB]
def wideB (g : Nat → List Nat) : Nat → List Tk → List Nat
  | _, [] => []
  | i, t :: ts => g i ++ (laid t ++ wideB g (i + 1) ts)
theorem wide_app (g : Nat → List Nat) (i : Nat) (ts us : List Tk) : wideB g i (ts ++ us) = wideB g i ts ++ wideB g (i + ts.length) us := by
  induction ts generalizing i with
  | nil => simp [wideB]
  | cons t ts ih => simp [wideB, ih]; congr 1; omega
theorem wide_snoc (g : Nat → List Nat) {ts : List Tk} {i : Nat} {t : Tk} (h : ts[i]? = some t) : wideB g 0 (ts.take (i + 1)) = wideB g 0 (ts.take i) ++ g i ++ laid t := by
  have hi : i < ts.length := (List.getElem?_eq_some_iff.1 h).1
  rw [List.take_add_one, h, wide_app]
  simp [wideB, List.length_take, Nat.min_eq_left (Nat.le_of_lt hi)]
theorem wide_lex (g : Nat → List Nat) (hG : ∀ i, Gap (g i) ∧ ∀ d y, partL d (g i ++ y) = true) (ts : List Tk) (hg : ∀ t ∈ ts, Good t) (i k : Nat) : ∃ us, Lx (wideB g i ts) k us none ∧ us.map Tk.say = ts.map Tk.say := by
  induction ts generalizing i k with
  | nil => exact ⟨[], Lx.nil k, rfl⟩
  | cons t ts ih =>
    obtain ⟨us, h1, h2⟩ := ih (fun t ht => hg t (by simp [ht])) (i + 1) (k + (g i).length + (laid t).length)
    refine ⟨⟨t.d, t.l, k + (g i).length⟩ :: us, ?_, by simp [h2, Tk.say]⟩
    unfold wideB
    refine Lx.gap (hG i).1 (Lx.tok (hg t (by simp)) ?_ h1)
    cases ts with
    | nil => exact part_stop (.inl rfl)
    | cons u ts => exact (hG (i + 1)).2 _ _

/-! A line end between. -/
theorem skip_nl {l r : List Nat} {c : Bool} : (skipL l c = l.length → skipL (l ++ 10 :: r) c = l.length + 1 + skipL r false) ∧ (skipL l c < l.length → skipL (l ++ 10 :: r) c = skipL l c) := by
  induction l generalizing c with
  | nil =>
    refine ⟨fun _ => ?_, fun h => by simp at h⟩
    show skipL (10 :: r) c = 0 + 1 + skipL r false
    cases c with
    | true => rw [skipL_t, if_pos rfl]; omega
    | false => rw [skipL_f, if_pos (by decide)]; omega
  | cons b l ih =>
    have i1 := ih (c := true)
    have i2 := ih (c := false)
    show (skipL (b :: l) c = l.length + 1 → skipL (b :: (l ++ 10 :: r)) c = l.length + 1 + 1 + skipL r false) ∧ (skipL (b :: l) c < l.length + 1 → skipL (b :: (l ++ 10 :: r)) c = skipL (b :: l) c)
    cases c with
    | true =>
      simp only [skipL_t]
      split
      · exact ⟨fun h => by rw [i2.1 (by omega)]; omega, fun h => by rw [i2.2 (by omega)]⟩
      · exact ⟨fun h => by rw [i1.1 (by omega)]; omega, fun h => by rw [i1.2 (by omega)]⟩
    | false =>
      simp only [skipL_f]
      split
      · exact ⟨fun h => by rw [i2.1 (by omega)]; omega, fun h => by rw [i2.2 (by omega)]⟩
      · split
        · exact ⟨fun h => by rw [i1.1 (by omega)]; omega, fun h => by rw [i1.2 (by omega)]⟩
        · exact ⟨fun h => by omega, fun _ => rfl⟩
theorem skipL_le (l : List Nat) (c : Bool) : skipL l c ≤ l.length := by
  induction l generalizing c with
  | nil => exact Nat.le_refl _
  | cons b l ih =>
    have i1 := ih true
    have i2 := ih false
    cases c
    · rw [skipL_f]; split <;> (try split) <;> simp <;> omega
    · rw [skipL_t]; split <;> simp <;> omega
theorem part_nl {d : Nat} {m r : List Nat} : partL d (m ++ 10 :: r) = partL d m := by
  cases m with
  | nil => rw [part_stop (.inl rfl : Stop (hd [])), part_stop (show Stop (hd ([] ++ 10 :: r)) from stop_nl r)]
  | cons b m => exact part_hd rfl
theorem TokL.join {l r : List Nat} {k : Nat} {ts us : List Tk} {q : Option Nat} (h : TokL l k ts Option.none) (hl : l ≠ []) (h2 : Lx r (k + l.length + 1) us q) : TokL (l ++ 10 :: r) k (ts ++ us) q := by
  generalize hz : (Option.none : Option Nat) = z at h
  induction h with
  | done => exact absurd rfl hl
  | none _ _ => cases hz
  | glued _ _ _ => cases hz
  | @tok l k d b n ts z hl h1 hp h3 ih =>
    have hn := h1.len
    have ha : One (l ++ 10 :: r) d b n := one_app h1 (.inr (.inr (.inr (.inr (stop_nl r)))))
    refine .tok ha.ne ha (by rw [drop_app hn.2.1, part_nl]; exact hp) ?_
    rw [drop_app hn.2.1]
    have hs := skipL_le (l.drop n) false
    rw [List.length_drop] at hs
    by_cases g : skipL (l.drop n) false < (l.drop n).length
    · rw [skip_nl.2 g, drop_app (by omega)]
      have g2 := g
      rw [List.length_drop] at g2
      refine ih ?_ ?_ hz
      · intro e
        have := congrArg List.length e
        simp only [List.length_drop, List.length_nil] at this
        omega
      · rw [List.length_drop, List.length_drop, show k + n + skipL (l.drop n) false + (l.length - n - skipL (l.drop n) false) + 1 = k + l.length + 1 by omega]
        exact h2
    · rw [List.length_drop] at g
      have e : skipL (l.drop n) false = (l.drop n).length := by rw [List.length_drop]; omega
      rw [e, List.drop_length] at h3
      cases h3 with
      | done =>
        rw [skip_nl.1 e, List.drop_append, List.drop_of_length_le (by omega), List.nil_append, show (l.drop n).length + 1 + skipL r false - (l.drop n).length = skipL r false + 1 by omega, List.drop_succ_cons, List.length_drop]
        show TokL _ _ us _
        rw [show k + n + (l.length - n + 1 + skipL r false) = k + l.length + 1 + skipL r false by omega]
        exact h2
      | none g _ => exact absurd rfl g
      | glued g _ _ => exact absurd rfl g
      | tok g _ _ _ => exact absurd rfl g
theorem TokL.wrong {l r : List Nat} {k e : Nat} {ts : List Tk} (h : TokL l k ts (some e)) : TokL (l ++ 10 :: r) k ts (some e) := by
  generalize hz : (some e : Option Nat) = z at h
  induction h with
  | done => cases hz
  | none hl h1 => exact .none (by simp) (by rw [one_nl hl]; exact h1)
  | @glued l k d b n hl h1 hp =>
    have hn := h1.len
    have ha : One (l ++ 10 :: r) d b n := one_app h1 (.inr (.inr (.inr (.inr (stop_nl r)))))
    exact .glued ha.ne ha (by rw [drop_app hn.2.1, part_nl]; exact hp)
  | @tok l k d b n ts z hl h1 hp h3 ih =>
    have hn := h1.len
    have ha : One (l ++ 10 :: r) d b n := one_app h1 (.inr (.inr (.inr (.inr (stop_nl r)))))
    refine .tok ha.ne ha (by rw [drop_app hn.2.1, part_nl]; exact hp) ?_
    rw [drop_app hn.2.1]
    have hs := skipL_le (l.drop n) false
    have g : skipL (l.drop n) false < (l.drop n).length := by
      apply Nat.lt_of_le_of_ne hs
      intro e2
      rw [e2, List.drop_length] at h3
      subst hz
      cases h3 with
      | none g _ => exact absurd rfl g
      | glued g _ _ => exact absurd rfl g
      | tok g _ _ _ => exact absurd rfl g
    rw [skip_nl.2 g, drop_app (by omega)]
    exact ih hz
theorem Lx.join {l r : List Nat} {k : Nat} {ts us : List Tk} {q : Option Nat} (h : Lx l k ts none) (h2 : Lx r (k + l.length + 1) us q) : Lx (l ++ 10 :: r) k (ts ++ us) q := by
  have hs := skipL_le l false
  unfold Lx at h ⊢
  by_cases g : skipL l false < l.length
  · rw [skip_nl.2 g, drop_app (by omega)]
    refine TokL.join h ?_ ?_
    · intro e
      have := congrArg List.length e
      simp only [List.length_drop, List.length_nil] at this
      omega
    · rw [List.length_drop, show k + skipL l false + (l.length - skipL l false) + 1 = k + l.length + 1 by omega]; exact h2
  · have e : skipL l false = l.length := by omega
    rw [e, List.drop_length] at h
    cases h with
    | done =>
      rw [skip_nl.1 e, List.drop_append, List.drop_of_length_le (by omega), List.nil_append, show l.length + 1 + skipL r false - l.length = skipL r false + 1 by omega, List.drop_succ_cons, List.nil_append, show k + (l.length + 1 + skipL r false) = k + l.length + 1 + skipL r false by omega]
      exact h2
    | tok g _ _ _ => exact absurd rfl g
theorem Lx.wrong {l r : List Nat} {k e : Nat} {ts : List Tk} (h : Lx l k ts (some e)) : Lx (l ++ 10 :: r) k ts (some e) := by
  have hs := skipL_le l false
  unfold Lx at h ⊢
  have g : skipL l false < l.length := by
    apply Nat.lt_of_le_of_ne hs
    intro e2
    rw [e2, List.drop_length] at h
    cases h with
    | none g _ => exact absurd rfl g
    | glued g _ _ => exact absurd rfl g
    | tok g _ _ _ => exact absurd rfl g
  rw [skip_nl.2 g, drop_app (by omega)]
  exact TokL.wrong h
end Go.Proofs.YthhkpoobcnmdgaaDoor
/-
  litmusref05: are two rows of tokens alike (Same); a token's bytes (Laid).
-/
namespace Go.Proofs.YthhkpoobcnmdgaaDoor
open Go.RowKit
set_option linter.unusedVariables false

/-- What is compared of a token. -/
def keyB (pos : Bool) (e : TE) : Nat × List Nat × Nat := (e.d, M.bytes e.t, if pos = true then e.k else 0)
def sameB (pos : Bool) (es fs : List TE) : Bool := decide (es.map (keyB pos) = fs.map (keyB pos))
theorem str_eq (a b : ByteArray) : (a.toList == b.toList) = decide (a = b) := by
  rw [toList_bytes, Bool.eq_iff_iff, decide_eq_true_iff, beq_iff_eq]
  refine ⟨fun h => M.bytes_inj ?_, fun h => by rw [h, ByteArray.toList_eq]; rfl⟩
  rw [h, ByteArray.toList_eq]; rfl
theorem str_ne {a b : ByteArray} (h : a ≠ b) : (a.toList != b.toList) = true := by
  unfold bne; rw [str_eq, decide_eq_false h]; rfl
theorem keys_snoc {pos : Bool} {es fs : List TE} {i : Nat} {e f : TE} (h : (es.take i).map (keyB pos) = (fs.take i).map (keyB pos)) (he : es[i]? = some e) (hf : fs[i]? = some f) (hk : keyB pos e = keyB pos f) :
    (es.take (i + 1)).map (keyB pos) = (fs.take (i + 1)).map (keyB pos) := by
  rw [List.take_add_one, List.take_add_one, he, hf, List.map_append, List.map_append, h]
  simp [hk]
theorem keys_not {pos : Bool} {es fs : List TE} {i : Nat} {e f : TE} (he : es[i]? = some e) (hf : fs[i]? = some f) (hk : keyB pos e ≠ keyB pos f) : sameB pos es fs = false := by
  unfold sameB
  refine decide_eq_false fun h => hk ?_
  have := congrArg (fun l => l[i]?) h
  simp only [List.getElem?_map, he, hf, Option.map_some] at this
  exact Option.some.inj this

set_option maxRecDepth 100000 in
set_option maxHeartbeats 4000000 in
theorem same_c (pos : Bool) (A : Option Addr) (n c : Nat) (es : List TE) (B : Option Addr) (m c' : Nat) (fs : List TE) (w : World) (hx : RdT w A n c es) (hy : RdT w B m c' fs) (hn : n ≤ 8388608) (hm : m ≤ 8388608) :
    Calls Tryd.prog 12 #[.slice A n c, .slice B m c', .bool pos] w fun e w' => e = .returned (.bool (sameB pos es fs)) ∧ ∃ q, w' = w.drewN q := by
  have H := Lib.hid hx
  have K := Lib.hid hy
  clear hx hy
  by_cases hnm : n = m
  · subst hnm
    cases pos
    · go_enter Tryd.func12, Tryd.ntmps12
      go_wp2
      go_loopw [7] (fun p wr => ∃ (i q : Nat), i ≤ n ∧ p = .int .i64 i ∧ wr = w.drewN q ∧ (es.take i).map (keyB false) = (fs.take i).map (keyB false)) (fun p _ => n - (intOf p).toNat)
      case atStart => exact ⟨0, 0, Nat.zero_le _, rfl, rfl, rfl⟩
      case round =>
        obtain ⟨i, q, hi, rfl, rfl, ht⟩ := hrel
        have HT := Lib.hid ht
        clear ht
        by_cases hin : i < n
        · obtain ⟨⟨d, t, k⟩, he⟩ : ∃ e, es[i]? = some e := ⟨_, List.getElem?_eq_getElem (by rw [H.out.len]; exact hin)⟩
          obtain ⟨⟨d', t', k'⟩, hf⟩ : ∃ f, fs[i]? = some f := ⟨_, List.getElem?_eq_getElem (by rw [K.out.len]; exact hin)⟩
          obtain ⟨g, o, hA, hg, h0, h1, h2⟩ := H.out.cell i _ he
          obtain ⟨g', o', hB, hg', k0, k1, k2⟩ := K.out.cell i _ hf
          subst hA hB
          dsimp only at h0 h1 h2 k0 k1 k2
          have HE := Lib.hid he
          have HF := Lib.hid hf
          clear he hf hg hg'
          by_cases d1 : d = d'
          · subst d1
            by_cases d2 : t = t'
            · subst d2
              have hself : (t.toList != t.toList) = false := by unfold bne; rw [str_eq]; simp
              have hdd : ((d : Int) != (d : Int)) = false := by simp
              go_wp2
              go_quiet (fail)
              go_wp2
              go_roundw
              case rel => exact ⟨i + 1, q + nq, by omega, by go_num, (by first | rfl | exact World.drewN_drewN _ _ _), keys_snoc HT.out HE.out HF.out rfl⟩
              case measure => simp [intOf]; omega
            · have HS := Lib.hid (keys_not (pos := false) HE.out HF.out (by intro h; injection h with _ h; injection h with h _; exact d2 (M.bytes_inj h)))
              have hne : (t.toList != t'.toList) = true := str_ne d2
              have hq : (t.toList == t'.toList) = false := by rw [str_eq]; exact decide_eq_false d2
              have hx : ¬ t.toList = t'.toList := by simpa using hq
              have hdc : decide (t.toList = t'.toList) = false := decide_eq_false hx
              have hdd : ((d : Int) != (d : Int)) = false := by simp
              clear d2
              go_wp2
              go_quiet (fail)
              go_wp2
              go_ret
              rw [HS.out]
              exact ⟨rfl, q + nq, (by first | rfl | exact World.drewN_drewN _ _ _)⟩
          · have HS := Lib.hid (keys_not (pos := false) HE.out HF.out (by intro h; injection h with h _; exact d1 h))
            have hne : ((d : Int) != (d' : Int)) = true := by simp; omega
            clear d1
            go_wp2
            go_quiet (fail)
            go_wp2
            go_ret
            rw [HS.out]
            exact ⟨rfl, q + nq, (by first | rfl | exact World.drewN_drewN _ _ _)⟩
        · obtain rfl : i = n := by omega
          have HS := Lib.hid (show sameB false es fs = true by
            have := HT.out
            rw [List.take_of_length_le (by rw [H.out.len]; exact Nat.le_refl _), List.take_of_length_le (by rw [K.out.len]; exact Nat.le_refl _)] at this
            exact decide_eq_true this)
          go_wp2
          go_ret
          rw [HS.out]
          exact ⟨rfl, q, rfl⟩
    · go_enter Tryd.func12, Tryd.ntmps12
      go_wp2
      go_loopw [7] (fun p wr => ∃ (i q : Nat), i ≤ n ∧ p = .int .i64 i ∧ wr = w.drewN q ∧ (es.take i).map (keyB true) = (fs.take i).map (keyB true)) (fun p _ => n - (intOf p).toNat)
      case atStart => exact ⟨0, 0, Nat.zero_le _, rfl, rfl, rfl⟩
      case round =>
        obtain ⟨i, q, hi, rfl, rfl, ht⟩ := hrel
        have HT := Lib.hid ht
        clear ht
        by_cases hin : i < n
        · obtain ⟨⟨d, t, k⟩, he⟩ : ∃ e, es[i]? = some e := ⟨_, List.getElem?_eq_getElem (by rw [H.out.len]; exact hin)⟩
          obtain ⟨⟨d', t', k'⟩, hf⟩ : ∃ f, fs[i]? = some f := ⟨_, List.getElem?_eq_getElem (by rw [K.out.len]; exact hin)⟩
          obtain ⟨g, o, hA, hg, h0, h1, h2⟩ := H.out.cell i _ he
          obtain ⟨g', o', hB, hg', k0, k1, k2⟩ := K.out.cell i _ hf
          subst hA hB
          dsimp only at h0 h1 h2 k0 k1 k2
          have HE := Lib.hid he
          have HF := Lib.hid hf
          clear he hf hg hg'
          by_cases d1 : d = d'
          · subst d1
            by_cases d2 : t = t'
            · subst d2
              have hself : (t.toList != t.toList) = false := by unfold bne; rw [str_eq]; simp
              have hdd : ((d : Int) != (d : Int)) = false := by simp
              by_cases d3 : k = k'
              · subst d3
                have hkk : ((k : Int) != (k : Int)) = false := by simp
                go_wp2
                go_quiet (fail)
                go_wp2
                go_roundw
                case rel => exact ⟨i + 1, q + nq, by omega, by go_num, (by first | rfl | exact World.drewN_drewN _ _ _), keys_snoc HT.out HE.out HF.out rfl⟩
                case measure => simp [intOf]; omega
              · have HS := Lib.hid (keys_not (pos := true) HE.out HF.out (by intro h; injection h with _ h; injection h with _ h; exact d3 h))
                have hkk : ((k : Int) != (k' : Int)) = true := by simp; omega
                clear d3
                go_wp2
                go_quiet (fail)
                go_wp2
                go_ret
                rw [HS.out]
                exact ⟨rfl, q + nq, (by first | rfl | exact World.drewN_drewN _ _ _)⟩
            · have HS := Lib.hid (keys_not (pos := true) HE.out HF.out (by intro h; injection h with _ h; injection h with h _; exact d2 (M.bytes_inj h)))
              have hne : (t.toList != t'.toList) = true := str_ne d2
              have hq : (t.toList == t'.toList) = false := by rw [str_eq]; exact decide_eq_false d2
              have hx : ¬ t.toList = t'.toList := by simpa using hq
              have hdc : decide (t.toList = t'.toList) = false := decide_eq_false hx
              have hdd : ((d : Int) != (d : Int)) = false := by simp
              clear d2
              go_wp2
              go_quiet (fail)
              go_wp2
              go_ret
              rw [HS.out]
              exact ⟨rfl, q + nq, (by first | rfl | exact World.drewN_drewN _ _ _)⟩
          · have HS := Lib.hid (keys_not (pos := true) HE.out HF.out (by intro h; injection h with h _; exact d1 h))
            have hne : ((d : Int) != (d' : Int)) = true := by simp; omega
            clear d1
            go_wp2
            go_quiet (fail)
            go_wp2
            go_ret
            rw [HS.out]
            exact ⟨rfl, q + nq, (by first | rfl | exact World.drewN_drewN _ _ _)⟩
        · obtain rfl : i = n := by omega
          have HS := Lib.hid (show sameB true es fs = true by
            have := HT.out
            rw [List.take_of_length_le (by rw [H.out.len]; exact Nat.le_refl _), List.take_of_length_le (by rw [K.out.len]; exact Nat.le_refl _)] at this
            exact decide_eq_true this)
          go_wp2
          go_ret
          rw [HS.out]
          exact ⟨rfl, q, rfl⟩
  · have hlen : es.length ≠ fs.length := by rw [H.out.len, K.out.len]; exact hnm
    have HS := Lib.hid (show sameB pos es fs = false by unfold sameB; exact decide_eq_false fun h => hlen (by have := congrArg List.length h; simpa using this))
    have hne : ((n : Int) != (m : Int)) = true := by simp; omega
    clear hlen hnm
    go_enter Tryd.func12, Tryd.ntmps12
    go_wp2
    go_ret
    rw [HS.out]
    exact ⟨rfl, 0, rfl⟩

set_option maxHeartbeats 2000000 in
theorem laid_c (d : Nat) (t : ByteArray) (k : Nat) (hs : t.size ≤ 1048576) (w : World) : Calls Tryd.prog 14 #[.agg #[.int .i64 d, .string t, .int .i64 k]] w fun e w' => (∃ u, e = .returned (.string u) ∧ M.bytes u = laid ⟨d, M.bytes t, k⟩) ∧ Below w.heap.size w w' := by
  by_cases h0 : d = 0
  · subst h0
    go_enter Tryd.func14, Tryd.ntmps14
    go_wp2
    go_ret
    exact ⟨⟨_, rfl, rfl⟩, bx_alloc _ _⟩
  · have n0 : ((d : Int) == 0) = false := by simp; omega
    by_cases h1 : d = 1
    · subst h1
      go_enter Tryd.func14, Tryd.ntmps14
      go_wp2
      go_ret
      exact ⟨⟨_, rfl, rfl⟩, bx_alloc _ _⟩
    · have n1 : ((d : Int) == 1) = false := by simp; omega
      by_cases h3 : d = 3
      · subst h3
        go_enter Tryd.func14, Tryd.ntmps14
        go_wp2_with (go_at_call 24; refine (quoteR_c _ _ (by omega)).mono ?_; rintro _ w6 ⟨⟨u, rfl, hb⟩, hl⟩; have HT := Lib.hid hb; have HL := Lib.hid hl; clear hb hl)
        go_ret
        exact ⟨⟨_, rfl, HT.out⟩, (bx_alloc _ _).trans (HL.out.mono (bx_alloc _ _).size)⟩
      · have n3 : ((d : Int) == 3) = false := by simp; omega
        have HE := Lib.hid (show laid ⟨d, M.bytes t, k⟩ = M.bytes t by unfold laid; dsimp only; rw [if_neg h0, if_neg h1, if_neg h3])
        clear h0 h1 h3
        go_enter Tryd.func14, Tryd.ntmps14
        go_wp2
        go_ret
        rw [HE.out]
        exact ⟨⟨_, rfl, rfl⟩, bx_alloc _ _⟩
end Go.Proofs.YthhkpoobcnmdgaaDoor
/-
  errors.As at a **Fault, and api.Told: no error; an error of a package's own type 'wrong', whose Unwrap tells the Fault within it. (After the guide's example of errors.As.)
-/
namespace Go.Proofs.YthhkpoobcnmdgaaDoor
open Go.RowKit Go.Extern.Stop Go.Stop Go.Extern

theorem as_nil (t : Value) (w : World) :
    Calls Tryd.prog 26 #[.nilIface, t] w fun e w' => e = .returned (.bool false) ∧ w' = w := by
  go_enter Tryd.func26, Tryd.ntmps26
  go_wp2
  go_ret
  exact ⟨rfl, rfl⟩

theorem rlm (z : Sem Value) (f : TypeId → Addr → Nat → Nat → Sem Value) (v : Value) :
    ReflectliteValue.method z f #[v] = (do match ← ReflectliteValue.parts v with | none => z | some (t, a, fl) => f t a fl (fl % 32)) := rfl
theorem rls (v x : Value) : ReflectliteValue.set #[v, x] = (do
    let (some (dst, a, fl), some (src, b, _)) := (← ReflectliteValue.parts v, ← ReflectliteValue.parts x)
      | unsupported (.noEntry "extern/(internal/reflectlite.Value).Set.zeroValue")
    if fl / ReflectliteValue.flagAddr % 2 == 0 then unsupported (.noEntry "extern/(internal/reflectlite.Value).Set.unaddressable")
    let val ← loadVar src b
    if ← Rtype.directlyAssignable dst src then storeVar dst a val
    else if ← Rtype.implements dst src then
      if (← Rtype.kind src) == 20 then
        match val with
        | .nilIface => unsupported (.noEntry "extern/reflectlite: a nil value of one interface type handed on as a value of another")
        | _ => storeVar dst a val
      else storeVar dst a (.iface src val)
    else panicString ("reflectlite.Set: value of type " ++ (← Rtype.spelt src) ++ " is not assignable to type " ++ (← Rtype.spelt dst))
    pure (.tuple #[])) := rfl

/-! Closed facts on the model's entries, at this program's types. -/
theorem valueOfPP (t : Addr) (w : World) : (ReflectliteValue.unpack (.iface 61 (.pointer (some t)))).run Tryd.prog w
    = .ok (.agg #[.pointer (some ⟨1, 61, none⟩), .pointer (some ⟨w.heap.size, 0, none⟩), .int .u64 150]) (w.alloc (.cells #[.pointer (some t)] 61)) := by kernel_rfl
theorem valueOfP (t : Addr) (w : World) : (ReflectliteValue.unpack (.iface 59 (.pointer (some t)))).run Tryd.prog w
    = .ok (.agg #[.pointer (some ⟨1, 59, none⟩), .pointer (some ⟨w.heap.size, 0, none⟩), .int .u64 150]) (w.alloc (.cells #[.pointer (some t)] 59)) := by kernel_rfl
theorem typePP (a : Addr) (w : World) : (ReflectliteValue.methodAny (ReflectliteValue.valueError "reflectlite.Value.Type" 0) (fun t _ _ _ => ReflectliteType.toType t) #[.agg #[.pointer (some ⟨1, 61, none⟩), .pointer (some a), .int .u64 150]]).run Tryd.prog w
    = .ok (.iface 95 (.agg #[.pointer (some ⟨1, 61, none⟩)])) w := by kernel_rfl
theorem methodKind (h : Value) (w : World) : (Go.method 240 95 (.agg #[h]) "Kind").run Tryd.prog w = .ok (78, h) w := by kernel_rfl
theorem methodElem (h : Value) (w : World) : (Go.method 240 95 (.agg #[h]) "Elem").run Tryd.prog w = .ok (91, .agg #[h]) w := by kernel_rfl
theorem methodImplements (h : Value) (w : World) : (Go.method 240 95 (.agg #[h]) "Implements").run Tryd.prog w = .ok (92, .agg #[h]) w := by kernel_rfl
theorem methodAssignableTo (h : Value) (w : World) : (Go.method 240 95 (.agg #[h]) "AssignableTo").run Tryd.prog w = .ok (89, .agg #[h]) w := by kernel_rfl
theorem kindPP (w : World) : ((ReflectliteType.abiMethod fun t => (fun a : Nat => Value.int IntKind.u8 (a : Int)) <$> Rtype.kind t) #[.pointer (some ⟨1, 61, none⟩)]).run Tryd.prog w = .ok (.int .u8 22) w := by kernel_rfl
theorem kindP (w : World) : ((ReflectliteType.abiMethod fun t => (fun a : Nat => Value.int IntKind.u8 (a : Int)) <$> Rtype.kind t) #[.pointer (some ⟨1, 59, none⟩)]).run Tryd.prog w = .ok (.int .u8 22) w := by kernel_rfl
theorem elemPP (w : World) : (ReflectliteType.method ReflectliteType.elem #[.agg #[.pointer (some ⟨1, 61, none⟩)]]).run Tryd.prog w = .ok (.iface 95 (.agg #[.pointer (some ⟨1, 59, none⟩)])) w := by kernel_rfl
theorem implementsP (w : World) : (ReflectliteType.relation "Implements" ReflectliteType.implements_ #[.agg #[.pointer (some ⟨1, 59, none⟩)], .iface 95 (.agg #[.pointer (some ⟨1, 28, none⟩)])]).run Tryd.prog w = .ok (.bool true) w := by kernel_rfl
theorem typeOfP (v : Value) (w : World) : (ReflectliteType.typeOf #[.iface 59 v]).run Tryd.prog w = .ok (.iface 95 (.agg #[.pointer (some ⟨1, 59, none⟩)])) w := by kernel_rfl
theorem typeOfW (v : Value) (w : World) : (ReflectliteType.typeOf #[.iface 90 v]).run Tryd.prog w = .ok (.iface 95 (.agg #[.pointer (some ⟨1, 90, none⟩)])) w := by kernel_rfl
theorem assignableP (w : World) : (ReflectliteType.relation "AssignableTo" ReflectliteType.assignableTo #[.agg #[.pointer (some ⟨1, 59, none⟩)], .iface 95 (.agg #[.pointer (some ⟨1, 59, none⟩)])]).run Tryd.prog w = .ok (.bool true) w := by kernel_rfl
theorem assignableW (w : World) : (ReflectliteType.relation "AssignableTo" ReflectliteType.assignableTo #[.agg #[.pointer (some ⟨1, 90, none⟩)], .iface 95 (.agg #[.pointer (some ⟨1, 59, none⟩)])]).run Tryd.prog w = .ok (.bool false) w := by kernel_rfl
theorem partsPP (a : Addr) (w : World) : (ReflectliteValue.parts (.agg #[.pointer (some ⟨1, 61, none⟩), .pointer (some a), .int .u64 150])).run Tryd.prog w = .ok (some (61, a, 150)) w := by kernel_rfl
theorem partsPa (a : Addr) (w : World) : (ReflectliteValue.parts (.agg #[.pointer (some ⟨1, 59, none⟩), .pointer (some a), .int .u64 406])).run Tryd.prog w = .ok (some (59, a, 406)) w := by kernel_rfl
theorem partsP (a : Addr) (w : World) : (ReflectliteValue.parts (.agg #[.pointer (some ⟨1, 59, none⟩), .pointer (some a), .int .u64 150])).run Tryd.prog w = .ok (some (59, a, 150)) w := by kernel_rfl
theorem elemOfPP (w : World) : (Rtype.elem? 61).run Tryd.prog w = .ok (some 59) w := by kernel_rfl
theorem mkP (p : Addr) (w : World) : (ReflectliteValue.mk 59 p ReflectliteValue.flagAddr).run Tryd.prog w = .ok (.agg #[.pointer (some ⟨1, 59, none⟩), .pointer (some p), .int .u64 406]) w := by kernel_rfl
theorem directP (w : World) : (Rtype.directlyAssignable 59 59).run Tryd.prog w = .ok true w := by kernel_rfl
theorem isNilPP (a p : Addr) (W : World) (ha : W.cell? a = some (.pointer (some p))) :
    (ReflectliteValue.method (ReflectliteValue.valueError "reflectlite.Value.IsNil" 0) ReflectliteValue.isNil #[.agg #[.pointer (some ⟨1, 61, none⟩), .pointer (some a), .int .u64 150]]).run Tryd.prog W = .ok (.bool false) W := by
  rw [rlm]
  simp only [Sem.run_bind, partsPP, Result.andThen]
  simp [ReflectliteValue.isNil, loadVar, isAgg, underlying, Tryd.underlying61, ha, Result.andThen]
theorem elemVPP (a p : Addr) (W : World) (ha : W.cell? a = some (.pointer (some p))) :
    (ReflectliteValue.method (ReflectliteValue.valueError "reflectlite.Value.Elem" 0) ReflectliteValue.elem #[.agg #[.pointer (some ⟨1, 61, none⟩), .pointer (some a), .int .u64 150]]).run Tryd.prog W
      = .ok (.agg #[.pointer (some ⟨1, 59, none⟩), .pointer (some p), .int .u64 406]) W := by
  rw [rlm]
  simp only [Sem.run_bind, partsPP, Result.andThen]
  simp [ReflectliteValue.elem, loadVar, isAgg, underlying, Tryd.underlying61, ha, Result.andThen, elemOfPP, mkP]
theorem setP (ta b e : Addr) (old : Value) (W : World) (hb : W.cell? b = some (.pointer (some e))) (ht : W.cell? ta = some old) (hf : W.frozen? ta = false) :
    (ReflectliteValue.set #[.agg #[.pointer (some ⟨1, 59, none⟩), .pointer (some ta), .int .u64 406], .agg #[.pointer (some ⟨1, 59, none⟩), .pointer (some b), .int .u64 150]]).run Tryd.prog W
      = .ok (.tuple #[]) (W.setCell ta (.pointer (some e))) := by
  rw [rls]
  simp only [Sem.run_bind, partsPa, partsP, Result.andThen]
  simp [ReflectliteValue.flagAddr, loadVar, isAgg, underlying, Tryd.underlying59, hb, Result.andThen, directP, storeVar, Value.cells, storeCells, Addr.add]
  rw [run_store Tryd.prog W ta _ _ (by rfl)]
  simp [ht, hf]

/-! The package's own error. -/
theorem methodUnwrap (v : Value) (w : World) : (Go.method 240 90 v "Unwrap").run Tryd.prog w = .ok (87, v) w := by kernel_rfl
theorem noAs (v : Value) (xT : TypeId) (w : World) : (Instr.typeAssert (.iface 90 v) xT 100 true).run Tryd.prog w = .ok (.tuple #[.nilIface, .bool false]) w :=
  run_typeAssert_lacksB Tryd.underlying100 (by kernel_rfl) (by kernel_rfl) v xT w
theorem hasUnwrap (v : Value) (xT : TypeId) (w : World) : (Instr.typeAssert (.iface 90 v) xT 103 true).run Tryd.prog w = .ok (.tuple #[.iface 90 v, .bool true]) w :=
  run_typeAssert_hasB Tryd.underlying103 (by kernel_rfl) v xT w
theorem cUnwrap (e : Addr) (w : World) : Calls Tryd.prog 87 #[.pointer (some e)] w fun r w' => r = .returned (.iface 59 (.pointer (some e))) ∧ w' = w := by
  go_enter Tryd.func87, Tryd.ntmps87
  go_wp2
  go_ret
  exact ⟨rfl, rfl⟩
end Go.Proofs.YthhkpoobcnmdgaaDoor
/-
  errors.As at a **Fault, and api.Told: walked.
-/
namespace Go.Proofs.YthhkpoobcnmdgaaDoor
open Go.RowKit Go.Extern.Stop Go.Stop Go.Extern

set_option maxRecDepth 4000 in
set_option maxHeartbeats 4000000 in
/-- errors.as: the error is unwrapped once. -/
theorem as2_wrong (e t a : Addr) (tv old : Value) (w : World) (ha : w.cell? a = some (.pointer (some t))) (ht0 : w.cell? t = some old) (hf0 : w.frozen? t = false) :
    Calls Tryd.prog 46 #[.iface 90 (.pointer (some e)), tv, .agg #[.pointer (some ⟨1, 61, none⟩), .pointer (some a), .int .u64 150], .iface 95 (.agg #[.pointer (some ⟨1, 59, none⟩)])] w fun ev w' => ev = .returned (.bool true) ∧ w' = ((w.alloc (.cells #[.pointer (some ⟨1, 61, none⟩), .pointer (some a), .int .u64 150] 76)).alloc (.cells #[.pointer (some e)] 59)).setCell t (.pointer (some e)) := by
  have h48 := @run_callFunc_extern Tryd.prog 43 _ (fun args => ReflectliteValue.unpack (args.getD 0 (.tuple #[]))) Tryd.func43 (by kernel_rfl) (by kernel_rfl) (by kernel_rfl) (by kernel_rfl)
  have h61 := @run_callFunc_extern Tryd.prog 58 _ ReflectliteType.typeOf Tryd.func58 (by kernel_rfl) (by kernel_rfl) (by kernel_rfl) (by kernel_rfl)
  have h92 := @run_callFunc_extern Tryd.prog 89 _ (ReflectliteType.relation "AssignableTo" ReflectliteType.assignableTo) Tryd.func89 (by kernel_rfl) (by kernel_rfl) (by kernel_rfl) (by kernel_rfl)
  have h62 := @run_callFunc_extern Tryd.prog 59 _ (ReflectliteValue.method (ReflectliteValue.valueError "reflectlite.Value.Elem" 0) ReflectliteValue.elem) Tryd.func59 (by kernel_rfl) (by kernel_rfl) (by kernel_rfl) (by kernel_rfl)
  have h63 := @run_callFunc_extern Tryd.prog 60 _ ReflectliteValue.set Tryd.func60 (by kernel_rfl) (by kernel_rfl) (by kernel_rfl) (by kernel_rfl)
  have tO := typeOfP
  have tW := typeOfW
  have mA := methodAssignableTo
  have aP := assignableP
  have aW := assignableW
  have vP := valueOfP
  have mU := methodUnwrap
  have tA := noAs
  have tU := hasUnwrap
  have hal : a.block < w.heap.size := by
    rcases Nat.lt_or_ge a.block w.heap.size with h | h
    · exact h
    · simp [World.cell?, Array.getElem?_eq_none h] at ha
  have htl : t.block < w.heap.size := by
    rcases Nat.lt_or_ge t.block w.heap.size with h | h
    · exact h
    · simp [World.cell?, Array.getElem?_eq_none h] at ht0
  have el := elemVPP a t (w.alloc (.cells #[.pointer (some ⟨1, 61, none⟩), .pointer (some a), .int .u64 150] 76)) (by rw [World.cell?_alloc_lt _ _ a hal]; exact ha)
  have st := setP t ⟨w.heap.size + 1, 0, none⟩ e old ((w.alloc (.cells #[.pointer (some ⟨1, 61, none⟩), .pointer (some a), .int .u64 150] 76)).alloc (.cells #[.pointer (some e)] 59))
    (by rw [World.cell?_alloc_at _ _ _ _ (by simp)]; rfl)
    (by rw [World.cell?_alloc_lt _ _ t (by simp; omega), World.cell?_alloc_lt _ _ t htl]; exact ht0)
    (by rw [World.frozen?_alloc_old _ _ t (by simp; omega), World.frozen?_alloc_old _ _ t (Nat.ne_of_lt htl)]; exact hf0)
  go_enter Tryd.func46, Tryd.ntmps46
  go_wp2
  refine wp_loop_rounds 2 ?_
  rw [rounds_succ]
  go_wp2_with (go_at_call 87; refine (cUnwrap e _).mono ?_; rintro _ _ ⟨rfl, rfl⟩)
  rw [rounds_succ]
  go_wp2
  go_ret
  exact ⟨rfl, rfl⟩

set_option maxRecDepth 4000 in
set_option maxHeartbeats 4000000 in
theorem as_wrong (e t : Addr) (old : Value) (w : World) (hg : w.cell? ⟨0, 0, none⟩ = some (.iface 95 (.agg #[.pointer (some ⟨1, 28, none⟩)]))) (ht0 : w.cell? t = some old) (hf0 : w.frozen? t = false) :
    Calls Tryd.prog 26 #[.iface 90 (.pointer (some e)), .iface 61 (.pointer (some t))] w fun ev w' => ev = .returned (.bool true) ∧ w' = ((((w.alloc (.cells #[.pointer (some t)] 61)).alloc (.cells #[.pointer (some ⟨1, 61, none⟩), .pointer (some ⟨w.heap.size, 0, none⟩), .int .u64 150] 76)).alloc (.cells #[.pointer (some ⟨1, 61, none⟩), .pointer (some ⟨w.heap.size, 0, none⟩), .int .u64 150] 76)).alloc (.cells #[.pointer (some e)] 59)).setCell t (.pointer (some e)) := by
  have h48 := @run_callFunc_extern Tryd.prog 43 _ (fun args => ReflectliteValue.unpack (args.getD 0 (.tuple #[]))) Tryd.func43 (by kernel_rfl) (by kernel_rfl) (by kernel_rfl) (by kernel_rfl)
  have h49 := @run_callFunc_extern Tryd.prog 44 _ (ReflectliteValue.methodAny (ReflectliteValue.valueError "reflectlite.Value.Type" 0) (fun t _ _ _ => ReflectliteType.toType t)) Tryd.func44 (by kernel_rfl) (by kernel_rfl) (by kernel_rfl) (by kernel_rfl)
  have h50 := @run_callFunc_extern Tryd.prog 45 _ (ReflectliteValue.method (ReflectliteValue.valueError "reflectlite.Value.IsNil" 0) ReflectliteValue.isNil) Tryd.func45 (by kernel_rfl) (by kernel_rfl) (by kernel_rfl) (by kernel_rfl)
  have h81 := @run_callFunc_extern Tryd.prog 78 _ (ReflectliteType.abiMethod fun t => do pure (.int .u8 (← Rtype.kind t))) Tryd.func78 (by kernel_rfl) (by kernel_rfl) (by kernel_rfl) (by kernel_rfl)
  have h94 := @run_callFunc_extern Tryd.prog 91 _ (ReflectliteType.method ReflectliteType.elem) Tryd.func91 (by kernel_rfl) (by kernel_rfl) (by kernel_rfl) (by kernel_rfl)
  have h95 := @run_callFunc_extern Tryd.prog 92 _ (ReflectliteType.relation "Implements" ReflectliteType.implements_) Tryd.func92 (by kernel_rfl) (by kernel_rfl) (by kernel_rfl) (by kernel_rfl)
  have f6 := valueOfPP
  have f7 := typePP
  have mK := methodKind
  have mE := methodElem
  have mI := methodImplements
  have k1 := kindPP
  have k2 := kindP
  have e1 := elemPP
  have i1 := implementsP
  have n8 := isNilPP ⟨w.heap.size, 0, none⟩ t ((w.alloc (.cells #[.pointer (some t)] 61)).alloc (.cells #[.pointer (some ⟨1, 61, none⟩), .pointer (some ⟨w.heap.size, 0, none⟩), .int .u64 150] 76)) (by simp)
  have hlt : 0 < w.heap.size := by
    rcases Nat.eq_zero_or_pos w.heap.size with h0 | h
    · simp [World.cell?, h0] at hg
    · exact h
  have hg2 : ((w.alloc (.cells #[.pointer (some t)] 61)).alloc (.cells #[.pointer (some ⟨1, 61, none⟩), .pointer (some ⟨w.heap.size, 0, none⟩), .int .u64 150] 76)).cell? ⟨0, 0, none⟩ = some (.iface 95 (.agg #[.pointer (some ⟨1, 28, none⟩)])) := by
    rw [World.cell?_alloc_lt _ _ ⟨0, 0, none⟩ (by simp), World.cell?_alloc_lt _ _ ⟨0, 0, none⟩ hlt]; exact hg
  have htl : t.block < w.heap.size := by
    rcases Nat.lt_or_ge t.block w.heap.size with h | h
    · exact h
    · simp [World.cell?, Array.getElem?_eq_none h] at ht0
  have c51 := as2_wrong e t ⟨w.heap.size, 0, none⟩ (.iface 61 (.pointer (some t))) old ((w.alloc (.cells #[.pointer (some t)] 61)).alloc (.cells #[.pointer (some ⟨1, 61, none⟩), .pointer (some ⟨w.heap.size, 0, none⟩), .int .u64 150] 76)) (by simp)
    (by rw [World.cell?_alloc_lt _ _ t (by simp; omega), World.cell?_alloc_lt _ _ t htl]; exact ht0)
    (by rw [World.frozen?_alloc_old _ _ t (by simp; omega), World.frozen?_alloc_old _ _ t (Nat.ne_of_lt htl)]; exact hf0)
  go_enter Tryd.func26, Tryd.ntmps26
  go_wp2_with (go_at_call 46; refine c51.mono ?_; rintro _ _ ⟨rfl, rfl⟩)
  go_ret
  exact ⟨rfl, rfl⟩

end Go.Proofs.YthhkpoobcnmdgaaDoor
/-
  api.Told: walked: of no error; of an error of lex.
-/
namespace Go.Proofs.YthhkpoobcnmdgaaDoor
open Go.RowKit Go.Extern.Stop Go.Stop Go.Extern

set_option maxRecDepth 4000 in
theorem told_nil (w : World) : Calls Tryd.prog 17 #[.nilIface] w fun ev w' => ev = .returned (.agg #[.int .i64 0, .int .i64 0]) ∧ Below w.heap.size w w' := by
  go_enter Tryd.func17, Tryd.ntmps17
  go_wp2_with (go_at_call 26; refine (as_nil _ _).mono ?_; rintro _ _ ⟨rfl, rfl⟩)
  go_returns
  exact ⟨rfl, by go_grown⟩
set_option maxRecDepth 4000 in
set_option maxHeartbeats 4000000 in
theorem told_wrong (c o : Nat) (m k : Int) (w : World) (hg : w.cell? ⟨0, 0, none⟩ = some (.iface 95 (.agg #[.pointer (some ⟨1, 28, none⟩)])))
    (hx : w.cell? ⟨c, o, none⟩ = some (.int .i64 m)) (hy : w.cell? ⟨c, o + 1, none⟩ = some (.int .i64 k)) :
    Calls Tryd.prog 17 #[.iface 90 (.pointer (some ⟨c, o, none⟩))] w fun ev w' => ev = .returned (.agg #[.int .i64 m, .int .i64 k]) ∧ Below w.heap.size w w' := by
  have hlt : 0 < w.heap.size := by
    rcases Nat.eq_zero_or_pos w.heap.size with h0 | h
    · simp [World.cell?, h0] at hg
    · exact h
  have hcl : c < w.heap.size := by
    rcases Nat.lt_or_ge c w.heap.size with h | h
    · exact h
    · simp [World.cell?, Array.getElem?_eq_none h] at hx
  have h34 := as_wrong ⟨c, o, none⟩ ⟨w.heap.size + 1, 0, none⟩ (.pointer none) ((w.alloc (.cells #[.int .i64 0, .int .i64 0] 33)).alloc (.cells #[.pointer none] 59))
    (by rw [World.cell?_alloc_lt _ _ ⟨0, 0, none⟩ (by simp), World.cell?_alloc_lt _ _ ⟨0, 0, none⟩ hlt]; exact hg) (by simp) (by simp)
  have hx6 : ((((((w.alloc (.cells #[.int .i64 0, .int .i64 0] 33)).alloc (.cells #[.pointer (some ⟨c, o, none⟩)] 59)).alloc (.cells #[.pointer (some ⟨w.heap.size + 1, 0, none⟩)] 61)).alloc (.cells #[.pointer (some ⟨1, 61, none⟩), .pointer (some ⟨w.heap.size + 1 + 1, 0, none⟩), .int .u64 150] 76)).alloc (.cells #[.pointer (some ⟨1, 61, none⟩), .pointer (some ⟨w.heap.size + 1 + 1, 0, none⟩), .int .u64 150] 76)).alloc (.cells #[.pointer (some ⟨c, o, none⟩)] 59)).cell? ⟨c, o, none⟩ = some (.int .i64 m) := by
    repeat rw [World.cell?_alloc_lt _ _ ⟨c, o, none⟩ (by simp; omega)]
    exact hx
  have hy6 : ((((((w.alloc (.cells #[.int .i64 0, .int .i64 0] 33)).alloc (.cells #[.pointer (some ⟨c, o, none⟩)] 59)).alloc (.cells #[.pointer (some ⟨w.heap.size + 1, 0, none⟩)] 61)).alloc (.cells #[.pointer (some ⟨1, 61, none⟩), .pointer (some ⟨w.heap.size + 1 + 1, 0, none⟩), .int .u64 150] 76)).alloc (.cells #[.pointer (some ⟨1, 61, none⟩), .pointer (some ⟨w.heap.size + 1 + 1, 0, none⟩), .int .u64 150] 76)).alloc (.cells #[.pointer (some ⟨c, o, none⟩)] 59)).cell? ⟨c, o + 1, none⟩ = some (.int .i64 k) := by
    repeat rw [World.cell?_alloc_lt _ _ ⟨c, o + 1, none⟩ (by simp; omega)]
    exact hy
  go_enter Tryd.func17, Tryd.ntmps17
  go_wp2_with (go_at_call 26; refine h34.mono ?_; rintro _ _ ⟨rfl, rfl⟩)
  go_returns
  exact ⟨rfl, by go_grown⟩
end Go.Proofs.YthhkpoobcnmdgaaDoor
/-
  lex upon rows of bytes: names, numbers.
-/
namespace Go.Proofs.YthhkpoobcnmdgaaDoor
open Go.RowKit
set_option linter.unusedVariables false

def nmB (l : List Nat) : Bool := decide (l ≠ []) && decide (nameLen l = l.length)
def nuB (l : List Nat) : Bool := decide (l ≠ []) && decide (numLen l = l.length)
theorem nm_iff {l : List Nat} : nmB l = true ↔ l ≠ [] ∧ nameLen l = l.length := by unfold nmB; simp
theorem nu_iff {l : List Nat} : nuB l = true ↔ l ≠ [] ∧ numLen l = l.length := by unfold nuB; simp
theorem ne_size {s : ByteArray} : M.bytes s ≠ [] ↔ 0 < s.size := by rw [← M.bytes_len, List.length_pos_iff]
theorem isName_list {s : ByteArray} : isName s ↔ nmB (M.bytes s) = true := by
  rw [nm_iff, ne_size, ← nameL_list, M.bytes_len]
  unfold isName
  refine and_congr_right fun _ => ⟨fun h => nameL_eq h, fun h => ?_⟩
  obtain ⟨r, hr⟩ := name_ex s
  rw [nameL_eq hr] at h
  rwa [h] at hr
theorem isNum_list {s : ByteArray} : isNum s ↔ nuB (M.bytes s) = true := by
  rw [nu_iff, ne_size, M.bytes_len]
  unfold isNum
  refine and_congr_right fun hp => ?_
  rw [← numL_list s hp]
  refine ⟨fun h => numL_eq h, fun h => ?_⟩
  obtain ⟨r, hr⟩ := number_ex s hp
  rw [numL_eq hr] at h
  rwa [h] at hr
theorem nameB_c (s : ByteArray) (w : World) (hs : s.size ≤ 1048576) : Calls Tryd.prog 18 #[.string s] w fun e w' => e = .returned (.bool (nmB (M.bytes s))) ∧ w = w' :=
  (nameL_c s w hs).mono fun _ _ ⟨⟨b, h1, h2⟩, h3⟩ => ⟨by rw [h1]; congr 2; rw [Bool.eq_iff_iff, h2, isName_list], h3⟩
theorem numB_c (s : ByteArray) (w : World) (hs : s.size ≤ 1048576) : Calls Tryd.prog 19 #[.string s] w fun e w' => e = .returned (.bool (nuB (M.bytes s))) ∧ w = w' :=
  (numL_c s w hs).mono fun _ _ ⟨⟨b, h1, h2⟩, h3⟩ => ⟨by rw [h1]; congr 2; rw [Bool.eq_iff_iff, h2, isNum_list], h3⟩

theorem run_all {p : Int → Bool} {l m : List Nat} (h : run p l = l.length) : run p (l ++ m) = l.length + run p m := by
  induction l with
  | nil => simp
  | cons b l ih =>
    have e : ∀ x, run p (b :: x) = if p (b : Int) = true then run p x + 1 else 0 := fun x => by rw [run]
    show run p (b :: (l ++ m)) = l.length + 1 + run p m
    rw [e] at h ⊢
    split
    · rename_i hb
      rw [if_pos hb] at h
      rw [ih (by simpa using h)]
      omega
    · rename_i hb
      rw [if_neg hb] at h
      simp at h
theorem len_pos {l : List Nat} (h : l ≠ []) : 0 < l.length := List.length_pos_iff.2 h
theorem nm_nu {l : List Nat} (h : nmB l = true) : nuB l = false := by
  cases e : nuB l with
  | false => rfl
  | true =>
    obtain ⟨h1, h2⟩ := nm_iff.1 h
    obtain ⟨_, h3⟩ := nu_iff.1 e
    have hp := len_pos h1
    have a := let_range (nameLen_pos (l := l) (by omega))
    rcases num_hd (l := l) (by omega) with g | g
    · omega
    · have := dig_range g; omega
theorem alone {x b : List Nat} {d : Nat} (h : One x d b x.length) : Lx x 0 [⟨d, b, 0⟩] none := by
  have := Lx.tok (k := 0) (y := []) h (part_stop (.inl rfl)) (Lx.nil _)
  rwa [List.append_nil] at this
theorem name_one {l : List Nat} (h : nmB l = true) : One l 4 l l.length := by
  obtain ⟨h1, h2⟩ := nm_iff.1 h
  have := One.name (l := l) (by have := len_pos h1; omega)
  rwa [h2, List.take_length] at this
theorem num_one {l : List Nat} (h : nuB l = true) : One l 2 l l.length := by
  obtain ⟨h1, h2⟩ := nu_iff.1 h
  have := One.num (l := l) (by have := len_pos h1; omega)
  rwa [h2, List.take_length] at this
theorem num_a {l : List Nat} (h : nuB l = true) : nuB (l ++ [97]) = false ∧ Lx (l ++ [97]) 0 [] (some 0) := by
  obtain ⟨h1, h2⟩ := nu_iff.1 h
  have hp := len_pos h1
  have e := numLen_app2 (l := l) (r := [97]) (by omega) (.inr (by decide))
  refine ⟨?_, ?_⟩
  · cases g : nuB (l ++ [97]) with
    | false => rfl
    | true =>
      have := (nu_iff.1 g).2
      rw [e, List.length_append] at this
      simp at this
      omega
  · have ho := One.num (l := l ++ [97]) (by omega)
    rw [e, h2] at ho
    have hf := ho.first
    unfold Lx
    rw [skip_zero (not_blank (by omega)) hf.2, List.drop_zero]
    exact .glued ho.ne ho (by rw [List.drop_left]; decide)
theorem name_more {l : List Nat} (h : nmB l = true) (hl : l[l.length - 1]? ≠ some 63) : nmB (l ++ [97]) = true ∧ nmB (l ++ [63]) = true := by
  obtain ⟨h1, h2⟩ := nm_iff.1 h
  have hp := len_pos h1
  have hc := nameLen_pos (l := l) (by omega)
  have hr : 1 + run wordB (l.drop 1) = l.length := by
    have hle := run_le wordB (l.drop 1)
    rw [List.length_drop] at hle
    rw [nameLen_def, if_pos hc] at h2
    split at h2
    · rename_i h3
      exfalso
      apply hl
      have e : l.drop (1 + run wordB (l.drop 1)) = l.drop (l.length - 1) := by congr 1; omega
      rw [e, List.drop_eq_getElem_cons (by omega)] at h3
      rw [List.getElem?_eq_getElem (by omega)]
      have h3 : ((l[l.length - 1]'(by omega) : Nat) : Int) = 63 := h3
      congr 1
      omega
    · exact h2
  have hd1 : run wordB (l.drop 1) = (l.drop 1).length := by rw [List.length_drop]; omega
  refine ⟨nm_iff.2 ⟨by simp, ?_⟩, nm_iff.2 ⟨by simp, ?_⟩⟩
  · have e : run wordB ((l ++ [97]).drop 1) = l.length - 1 + 1 := by rw [drop_app (by omega), run_all hd1, List.length_drop]; rfl
    rw [nameLen_def, hd_app h1, if_pos hc, e, if_neg (by rw [hd_drop_none (by simp; omega)]; decide), List.length_append]
    simp; omega
  · have e : run wordB ((l ++ [63]).drop 1) = l.length - 1 := by rw [drop_app (by omega), run_all hd1, List.length_drop]; rfl
    have e2 : 1 + (l.length - 1) = l.length := by omega
    rw [nameLen_def, hd_app h1, if_pos hc, e, e2, List.drop_left, if_pos (by rfl), List.length_append]
    rfl
theorem name_qq (l : List Nat) : nmB (l ++ [63, 63]) = false := by
  cases g : nmB (l ++ [63, 63]) with
  | false => rfl
  | true =>
    obtain ⟨h1, h2⟩ := nm_iff.1 g
    have hc := nameLen_pos (l := l ++ [63, 63]) (by rw [h2]; exact len_pos h1)
    by_cases hl : l = []
    · subst hl
      exact absurd hc (by decide)
    · have hp := len_pos hl
      have hr : run wordB ((l ++ [63, 63]).drop 1) = run wordB (l.drop 1) := by rw [drop_app (by omega), run_app (.inr (by decide))]
      have hle := run_le wordB (l.drop 1)
      rw [List.length_drop] at hle
      rw [nameLen_def, if_pos hc, hr, List.length_append] at h2
      simp only [List.length_cons, List.length_nil] at h2
      split at h2 <;> omega
theorem num_01 (l : List Nat) : nuB (([48] ++ l) ++ [49]) = false := by
  cases g : nuB (([48] ++ l) ++ [49]) with
  | false => rfl
  | true =>
    obtain ⟨h1, h2⟩ := nu_iff.1 g
    have hd0 : dashL (([48] ++ l) ++ [49]) = 0 := by rfl
    have hr : 0 < run digB ((([48] ++ l) ++ [49]).drop 0) := run_pos (by rfl) (by decide)
    rw [numLen_def, hd0, if_neg (by omega), if_pos (by rfl), if_pos rfl] at h2
    simp at h2
theorem name_dash (l : List Nat) : nmB ([45] ++ l) = false := by
  cases g : nmB ([45] ++ l) with
  | false => rfl
  | true =>
    obtain ⟨h1, h2⟩ := nm_iff.1 g
    have hc := nameLen_pos (l := [45] ++ l) (by rw [h2]; exact len_pos h1)
    exact absurd hc (show ¬ letB 45 = true by decide)
end Go.Proofs.YthhkpoobcnmdgaaDoor
