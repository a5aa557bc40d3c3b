import Derived.KernelRfl
import Derived.Deep.RegionHeld3
import Derived.Test.YthhkpoobcnmdgaaDoorBA2
import Derived.Test.YthhkpoobcnmdgaaDoorBE6
/-
  The evaluator at this program: its functions and types; errors are told by their contract.
-/
namespace Go.Proofs.YthhkpoobcnmdgaaDoor
open Go Go.Ev Go.RowKit

/-- The value of errors.errorType. -/
def handle : Value := .iface 95 (.agg #[.pointer (some ⟨1, 28, none⟩)])
def twoInts (x y : Value) (s : AS) : Option (Value × AS) :=
  match x, y with
  | .int .i64 m, .int .i64 k => some (.agg #[.int .i64 m, .int .i64 k], s)
  | _, _ => none
/-- api.Told: of no error; of an error of lex. -/
noncomputable def toldP (args : List Value) (s : AS) : Option (Value × AS) :=
  match args with
  | [.nilIface] => some (.agg #[.int .i64 0, .int .i64 0], s)
  | [.iface t (.pointer (some ⟨b, o, none⟩))] => only (Nat.beq t 90) (obind (cell s b o) fun x => obind (cell s b (Nat.succ o)) fun y => twoInts x y s)
  | _ => none
noncomputable def env : Env where
  fn f := Tryd.prog.funcs[f]?
  ty := Tryd.prog.info?
  ng := 0
  prim f := bif Nat.beq f 17 then some toldP else none
  calm t := !Tryd.prog.stoodInHeld t && !Tryd.prog.eqGuardType Tryd.prog.depth t
  isLaid c := Nat.beq c 0
  laidP _ o := ∃ cs t fr, o = .cells cs t fr ∧ cs[0]? = some handle
set_option maxRecDepth 100000 in
theorem envOK : EnvOK env Tryd.prog := .of (fun _ _ e => e) (fun _ _ e => e) (by kernel_rfl) fun t h => by
  have h : (!Tryd.prog.stoodInHeld t && !Tryd.prog.eqGuardType Tryd.prog.depth t) = true := h
  simpa using h
theorem mixed : Tryd.prog.follows .mixedOrders = true := by kernel_rfl
theorem cell_of_laid {β : Bond} {s : AS} {w : World} (h : Sim env β s w) : w.cell? ⟨0, 0, none⟩ = some handle := by
  obtain ⟨o, h1, cs, t, fr, rfl, h2⟩ := (h.laid 0 rfl).1
  rw [cell_at h1 0]
  exact h2
theorem laid_of_cell {w : World} (h : w.cell? ⟨0, 0, none⟩ = some handle) : ∀ c, env.isLaid c = true → ∃ o, w.heap[c]? = some o ∧ env.laidP c o := by
  intro c hc
  have hc : c = 0 := Nat.eq_of_beq_eq_true hc
  subst hc
  cases hb : w.heap[0]? with
  | none => simp [World.cell?, hb] at h
  | some o =>
    cases o with
    | cells cs t fr => rw [cell_at hb 0] at h; exact ⟨_, rfl, cs, t, fr, rfl, h⟩
    | _ => simp [World.cell?, hb] at h
theorem primOK : PrimOK env Tryd.prog := by
  have is : ∀ f p, env.prim f = some p → f = 17 ∧ p = toldP := fun f p e => by
    have e : (bif Nat.beq f 17 then some toldP else none) = some p := e
    cases hb : Nat.beq f 17 with
    | false => rw [hb] at e; cases e
    | true => rw [hb] at e; exact ⟨Nat.eq_of_beq_eq_true hb, (Option.some.inj e).symm⟩
  refine ⟨fun f p args s r e h => ?_, fun f p args s r e h β w args' hs ha => ?_⟩
  · obtain ⟨rfl, rfl⟩ := is f p e
    unfold toldP at h
    split at h
    · cases h; exact .refl s
    · obtain ⟨_, h⟩ := only_some h
      obtain ⟨x, _, h⟩ := obind_some h
      obtain ⟨y, _, h⟩ := obind_some h
      unfold twoInts at h
      split at h
      · cases h; exact .refl s
      · cases h
    · cases h
  · obtain ⟨rfl, rfl⟩ := is f p e
    have low : ∀ {w w' : World}, Below w.heap.size w w' → w.heap.size ≤ w'.heap.size ∧ (∀ k, k < w.heap.size → w'.heap[k]? = w.heap[k]?) ∧ Same w w' := fun b => ⟨b.size, b.block, b.os, b.tape, b.output⟩
    unfold toldP at h
    split at h
    · cases h
      cases ha with
      | cons h1 h2 =>
        cases h1; cases h2
        refine PrimOK.of_calls envOK Tryd.func17 rfl hs ((told_nil w).mono ?_) (VR.plain (n := 6) (by rfl))
        rintro e w' ⟨rfl, b⟩
        exact ⟨rfl, low b⟩
    · rename_i t b o
      obtain ⟨ht, h⟩ := only_some h
      have ht := Nat.eq_of_beq_eq_true ht
      subst ht
      obtain ⟨x, hx, h⟩ := obind_some h
      obtain ⟨y, hy, h⟩ := obind_some h
      unfold twoInts at h
      split at h
      · cases h
        cases ha with
        | cons h1 h2 =>
          cases h2
          cases h1 with
          | iface _ h1 =>
            cases h1 with
            | ptr _ hb =>
              rename_i c sh g
              obtain ⟨x', h3, h4, _⟩ := cell_sim hs hb hx
              obtain ⟨y', h5, h6, _⟩ := cell_sim hs hb hy
              cases h4; cases h6
              refine PrimOK.of_calls envOK Tryd.func17 rfl hs ((told_wrong c (sh + o) _ _ w (cell_of_laid hs) h3 h5).mono ?_) (VR.plain (n := 6) (by rfl))
              rintro e w' ⟨rfl, b⟩
              exact ⟨rfl, low b⟩
      · cases h
    · cases h
end Go.Proofs.YthhkpoobcnmdgaaDoor
/-
  lex's closed law, and the examples of its other laws: run by the kernel.
-/
namespace Go.Proofs.YthhkpoobcnmdgaaDoor
open Go Go.Ev Go.RowKit

def yes : Option (Value × AS) → Bool
  | some (.bool true, _) => true
  | _ => false
theorem yes_some {r : Option (Value × AS)} (h : yes r = true) : ∃ s, r = some (.bool true, s) := by
  unfold yes at h
  split at h
  · exact ⟨_, rfl⟩
  · cases h
/-- A closed call that answers true. -/
theorem closed {n : Nat} {f : FuncId} (hr : yes ((hand env n).call f [] (Ev.start 0)) = true) (w : World) (hg : w.cell? ⟨0, 0, none⟩ = some handle) :
    Calls Tryd.prog f #[] w fun e w' => e = .returned (.bool true) ∧ Below w.heap.size w w' := by
  obtain ⟨s, h⟩ := yes_some hr
  refine (tells0 (args' := []) envOK primOK mixed rfl h (laid_of_cell hg) .nil).mono ?_
  rintro e w' ⟨⟨v', β', rfl, hv, _⟩, h1, h2, h3⟩
  cases hv
  exact ⟨rfl, ⟨h3.1, h3.2.1, h3.2.2, h1, h2⟩⟩
theorem cWorks5 (w : World) (hg : w.cell? ⟨0, 0, none⟩ = some handle) : Calls Tryd.prog 13 #[] w fun e w' => e = .returned (.bool true) ∧ Below w.heap.size w w' :=
  closed (n := 30) (by kernel_rfl) w hg
end Go.Proofs.YthhkpoobcnmdgaaDoor
/-
  litmuslaw05: told, reads, fails.
-/
namespace Go.Proofs.YthhkpoobcnmdgaaDoor
open Go.RowKit
set_option linter.unusedVariables false

theorem cell0_b {w w' : World} {v : Value} (h : w.cell? ⟨0, 0, none⟩ = some v) (hb : Below w.heap.size w w') : w'.cell? ⟨0, 0, none⟩ = some v := by
  have hl : 0 < w.heap.size := by
    rcases Nat.eq_zero_or_pos w.heap.size with h0 | h0
    · simp [World.cell?, h0] at h
    · exact h0
  have := hb.block 0 hl
  simpa [World.cell?, this] using h

set_option maxRecDepth 20000 in
set_option maxHeartbeats 2000000 in
/-- told of no error. -/
theorem toldN_c (m a : Int) (w : World) (hm : m ≠ 0) : Calls Tryd.prog 11 #[.nilIface, .agg #[.int .i64 m, .int .i64 a]] w fun e w' => e = .returned (.bool false) ∧ Below w.heap.size w w' := by
  have h1 : (m != 0) = true := by simpa using hm
  have h2 : ((false : Bool) == true) = false := rfl
  go_enter Tryd.func11, Tryd.ntmps11
  go_wp2
  go_quiet (fail)
  go_wp2
  go_ret
  exact ⟨rfl, below_drewN (bx_alloc _ _) _⟩
set_option maxRecDepth 20000 in
set_option maxHeartbeats 2000000 in
/-- told of lex's error. -/
theorem toldW_c (c : Nat) (x a : Int) (w : World) (hg : w.cell? ⟨0, 0, none⟩ = some handle) (h4 : w.cell? ⟨c, 0, none⟩ = some (.int .i64 4)) (hx : w.cell? ⟨c, 1, none⟩ = some (.int .i64 x)) :
    Calls Tryd.prog 11 #[.iface 90 (.pointer (some ⟨c, 0, none⟩)), .agg #[.int .i64 4, .int .i64 a]] w fun e w' => e = .returned (.bool (decide (x = a))) ∧ Below w.heap.size w w' := by
  have HG := Lib.hid hg
  have H4 := Lib.hid h4
  have HX := Lib.hid hx
  clear hg h4 hx
  have TW := Lib.hid fun (W : World) (hb : Below w.heap.size w W) => told_wrong c 0 4 x W (cell0_b HG.out hb) (by rw [hb.cell (p := ⟨c, 0, none⟩) (World.block_lt_of_cell? w _ H4.out)]; exact H4.out) (by rw [hb.cell (p := ⟨c, 1, none⟩) (World.block_lt_of_cell? w _ HX.out)]; exact HX.out)
  by_cases e : x = a
  · subst e
    have HD := Lib.hid (show decide (x = x) = true from decide_eq_true rfl)
    have hxx : (x == x) = true := by simp
    go_enter Tryd.func11, Tryd.ntmps11
    go_wp2
    have A0 := Ak.new w #[.int .i64 4, .int .i64 x] 33
    have B0 := bx_alloc w (.cells #[.int .i64 4, .int .i64 x] 33)
    generalize w.alloc (.cells #[.int .i64 4, .int .i64 x] 33) = W0 at A0 B0 ⊢
    go_region_held3 (fun w' => w'.cell? ⟨w.heap.size, 0, none⟩ = some (.int .i64 4) ∧ w'.cell? ⟨w.heap.size, 1, none⟩ = some (.int .i64 x))
      (first | exact ⟨A1.at 0 rfl, A1.at 1 rfl⟩ | exact ⟨A0.at 0 rfl, A0.at 1 rfl⟩)
      ((go_at_call 17; refine (TW.out _ B0.drew).mono ?_; rintro e w1 ⟨rfl, hb1⟩; have A1 := Ak.below (w := W0.drew) ⟨A0.row⟩ hb1; have BB := Lib.hid (B0.drew.trans (hb1.mono B0.drew.size)); clear hb1))
    go_wp2
    go_ret
    rw [HD.out]
    exact ⟨rfl, BB.out⟩
  · have HD := Lib.hid (show decide (x = a) = false from decide_eq_false e)
    have hxa : (x == a) = false := by simpa using e
    have hxd : decide (x = a) = false := decide_eq_false e
    go_enter Tryd.func11, Tryd.ntmps11
    go_wp2
    have A0 := Ak.new w #[.int .i64 4, .int .i64 a] 33
    have B0 := bx_alloc w (.cells #[.int .i64 4, .int .i64 a] 33)
    generalize w.alloc (.cells #[.int .i64 4, .int .i64 a] 33) = W0 at A0 B0 ⊢
    go_region_held3 (fun w' => w'.cell? ⟨w.heap.size, 0, none⟩ = some (.int .i64 4) ∧ w'.cell? ⟨w.heap.size, 1, none⟩ = some (.int .i64 a))
      (first | exact ⟨A1.at 0 rfl, A1.at 1 rfl⟩ | exact ⟨A0.at 0 rfl, A0.at 1 rfl⟩)
      ((go_at_call 17; refine (TW.out _ B0.drew).mono ?_; rintro e w1 ⟨rfl, hb1⟩; have A1 := Ak.below (w := W0.drew) ⟨A0.row⟩ hb1; have BB := Lib.hid (B0.drew.trans (hb1.mono B0.drew.size)); clear hb1))
    go_wp2
    go_ret
    rw [HD.out]
    exact ⟨rfl, BB.out⟩
end Go.Proofs.YthhkpoobcnmdgaaDoor
/-
  litmuslaw05: reads, fails.
-/
namespace Go.Proofs.YthhkpoobcnmdgaaDoor
open Go.RowKit
set_option linter.unusedVariables false

instance : DecidableEq Tk := fun a b => decidable_of_iff (a.d = b.d ∧ a.l = b.l ∧ a.k = b.k) (by cases a; cases b; simp)
theorem TokL.count {l : List Nat} {k : Nat} {ts : List Tk} {r : Option Nat} (h : TokL l k ts r) : ts.length ≤ l.length := by
  induction h with
  | done => simp
  | none _ _ => simp
  | glued _ _ _ => simp
  | tok hl h1 _ _ ih =>
    have := h1.len
    simp only [List.length_drop, List.length_cons] at ih ⊢
    omega
theorem Lexes.count {s : ByteArray} {ts : List Tk} {r : Option Nat} (h : Lexes s ts r) : ts.length ≤ s.size := by
  have h1 := TokL.count (show TokL _ _ ts r from h.list)
  rw [List.length_drop, M.bytes_len] at h1
  omega
theorem key_true {e f : TE} : keyB true e = keyB true f ↔ e.tk = f.tk := by
  unfold keyB TE.tk
  simp
theorem map_iff {α β γ : Type} (f : α → β) (g : α → γ) (h : ∀ x y, f x = f y ↔ g x = g y) (l m : List α) : l.map f = m.map f ↔ l.map g = m.map g := by
  induction l generalizing m with
  | nil => cases m <;> simp
  | cons x l ih =>
    cases m with
    | nil => simp
    | cons y m => simp [ih m, h x y]
theorem same_true (es fs : List TE) : sameB true es fs = decide (es.map TE.tk = fs.map TE.tk) := by
  unfold sameB
  exact decide_eq_decide.2 (map_iff _ _ (fun x y => key_true) es fs)
theorem same_false (es fs : List TE) : sameB false es fs = decide ((es.map TE.tk).map Tk.say = (fs.map TE.tk).map Tk.say) := by
  unfold sameB
  rw [List.map_map, List.map_map]
  refine decide_eq_decide.2 (map_iff _ _ (fun x y => ?_) es fs)
  simp [keyB, TE.tk, Tk.say]

/-- What reads answers: the tokens are fs. -/
def ReadsP (s : ByteArray) (fs : List Tk) (w : World) (e : Ending) (w' : World) : Prop := ∃ ts r, Lexes s ts r ∧ e = .returned (.bool (decide (r = none ∧ ts = fs))) ∧ Below w.heap.size w w'
set_option maxRecDepth 20000 in
set_option maxHeartbeats 2000000 in
theorem reads_c (s : ByteArray) (hs : s.size ≤ 1048576) (B : Option Addr) (m c' : Nat) (fs : List TE) (w : World) (h : RdT w B m c' fs) (hm : m ≤ 8388608) :
    Calls Tryd.prog 16 #[.string s, .slice B m c'] w (ReadsP s (fs.map TE.tk) w) := by
  have H := Lib.hid h
  clear h
  go_enter Tryd.func16, Tryd.ntmps16
  go_wp2_with fail
  refine (tokens_c s hs _).mono ?_
  rintro e w1 ⟨ts, r, hl, hb, (⟨rfl, es, A, c, rfl, rfl, ho⟩ | ⟨k, c, rfl, rfl, hc, h4, hx⟩)⟩
  · have hn := hl.count
    rw [List.length_map] at hn
    have H1 := H.out.below hb
    have HO := Lib.hid ho
    have HB := Lib.hid hb
    have HL := Lib.hid hl
    clear ho hb hl
    go_wp2_with (go_at_call 12; refine (same_c true _ _ _ es _ _ _ fs _ HO.out.rd H1 (by omega) hm).mono ?_; rintro _ w2 ⟨rfl, q, rfl⟩)
    go_ret
    refine ⟨_, _, HL.out, ?_, below_drewN HB.out q⟩
    rw [same_true]
    simp
  · have HB := Lib.hid hb
    have HL := Lib.hid hl
    clear hb hl h4 hx
    go_wp2
    go_ret
    exact ⟨_, _, HL.out, by simp, HB.out⟩
/-- What fails answers: the first token that is none stands at a. -/
def FailsP (s : ByteArray) (a : Nat) (w : World) (e : Ending) (w' : World) : Prop := ∃ ts r, Lexes s ts r ∧ e = .returned (.bool (decide (r = some a))) ∧ Below w.heap.size w w'
set_option maxRecDepth 20000 in
set_option maxHeartbeats 2000000 in
theorem fails_c (s : ByteArray) (hs : s.size ≤ 1048576) (a : Nat) (w : World) (hg : w.cell? ⟨0, 0, none⟩ = some handle) :
    Calls Tryd.prog 20 #[.string s, .int .i64 a] w (FailsP s a w) := by
  have HG := Lib.hid hg
  clear hg
  go_enter Tryd.func20, Tryd.ntmps20
  go_wp2_with fail
  refine (tokens_c s hs _).mono ?_
  rintro e w1 ⟨ts, r, hl, hb, (⟨rfl, es, A, c, rfl, rfl, ho⟩ | ⟨k, c, rfl, rfl, hc, h4, hx⟩)⟩
  · have HB := Lib.hid hb
    have HL := Lib.hid hl
    clear ho hb hl
    by_cases he : es.length = 0
    · have hee : es = [] := List.eq_nil_of_length_eq_zero he
      subst hee
      go_wp2_with (go_at_call 11; refine (toldN_c 4 a _ (by decide)).mono ?_; rintro _ w2 ⟨rfl, hb2⟩; have HB2 := Lib.hid (HB.out.trans (hb2.mono HB.out.size)); clear hb2)
      go_ret
      exact ⟨_, _, HL.out, by simp, HB2.out⟩
    · have hne : ((es.length : Int) == 0) = false := by simp; intro h; exact he (by rw [h]; rfl)
      clear he
      go_wp2
      go_ret
      exact ⟨_, _, HL.out, by simp, HB.out⟩
  · have HB := Lib.hid hb
    have HL := Lib.hid hl
    have H4 := Lib.hid h4
    have HX := Lib.hid hx
    clear hb hl h4 hx
    go_wp2_with (go_at_call 11; refine (toldW_c c k a _ (cell0_b HG.out HB.out) H4.out HX.out).mono ?_; rintro _ w2 ⟨rfl, hb2⟩; have HB2 := Lib.hid (HB.out.trans (hb2.mono HB.out.size)); clear hb2)
    all_goals
      go_ret
      refine ⟨_, _, HL.out, ?_, HB2.out⟩
      simp
      omega
end Go.Proofs.YthhkpoobcnmdgaaDoor
/-
  LexWords: walked.
-/
namespace Go.Proofs.YthhkpoobcnmdgaaDoor
open Go.RowKit
set_option linter.unusedVariables false

theorem few_c (s : ByteArray) (n : Nat) (N : Int) (w : World) (hN : N = (n : Int)) (hn : n ≤ 1000) : Calls Tryd.prog 8 #[.string s, .int .i64 N] w fun e w' => (∃ u : ByteArray, e = .returned (.string u) ∧ u.size ≤ n) ∧ w = w' := by
  subst hN
  by_cases h : s.size ≤ n
  · go_enter Tryd.func8, Tryd.ntmps8
    go_wp2
    go_ret
    exact ⟨⟨_, rfl, h⟩, rfl⟩
  · have h2 : n ≤ s.size := by omega
    go_enter Tryd.func8, Tryd.ntmps8
    go_wp2
    go_ret
    refine ⟨⟨_, rfl, ?_⟩, rfl⟩
    rw [ByteArray.size_extract]
    omega
theorem iff_bool {a b : Bool} {p : Prop} (h : a = true ↔ p) (h2 : b = true ↔ p) : b = a := by
  cases a <;> cases b <;> simp_all
theorem bl_trans {w w1 w2 : World} (h : Below w.heap.size w w1) (k : Below w1.heap.size w1 w2) : Below w.heap.size w w2 := h.trans (k.mono h.size)
theorem cell0_below {w w' : World} {v : Value} (h : w.cell? ⟨0, 0, none⟩ = some v) (hb : Below w.heap.size w w') : w'.cell? ⟨0, 0, none⟩ = some v := by
  have hl : 0 < w.heap.size := by
    rcases Nat.eq_zero_or_pos w.heap.size with h0 | h0
    · simp [World.cell?, h0] at h
    · exact h0
  have := hb.block 0 hl
  simpa [World.cell?, this] using h
end Go.Proofs.YthhkpoobcnmdgaaDoor
/-
  LexAlone: walked.
-/
namespace Go.Proofs.YthhkpoobcnmdgaaDoor
open Go.RowKit
set_option linter.unusedVariables false

/-- The text of a token, alone in a row. -/
theorem rd_one (w : World) (d : Nat) (t : ByteArray) (k : Nat) : RdT (w.alloc (.cells #[.int .i64 d, .string t, .int .i64 k] 43)) (some ⟨w.heap.size, 0, none⟩) 1 1 [⟨d, t, k⟩] := by
  refine ⟨rfl, fun i e hi => ?_⟩
  have a := Ak.new w #[.int .i64 d, .string t, .int .i64 k] 43
  cases i with
  | zero => simp at hi; subst hi; exact ⟨_, _, rfl, by simp, a.at 0 rfl, a.at 1 rfl, a.at 2 rfl⟩
  | succ i => simp at hi
theorem last_byte (s : ByteArray) (hp : 0 < s.size) : ∃ x : Nat, (M.bytes s)[(M.bytes s).length - 1]? = some x ∧ x < 256 ∧ ∀ w, (Instr.index 9 (.string s) (.int .i64 ((s.size : Int) - 1))).run Tryd.prog w = .ok (.int .u8 (x : Int)) w := by
  have hk : s.size - 1 < s.size := by omega
  refine ⟨s[s.size - 1].toNat, by rw [M.bytes_len]; exact M.bytes_get s _ hk, byte_lt s _ hk, fun w => ?_⟩
  have e : ((s.size : Int) - 1) = ((s.size - 1 : Nat) : Int) := by omega
  rw [e]
  simp [Instr.index, run_underlying Tryd.underlying9, asIntOf, go_sem, hk]

theorem few60 (s : ByteArray) (w : World) : Calls Tryd.prog 8 #[.string s, .int .i64 60] w fun e w' => (∃ u : ByteArray, e = .returned (.string u) ∧ u.size ≤ 60) ∧ w = w' := few_c s 60 60 w rfl (by omega)
theorem reads_one {s : ByteArray} {d : Nat} {w w' : World} {e : Ending} (h : ReadsP s ([(⟨d, s, 0⟩ : TE)].map TE.tk) w e w') (hx : Lx (M.bytes s) 0 [⟨d, M.bytes s, 0⟩] none) : e = .returned (.bool true) ∧ Below w.heap.size w w' := by
  obtain ⟨ts, r, hl, he, hb⟩ := h
  obtain ⟨rfl, rfl⟩ := hl.list.uniq hx
  exact ⟨by rw [he, decide_eq_true ⟨rfl, rfl⟩], hb⟩
theorem fails_at {s : ByteArray} {a : Nat} {w w' : World} {e : Ending} {ts : List Tk} (h : FailsP s a w e w') (hx : Lx (M.bytes s) 0 ts (some a)) : e = .returned (.bool true) ∧ Below w.heap.size w w' := by
  obtain ⟨us, r, hl, he, hb⟩ := h
  obtain ⟨rfl, rfl⟩ := hl.list.uniq hx
  exact ⟨by rw [he]; simp, hb⟩
theorem app_size {s t : ByteArray} (h : s.size + t.size ≤ 1048576) : (s ++ t).size ≤ 1048576 := by rw [ByteArray.size_append]; exact h

theorem fails0 (s : ByteArray) (hs : s.size ≤ 1048576) (w : World) (hg : w.cell? ⟨0, 0, none⟩ = some handle) : Calls Tryd.prog 20 #[.string s, .int .i64 0] w (FailsP s 0 w) := fails_c s hs 0 w hg
theorem nameT (s : ByteArray) (hs : s.size ≤ 1048576) {b : Bool} (h : nmB (M.bytes s) = b) (w : World) : Calls Tryd.prog 18 #[.string s] w fun e w' => e = .returned (.bool b) ∧ w = w' := by
  subst h; exact nameB_c s w hs
theorem numT (s : ByteArray) (hs : s.size ≤ 1048576) {b : Bool} (h : nuB (M.bytes s) = b) (w : World) : Calls Tryd.prog 19 #[.string s] w fun e w' => e = .returned (.bool b) ∧ w = w' := by
  subst h; exact numB_c s w hs
set_option maxRecDepth 20000 in
set_option maxHeartbeats 4000000 in
theorem alone_walk (s : ByteArray) (w : World) (hg : w.cell? ⟨0, 0, none⟩ = some handle) : Calls Tryd.prog 7 #[.string s] w fun e w' => e = .returned (.bool true) ∧ Below w.heap.size w w' := by
  have HG := Lib.hid hg
  clear hg
  go_enter Tryd.func7, Tryd.ntmps7
  go_wp2_with (first
    | (go_at_call 13; refine (cWorks5 _ HG.out).mono ?_; rintro _ w1 ⟨rfl, hl⟩; have HB1 := Lib.hid hl; clear hl)
    | (go_at_call 8; refine (few60 _ _).mono ?_; rintro _ _ ⟨⟨u, rfl, hu⟩, rfl⟩)
    | fail)
  have z1 := Lib.hid (show (u ++ (⟨#[97]⟩ : ByteArray)).size ≤ 1048576 from app_size (by have : (⟨#[97]⟩ : ByteArray).size = 1 := rfl; omega))
  have z2 := Lib.hid (show (u ++ (⟨#[63]⟩ : ByteArray)).size ≤ 1048576 from app_size (by have : (⟨#[63]⟩ : ByteArray).size = 1 := rfl; omega))
  have z3 := Lib.hid (show (u ++ (⟨#[63, 63]⟩ : ByteArray)).size ≤ 1048576 from app_size (by have : (⟨#[63, 63]⟩ : ByteArray).size = 2 := rfl; omega))
  have z4 := Lib.hid (show (((⟨#[48]⟩ : ByteArray) ++ u) ++ (⟨#[49]⟩ : ByteArray)).size ≤ 1048576 from app_size (by rw [ByteArray.size_append]; have : (⟨#[48]⟩ : ByteArray).size = 1 := rfl; have : (⟨#[49]⟩ : ByteArray).size = 1 := rfl; omega))
  have z5 := Lib.hid (show ((⟨#[45]⟩ : ByteArray) ++ u).size ≤ 1048576 from app_size (by have : (⟨#[45]⟩ : ByteArray).size = 1 := rfl; omega))
  have q3 := Lib.hid (show nmB (M.bytes (u ++ (⟨#[63, 63]⟩ : ByteArray))) = false by rw [bytes_app]; exact name_qq _)
  have q4 := Lib.hid (show nuB (M.bytes (((⟨#[48]⟩ : ByteArray) ++ u) ++ (⟨#[49]⟩ : ByteArray))) = false by rw [bytes_app, bytes_app]; exact num_01 _)
  have q5 := Lib.hid (show nmB (M.bytes ((⟨#[45]⟩ : ByteArray) ++ u)) = false by rw [bytes_app]; exact name_dash _)
  have b1 := Lib.hid (bytes_app u (⟨#[97]⟩ : ByteArray))
  have b2 := Lib.hid (bytes_app u (⟨#[63]⟩ : ByteArray))
  have hus : u.size ≤ 1048576 := by omega
  have N3 := Lib.hid fun w => nameT _ z3.out q3.out w
  have M4 := Lib.hid fun w => numT _ z4.out q4.out w
  have N5 := Lib.hid fun w => nameT _ z5.out q5.out w
  cases hn : nmB (M.bytes u) with
  | true =>
    have hm := nm_nu hn
    have LX := Lib.hid (alone (name_one hn))
    have hne := (nm_iff.1 hn).1
    obtain ⟨x, hx, hx2, hix⟩ := last_byte u (ne_size.1 hne)
    have N1 := Lib.hid fun w => nameT _ hus hn w
    have M1 := Lib.hid fun w => numT _ hus hm w
    by_cases h63 : x = 63
    · subst h63
      clear hn hm hne hx
      go_wp2_with (first
        | (go_at_call 18; ((with_reducible refine (N1.out _).mono ?_); rintro _ _ ⟨rfl, rfl⟩))
        | (go_at_call 19; ((with_reducible refine (M1.out _).mono ?_); rintro _ _ ⟨rfl, rfl⟩))
        | (go_at_call 18; ((with_reducible refine (N3.out _).mono ?_); rintro _ _ ⟨rfl, rfl⟩))
        | (go_at_call 19; ((with_reducible refine (M4.out _).mono ?_); rintro _ _ ⟨rfl, rfl⟩))
        | (go_at_call 18; ((with_reducible refine (N5.out _).mono ?_); rintro _ _ ⟨rfl, rfl⟩))
        | (go_at_call 16; refine (reads_c u hus _ _ _ [⟨4, u, 0⟩] _ (rd_one w1 4 u 0) (by decide)).mono ?_; rintro e w2 hr; obtain ⟨rfl, hb2⟩ := reads_one hr LX.out; have HB2 := Lib.hid ((HB1.out.trans ((bx_alloc w1 (.cells #[.int .i64 4, .string u, .int .i64 0] 43)).mono HB1.out.size)).trans (hb2.mono (HB1.out.trans ((bx_alloc w1 (.cells #[.int .i64 4, .string u, .int .i64 0] 43)).mono HB1.out.size)).size)); clear hb2 hr))
      go_ret
      exact ⟨rfl, HB2.out⟩
    · have hmore := name_more hn (by rw [hx]; intro e; injection e with e; exact h63 e)
      have Na := Lib.hid fun w => nameT _ z1.out (show nmB (M.bytes (u ++ (⟨#[97]⟩ : ByteArray))) = true by rw [b1.out]; exact hmore.1) w
      have Nq := Lib.hid fun w => nameT _ z2.out (show nmB (M.bytes (u ++ (⟨#[63]⟩ : ByteArray))) = true by rw [b2.out]; exact hmore.2) w
      have hxx : ((x : Int) != 63) = true := by simp; omega
      clear hn hm hne hx hmore h63
      go_wp2_with (first
        | (go_at_call 18; ((with_reducible refine (N1.out _).mono ?_); rintro _ _ ⟨rfl, rfl⟩))
        | (go_at_call 19; ((with_reducible refine (M1.out _).mono ?_); rintro _ _ ⟨rfl, rfl⟩))
        | (go_at_call 18; ((with_reducible refine (N3.out _).mono ?_); rintro _ _ ⟨rfl, rfl⟩))
        | (go_at_call 19; ((with_reducible refine (M4.out _).mono ?_); rintro _ _ ⟨rfl, rfl⟩))
        | (go_at_call 18; ((with_reducible refine (N5.out _).mono ?_); rintro _ _ ⟨rfl, rfl⟩))
        | (go_at_call 18; ((with_reducible refine (Na.out _).mono ?_); rintro _ _ ⟨rfl, rfl⟩))
        | (go_at_call 18; ((with_reducible refine (Nq.out _).mono ?_); rintro _ _ ⟨rfl, rfl⟩))
        | (go_at_call 16; refine (reads_c u hus _ _ _ [⟨4, u, 0⟩] _ (rd_one w1 4 u 0) (by decide)).mono ?_; rintro e w2 hr; obtain ⟨rfl, hb2⟩ := reads_one hr LX.out; have HB2 := Lib.hid ((HB1.out.trans ((bx_alloc w1 (.cells #[.int .i64 4, .string u, .int .i64 0] 43)).mono HB1.out.size)).trans (hb2.mono (HB1.out.trans ((bx_alloc w1 (.cells #[.int .i64 4, .string u, .int .i64 0] 43)).mono HB1.out.size)).size)); clear hb2 hr))
      go_ret
      exact ⟨rfl, HB2.out⟩
  | false =>
    have N1 := Lib.hid fun w => nameT _ hus hn w
    cases hm : nuB (M.bytes u) with
    | true =>
      have LX := Lib.hid (alone (num_one hm))
      have ha := num_a hm
      have M1 := Lib.hid fun w => numT _ hus hm w
      have Ma := Lib.hid fun w => numT _ z1.out (show nuB (M.bytes (u ++ (⟨#[97]⟩ : ByteArray))) = false by rw [b1.out]; exact ha.1) w
      have LA := Lib.hid (show Lx (M.bytes (u ++ (⟨#[97]⟩ : ByteArray))) 0 [] (some 0) by rw [b1.out]; exact ha.2)
      clear hn hm ha
      go_wp2_with (first
        | (go_at_call 18; ((with_reducible refine (N1.out _).mono ?_); rintro _ _ ⟨rfl, rfl⟩))
        | (go_at_call 19; ((with_reducible refine (M1.out _).mono ?_); rintro _ _ ⟨rfl, rfl⟩))
        | (go_at_call 18; ((with_reducible refine (N3.out _).mono ?_); rintro _ _ ⟨rfl, rfl⟩))
        | (go_at_call 19; ((with_reducible refine (M4.out _).mono ?_); rintro _ _ ⟨rfl, rfl⟩))
        | (go_at_call 18; ((with_reducible refine (N5.out _).mono ?_); rintro _ _ ⟨rfl, rfl⟩))
        | (go_at_call 19; ((with_reducible refine (Ma.out _).mono ?_); rintro _ _ ⟨rfl, rfl⟩))
        | (go_at_call 16; refine (reads_c u hus _ _ _ [⟨2, u, 0⟩] _ (rd_one w1 2 u 0) (by decide)).mono ?_; rintro e w2 hr; obtain ⟨rfl, hb2⟩ := reads_one hr LX.out; have HB2 := Lib.hid ((HB1.out.trans ((bx_alloc w1 (.cells #[.int .i64 2, .string u, .int .i64 0] 43)).mono HB1.out.size)).trans (hb2.mono (HB1.out.trans ((bx_alloc w1 (.cells #[.int .i64 2, .string u, .int .i64 0] 43)).mono HB1.out.size)).size)); clear hb2 hr)
        | (go_at_call 20; refine (fails0 _ z1.out _ (cell0_b HG.out HB2.out)).mono ?_; rintro e w3 hr; obtain ⟨rfl, hb3⟩ := fails_at hr LA.out; have HB3 := Lib.hid (HB2.out.trans (hb3.mono HB2.out.size)); clear hb3 hr))
      go_ret
      exact ⟨rfl, HB3.out⟩
    | false =>
      have M1 := Lib.hid fun w => numT _ hus hm w
      clear hn hm
      go_wp2_with (first
        | (go_at_call 18; ((with_reducible refine (N1.out _).mono ?_); rintro _ _ ⟨rfl, rfl⟩))
        | (go_at_call 19; ((with_reducible refine (M1.out _).mono ?_); rintro _ _ ⟨rfl, rfl⟩))
        | (go_at_call 18; ((with_reducible refine (N3.out _).mono ?_); rintro _ _ ⟨rfl, rfl⟩))
        | (go_at_call 19; ((with_reducible refine (M4.out _).mono ?_); rintro _ _ ⟨rfl, rfl⟩))
        | (go_at_call 18; ((with_reducible refine (N5.out _).mono ?_); rintro _ _ ⟨rfl, rfl⟩)))
      go_ret
      exact ⟨rfl, HB1.out⟩
end Go.Proofs.YthhkpoobcnmdgaaDoor
/-
  LexQuotes: walked.
-/
namespace Go.Proofs.YthhkpoobcnmdgaaDoor
open Go.RowKit
set_option linter.unusedVariables false

theorem bytes_lt (s : ByteArray) : ∀ b ∈ M.bytes s, b < 256 := by
  intro b hb
  unfold M.bytes at hb
  obtain ⟨c, _, rfl⟩ := List.mem_map.1 hb
  exact c.toNat_lt
theorem quo_lex (s : ByteArray) : Lx (quoB (M.bytes s)) 0 [⟨3, M.bytes s, 0⟩] none := by
  have := One.quo (M.bytes s) (bytes_lt s) []
  rw [List.append_nil] at this
  exact alone this
theorem quo_in (s : ByteArray) : Lx (([40] ++ quoB (M.bytes s)) ++ [41]) 0 [⟨0, [], 0⟩, ⟨3, M.bytes s, 1⟩, ⟨1, [], 1 + (quoB (M.bytes s)).length⟩] none := by
  rw [List.append_assoc]
  refine Lx.tok (x := [40]) (.opens rfl) rfl ?_
  refine Lx.tok (x := quoB (M.bytes s)) ?_ (part_stop (.inr (.inr (.inl rfl)))) ?_
  · have := One.quo (M.bytes s) (bytes_lt s) []
    rwa [List.append_nil] at this
  · have := Lx.tok (x := [41]) (y := []) (k := 0 + 1 + (quoB (M.bytes s)).length) (.closes rfl) rfl (Lx.nil _)
    rw [Nat.zero_add] at this ⊢
    exact this
/-- Three tokens in a row. -/
theorem rd_three (w : World) (d1 d2 d3 : Nat) (t1 t2 t3 : ByteArray) (k1 k2 k3 : Nat) (K3 : Int) (hK : K3 = (k3 : Int)) : RdT (w.alloc (.cells #[.int .i64 d1, .string t1, .int .i64 k1, .int .i64 d2, .string t2, .int .i64 k2, .int .i64 d3, .string t3, .int .i64 K3] 43)) (some ⟨w.heap.size, 0, none⟩) 3 3 [⟨d1, t1, k1⟩, ⟨d2, t2, k2⟩, ⟨d3, t3, k3⟩] := by
  subst hK
  refine ⟨rfl, fun i e hi => ?_⟩
  have a := Ak.new w #[.int .i64 d1, .string t1, .int .i64 k1, .int .i64 d2, .string t2, .int .i64 k2, .int .i64 d3, .string t3, .int .i64 k3] 43
  match i, hi with
  | 0, hi => simp at hi; subst hi; exact ⟨_, _, rfl, by simp, a.at 0 rfl, a.at 1 rfl, a.at 2 rfl⟩
  | 1, hi => simp at hi; subst hi; exact ⟨_, _, rfl, by simp, a.at 3 rfl, a.at 4 rfl, a.at 5 rfl⟩
  | 2, hi => simp at hi; subst hi; exact ⟨_, _, rfl, by simp, a.at 6 rfl, a.at 7 rfl, a.at 8 rfl⟩
  | i + 3, hi => simp at hi
theorem few200 (s : ByteArray) (w : World) : Calls Tryd.prog 8 #[.string s, .int .i64 200] w fun e w' => (∃ u : ByteArray, e = .returned (.string u) ∧ u.size ≤ 200) ∧ w = w' := few_c s 200 200 w rfl (by omega)
theorem reads_it {s : ByteArray} {fs : List TE} {w w' : World} {e : Ending} (h : ReadsP s (fs.map TE.tk) w e w') (hx : Lx (M.bytes s) 0 (fs.map TE.tk) none) : e = .returned (.bool true) ∧ Below w.heap.size w w' := by
  obtain ⟨ts, r, hl, he, hb⟩ := h
  obtain ⟨rfl, rfl⟩ := hl.list.uniq hx
  exact ⟨by rw [he, decide_eq_true ⟨rfl, rfl⟩], hb⟩

set_option maxRecDepth 20000 in
set_option maxHeartbeats 4000000 in
theorem quotes_walk (s t : ByteArray) (w : World) (hg : w.cell? ⟨0, 0, none⟩ = some handle) : Calls Tryd.prog 5 #[.string s, .string t] w fun e w' => e = .returned (.bool true) ∧ Below w.heap.size w w' := by
  have HG := Lib.hid hg
  clear hg
  go_enter Tryd.func5, Tryd.ntmps5
  go_wp2_with (first
    | (go_at_call 13; refine (cWorks5 _ HG.out).mono ?_; rintro _ w1 ⟨rfl, hl⟩; have HB1 := Lib.hid hl; clear hl)
    | (go_at_call 8; have hx := hs1; clear hx; refine (few200 _ _).mono ?_; rintro _ _ ⟨⟨t1, rfl, ht1⟩, rfl⟩)
    | (go_at_call 8; refine (few200 _ _).mono ?_; rintro _ _ ⟨⟨s1, rfl, hs1⟩, rfl⟩)
    | (go_at_call 15; refine (quoteL_c _ _ (by omega)).mono ?_; rintro _ w2 ⟨⟨q, rfl, hb⟩, hl⟩; have HQ := Lib.hid (show M.bytes q = quoB (M.bytes s1) from hb); have HB2 := Lib.hid (HB1.out.trans (hl.mono HB1.out.size)); clear hb hl))
  have hq0 := q2_len (M.bytes s1)
  have hqs : q.size ≤ 1000 := by
    rw [← M.bytes_len, HQ.out]
    unfold quoB
    rw [M.bytes_len] at hq0
    simp only [List.length_cons, List.length_append, List.length_nil]
    omega
  have HP := Lib.hid (quo_prints (M.bytes s1) (bytes_lt s1))
  clear hq0
  go_loop [6] (fun i => ∃ k : Nat, k ≤ q.size ∧ i = .int .i64 k) (fun i => q.size - (intOf i).toNat)
  case atStart => exact ⟨0, Nat.zero_le _, rfl⟩
  case round =>
    obtain ⟨k, hk, rfl⟩ := hrel
    by_cases hkn : k < q.size
    · have hin := HP.out q[k].toNat (by rw [← HQ.out]; exact List.mem_of_getElem? (M.bytes_get q k hkn))
      have hA : decide (((q[k].toNat : Nat) : Int) < 32) = false := decide_eq_false (by omega)
      have hB : decide (126 < ((q[k].toNat : Nat) : Int)) = false := decide_eq_false (by omega)
      clear hin
      go_wp2
      go_round
      case rel => exact ⟨k + 1, by omega, by go_num⟩
      case measure => simp [intOf]; omega
    · obtain rfl : k = q.size := by omega
      have L1 := Lib.hid (show Lx (M.bytes q) 0 ([(⟨3, s1, 0⟩ : TE)].map TE.tk) none by rw [HQ.out]; exact quo_lex s1)
      have L2 := Lib.hid (show Lx (M.bytes (((⟨#[40]⟩ : ByteArray) ++ q) ++ (⟨#[41]⟩ : ByteArray))) 0 ([(⟨0, ⟨#[]⟩, 0⟩ : TE), ⟨3, s1, 1⟩, ⟨1, ⟨#[]⟩, 1 + q.size⟩].map TE.tk) none by
        rw [bytes_app, bytes_app, HQ.out]
        have := quo_in s1
        rw [← HQ.out, M.bytes_len, HQ.out] at this
        exact this)
      have z := Lib.hid (show (((⟨#[40]⟩ : ByteArray) ++ q) ++ (⟨#[41]⟩ : ByteArray)).size ≤ 1048576 from app_size (by rw [ByteArray.size_append]; have : (⟨#[40]⟩ : ByteArray).size = 1 := rfl; have : (⟨#[41]⟩ : ByteArray).size = 1 := rfl; omega))
      by_cases hst : s1 = t1
      · subst hst
        go_wp2_with (first
          | (go_at_call 16; have hx := H3.out; clear hx; refine (reads_c _ z.out _ _ _ [⟨0, ⟨#[]⟩, 0⟩, ⟨3, s1, 1⟩, ⟨1, ⟨#[]⟩, 1 + q.size⟩] _ (rd_three _ 0 3 1 _ _ _ 0 1 (1 + q.size) _ (by push_cast; rfl)) (by decide)).mono ?_; rintro e w5 hr; obtain ⟨rfl, hb5⟩ := reads_it hr L2.out; have HB5 := Lib.hid (bl_trans (bl_trans HB4.out (bx_alloc _ _)) hb5); clear hb5 hr)
          | (go_at_call 16; refine (reads_c q (by omega) _ _ _ [⟨3, s1, 0⟩] _ (rd_one w2 3 s1 0) (by decide)).mono ?_; rintro e w3 hr; obtain ⟨rfl, hb3⟩ := reads_it hr L1.out; have HB3 := Lib.hid (bl_trans (bl_trans HB2.out (bx_alloc w2 _)) hb3); clear hb3 hr)
          | (go_at_call 15; refine (quoteL_c _ _ (by omega)).mono ?_; rintro _ w4 ⟨⟨q', rfl, hb⟩, hl⟩; obtain rfl : q = q' := (M.bytes_inj (hb.trans HQ.out.symm)).symm; have HB4 := Lib.hid (bl_trans HB3.out hl); have H3 := Lib.hid (show True from trivial); clear hb hl))
        go_ret
        exact ⟨rfl, HB5.out⟩
      · have f1 : (s1.toList == t1.toList) = false := by rw [str_eq]; exact decide_eq_false hst
        have f2 : ¬ s1.toList = t1.toList := by simpa using f1
        have f3 : decide (s1.toList = t1.toList) = false := decide_eq_false f2
        go_wp2_with (first
          | (go_at_call 16; have hx := H3.out; clear hx; refine (reads_c _ z.out _ _ _ [⟨0, ⟨#[]⟩, 0⟩, ⟨3, s1, 1⟩, ⟨1, ⟨#[]⟩, 1 + q.size⟩] _ (rd_three _ 0 3 1 _ _ _ 0 1 (1 + q.size) _ (by push_cast; rfl)) (by decide)).mono ?_; rintro e w5 hr; obtain ⟨rfl, hb5⟩ := reads_it hr L2.out; have HB5 := Lib.hid (bl_trans (bl_trans HB4.out (bx_alloc _ _)) hb5); clear hb5 hr)
          | (go_at_call 16; refine (reads_c q (by omega) _ _ _ [⟨3, s1, 0⟩] _ (rd_one w2 3 s1 0) (by decide)).mono ?_; rintro e w3 hr; obtain ⟨rfl, hb3⟩ := reads_it hr L1.out; have HB3 := Lib.hid (bl_trans (bl_trans HB2.out (bx_alloc w2 _)) hb3); clear hb3 hr)
          | (go_at_call 15; refine (quoteL_c _ _ (by omega)).mono ?_; rintro _ w4 ⟨⟨q', rfl, hb⟩, hl⟩; have hqq : ¬ q = q' := fun e => hst (M.bytes_inj (quo_inj (bytes_lt s1) (bytes_lt t1) (HQ.out.symm.trans ((congrArg M.bytes e).trans (show M.bytes q' = quoB (M.bytes t1) from hb))))); have e1 : (q.toList == q'.toList) = false := (by rw [str_eq]; exact decide_eq_false hqq); have e2 : ¬ q.toList = q'.toList := (by simpa using e1); have e3 : decide (q.toList = q'.toList) = false := decide_eq_false e2; clear hqq; have HB4 := Lib.hid (bl_trans HB3.out hl); have H3 := Lib.hid (show True from trivial); clear hb hl))
        go_ret
        exact ⟨rfl, HB5.out⟩
end Go.Proofs.YthhkpoobcnmdgaaDoor
