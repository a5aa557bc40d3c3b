import Derived.Test.YthhkpoobcnmdgaaDoorBZ1
import Derived.Test.YthhkpoobcnmdgaaDoorXOneB
/-
  litmusref05.One: walked.
-/
namespace Go.Proofs.YthhkpoobcnmdgaaDoor
open Go.RowKit
set_option linter.unusedVariables false

theorem numNB_c (s : ByteArray) (w : World) (hs : s.size ≤ 1048576) : Calls Tryd.prog 38 #[.string s] w fun e w' => e = .returned (.bool (nuB (M.bytes s))) ∧ w = w' :=
  (numN_c s w hs).mono fun _ _ ⟨⟨b, h1, h2⟩, h3⟩ => ⟨by rw [h1]; congr 2; rw [Bool.eq_iff_iff, h2, isNum_list], h3⟩
theorem bel2 (w : World) (o p : Obj) : Below w.heap.size w ((w.alloc o).alloc p) := (bx_alloc _ _).trans ((bx_alloc _ _).mono (bx_alloc _ _).size)
theorem numNB0 {s : ByteArray} {b : Bool} (hb : nuB (M.bytes s) = b) (w : World) (hs : s.size ≤ 1048576) : Calls Tryd.prog 38 #[.string s] w fun e w' => e = .returned (.bool b) ∧ w = w' := by subst hb; exact numNB_c s w hs
theorem partedB {s : ByteArray} {k : Nat} {b : Bool} (hb : partR s k = b) (w : World) (hs : s.size ≤ 1048576) (hk : k ≤ s.size) : Calls Tryd.prog 42 #[.string s, .int .i64 k] w fun e w' => e = .returned (.bool b) ∧ w = w' := by subst hb; exact partedR_c s k w hs hk
theorem numR_at {s : ByteArray} {a n : Nat} (hn : ∀ r, NumAt s a r → r = n) (w : World) (hs : s.size ≤ 1048576) (ha : a ≤ s.size) : Calls Tryd.prog 37 #[.string s, .int .i64 a] w fun e w' => e = .returned (.int .i64 n) ∧ w = w' :=
  (numR_c s a w hs ha).mono fun _ _ ⟨r, h1, h2, h3⟩ => ⟨by rw [h1, hn r h2], h3⟩
theorem nameR_at {s : ByteArray} {a n : Nat} (hn : ∀ r, NameAt s a r → r = n) (w : World) (hs : s.size ≤ 1048576) (ha : a ≤ s.size) : Calls Tryd.prog 40 #[.string s, .int .i64 a] w fun e w' => e = .returned (.int .i64 n) ∧ w = w' :=
  (nameR_c s a w hs (by omega)).mono fun _ _ ⟨r, h1, h2, h3⟩ => ⟨by rw [h1, hn r h2], h3⟩
theorem digT {b : Int} {v : Bool} (h : digB b = v) (w : World) : Calls Tryd.prog 36 #[.int .u8 b] w fun e w' => e = .returned (.bool v) ∧ w = w' := by subst h; exact digitR_c b w
theorem letT {b : Int} {v : Bool} (h : letB b = v) (w : World) : Calls Tryd.prog 39 #[.int .u8 b] w fun e w' => e = .returned (.bool v) ∧ w = w' := by subst h; exact letterR_c b w
theorem Ak.other {w : World} {g b o : Nat} {cs : Array Value} {t : TypeId} (h : Ak w g cs t) (hne : g ≠ b) (v : Value) : Ak (w.setCell ⟨b, o, none⟩ v) g cs t := ⟨(Below.heap_setCell _ _ _ _ hne).trans h.row⟩
theorem ends4 {w wt : World} {x0 x1 x2 : Value} {t : TypeId} (h : Ak wt w.heap.size #[x0, x1, x2] t) (hb : Below w.heap.size w wt) (y y0 y1 y2 : Value) :
    Ak ((((wt.setCell ⟨w.heap.size + 1, 1, none⟩ y).setCell ⟨w.heap.size, 0, none⟩ y0).setCell ⟨w.heap.size, 1, none⟩ y1).setCell ⟨w.heap.size, 2, none⟩ y2) w.heap.size #[y0, y1, y2] t ∧
    Below w.heap.size w ((((wt.setCell ⟨w.heap.size + 1, 1, none⟩ y).setCell ⟨w.heap.size, 0, none⟩ y0).setCell ⟨w.heap.size, 1, none⟩ y1).setCell ⟨w.heap.size, 2, none⟩ y2) :=
  ⟨(h.other (by omega) y).set3 y0 y1 y2, (((hb.setCell (p := ⟨w.heap.size + 1, 1, none⟩) (show w.heap.size ≤ w.heap.size + 1 by omega) y).setCell (p := ⟨w.heap.size, 0, none⟩) (Nat.le_refl _) y0).setCell (p := ⟨w.heap.size, 1, none⟩) (Nat.le_refl _) y1).setCell (p := ⟨w.heap.size, 2, none⟩) (Nat.le_refl _) y2⟩
theorem bytes_cut (s : ByteArray) (a n : Nat) : M.bytes (s.extract a (a + n)) = ((M.bytes s).drop a).take n := by
  rw [M.bytes_extract, show a + n - a = n by omega]

set_option maxRecDepth 20000 in
set_option maxHeartbeats 8000000 in
theorem oneRef_c (s : ByteArray) (a : Nat) (w : World) (hs : s.size ≤ 1000000) (ha : a < s.size) : Calls Tryd.prog 23 #[.string s, .int .i64 a] w fun e w' => OneP (okT ((M.bytes s).drop a)) a e ∧ Below w.heap.size w w' := by
  have hx := by_at ha
  have hh : hd ((M.bytes s).drop a) = ((s[a].toNat : Nat) : Int) := by rw [← by_hd]; exact hx
  have l0 := byte_lt s a ha
  have hll : ((M.bytes s).drop a).length = s.size - a := by rw [List.length_drop, M.bytes_len]
  have PR := Lib.hid fun (d n : Nat) (h0 : d ≠ 0) (h1 : d ≠ 1) (hn : a + n ≤ s.size) => (show partL d (((M.bytes s).drop a).drop n) = partR s (a + n) by rw [List.drop_drop]; exact part_ref s d (a + n) h0 h1 hn)
  by_cases c40 : s[a].toNat = 40
  · have g1 : (((s[a].toNat : Nat) : Int) == 40) = true := by simp [c40]
    have HO := Lib.hid (show okT ((M.bytes s).drop a) = some (0, [], 1) by rw [ok_one (.opens (by omega))]; rfl)
    clear hx hh hll c40 PR
    go_enter Tryd.func23, Tryd.ntmps23
    go_wp2
    go_returns
    rw [HO.out]
    exact ⟨⟨by decide, _, rfl, rfl⟩, bel2 _ _ _⟩
  by_cases c41 : s[a].toNat = 41
  · have g1 : (((s[a].toNat : Nat) : Int) == 41) = true := by simp [c41]
    have g0 : (((s[a].toNat : Nat) : Int) == 40) = false := by simp; omega
    have HO := Lib.hid (show okT ((M.bytes s).drop a) = some (1, [], 1) by rw [ok_one (.closes (by omega))]; rfl)
    clear hx hh hll c41 PR
    go_enter Tryd.func23, Tryd.ntmps23
    go_wp2
    go_returns
    rw [HO.out]
    exact ⟨⟨by decide, _, rfl, rfl⟩, bel2 _ _ _⟩
  have g40 : (((s[a].toNat : Nat) : Int) == 40) = false := by simp; omega
  have g41 : (((s[a].toNat : Nat) : Int) == 41) = false := by simp; omega
  by_cases c34 : s[a].toNat = 34
  · have g34 : (((s[a].toNat : Nat) : Int) == 34) = true := by simp [c34]
    have HK := Lib.hid (ok_text (l := (M.bytes s).drop a) (by omega))
    have HX := Lib.hid (show by_ s a = 34 by rw [hx]; omega)
    have A0 := (Ak.new w #[.int .i64 0, .string ⟨#[]⟩, .int .i64 0] 43).below (bx_alloc (w.alloc (.cells #[.int .i64 0, .string ⟨#[]⟩, .int .i64 0] 43)) (.cells #[.int .i64 3, .string ⟨#[]⟩, .int .i64 a] 43))
    have A1 := Ak.new (w.alloc (.cells #[.int .i64 0, .string ⟨#[]⟩, .int .i64 0] 43)) #[.int .i64 3, .string ⟨#[]⟩, .int .i64 a] 43
    rw [World.size_alloc] at A1
    have HA0 := Lib.hid A0
    have HA1 := Lib.hid A1
    clear hx hh c34 A0 A1
    go_enter Tryd.func23, Tryd.ntmps23
    go_wp2_with fail
    refine (textRef_c s a _ hs ha HX.out).mono ?_
    rintro e wt ⟨he, hb⟩
    have HB := Lib.hid ((bel2 _ _ _).trans (hb.mono (bel2 _ _ _).size))
    have A0 := HA0.out.below hb
    have A1 := HA1.out.below hb
    clear hb
    cases hT : textL ((M.bytes s).drop a) with
    | none =>
      rw [hT] at he
      obtain rfl := (show e = .returned (.tuple #[.string ⟨#[]⟩, .int .i64 0]) from he)
      have HN := Lib.hid (show okT ((M.bytes s).drop a) = none by rw [HK.out, hT])
      clear he hT
      have v0 := A0.at 0 (v := .int .i64 0) rfl
      have v1 := A0.at 1 (v := .string ⟨#[]⟩) rfl
      have v2 := A0.at 2 (v := .int .i64 0) rfl
      have f0 := A0.f 0
      have f1 := A0.f 1
      have f2 := A0.f 2
      have u0 := A1.at 0 (v := .int .i64 3) rfl
      have u1 := A1.at 1 (v := .string ⟨#[]⟩) rfl
      have u2 := A1.at 2 (v := .int .i64 a) rfl
      have p0 := A1.f 0
      have p1 := A1.f 1
      have p2 := A1.f 2
      have HA0' := Lib.hid A0
      have HA1' := Lib.hid A1
      clear A0 A1
      go_wp2_with (go_at_call 42; refine (partedR_c s a _ (by omega) (by omega)).mono ?_; rintro _ _ ⟨rfl, rfl⟩)
      all_goals
        obtain ⟨AE, BE⟩ := ends4 HA0'.out HB.out (.string ⟨#[]⟩) (.int .i64 3) (.string ⟨#[]⟩) (.int .i64 a)
        generalize (((wt.setCell ⟨w.heap.size + 1, 1, none⟩ (.string ⟨#[]⟩)).setCell ⟨w.heap.size, 0, none⟩ (.int .i64 3)).setCell ⟨w.heap.size, 1, none⟩ (.string ⟨#[]⟩)).setCell ⟨w.heap.size, 2, none⟩ (.int .i64 a) = WE at AE BE ⊢
        have r0 := AE.at 0 (v := .int .i64 3) rfl
        have r1 := AE.at 1 (v := .string ⟨#[]⟩) rfl
        have r2 := AE.at 2 (v := .int .i64 a) rfl
        refine bodyPost_ret (by simp [results, Tryd.results23, go_sem, r0, r1, r2]; try rfl) rfl ?_
        rw [HN.out]
        exact ⟨⟨_, rfl, _, _, rfl⟩, BE⟩
    | some p =>
      obtain ⟨b, n⟩ := p
      rw [hT] at he
      obtain ⟨t, he, htb⟩ := (show ∃ t, e = .returned (.tuple #[.string t, .int .i64 n]) ∧ M.bytes t = b from he)
      subst he
      have hv := textL_val hT
      have hn : a + n ≤ s.size := by omega
      have HTB := Lib.hid htb
      have hn0 : 0 < n := by omega
      cases hp : partR s (a + n) with
      | true =>
        have HN := Lib.hid (show okT ((M.bytes s).drop a) = some (3, b, n) by rw [HK.out, hT]; dsimp only; rw [PR.out 3 n (by decide) (by decide) hn, hp, if_pos rfl])
        have PP := Lib.hid fun w => partedB hp w (by omega) hn
        clear hT hv htb hp
        have v0 := A0.at 0 (v := .int .i64 0) rfl
        have v1 := A0.at 1 (v := .string ⟨#[]⟩) rfl
        have v2 := A0.at 2 (v := .int .i64 0) rfl
        have f0 := A0.f 0
        have f1 := A0.f 1
        have f2 := A0.f 2
        have u0 := A1.at 0 (v := .int .i64 3) rfl
        have u1 := A1.at 1 (v := .string ⟨#[]⟩) rfl
        have u2 := A1.at 2 (v := .int .i64 a) rfl
        have p0 := A1.f 0
        have p1 := A1.f 1
        have p2 := A1.f 2
        have HA0' := Lib.hid A0
        have HA1' := Lib.hid A1
        clear A0 A1
        go_wp2_with (go_at_call 42; refine (PP.out _).mono ?_; rintro _ _ ⟨rfl, rfl⟩)
        all_goals
          obtain ⟨AE, BE⟩ := ends4 HA0'.out HB.out (.string t) (.int .i64 3) (.string t) (.int .i64 a)
          generalize (((wt.setCell ⟨w.heap.size + 1, 1, none⟩ (.string t)).setCell ⟨w.heap.size, 0, none⟩ (.int .i64 3)).setCell ⟨w.heap.size, 1, none⟩ (.string t)).setCell ⟨w.heap.size, 2, none⟩ (.int .i64 a) = WE at AE BE ⊢
          have r0 := AE.at 0 (v := .int .i64 3) rfl
          have r1 := AE.at 1 (v := .string t) rfl
          have r2 := AE.at 2 (v := .int .i64 a) rfl
          refine bodyPost_ret (by simp [results, Tryd.results23, go_sem, r0, r1, r2]; try rfl) rfl ?_
          rw [HN.out]
          exact ⟨⟨hn0, _, rfl, HTB.out⟩, BE⟩
      | false =>
        have HN := Lib.hid (show okT ((M.bytes s).drop a) = none by rw [HK.out, hT]; dsimp only; rw [PR.out 3 n (by decide) (by decide) hn, hp, if_neg (by decide)])
        have PP := Lib.hid fun w => partedB hp w (by omega) hn
        clear hT hv htb hp
        have v0 := A0.at 0 (v := .int .i64 0) rfl
        have v1 := A0.at 1 (v := .string ⟨#[]⟩) rfl
        have v2 := A0.at 2 (v := .int .i64 0) rfl
        have f0 := A0.f 0
        have f1 := A0.f 1
        have f2 := A0.f 2
        have u0 := A1.at 0 (v := .int .i64 3) rfl
        have u1 := A1.at 1 (v := .string ⟨#[]⟩) rfl
        have u2 := A1.at 2 (v := .int .i64 a) rfl
        have p0 := A1.f 0
        have p1 := A1.f 1
        have p2 := A1.f 2
        have HA0' := Lib.hid A0
        have HA1' := Lib.hid A1
        clear A0 A1
        go_wp2_with (go_at_call 42; refine (PP.out _).mono ?_; rintro _ _ ⟨rfl, rfl⟩)
        all_goals
          obtain ⟨AE, BE⟩ := ends4 HA0'.out HB.out (.string t) (.int .i64 3) (.string t) (.int .i64 a)
          generalize (((wt.setCell ⟨w.heap.size + 1, 1, none⟩ (.string t)).setCell ⟨w.heap.size, 0, none⟩ (.int .i64 3)).setCell ⟨w.heap.size, 1, none⟩ (.string t)).setCell ⟨w.heap.size, 2, none⟩ (.int .i64 a) = WE at AE BE ⊢
          have r0 := AE.at 0 (v := .int .i64 3) rfl
          have r1 := AE.at 1 (v := .string t) rfl
          have r2 := AE.at 2 (v := .int .i64 a) rfl
          refine bodyPost_ret (by simp [results, Tryd.results23, go_sem, r0, r1, r2]; try rfl) rfl ?_
          rw [HN.out]
          exact ⟨⟨_, rfl, _, _, rfl⟩, BE⟩
  have g34 : (((s[a].toNat : Nat) : Int) == 34) = false := by simp; omega
  cases d0 : digB ((s[a].toNat : Nat) : Int) with
  | true =>
    have hr := dig_range d0
    have h45 : dashL ((M.bytes s).drop a) = 0 := by unfold dashL; rw [if_neg (by omega)]
    have hdg : digB (hd (((M.bytes s).drop a).drop (dashL ((M.bytes s).drop a)))) = true := by rw [h45, List.drop_zero, hh]; exact d0
    have D0 := Lib.hid fun w => digT d0 w
    clear d0 hr h45
    obtain ⟨n, hnn⟩ : ∃ n, numB ((M.bytes s).drop a) = n := ⟨_, rfl⟩
    have hok := ok_num hdg
    have hrun := run_pos hdg (by decide)
    have hrl := run_le digB (((M.bytes s).drop a).drop (dashL ((M.bytes s).drop a)))
    rw [List.length_drop, hll] at hrl
    have hdl := dash_le1 ((M.bytes s).drop a)
    have hn0 : 0 < n := by rw [← hnn]; unfold numB; omega
    have hn1 : a + n ≤ s.size := by rw [← hnn]; unfold numB; omega
    have NA := Lib.hid fun w => numR_at (s := s) (a := a) (n := n) (fun r hr => by rw [← hnn]; exact numAt_list hr hdg) w (by omega) (by omega)
    rw [hnn] at hok
    have HOK := Lib.hid hok
    clear hok hrun hrl hdl hnn hdg hx hh
    cases hb : nuB (((M.bytes s).drop a).take n) with
    | true =>
      have NB := Lib.hid fun w => numNB0 (s := s.extract a (a + n)) (b := true) (by rw [bytes_cut]; exact hb) w (by rw [ByteArray.size_extract]; omega)
      cases hp : partR s (a + n) with
      | true =>
        have HN := Lib.hid (show okT ((M.bytes s).drop a) = some (2, ((M.bytes s).drop a).take n, n) by rw [HOK.out, if_pos ⟨hb, (PR.out 2 n (by decide) (by decide) hn1).trans hp⟩])
        have PP := Lib.hid fun w => partedB hp w (by omega) hn1
        clear hp
        go_enter Tryd.func23, Tryd.ntmps23
        go_wp2_with (first
          | (go_at_call 36; ((with_reducible refine (D0.out _).mono ?_); rintro _ _ ⟨rfl, rfl⟩))
          | (go_at_call 37; refine (NA.out _).mono ?_; rintro _ _ ⟨rfl, rfl⟩)
          | (go_at_call 38; refine (NB.out _).mono ?_; rintro _ _ ⟨rfl, rfl⟩)
          | (go_at_call 42; refine (PP.out _).mono ?_; rintro _ _ ⟨rfl, rfl⟩))
        all_goals
          go_returns
          rw [HN.out]
          exact ⟨⟨hn0, _, rfl, bytes_cut s a _⟩, bel2 _ _ _⟩
      | false =>
        have HN := Lib.hid (show okT ((M.bytes s).drop a) = none by rw [HOK.out, if_neg (fun h => by rw [PR.out 2 n (by decide) (by decide) hn1, hp] at h; cases h.2)])
        have PP := Lib.hid fun w => partedB hp w (by omega) hn1
        clear hp
        go_enter Tryd.func23, Tryd.ntmps23
        go_wp2_with (first
          | (go_at_call 36; ((with_reducible refine (D0.out _).mono ?_); rintro _ _ ⟨rfl, rfl⟩))
          | (go_at_call 37; refine (NA.out _).mono ?_; rintro _ _ ⟨rfl, rfl⟩)
          | (go_at_call 38; refine (NB.out _).mono ?_; rintro _ _ ⟨rfl, rfl⟩)
          | (go_at_call 42; refine (PP.out _).mono ?_; rintro _ _ ⟨rfl, rfl⟩))
        all_goals
          go_returns
          rw [HN.out]
          exact ⟨⟨_, rfl, _, _, rfl⟩, bel2 _ _ _⟩
    | false =>
      have HN := Lib.hid (show okT ((M.bytes s).drop a) = none by rw [HOK.out, if_neg (fun h => by rw [hb] at h; cases h.1)])
      have NB := Lib.hid fun w => numNB0 (s := s.extract a (a + n)) (b := false) (by rw [bytes_cut]; exact hb) w (by rw [ByteArray.size_extract]; omega)
      clear hb
      go_enter Tryd.func23, Tryd.ntmps23
      go_wp2_with (first
        | (go_at_call 36; ((with_reducible refine (D0.out _).mono ?_); rintro _ _ ⟨rfl, rfl⟩))
        | (go_at_call 37; refine (NA.out _).mono ?_; rintro _ _ ⟨rfl, rfl⟩)
        | (go_at_call 38; refine (NB.out _).mono ?_; rintro _ _ ⟨rfl, rfl⟩)
        | (go_at_call 42; refine (partedR_c s a _ (by omega) (by omega)).mono ?_; rintro _ _ ⟨rfl, rfl⟩))
      all_goals
        go_returns
        rw [HN.out]
        exact ⟨⟨_, rfl, _, _, rfl⟩, bel2 _ _ _⟩
  | false =>
    have D0 := Lib.hid fun w => digT d0 w
    by_cases hm : s[a].toNat = 45 ∧ ∃ h : a + 1 < s.size, digB ((s[a + 1].toNat : Nat) : Int) = true
    · obtain ⟨h45, hl1, d1⟩ := hm
      have g45 : (((s[a].toNat : Nat) : Int) == 45) = true := by simp [h45]
      have hdl1 : dashL ((M.bytes s).drop a) = 1 := by unfold dashL; rw [if_pos (by omega)]
      have hdg : digB (hd (((M.bytes s).drop a).drop (dashL ((M.bytes s).drop a)))) = true := by rw [hdl1, List.drop_drop, ← by_hd, by_at hl1]; exact d1
      have D1 := Lib.hid fun w => digT d1 w
      clear d0 d1 h45 hdl1
      obtain ⟨n, hnn⟩ : ∃ n, numB ((M.bytes s).drop a) = n := ⟨_, rfl⟩
      have hok := ok_num hdg
      have hrun := run_pos hdg (by decide)
      have hrl := run_le digB (((M.bytes s).drop a).drop (dashL ((M.bytes s).drop a)))
      rw [List.length_drop, hll] at hrl
      have hdl := dash_le1 ((M.bytes s).drop a)
      have hn0 : 0 < n := by rw [← hnn]; unfold numB; omega
      have hn1 : a + n ≤ s.size := by rw [← hnn]; unfold numB; omega
      have NA := Lib.hid fun w => numR_at (s := s) (a := a) (n := n) (fun r hr => by rw [← hnn]; exact numAt_list hr hdg) w (by omega) (by omega)
      rw [hnn] at hok
      have HOK := Lib.hid hok
      clear hok hrun hrl hdl hnn hdg hx hh
      cases hb : nuB (((M.bytes s).drop a).take n) with
      | true =>
        have NB := Lib.hid fun w => numNB0 (s := s.extract a (a + n)) (b := true) (by rw [bytes_cut]; exact hb) w (by rw [ByteArray.size_extract]; omega)
        cases hp : partR s (a + n) with
        | true =>
          have HN := Lib.hid (show okT ((M.bytes s).drop a) = some (2, ((M.bytes s).drop a).take n, n) by rw [HOK.out, if_pos ⟨hb, (PR.out 2 n (by decide) (by decide) hn1).trans hp⟩])
          have PP := Lib.hid fun w => partedB hp w (by omega) hn1
          clear hp
          go_enter Tryd.func23, Tryd.ntmps23
          go_wp2_with (first
            | (go_at_call 36; ((with_reducible refine (D0.out _).mono ?_); rintro _ _ ⟨rfl, rfl⟩))
            | (go_at_call 36; ((with_reducible refine (D1.out _).mono ?_); rintro _ _ ⟨rfl, rfl⟩))
            | (go_at_call 37; refine (NA.out _).mono ?_; rintro _ _ ⟨rfl, rfl⟩)
            | (go_at_call 38; refine (NB.out _).mono ?_; rintro _ _ ⟨rfl, rfl⟩)
            | (go_at_call 42; refine (PP.out _).mono ?_; rintro _ _ ⟨rfl, rfl⟩))
          all_goals
            go_returns
            rw [HN.out]
            exact ⟨⟨hn0, _, rfl, bytes_cut s a _⟩, bel2 _ _ _⟩
        | false =>
          have HN := Lib.hid (show okT ((M.bytes s).drop a) = none by rw [HOK.out, if_neg (fun h => by rw [PR.out 2 n (by decide) (by decide) hn1, hp] at h; cases h.2)])
          have PP := Lib.hid fun w => partedB hp w (by omega) hn1
          clear hp
          go_enter Tryd.func23, Tryd.ntmps23
          go_wp2_with (first
            | (go_at_call 36; ((with_reducible refine (D0.out _).mono ?_); rintro _ _ ⟨rfl, rfl⟩))
            | (go_at_call 36; ((with_reducible refine (D1.out _).mono ?_); rintro _ _ ⟨rfl, rfl⟩))
            | (go_at_call 37; refine (NA.out _).mono ?_; rintro _ _ ⟨rfl, rfl⟩)
            | (go_at_call 38; refine (NB.out _).mono ?_; rintro _ _ ⟨rfl, rfl⟩)
            | (go_at_call 42; refine (PP.out _).mono ?_; rintro _ _ ⟨rfl, rfl⟩))
          all_goals
            go_returns
            rw [HN.out]
            exact ⟨⟨_, rfl, _, _, rfl⟩, bel2 _ _ _⟩
      | false =>
        have HN := Lib.hid (show okT ((M.bytes s).drop a) = none by rw [HOK.out, if_neg (fun h => by rw [hb] at h; cases h.1)])
        have NB := Lib.hid fun w => numNB0 (s := s.extract a (a + n)) (b := false) (by rw [bytes_cut]; exact hb) w (by rw [ByteArray.size_extract]; omega)
        clear hb
        go_enter Tryd.func23, Tryd.ntmps23
        go_wp2_with (first
          | (go_at_call 36; ((with_reducible refine (D0.out _).mono ?_); rintro _ _ ⟨rfl, rfl⟩))
          | (go_at_call 36; ((with_reducible refine (D1.out _).mono ?_); rintro _ _ ⟨rfl, rfl⟩))
          | (go_at_call 37; refine (NA.out _).mono ?_; rintro _ _ ⟨rfl, rfl⟩)
          | (go_at_call 38; refine (NB.out _).mono ?_; rintro _ _ ⟨rfl, rfl⟩)
          | (go_at_call 42; refine (partedR_c s a _ (by omega) (by omega)).mono ?_; rintro _ _ ⟨rfl, rfl⟩))
        all_goals
          go_returns
          rw [HN.out]
          exact ⟨⟨_, rfl, _, _, rfl⟩, bel2 _ _ _⟩
    · cases e0 : letB ((s[a].toNat : Nat) : Int) with
      | true =>
        have hr := let_range e0
        have g45 : (((s[a].toNat : Nat) : Int) == 45) = false := by simp; omega
        have LT := Lib.hid fun w => letT e0 w
        obtain ⟨n, hnn⟩ : ∃ n, nameLen ((M.bytes s).drop a) = n := ⟨_, rfl⟩
        have hok := ok_name (l := (M.bytes s).drop a) (by rw [hh]; exact e0)
        have hle := nameLen_le ((M.bytes s).drop a)
        have hn0 : 0 < n := by rw [← hnn, nameLen_def, if_pos (by rw [hh]; exact e0)]; split <;> omega
        have hn1 : a + n ≤ s.size := by omega
        have NA := Lib.hid fun w => nameR_at (s := s) (a := a) (n := n) (fun r hr => by rw [← hnn]; exact nameAt_list hr) w (by omega) (by omega)
        rw [hnn] at hok
        have HOK := Lib.hid hok
        clear hok hle hnn hr e0 d0 hm hx hh
        cases hp : partR s (a + n) with
        | true =>
          have HN := Lib.hid (show okT ((M.bytes s).drop a) = some (4, ((M.bytes s).drop a).take n, n) by rw [HOK.out, if_pos ((PR.out 4 n (by decide) (by decide) hn1).trans hp)])
          have PP := Lib.hid fun w => partedB hp w (by omega) hn1
          clear hp
          go_enter Tryd.func23, Tryd.ntmps23
          go_wp2_with (first
            | (go_at_call 36; ((with_reducible refine (D0.out _).mono ?_); rintro _ _ ⟨rfl, rfl⟩))
            | (go_at_call 39; ((with_reducible refine (LT.out _).mono ?_); rintro _ _ ⟨rfl, rfl⟩))
            | (go_at_call 40; refine (NA.out _).mono ?_; rintro _ _ ⟨rfl, rfl⟩)
            | (go_at_call 42; refine (PP.out _).mono ?_; rintro _ _ ⟨rfl, rfl⟩))
          all_goals
            go_returns
            rw [HN.out]
            exact ⟨⟨hn0, _, rfl, bytes_cut s a _⟩, bel2 _ _ _⟩
        | false =>
          have HN := Lib.hid (show okT ((M.bytes s).drop a) = none by rw [HOK.out, if_neg (fun h => by rw [PR.out 4 n (by decide) (by decide) hn1, hp] at h; cases h)])
          have PP := Lib.hid fun w => partedB hp w (by omega) hn1
          clear hp
          go_enter Tryd.func23, Tryd.ntmps23
          go_wp2_with (first
            | (go_at_call 36; ((with_reducible refine (D0.out _).mono ?_); rintro _ _ ⟨rfl, rfl⟩))
            | (go_at_call 39; ((with_reducible refine (LT.out _).mono ?_); rintro _ _ ⟨rfl, rfl⟩))
            | (go_at_call 40; refine (NA.out _).mono ?_; rintro _ _ ⟨rfl, rfl⟩)
            | (go_at_call 42; refine (PP.out _).mono ?_; rintro _ _ ⟨rfl, rfl⟩))
          all_goals
            go_returns
            rw [HN.out]
            exact ⟨⟨_, rfl, _, _, rfl⟩, bel2 _ _ _⟩
      | false =>
        have LT := Lib.hid fun w => letT e0 w
        have hdg : digB (hd (((M.bytes s).drop a).drop (dashL ((M.bytes s).drop a)))) = false := by
          by_cases h45 : s[a].toNat = 45
          · have hdl1 : dashL ((M.bytes s).drop a) = 1 := by unfold dashL; rw [if_pos (by omega)]
            rw [hdl1, List.drop_drop, ← by_hd]
            by_cases hl1 : a + 1 < s.size
            · rw [by_at hl1]
              cases d1 : digB ((s[a + 1].toNat : Nat) : Int) with
              | false => rfl
              | true => exact absurd ⟨h45, hl1, d1⟩ hm
            · rw [by_out (by omega)]; rfl
          · have : dashL ((M.bytes s).drop a) = 0 := by unfold dashL; rw [if_neg (by omega)]
            rw [this, List.drop_zero, hh]; exact d0
        have hok := ok_sign (l := (M.bytes s).drop a) (by omega) (by omega) (by omega) hdg (by rw [hh]; exact e0)
        have hsl := signLen_le ((M.bytes s).drop a)
        obtain ⟨n, hnn⟩ : ∃ n, signLen ((M.bytes s).drop a) = n := ⟨_, rfl⟩
        rw [hnn] at hok hsl
        have hn1 : a + n ≤ s.size := by omega
        have SG := Lib.hid fun w => (signR_c s a w (by omega) ha).mono (R' := fun e w' => e = .returned (.int .i64 n) ∧ w = w') fun _ _ h => ⟨by rw [h.1, signN_list, M.bytes_tail, hnn], h.2⟩
        have HOK := Lib.hid hok
        clear hok hsl hnn hdg
        by_cases hn0' : n = 0
        · have HN := Lib.hid (show okT ((M.bytes s).drop a) = none by rw [HOK.out, if_pos hn0'])
          subst hn0'
          by_cases h45 : s[a].toNat = 45
          · have g45 : (((s[a].toNat : Nat) : Int) == 45) = true := by simp [h45]
            by_cases hl1 : a + 1 < s.size
            · have d1 : digB ((s[a + 1].toNat : Nat) : Int) = false := by
                cases d1 : digB ((s[a + 1].toNat : Nat) : Int) with
                | false => rfl
                | true => exact absurd ⟨h45, hl1, d1⟩ hm
              have D1 := Lib.hid fun w => digT d1 w
              clear hm d0 e0 d1 h45 hx hh
              go_enter Tryd.func23, Tryd.ntmps23
              go_wp2_with (first
                | (go_at_call 36; ((with_reducible refine (D0.out _).mono ?_); rintro _ _ ⟨rfl, rfl⟩))
                | (go_at_call 36; ((with_reducible refine (D1.out _).mono ?_); rintro _ _ ⟨rfl, rfl⟩))
                | (go_at_call 39; ((with_reducible refine (LT.out _).mono ?_); rintro _ _ ⟨rfl, rfl⟩))
                | (go_at_call 41; refine (SG.out _).mono ?_; rintro _ _ ⟨rfl, rfl⟩)
                | (go_at_call 42; refine (partedR_c s a _ (by omega) (by omega)).mono ?_; rintro _ _ ⟨rfl, rfl⟩))
              all_goals
                go_returns
                rw [HN.out]
                exact ⟨⟨_, rfl, _, _, rfl⟩, bel2 _ _ _⟩
            · clear hm d0 e0 h45 hx hh
              go_enter Tryd.func23, Tryd.ntmps23
              go_wp2_with (first
                | (go_at_call 36; ((with_reducible refine (D0.out _).mono ?_); rintro _ _ ⟨rfl, rfl⟩))
                | (go_at_call 39; ((with_reducible refine (LT.out _).mono ?_); rintro _ _ ⟨rfl, rfl⟩))
                | (go_at_call 41; refine (SG.out _).mono ?_; rintro _ _ ⟨rfl, rfl⟩)
                | (go_at_call 42; refine (partedR_c s a _ (by omega) (by omega)).mono ?_; rintro _ _ ⟨rfl, rfl⟩))
              all_goals
                go_returns
                rw [HN.out]
                exact ⟨⟨_, rfl, _, _, rfl⟩, bel2 _ _ _⟩
          · have g45 : (((s[a].toNat : Nat) : Int) == 45) = false := by simp; omega
            clear hm d0 e0 h45 hx hh
            go_enter Tryd.func23, Tryd.ntmps23
            go_wp2_with (first
              | (go_at_call 36; ((with_reducible refine (D0.out _).mono ?_); rintro _ _ ⟨rfl, rfl⟩))
              | (go_at_call 39; ((with_reducible refine (LT.out _).mono ?_); rintro _ _ ⟨rfl, rfl⟩))
              | (go_at_call 41; refine (SG.out _).mono ?_; rintro _ _ ⟨rfl, rfl⟩)
              | (go_at_call 42; refine (partedR_c s a _ (by omega) (by omega)).mono ?_; rintro _ _ ⟨rfl, rfl⟩))
            all_goals
              go_returns
              rw [HN.out]
              exact ⟨⟨_, rfl, _, _, rfl⟩, bel2 _ _ _⟩
        · have hn0 : 0 < n := by omega
          by_cases h45 : s[a].toNat = 45
          · have g45 : (((s[a].toNat : Nat) : Int) == 45) = true := by simp [h45]
            by_cases hl1 : a + 1 < s.size
            · have d1 : digB ((s[a + 1].toNat : Nat) : Int) = false := by
                cases d1 : digB ((s[a + 1].toNat : Nat) : Int) with
                | false => rfl
                | true => exact absurd ⟨h45, hl1, d1⟩ hm
              have D1 := Lib.hid fun w => digT d1 w
              clear hm d0 e0 d1 h45 hx hh
              cases hp : partR s (a + n) with
              | true =>
                have HN := Lib.hid (show okT ((M.bytes s).drop a) = some (5, ((M.bytes s).drop a).take n, n) by rw [HOK.out, if_neg (by omega), if_pos ((PR.out 5 n (by decide) (by decide) hn1).trans hp)])
                have PP := Lib.hid fun w => partedB hp w (by omega) hn1
                clear hp
                go_enter Tryd.func23, Tryd.ntmps23
                go_wp2_with (first
                  | (go_at_call 36; ((with_reducible refine (D0.out _).mono ?_); rintro _ _ ⟨rfl, rfl⟩))
                  | (go_at_call 36; ((with_reducible refine (D1.out _).mono ?_); rintro _ _ ⟨rfl, rfl⟩))
                  | (go_at_call 39; ((with_reducible refine (LT.out _).mono ?_); rintro _ _ ⟨rfl, rfl⟩))
                  | (go_at_call 41; refine (SG.out _).mono ?_; rintro _ _ ⟨rfl, rfl⟩)
                  | (go_at_call 42; refine (PP.out _).mono ?_; rintro _ _ ⟨rfl, rfl⟩))
                all_goals
                  go_returns
                  rw [HN.out]
                  exact ⟨⟨hn0, _, rfl, bytes_cut s a _⟩, bel2 _ _ _⟩
              | false =>
                have HN := Lib.hid (show okT ((M.bytes s).drop a) = none by rw [HOK.out, if_neg (by omega), if_neg (fun h => by rw [PR.out 5 n (by decide) (by decide) hn1, hp] at h; cases h)])
                have PP := Lib.hid fun w => partedB hp w (by omega) hn1
                clear hp
                go_enter Tryd.func23, Tryd.ntmps23
                go_wp2_with (first
                  | (go_at_call 36; ((with_reducible refine (D0.out _).mono ?_); rintro _ _ ⟨rfl, rfl⟩))
                  | (go_at_call 36; ((with_reducible refine (D1.out _).mono ?_); rintro _ _ ⟨rfl, rfl⟩))
                  | (go_at_call 39; ((with_reducible refine (LT.out _).mono ?_); rintro _ _ ⟨rfl, rfl⟩))
                  | (go_at_call 41; refine (SG.out _).mono ?_; rintro _ _ ⟨rfl, rfl⟩)
                  | (go_at_call 42; refine (PP.out _).mono ?_; rintro _ _ ⟨rfl, rfl⟩))
                all_goals
                  go_returns
                  rw [HN.out]
                  exact ⟨⟨_, rfl, _, _, rfl⟩, bel2 _ _ _⟩
            · clear hm d0 e0 h45 hx hh
              cases hp : partR s (a + n) with
              | true =>
                have HN := Lib.hid (show okT ((M.bytes s).drop a) = some (5, ((M.bytes s).drop a).take n, n) by rw [HOK.out, if_neg (by omega), if_pos ((PR.out 5 n (by decide) (by decide) hn1).trans hp)])
                have PP := Lib.hid fun w => partedB hp w (by omega) hn1
                clear hp
                go_enter Tryd.func23, Tryd.ntmps23
                go_wp2_with (first
                  | (go_at_call 36; ((with_reducible refine (D0.out _).mono ?_); rintro _ _ ⟨rfl, rfl⟩))
                  | (go_at_call 39; ((with_reducible refine (LT.out _).mono ?_); rintro _ _ ⟨rfl, rfl⟩))
                  | (go_at_call 41; refine (SG.out _).mono ?_; rintro _ _ ⟨rfl, rfl⟩)
                  | (go_at_call 42; refine (PP.out _).mono ?_; rintro _ _ ⟨rfl, rfl⟩))
                all_goals
                  go_returns
                  rw [HN.out]
                  exact ⟨⟨hn0, _, rfl, bytes_cut s a _⟩, bel2 _ _ _⟩
              | false =>
                have HN := Lib.hid (show okT ((M.bytes s).drop a) = none by rw [HOK.out, if_neg (by omega), if_neg (fun h => by rw [PR.out 5 n (by decide) (by decide) hn1, hp] at h; cases h)])
                have PP := Lib.hid fun w => partedB hp w (by omega) hn1
                clear hp
                go_enter Tryd.func23, Tryd.ntmps23
                go_wp2_with (first
                  | (go_at_call 36; ((with_reducible refine (D0.out _).mono ?_); rintro _ _ ⟨rfl, rfl⟩))
                  | (go_at_call 39; ((with_reducible refine (LT.out _).mono ?_); rintro _ _ ⟨rfl, rfl⟩))
                  | (go_at_call 41; refine (SG.out _).mono ?_; rintro _ _ ⟨rfl, rfl⟩)
                  | (go_at_call 42; refine (PP.out _).mono ?_; rintro _ _ ⟨rfl, rfl⟩))
                all_goals
                  go_returns
                  rw [HN.out]
                  exact ⟨⟨_, rfl, _, _, rfl⟩, bel2 _ _ _⟩
          · have g45 : (((s[a].toNat : Nat) : Int) == 45) = false := by simp; omega
            clear hm d0 e0 h45 hx hh
            cases hp : partR s (a + n) with
            | true =>
              have HN := Lib.hid (show okT ((M.bytes s).drop a) = some (5, ((M.bytes s).drop a).take n, n) by rw [HOK.out, if_neg (by omega), if_pos ((PR.out 5 n (by decide) (by decide) hn1).trans hp)])
              have PP := Lib.hid fun w => partedB hp w (by omega) hn1
              clear hp
              go_enter Tryd.func23, Tryd.ntmps23
              go_wp2_with (first
                | (go_at_call 36; ((with_reducible refine (D0.out _).mono ?_); rintro _ _ ⟨rfl, rfl⟩))
                | (go_at_call 39; ((with_reducible refine (LT.out _).mono ?_); rintro _ _ ⟨rfl, rfl⟩))
                | (go_at_call 41; refine (SG.out _).mono ?_; rintro _ _ ⟨rfl, rfl⟩)
                | (go_at_call 42; refine (PP.out _).mono ?_; rintro _ _ ⟨rfl, rfl⟩))
              all_goals
                go_returns
                rw [HN.out]
                exact ⟨⟨hn0, _, rfl, bytes_cut s a _⟩, bel2 _ _ _⟩
            | false =>
              have HN := Lib.hid (show okT ((M.bytes s).drop a) = none by rw [HOK.out, if_neg (by omega), if_neg (fun h => by rw [PR.out 5 n (by decide) (by decide) hn1, hp] at h; cases h)])
              have PP := Lib.hid fun w => partedB hp w (by omega) hn1
              clear hp
              go_enter Tryd.func23, Tryd.ntmps23
              go_wp2_with (first
                | (go_at_call 36; ((with_reducible refine (D0.out _).mono ?_); rintro _ _ ⟨rfl, rfl⟩))
                | (go_at_call 39; ((with_reducible refine (LT.out _).mono ?_); rintro _ _ ⟨rfl, rfl⟩))
                | (go_at_call 41; refine (SG.out _).mono ?_; rintro _ _ ⟨rfl, rfl⟩)
                | (go_at_call 42; refine (PP.out _).mono ?_; rintro _ _ ⟨rfl, rfl⟩))
              all_goals
                go_returns
                rw [HN.out]
                exact ⟨⟨_, rfl, _, _, rfl⟩, bel2 _ _ _⟩
end Go.Proofs.YthhkpoobcnmdgaaDoor
