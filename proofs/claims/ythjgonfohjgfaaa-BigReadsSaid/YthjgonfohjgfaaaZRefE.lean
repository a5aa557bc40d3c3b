/- litmusref02's Text, Parse. -/
import Derived.Test.YthjgonfohjgfaaaZRefA
import Derived.Test.YthjgonfohjgfaaaWParseR
import Derived.Test.YthjgonfohjgfaaaWTextR
namespace Go.Proofs.Ythjgonfohjgfaaa
open Go.RowKit
set_option linter.unusedVariables false
set_option maxRecDepth 100000

section
variable {w w' : World} {v v' : Value} {s t : Bool} {A B : Option Addr} {n c m d x y k j : Nat} {z u : Int}
set_option maxHeartbeats 1000000

def IsTB (w : World) (v : Value) (z : Int) (k : Nat) (o : Bool) : Prop := ∃ b A n c, v = .tuple #[.agg #[.bool b, .slice A n c], .bool o] ∧ IsT w (.agg #[.bool b, .slice A n c]) z k
theorem IsTB.fin {W : World} {g : Nat} {b o : Bool} {z : Int} (h : IsT W (.agg #[.bool b, .slice A n c]) z k) (P : Bz W g false none 0 0) (hb : Below w.heap.size w W) (hg : w.heap.size ≤ g) :
    Ans w (fun w' v => IsTB w' v z k o) (.returned (.tuple #[.agg #[.bool b, .slice A n c], .bool o])) ((W.setCell ⟨g, 0, none⟩ (.bool b)).setCell ⟨g, 1, none⟩ (.slice A n c)) :=
  ⟨_, rfl, (hb.setCell (p := ⟨g, 0, none⟩) hg _).setCell (p := ⟨g, 1, none⟩) hg _, _, _, _, _, rfl, st_T P h⟩

theorem cRefText (h : IsM w v z k) (hk : k ≤ 1000) : Calls Try.prog 40 #[v] w (Ans w fun _ v => IsS v (txtZ z)) := by
  obtain ⟨s, A, n, c, rfl, Z⟩ := h
  have X : IsM (w.alloc (.cells #[.bool s, .slice A n c] 32)) (.agg #[.bool s, .slice A n c]) z k := ⟨_, _, _, _, rfl, Z.alloc _⟩
  have PA := Bz.new w s A n c
  have BB := bl_alloc w (.cells #[.bool s, .slice A n c] 32)
  obtain ⟨xs, hx, hv⟩ := (Z.nm.alloc (.cells #[.bool s, .slice A n c] 32)).row
  have hle := Z.nm.le
  have hlt := Z.lt
  have HX := Lib.hid hx
  have HV := Lib.hid hv
  clear Z hx hv
  go_enter Try.func40, Try.ntmps40
  go_wp2_with fail
  refine (textR_any _ _ _ _ _ HX.out (by omega)).mono ?_
  rw [HV.out]
  rintro e w1 ⟨t1, rfl, ht1, hb1⟩
  have hsz := txt_size ht1 hlt
  have HT := Lib.hid ht1
  replace X := X.below hb1
  replace BB := bl_trans BB hb1
  replace PA := PA.below hb1
  have a0 := PA.c0
  have a1 := PA.c1
  clear hb1 ht1 hlt HX HV
  go_wp2_with fail
  refine (cRefMade X hk).mono ?_
  rintro e w2 ⟨_, rfl, hb2, b2, A2, n2, c2, rfl, T2, hn2⟩
  replace BB := bl_trans BB hb2
  clear hb2 a0 a1 X PA T2
  by_cases hneg : z < 0
  · obtain rfl : b2 = true := hn2.trans (decide_eq_true hneg)
    have HE := Lib.hid (txtZ_neg hneg)
    have hfl := field0 w2 true A2 n2 c2
    clear hn2 hneg
    go_wp2_with fail
    go_ret
    exact ⟨_, rfl, BB, ⟨#[45]⟩ ++ t1, rfl, by rw [HE.out, bytes_minus, HT.out]⟩
  · obtain rfl : b2 = false := hn2.trans (decide_eq_false hneg)
    have HE := Lib.hid (txtZ_pos hneg)
    have hfl := field0 w2 false A2 n2 c2
    clear hn2 hneg
    go_wp2_with fail
    go_ret
    exact ⟨_, rfl, BB, t1, rfl, by rw [HE.out, HT.out]⟩

theorem cRefParse_e (s : ByteArray) (hs : s.size ≤ 1000) (h0 : s.size = 0) (hd : ¬ M.Digits (M.bytes s)) : Calls Try.prog 42 #[.string s] w (Ans w fun w' v => IsTB w' v 0 0 false) := by
  have PR := Bz.new w false none 0 0
  have BB := bl_alloc w (.cells #[.bool false, .slice none 0 0] 32)
  have HD := Lib.hid hd
  clear hd
  go_enter Try.func42, Try.ntmps42
  go_wp2_with fail
  refine (parseR_no (s) _ (by omega) HD.out).mono ?_
  rintro e w1 ⟨A1, c1, rfl, ho, hb1⟩
  replace PR := PR.below hb1
  replace BB := bl_trans BB hb1
  have r0 := PR.c0
  have r1 := PR.c1
  have f0 := PR.f 0
  have f1 := PR.f 1
  clear hb1 ho
  go_wp2_with fail
  exact bodyPost_ret (v := .tuple #[.agg #[.bool false, .slice none 0 0], .bool false]) (by simp [results, Try.results42, go_sem, *]) rfl (IsTB.fin (IsT.zero _ 0) PR BB (Nat.le_refl _))

theorem cRefParse_n (s : ByteArray) (hs : s.size ≤ 1000) (h0 : 0 < s.size) (h45 : ((s[0].toNat : Int) == 45) = true) (hd : ¬ M.Digits (M.bytes (s.extract 1 s.size))) : Calls Try.prog 42 #[.string s] w (Ans w fun w' v => IsTB w' v 0 0 false) := by
  have PR := Bz.new w false none 0 0
  have BB := bl_alloc w (.cells #[.bool false, .slice none 0 0] 32)
  have HD := Lib.hid hd
  clear hd
  go_enter Try.func42, Try.ntmps42
  go_wp2_with fail
  refine (parseR_no (s.extract 1 s.size) _ (by rw [ByteArray.size_extract]; omega) HD.out).mono ?_
  rintro e w1 ⟨A1, c1, rfl, ho, hb1⟩
  replace PR := PR.below hb1
  replace BB := bl_trans BB hb1
  have r0 := PR.c0
  have r1 := PR.c1
  have f0 := PR.f 0
  have f1 := PR.f 1
  clear hb1 ho
  go_wp2_with fail
  exact bodyPost_ret (v := .tuple #[.agg #[.bool false, .slice none 0 0], .bool false]) (by simp [results, Try.results42, go_sem, *]) rfl (IsTB.fin (IsT.zero _ 0) PR BB (Nat.le_refl _))

theorem cRefParse_p (s : ByteArray) (hs : s.size ≤ 1000) (h0 : 0 < s.size) (h45 : ((s[0].toNat : Int) == 45) = false) (hd : ¬ M.Digits (M.bytes s)) : Calls Try.prog 42 #[.string s] w (Ans w fun w' v => IsTB w' v 0 0 false) := by
  have PR := Bz.new w false none 0 0
  have BB := bl_alloc w (.cells #[.bool false, .slice none 0 0] 32)
  have HD := Lib.hid hd
  clear hd
  go_enter Try.func42, Try.ntmps42
  go_wp2_with fail
  refine (parseR_no (s) _ (by omega) HD.out).mono ?_
  rintro e w1 ⟨A1, c1, rfl, ho, hb1⟩
  replace PR := PR.below hb1
  replace BB := bl_trans BB hb1
  have r0 := PR.c0
  have r1 := PR.c1
  have f0 := PR.f 0
  have f1 := PR.f 1
  clear hb1 ho
  go_wp2_with fail
  exact bodyPost_ret (v := .tuple #[.agg #[.bool false, .slice none 0 0], .bool false]) (by simp [results, Try.results42, go_sem, *]) rfl (IsTB.fin (IsT.zero _ 0) PR BB (Nat.le_refl _))

theorem cRefParse_z (s : ByteArray) (hs : s.size ≤ 1000) (h0 : 0 < s.size) (h45 : ((s[0].toNat : Int) == 45) = true) (hd : M.Digits (M.bytes (s.extract 1 s.size))) (hz : M.dec 0 (M.bytes (s.extract 1 s.size)) = 0) : Calls Try.prog 42 #[.string s] w (Ans w fun w' v => IsTB w' v 0 0 false) := by
  have PR := Bz.new w false none 0 0
  have BB := bl_alloc w (.cells #[.bool false, .slice none 0 0] 32)
  have HD := Lib.hid hd
  have HL := Lib.hid (show M.lims (M.dec 0 (M.bytes (s.extract 1 s.size))) = [] by rw [hz, M.lims_zero])
  clear hd hz
  go_enter Try.func42, Try.ntmps42
  go_wp2_with fail
  refine (parseR_yes (s.extract 1 s.size) _ (by rw [ByteArray.size_extract]; omega) HD.out).mono ?_
  rw [HL.out]
  rintro e w1 ⟨A1, c1, rfl, ho, hb1⟩
  replace PR := PR.below hb1
  replace BB := bl_trans BB hb1
  have r0 := PR.c0
  have r1 := PR.c1
  have f0 := PR.f 0
  have f1 := PR.f 1
  clear hb1 ho
  go_wp2_with fail
  exact bodyPost_ret (v := .tuple #[.agg #[.bool false, .slice none 0 0], .bool false]) (by simp [results, Try.results42, go_sem, *]) rfl (IsTB.fin (IsT.zero _ 0) PR BB (Nat.le_refl _))

theorem cRefParse_yn (s : ByteArray) (hs : s.size ≤ 1000) (h0 : 0 < s.size) (h45 : ((s[0].toNat : Int) == 45) = true) (hd : M.Digits (M.bytes (s.extract 1 s.size))) (hnz : M.dec 0 (M.bytes (s.extract 1 s.size)) ≠ 0) (hv : M.dec 0 (M.bytes (s.extract 1 s.size)) < M.R ^ k) (hk : k ≤ 1000) : Calls Try.prog 42 #[.string s] w (Ans w fun w' v => IsTB w' v (zv true (M.dec 0 (M.bytes (s.extract 1 s.size)))) k true) := by
  have PR := Bz.new w false none 0 0
  have BB := bl_alloc w (.cells #[.bool false, .slice none 0 0] 32)
  have HD := Lib.hid hd
  obtain ⟨V, hV⟩ : ∃ V, V = M.dec 0 (M.bytes (s.extract 1 s.size)) := ⟨_, rfl⟩
  rw [← hV] at hv hnz ⊢
  have HNZ := Lib.hid hnz
  clear hnz
  have HV := Lib.hid hV
  have HLT := Lib.hid hv
  clear hd hV hv
  go_enter Try.func42, Try.ntmps42
  go_wp2_with fail
  refine (parseR_yes (s.extract 1 s.size) _ (by rw [ByteArray.size_extract]; omega) HD.out).mono ?_
  rw [← HV.out]
  intro e w1 hg
  obtain ⟨A1, n1, c1, rfl, T1, hb1⟩ := givB HLT.out hg
  have hle := T1.le
  have hn1 : 0 < n1 := by
    rw [← T1.len]
    exact List.length_pos_iff.2 fun e => HNZ.out (M.lims_eq_nil.1 e)
  have hne : ((n1 : Int) == 0) = false := by simp; omega
  replace PR := PR.below hb1
  replace BB := bl_trans BB hb1
  clear hb1 hg
  go_wp2_with fail
  refine (cRefOf true T1.nm hk).mono ?_
  rintro e w4 ⟨_, rfl, hb4, b4, A4, n4, c4, rfl, T4, hn⟩
  replace BB := bl_trans BB hb4
  replace PR := PR.below hb4
  have r0 := PR.c0
  have r1 := PR.c1
  have f0 := PR.f 0
  have f1 := PR.f 1
  have HN := Lib.hid hn
  clear hb4 hn T1
  go_wp2_with fail
  exact bodyPost_ret (v := .tuple #[.agg #[.bool b4, .slice A4 n4 c4], .bool true]) (by simp [results, Try.results42, go_sem, *]) rfl (IsTB.fin ⟨_, _, _, _, rfl, T4, HN.out⟩ PR BB (Nat.le_refl _))

theorem cRefParse_yp (s : ByteArray) (hs : s.size ≤ 1000) (h0 : 0 < s.size) (h45 : ((s[0].toNat : Int) == 45) = false) (hd : M.Digits (M.bytes s)) (hv : M.dec 0 (M.bytes (s)) < M.R ^ k) (hk : k ≤ 1000) : Calls Try.prog 42 #[.string s] w (Ans w fun w' v => IsTB w' v (zv false (M.dec 0 (M.bytes (s)))) k true) := by
  have PR := Bz.new w false none 0 0
  have BB := bl_alloc w (.cells #[.bool false, .slice none 0 0] 32)
  have HD := Lib.hid hd
  obtain ⟨V, hV⟩ : ∃ V, V = M.dec 0 (M.bytes (s)) := ⟨_, rfl⟩
  rw [← hV] at hv ⊢
  have HV := Lib.hid hV
  have HLT := Lib.hid hv
  clear hd hV hv
  go_enter Try.func42, Try.ntmps42
  go_wp2_with fail
  refine (parseR_yes (s) _ (by omega) HD.out).mono ?_
  rw [← HV.out]
  intro e w1 hg
  obtain ⟨A1, n1, c1, rfl, T1, hb1⟩ := givB HLT.out hg
  have hle := T1.le
  replace PR := PR.below hb1
  replace BB := bl_trans BB hb1
  clear hb1 hg
  go_wp2_with fail
  refine (cRefOf false T1.nm hk).mono ?_
  rintro e w4 ⟨_, rfl, hb4, b4, A4, n4, c4, rfl, T4, hn⟩
  replace BB := bl_trans BB hb4
  replace PR := PR.below hb4
  have r0 := PR.c0
  have r1 := PR.c1
  have f0 := PR.f 0
  have f1 := PR.f 1
  have HN := Lib.hid hn
  clear hb4 hn T1
  go_wp2_with fail
  exact bodyPost_ret (v := .tuple #[.agg #[.bool b4, .slice A4 n4 c4], .bool true]) (by simp [results, Try.results42, go_sem, *]) rfl (IsTB.fin ⟨_, _, _, _, rfl, T4, HN.out⟩ PR BB (Nat.le_refl _))

theorem hp_first (s : ByteArray) (h0 : 0 < s.size) : hp s = ((s[0].toNat : Int) == 45) := by
  unfold hp
  rw [M.bytes_get s 0 h0]
  by_cases h : s[0].toNat = 45
  · rw [h]; rfl
  · rw [decide_eq_false (by simpa using h)]
    symm
    simp
    omega
theorem cut_neg (s : ByteArray) (h : hp s = true) : cutP s = s.extract 1 s.size := by unfold cutP; rw [h]; rfl
theorem cut_pos (s : ByteArray) (h : hp s = false) : cutP s = s := by unfold cutP; rw [h]; rfl

theorem cRefParse_no (s : ByteArray) (hs : s.size ≤ 1000) (h : ¬ isZ s) : Calls Try.prog 42 #[.string s] w (Ans w fun w' v => IsTB w' v 0 0 false) := by
  by_cases h0 : s.size = 0
  · refine cRefParse_e s hs h0 fun hd => hd.1 (List.eq_nil_of_length_eq_zero (by rw [M.bytes_len]; exact h0))
  · have hpos : 0 < s.size := by omega
    have hf := hp_first s hpos
    cases hh : hp s with
    | true =>
      rw [hh] at hf
      unfold isZ at h
      rw [cut_neg s hh, hh] at h
      by_cases hd : M.Digits (M.bytes (s.extract 1 s.size))
      · by_cases hz : M.dec 0 (M.bytes (s.extract 1 s.size)) = 0
        · exact cRefParse_z s hs hpos hf.symm hd hz
        · exact absurd ⟨hd, fun _ => hz⟩ h
      · exact cRefParse_n s hs hpos hf.symm hd
    | false =>
      rw [hh] at hf
      unfold isZ at h
      rw [cut_pos s hh, hh] at h
      exact cRefParse_p s hs hpos hf.symm fun hd => h ⟨hd, fun e => by cases e⟩
theorem cRefParse (s : ByteArray) (hs : s.size ≤ 1000) (h : isZ s) (hv : (valZ s).natAbs < M.R ^ k) (hk : k ≤ 1000) : Calls Try.prog 42 #[.string s] w (Ans w fun w' v => IsTB w' v (valZ s) k true) := by
  have h1 := h.1
  have hpos : 0 < s.size := by
    refine Nat.pos_of_ne_zero fun h0 => h1.1 (List.eq_nil_of_length_eq_zero ?_)
    rw [M.bytes_len]
    have := cut_size s
    omega
  have hf := hp_first s hpos
  unfold valZ at hv ⊢
  rw [zv_abs] at hv
  cases hh : hp s with
  | true =>
    rw [hh] at hf
    have h2 := h.2 hh
    rw [cut_neg s hh] at h1 h2 hv ⊢
    exact cRefParse_yn s hs hpos hf.symm h1 h2 hv hk
  | false =>
    rw [hh] at hf
    rw [cut_pos s hh] at h1 hv ⊢
    exact cRefParse_yp s hs hpos hf.symm h1 hv hk
end

end Go.Proofs.Ythjgonfohjgfaaa
