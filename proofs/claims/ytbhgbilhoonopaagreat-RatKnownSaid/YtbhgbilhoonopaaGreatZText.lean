/- big.Text, Parse; strings.CutPrefix of one byte. -/
import Derived.Test.YtbhgbilhoonopaaGreatZB
import Derived.Test.YtbhgbilhoonopaaGreatMG
namespace Go.Proofs.YtbhgbilhoonopaaGreat
open Go.RowKit
set_option linter.unusedVariables false
set_option maxRecDepth 100000

/-- A number's text. -/
def txtZ (z : Int) : List Nat := if z < 0 then 45 :: M.txt z.natAbs else M.txt z.natAbs
theorem txtZ_neg {z : Int} (h : z < 0) : txtZ z = 45 :: M.txt z.natAbs := if_pos h
theorem txtZ_pos {z : Int} (h : ¬ z < 0) : txtZ z = M.txt z.natAbs := if_neg h
theorem bytes_minus (s : ByteArray) : M.bytes (⟨#[45]⟩ ++ s) = 45 :: M.bytes s := by
  unfold M.bytes
  obtain ⟨⟨l⟩⟩ := s
  simp

section
variable {w : World} {s t : Bool} {A B : Option Addr} {n c m d k j : Nat} {z u : Int}
set_option maxHeartbeats 1000000

theorem textZ (h : Zm w s A n c z k) (hk : k ≤ 1000) : Calls Tryz.prog 84 #[.agg #[.bool s, .slice A n c]] w (GivesT w (txtZ z)) := by
  have X := h.alloc (.cells #[.bool s, .slice A n c] 24)
  have PA := Bz.new w s A n c
  have BB := bl_alloc w (.cells #[.bool s, .slice A n c] 24)
  have hlt := h.lt
  by_cases hneg : z < 0
  · rw [txtZ_neg hneg]
    have HP := Lib.hid (sgn_neg hneg)
    clear hneg h
    go_enter Tryz.func84, Tryz.ntmps84
    go_wp2_with fail
    refine (textN X.nm hk).mono ?_
    rintro e w1 ⟨t1, rfl, ht1, hb1⟩
    have hsz := txt_size ht1 hlt
    have HT := Lib.hid ht1
    replace X := X.below hb1
    replace BB := bl_trans BB hb1
    replace PA := PA.below hb1
    have a0 := PA.c0
    have a1 := PA.c1
    clear hb1 ht1 hlt
    go_wp2_with fail
    refine (signZ' X hk HP.out).mono ?_
    rintro e w2 ⟨rfl, hb2⟩
    replace BB := bl_trans BB hb2
    clear hb2 a0 a1 X PA HP
    go_wp2_with fail
    go_ret
    exact ⟨_, rfl, by rw [bytes_minus, HT.out], BB⟩
  · rw [txtZ_pos hneg]
    obtain ⟨q, hq, hq0⟩ : ∃ q, sgn z = q ∧ 0 ≤ q := by
      rcases sgn_cases z with ⟨h1, h2⟩ | ⟨h1, h2⟩ | ⟨h1, h2⟩
      · omega
      · exact ⟨_, h2, by omega⟩
      · exact ⟨_, h2, by omega⟩
    have HP := Lib.hid hq
    clear hneg h hq
    go_enter Tryz.func84, Tryz.ntmps84
    go_wp2_with fail
    refine (textN X.nm hk).mono ?_
    rintro e w1 ⟨t1, rfl, ht1, hb1⟩
    have HT := Lib.hid ht1
    replace X := X.below hb1
    replace BB := bl_trans BB hb1
    replace PA := PA.below hb1
    have a0 := PA.c0
    have a1 := PA.c1
    clear hb1 ht1 hlt
    go_wp2_with fail
    refine (signZ' X hk HP.out).mono ?_
    rintro e w2 ⟨rfl, hb2⟩
    replace BB := bl_trans BB hb2
    clear hb2 a0 a1 X PA HP
    go_wp2_with fail
    go_ret
    exact ⟨_, rfl, HT.out, BB⟩

theorem Zt.zeroT (w : World) (base k : Nat) : Zt w base false none 0 0 0 k := ⟨by rw [show M.lims (Int.natAbs 0) = [] from M.lims_zero]; exact OwK.nil_ _ _, Nat.zero_le _, rfl⟩

theorem ext_one (s : ByteArray) (h : 1 ≤ s.size) : ((s.extract 0 1).toList == [45]) = decide ((M.bytes s)[0]? = some 45) := by
  have hl := M.bytes_len s
  have e := M.bytes_extract s 0 1
  rw [List.drop_zero, Nat.sub_zero] at e
  cases hb : M.bytes s with
  | nil => rw [hb] at hl; simp at hl; omega
  | cons x l =>
    rw [hb, List.take_succ_cons, List.take_zero] at e
    by_cases hx : x = 45
    · subst hx
      have : s.extract 0 1 = ⟨#[45]⟩ := M.bytes_inj (by rw [e]; rfl)
      rw [this]
      simp
    · have : ¬ (s.extract 0 1).toList = [45] := by
        intro h9
        apply hx
        have h8 : s.extract 0 1 = ⟨#[45]⟩ := ByteArray.ext (Array.toList_inj.1 (by rw [← Lib.toList_data, h9]))
        rw [h8] at e
        have : [45] = [x] := e
        injection this with h7
        exact h7.symm
      simp [hx, this]

theorem hasPrefix_any (s : ByteArray) (w : World) (hs : s.size ≤ 1048576) : Calls Tryz.prog 163 #[.string s, .string ⟨#[45]⟩] w fun e w' => e = .returned (.bool (decide ((M.bytes s)[0]? = some 45))) ∧ w = w' := by
  by_cases h0 : s.size = 0
  · have hn : (M.bytes s)[0]? = none := by rw [List.getElem?_eq_none_iff, M.bytes_len]; omega
    have HN := Lib.hid (show false = decide ((M.bytes s)[0]? = some 45) by rw [hn]; rfl)
    clear hn
    go_enter Tryz.func163, Tryz.ntmps163
    go_wp2
    go_ret
    exact ⟨ret_bool HN.out, rfl⟩
  · have h1 : (1 : Int) ≤ (s.size : Int) := by omega
    have h1' : 1 ≤ s.size := by omega
    have HN := Lib.hid (ext_one s h1')
    go_enter Tryz.func163, Tryz.ntmps163
    go_wp2
    go_ret
    exact ⟨ret_bool HN.out, rfl⟩

def hp (s : ByteArray) : Bool := decide ((M.bytes s)[0]? = some 45)
/-- What is behind a minus, if there is one. -/
def cutP (s : ByteArray) : ByteArray := bif hp s then s.extract 1 s.size else s
theorem cut_in (s : ByteArray) (w : World) (hs : s.size ≤ 1048576) : Calls Tryz.prog 151 #[.string s, .string ⟨#[45]⟩] w fun e w' => e = .returned (.tuple #[.string (cutP s), .bool (hp s)]) ∧ w = w' := by
  by_cases h : hp s = true
  · have h1 : 1 ≤ s.size := by
      have := of_decide_eq_true h
      have := (List.getElem?_eq_some_iff.1 this).1
      rw [M.bytes_len] at this
      omega
    have h1' : (1 : Int) ≤ (s.size : Int) := by omega
    have HC := Lib.hid (show cutP s = s.extract 1 s.size by unfold cutP; rw [h]; rfl)
    have HH := Lib.hid h
    clear h
    go_enter Tryz.func151, Tryz.ntmps151
    go_wp2_with fail
    refine (hasPrefix_any s _ hs).mono ?_
    rw [show decide ((M.bytes s)[0]? = some 45) = true from HH.out]
    rintro e w' ⟨rfl, rfl⟩
    go_wp2_with fail
    go_ret2
    rw [HC.out, HH.out]
    exact ⟨rfl, rfl⟩
  · have h' : hp s = false := by simpa using h
    have HC := Lib.hid (show cutP s = s by unfold cutP; rw [h']; rfl)
    have HH := Lib.hid h'
    clear h h'
    go_enter Tryz.func151, Tryz.ntmps151
    go_wp2_with fail
    refine (hasPrefix_any s _ hs).mono ?_
    rw [show decide ((M.bytes s)[0]? = some 45) = false from HH.out]
    rintro e w' ⟨rfl, rfl⟩
    go_wp2_with fail
    go_ret2
    rw [HC.out, HH.out]
    exact ⟨rfl, rfl⟩
theorem cut_any (s : ByteArray) (w : World) (hs : s.size ≤ 1048576) : Calls Tryz.prog 126 #[.string s, .string ⟨#[45]⟩] w fun e w' => e = .returned (.tuple #[.string (cutP s), .bool (hp s)]) ∧ w = w' := by
  go_enter Tryz.func126, Tryz.ntmps126
  go_wp2_with fail
  refine (cut_in s _ hs).mono ?_
  rintro e w' ⟨rfl, rfl⟩
  go_wp2_with fail
  go_ret2
  exact ⟨rfl, rfl⟩
theorem bytes_cut (s : ByteArray) : (hp s = true ∧ M.bytes s = 45 :: M.bytes (cutP s)) ∨ (hp s = false ∧ cutP s = s) := by
  by_cases h : hp s = true
  · refine .inl ⟨h, ?_⟩
    have h1 := of_decide_eq_true h
    unfold cutP
    rw [h]
    show _ = 45 :: M.bytes (s.extract 1 s.size)
    rw [M.bytes_tail]
    cases hb : M.bytes s with
    | nil => rw [hb] at h1; cases h1
    | cons x l =>
      rw [hb] at h1
      injection h1 with h1
      rw [h1]
      rfl
  · have h' : hp s = false := by simpa using h
    refine .inr ⟨h', ?_⟩
    unfold cutP
    rw [h']
    rfl
theorem cut_size (s : ByteArray) : (cutP s).size ≤ s.size := by
  rcases bytes_cut s with ⟨_, h⟩ | ⟨_, h⟩
  · have := congrArg List.length h
    rw [List.length_cons, M.bytes_len, M.bytes_len] at this
    omega
  · rw [h]; exact Nat.le_refl _

/-- Is it a number's text? .. and of which number. -/
def isZ (s : ByteArray) : Prop := M.Digits (M.bytes (cutP s)) ∧ (hp s = true → M.dec 0 (M.bytes (cutP s)) ≠ 0)
def valZ (s : ByteArray) : Int := zv (hp s) (M.dec 0 (M.bytes (cutP s)))

theorem parseZ_no (s : ByteArray) (w : World) (hs : s.size ≤ 1048576) (h : ¬ isZ s) : Calls Tryz.prog 93 #[.string s] w (GivZB w 0 0 false) := by
  have hcs := cut_size s
  have PR := Bz.new w false none 0 0
  have BB := bl_alloc w (.cells #[.bool false, .slice none 0 0] 24)
  by_cases hd : M.Digits (M.bytes (cutP s))
  · have hm : hp s = true ∧ M.dec 0 (M.bytes (cutP s)) = 0 := by
      unfold isZ at h
      by_cases h1 : hp s = true
      · exact ⟨h1, Classical.byContradiction fun h2 => h ⟨hd, fun _ => h2⟩⟩
      · exact absurd ⟨hd, fun h2 => absurd h2 h1⟩ h
    have HH := Lib.hid hm.1
    have HL := Lib.hid (show M.lims (M.dec 0 (M.bytes (cutP s))) = [] by rw [hm.2, M.lims_zero])
    have HD := Lib.hid hd
    clear h hd hm
    go_enter Tryz.func93, Tryz.ntmps93
    go_wp2_with fail
    refine (cut_any s _ hs).mono ?_
    rw [HH.out]
    rintro e w' ⟨rfl, rfl⟩
    go_wp2_with fail
    refine (parse_yes _ _ (by omega) HD.out).mono ?_
    rw [HL.out]
    rintro e w1 ⟨A1, c1, rfl, ho, hb1⟩
    replace PR := PR.below hb1
    replace BB := bl_trans BB hb1
    have r0 := PR.c0
    have r1 := PR.c1
    have f0 := PR.f 0
    have f1 := PR.f 1
    have hsz := PR.lt
    clear hb1 ho
    go_wp2_with fail
    exact bodyPost_ret (v := .tuple #[.agg #[.bool false, .slice none 0 0], .bool false]) (by simp [results, Tryz.results93, go_sem, *]) rfl ⟨_, _, _, _, rfl, fin_z (Zt.zeroT _ _ _) BB (by omega) hsz _ _⟩
  · have HD := Lib.hid hd
    clear h hd
    go_enter Tryz.func93, Tryz.ntmps93
    go_wp2_with fail
    refine (cut_any s _ hs).mono ?_
    rintro e w' ⟨rfl, rfl⟩
    go_wp2_with fail
    refine (parse_no _ _ (by omega) HD.out).mono ?_
    rintro e w1 ⟨A1, c1, rfl, ho, hb1⟩
    replace PR := PR.below hb1
    replace BB := bl_trans BB hb1
    have r0 := PR.c0
    have r1 := PR.c1
    have f0 := PR.f 0
    have f1 := PR.f 1
    have hsz := PR.lt
    clear hb1 ho
    go_wp2_with fail
    exact bodyPost_ret (v := .tuple #[.agg #[.bool false, .slice none 0 0], .bool false]) (by simp [results, Tryz.results93, go_sem, *]) rfl ⟨_, _, _, _, rfl, fin_z (Zt.zeroT _ _ _) BB (by omega) hsz _ _⟩

theorem parseZ_yes (s : ByteArray) (w : World) (hs : s.size ≤ 1048576) (h : isZ s) (hv : (valZ s).natAbs < M.R ^ k) : Calls Tryz.prog 93 #[.string s] w (GivZB w (valZ s) k true) := by
  have hcs := cut_size s
  have PR := Bz.new w false none 0 0
  have BB := bl_alloc w (.cells #[.bool false, .slice none 0 0] 24)
  have hl : (M.lims (M.dec 0 (M.bytes (cutP s)))).length ≤ k := by
    unfold valZ at hv
    rw [zv_abs] at hv
    exact M.lims_length_le.2 hv
  have hne : hp s = true → 0 < (M.lims (M.dec 0 (M.bytes (cutP s)))).length := fun h1 => List.length_pos_iff.2 fun h9 => h.2 h1 (M.lims_eq_nil.1 h9)
  have HD := Lib.hid h.1
  obtain ⟨v, hv⟩ : ∃ v, M.dec 0 (M.bytes (cutP s)) = v := ⟨_, rfl⟩
  obtain ⟨p, hp'⟩ : ∃ p, hp s = p := ⟨_, rfl⟩
  have HV := Lib.hid hv
  have HP := Lib.hid hp'
  have hval : valZ s = zv p v := by unfold valZ; rw [hv, hp']
  rw [hval]
  rw [hv] at hl hne
  rw [hp'] at hne
  clear hv hp' hval h
  obtain ⟨n, hn⟩ : ∃ n, (M.lims v).length = n := ⟨_, rfl⟩
  rw [hn] at hl hne
  have HN := Lib.hid hn
  clear hn
  cases p
  · clear hne
    go_enter Tryz.func93, Tryz.ntmps93
    go_wp2_with fail
    refine (cut_any s _ hs).mono ?_
    rw [HP.out]
    rintro e w' ⟨rfl, rfl⟩
    go_wp2_with fail
    refine (parse_yes _ _ (by omega) HD.out).mono ?_
    rw [HV.out]
    rintro e w1 ⟨A1, c1, rfl, ho, hb1⟩
    rw [HN.out] at ho ⊢
    have HO := Lib.hid ho
    replace PR := PR.below hb1
    replace BB := bl_trans BB hb1
    have hsz := hs_alloc w (.cells #[.bool false, .slice none 0 0] 24)
    have HSZ := Lib.hid hsz
    clear hb1 ho hsz
    go_wp2_with fail
    refine (signed_any _ _ _ _ _).mono ?_
    rintro e w2 ⟨rfl, hb2⟩
    have Z := (zt_signed (s := false) HO.out hl).below hb2
    rw [HSZ.out] at Z
    replace PR := PR.below hb2
    replace BB := bl_trans BB hb2
    have r0 := PR.c0
    have r1 := PR.c1
    have f0 := PR.f 0
    have f1 := PR.f 1
    clear hb2
    go_wp2_with fail
    exact bodyPost_ret (v := .tuple #[.agg #[.bool (false && decide (0 < n)), .slice A1 n c1], .bool true]) (by simp [results, Tryz.results93, go_sem, *]) rfl ⟨_, _, _, _, rfl, fin_z Z BB (by omega) (by omega) _ _⟩
  · have hn0 := hne rfl
    have hn1 : ((n : Int) == 0) = false := by simp; omega
    clear hne
    go_enter Tryz.func93, Tryz.ntmps93
    go_wp2_with fail
    refine (cut_any s _ hs).mono ?_
    rw [HP.out]
    rintro e w' ⟨rfl, rfl⟩
    go_wp2_with fail
    refine (parse_yes _ _ (by omega) HD.out).mono ?_
    rw [HV.out]
    rintro e w1 ⟨A1, c1, rfl, ho, hb1⟩
    rw [HN.out] at ho ⊢
    have HO := Lib.hid ho
    replace PR := PR.below hb1
    replace BB := bl_trans BB hb1
    have hsz := hs_alloc w (.cells #[.bool false, .slice none 0 0] 24)
    have HSZ := Lib.hid hsz
    clear hb1 ho hsz
    go_wp2_with fail
    refine (signed_any _ _ _ _ _).mono ?_
    rintro e w2 ⟨rfl, hb2⟩
    have Z := (zt_signed (s := true) HO.out hl).below hb2
    rw [HSZ.out] at Z
    replace PR := PR.below hb2
    replace BB := bl_trans BB hb2
    have r0 := PR.c0
    have r1 := PR.c1
    have f0 := PR.f 0
    have f1 := PR.f 1
    clear hb2
    go_wp2_with fail
    exact bodyPost_ret (v := .tuple #[.agg #[.bool (true && decide (0 < n)), .slice A1 n c1], .bool true]) (by simp [results, Tryz.results93, go_sem, *]) rfl ⟨_, _, _, _, rfl, fin_z Z BB (by omega) (by omega) _ _⟩
end

end Go.Proofs.YtbhgbilhoonopaaGreat
