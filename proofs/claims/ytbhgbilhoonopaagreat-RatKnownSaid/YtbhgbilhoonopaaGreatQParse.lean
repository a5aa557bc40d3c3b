/- rat.Parse of texts that are a fraction's. -/
import Derived.Test.YtbhgbilhoonopaaGreatQOf
namespace Go.Proofs.YtbhgbilhoonopaaGreat
open Go.RowKit
set_option linter.unusedVariables false
set_option maxRecDepth 100000

def IsQB (N : Nat) (w : World) (v : Value) (q : Rat) (k : Nat) (o : Bool) : Prop := ∃ b A n c B m d, v = .tuple #[.agg #[.bool b, .slice A n c, .slice B m d], .bool o] ∧ IsQ N w (.agg #[.bool b, .slice A n c, .slice B m d]) q k
theorem cParseD {w : World} {N k : Nat} (s : ByteArray) (hs : s.size ≤ 1048576) (hd : M.Digits (M.bytes s)) (hv : M.dec 0 (M.bytes s) < M.R ^ k) (hN : N ≤ w.heap.size) : Calls Tryz.prog 94 #[.string s] w (Ans w fun w' v => ∃ A n c, v = .tuple #[.slice A n c, .bool true] ∧ Own w' N A n c (M.lims (M.dec 0 (M.bytes s))) ∧ n ≤ k) := by
  refine (parse_yes s w hs hd).mono ?_
  rintro e w' ⟨A, c, rfl, ho, hb⟩
  exact ⟨_, rfl, hb, A, _, c, rfl, ho.mono hN, M.lims_length_le.2 hv⟩
set_option maxHeartbeats 4000000 in
theorem cQParse1 {w : World} {k : Nat} (s : ByteArray) (hs : s.size ≤ 1048576) (h : 47 ∉ M.bytes s) (hz : isZ s) (hv : (valZ s).natAbs < M.R ^ k) (hk : k ≤ 900) (hk1 : 1 ≤ k) : Calls Tryz.prog 44 #[.string s] w (Ans w fun w' v => IsQB w.heap.size w' v ((valZ s : Int) : Rat) k true) := by
  have PR := Bq.new w false none 0 0 none 0 0
  have BB := bl_alloc w (.cells #[.bool false, .slice none 0 0, .slice none 0 0] 26)
  have HC := Lib.hid (scut_no s hs (w.alloc (.cells #[.bool false, .slice none 0 0, .slice none 0 0] 26)) h)
  have HZ := Lib.hid hz
  have HV := Lib.hid hv
  clear h hz hv
  go_enter Tryz.func44, Tryz.ntmps44
  go_wp2_with fail
  refine HC.out.mono ?_
  rintro e w1 ⟨_, rfl, hb1, rfl⟩
  have hs1 := hb1.size
  simp only [hs_alloc] at hs1
  replace PR := PR.below hb1
  replace BB := bl_trans BB hb1
  clear hb1 HC
  go_wp2_with fail
  refine (cParse (N := w.heap.size + 1) s hs HZ.out HV.out (by omega)).mono ?_
  rintro e w2 ⟨_, rfl, hb2, b2, A2, n2, c2, rfl, Z2⟩
  have hs2 := hb2.size
  have OO : Below w2.heap.size w2 (w2.alloc (.cells #[.bool b2, .slice A2 n2 c2] 24)) := bl_alloc _ _
  replace PR := (PR.below hb2).below OO
  replace BB := bl_trans (bl_trans BB hb2) OO
  replace Z2 := Z2.below OO
  have PN := Bz.new w2 b2 A2 n2 c2
  have p0 := PN.c0
  have p1 := PN.c1
  clear hb2 HZ HV OO
  go_wp2_with fail
  refine (cQInt (k := k) ⟨_, _, _, _, rfl, Z2.zm⟩ hk hk1).mono ?_
  rintro e w9 ⟨_, rfl, hb9, q9⟩
  obtain ⟨b9, A9, n9, c9, B9, m9, d9, rfl, yy⟩ := id q9
  clear yy p0 p1 PN Z2
  simp only [hs_alloc] at q9
  replace PR := PR.below hb9
  replace BB := bl_trans BB hb9
  clear hb9
  have r0 := PR.c0
  have r1 := PR.c1
  have r2 := PR.c2
  have f0 := PR.f 0
  have f1 := PR.f 1
  have f2 := PR.f 2
  go_wp2_with fail
  have PF := PR.set3 (b' := b9) (A' := A9) (n' := n9) (c' := c9) (B' := B9) (m' := m9) (d' := d9)
  obtain ⟨_, e1, fb, fq⟩ := fin_q (g := w.heap.size) q9 BB (by omega) (by omega) (.bool b9) (.slice A9 n9 c9) (.slice B9 m9 d9)
  cases e1
  clear r0 r1 r2 f0 f1 f2
  generalize World.setCell _ ⟨w.heap.size, 2, none⟩ _ = W9 at PF fq fb ⊢
  have z0 := PF.c0
  have z1 := PF.c1
  have z2 := PF.c2
  exact bodyPost_ret (v := .tuple #[.agg #[.bool b9, .slice A9 n9 c9, .slice B9 m9 d9], .bool true]) (by simp [results, Tryz.results44, go_sem, z0, z1, z2]) rfl ⟨_, rfl, fb, _, _, _, _, _, _, _, rfl, fq⟩

set_option maxHeartbeats 4000000 in
theorem cQParse2 {w : World} {k : Nat} {l1 l2 : List Nat} (s : ByteArray) (hs : s.size ≤ 1048576) (h : M.bytes s = l1 ++ 47 :: l2) (hn : 47 ∉ l1) (hz : isZ (s.extract 0 l1.length)) (hd : M.Digits l2) (q : Rat) (hq1 : valZ (s.extract 0 l1.length) = q.num) (hq2 : M.dec 0 l2 = q.den) (hq3 : q.den ≠ 1) (hv1 : q.num.natAbs < M.R ^ k) (hv2 : q.den < M.R ^ k) (hk : k ≤ 900) (hk1 : 1 ≤ k) : Calls Tryz.prog 44 #[.string s] w (Ans w fun w' v => IsQB w.heap.size w' v q k true) := by
  have PR := Bq.new w false none 0 0 none 0 0
  have BB := bl_alloc w (.cells #[.bool false, .slice none 0 0, .slice none 0 0] 26)
  have HC := Lib.hid (scut_yes s hs (w.alloc (.cells #[.bool false, .slice none 0 0, .slice none 0 0] 26)) h hn)
  have hb := bytes_take s h
  have z1 : (s.extract 0 l1.length).size ≤ 1048576 := by rw [← M.bytes_len, hb.1]; have : (M.bytes s).length ≤ 1048576 := by rw [M.bytes_len]; exact hs
                                                         rw [h, List.length_append] at this; omega
  have z2 : (s.extract (l1.length + 1) s.size).size ≤ 1048576 := by rw [← M.bytes_len, hb.2]; have : (M.bytes s).length ≤ 1048576 := by rw [M.bytes_len]; exact hs
                                                                    rw [h, List.length_append, List.length_cons] at this; omega
  have HB2 := Lib.hid hb.2
  have HZ := Lib.hid hz
  have HQ1 := Lib.hid hq1
  have HQ2 := Lib.hid hq2
  have HQ3 := Lib.hid hq3
  have HV1 := Lib.hid hv1
  have HV2 := Lib.hid hv2
  have HD := Lib.hid hd
  clear h hz hq1 hq2 hq3 hv1 hv2 hd hb hn
  generalize s.extract 0 l1.length = s1 at HC HZ HQ1 z1
  generalize s.extract (l1.length + 1) s.size = s2 at HC HB2 z2
  go_enter Tryz.func44, Tryz.ntmps44
  go_wp2_with fail
  refine HC.out.mono ?_
  rintro e w1 ⟨_, rfl, hb1, rfl⟩
  have hs1 := hb1.size
  simp only [hs_alloc] at hs1
  replace PR := PR.below hb1
  replace BB := bl_trans BB hb1
  clear hb1 HC
  go_wp2_with fail
  refine (cParse (N := w.heap.size + 1) (k := k) s1 z1 HZ.out (by rw [HQ1.out]; exact HV1.out) (by omega)).mono ?_
  rw [HQ1.out]
  rintro e w2 ⟨_, rfl, hb2, b2, A2, n2, c2, rfl, Z2⟩
  have hs2 := hb2.size
  have OO : Below w2.heap.size w2 (w2.alloc (.cells #[.bool b2, .slice A2 n2 c2] 24)) := bl_alloc _ _
  replace PR := (PR.below hb2).below OO
  replace BB := bl_trans (bl_trans BB hb2) OO
  replace Z2 := Z2.below OO
  have PN := Bz.new w2 b2 A2 n2 c2
  have hl2 := hs_alloc w2 (.cells #[.bool b2, .slice A2 n2 c2] 24)
  clear hb2 HZ HV1 OO
  go_wp2_with fail
  refine (cParseD (N := w.heap.size + 1) (k := k) s2 z2 (by rw [HB2.out]; exact HD.out) (by rw [HB2.out, HQ2.out]; exact HV2.out) (by omega)).mono ?_
  rw [HB2.out, HQ2.out]
  rintro e w3 ⟨_, rfl, hb3, A3, n3, c3, rfl, O3, l3⟩
  have hs3 := hb3.size
  replace PR := PR.below hb3
  replace BB := bl_trans BB hb3
  replace Z2 := Z2.below hb3
  replace PN := PN.below hb3
  have p0 := PN.c0
  have p1 := PN.c1
  clear hb3
  have OO : Below w3.heap.size w3 (w3.alloc (.cells #[.bool b2, .slice A2 n2 c2, .slice A3 n3 c3] 26)) := bl_alloc _ _
  have PQ := Bq.new w3 b2 A2 n2 c2 A3 n3 c3
  have q9 : IsQ (w.heap.size + 1) w3 (.agg #[.bool b2, .slice A2 n2 c2, .slice A3 n3 c3]) q k := isQ_mk Z2 O3 l3
  replace q9 := q9.below OO
  replace PR := PR.below OO
  replace BB := bl_trans BB OO
  have NO := (OwK.rd O3).below OO
  have hq3' := HQ3.out
  have H1 := Lib.hid (show decide (q.den = 1) = false from decide_eq_false hq3')
  clear Z2 O3 OO hq3'
  go_wp2_with fail
  refine (cIsOne (k := k) (x := q.den) ⟨_, _, _, rfl, ⟨⟨_, NO, M.val_lims _⟩, l3⟩⟩ (by omega)).mono ?_
  rw [H1.out]
  rintro e w4 ⟨_, rfl, hb4, rfl⟩
  replace PR := PR.below hb4
  replace BB := bl_trans BB hb4
  replace q9 := q9.below hb4
  replace PQ := PQ.below hb4
  clear hb4 NO p0 p1 PN
  have x0 := PQ.c0
  have x1 := PQ.c1
  have x2 := PQ.c2
  go_wp2_with fail
  refine (cQRight q9.t hk).mono ?_
  rintro e w5 ⟨_, rfl, hb5, rfl⟩
  clear x0 x1 x2
  replace PR := PR.below hb5
  replace BB := bl_trans BB hb5
  replace q9 := q9.below hb5
  replace PQ := PQ.below hb5
  have x0 := PQ.c0
  have x1 := PQ.c1
  have x2 := PQ.c2
  clear hb5
  have r0 := PR.c0
  have r1 := PR.c1
  have r2 := PR.c2
  have f0 := PR.f 0
  have f1 := PR.f 1
  have f2 := PR.f 2
  go_wp2_with fail
  have PF := PR.set3 (b' := b2) (A' := A2) (n' := n2) (c' := c2) (B' := A3) (m' := n3) (d' := c3)
  obtain ⟨_, e1, fb, fq⟩ := fin_q (g := w.heap.size) q9 BB (by omega) (by omega) (.bool b2) (.slice A2 n2 c2) (.slice A3 n3 c3)
  cases e1
  clear x0 x1 x2 r0 r1 r2 f0 f1 f2
  generalize World.setCell _ ⟨w.heap.size, 2, none⟩ _ = W9 at PF fq fb ⊢
  have z0 := PF.c0
  have z1 := PF.c1
  have z2 := PF.c2
  exact bodyPost_ret (v := .tuple #[.agg #[.bool b2, .slice A2 n2 c2, .slice A3 n3 c3], .bool true]) (by simp [results, Tryz.results44, go_sem, z0, z1, z2]) rfl ⟨_, rfl, fb, _, _, _, _, _, _, _, rfl, fq⟩

set_option maxHeartbeats 4000000 in
theorem cQParseA {w : World} {k : Nat} {l1 l2 : List Nat} (s : ByteArray) (hs : s.size ≤ 1048576) (h : M.bytes s = l1 ++ 47 :: l2) (hn : 47 ∉ l1) (hz : isZ (s.extract 0 l1.length)) (hd : M.Digits l2) (z : Int) (y : Nat) (hq1 : valZ (s.extract 0 l1.length) = z) (hq2 : M.dec 0 l2 = y) (hq3 : y = 1) (hv1 : z.natAbs < M.R ^ k) (hv2 : y < M.R ^ k) (hk : k ≤ 900) (hk1 : 1 ≤ k) : Calls Tryz.prog 44 #[.string s] w (Ans w fun w' v => IsQB w.heap.size w' v 0 1 false) := by
  have PR := Bq.new w false none 0 0 none 0 0
  have BB := bl_alloc w (.cells #[.bool false, .slice none 0 0, .slice none 0 0] 26)
  have HC := Lib.hid (scut_yes s hs (w.alloc (.cells #[.bool false, .slice none 0 0, .slice none 0 0] 26)) h hn)
  have hb := bytes_take s h
  have z1 : (s.extract 0 l1.length).size ≤ 1048576 := by rw [← M.bytes_len, hb.1]; have : (M.bytes s).length ≤ 1048576 := by rw [M.bytes_len]; exact hs
                                                         rw [h, List.length_append] at this; omega
  have z2 : (s.extract (l1.length + 1) s.size).size ≤ 1048576 := by rw [← M.bytes_len, hb.2]; have : (M.bytes s).length ≤ 1048576 := by rw [M.bytes_len]; exact hs
                                                                    rw [h, List.length_append, List.length_cons] at this; omega
  have HB2 := Lib.hid hb.2
  have HZ := Lib.hid hz
  have HQ1 := Lib.hid hq1
  have HQ2 := Lib.hid hq2
  have HQ3 := Lib.hid hq3
  have HV1 := Lib.hid hv1
  have HV2 := Lib.hid hv2
  have HD := Lib.hid hd
  clear h hz hq1 hq2 hq3 hv1 hv2 hd hb hn
  generalize s.extract 0 l1.length = s1 at HC HZ HQ1 z1
  generalize s.extract (l1.length + 1) s.size = s2 at HC HB2 z2
  go_enter Tryz.func44, Tryz.ntmps44
  go_wp2_with fail
  refine HC.out.mono ?_
  rintro e w1 ⟨_, rfl, hb1, rfl⟩
  have hs1 := hb1.size
  simp only [hs_alloc] at hs1
  replace PR := PR.below hb1
  replace BB := bl_trans BB hb1
  clear hb1 HC
  go_wp2_with fail
  refine (cParse (N := w.heap.size + 1) (k := k) s1 z1 HZ.out (by rw [HQ1.out]; exact HV1.out) (by omega)).mono ?_
  rw [HQ1.out]
  rintro e w2 ⟨_, rfl, hb2, b2, A2, n2, c2, rfl, Z2⟩
  have hs2 := hb2.size
  have OO : Below w2.heap.size w2 (w2.alloc (.cells #[.bool b2, .slice A2 n2 c2] 24)) := bl_alloc _ _
  replace PR := (PR.below hb2).below OO
  replace BB := bl_trans (bl_trans BB hb2) OO
  replace Z2 := Z2.below OO
  have PN := Bz.new w2 b2 A2 n2 c2
  have hl2 := hs_alloc w2 (.cells #[.bool b2, .slice A2 n2 c2] 24)
  clear hb2 HZ HV1 OO
  go_wp2_with fail
  refine (cParseD (N := w.heap.size + 1) (k := k) s2 z2 (by rw [HB2.out]; exact HD.out) (by rw [HB2.out, HQ2.out]; exact HV2.out) (by omega)).mono ?_
  rw [HB2.out, HQ2.out]
  rintro e w3 ⟨_, rfl, hb3, A3, n3, c3, rfl, O3, l3⟩
  have hs3 := hb3.size
  replace PR := PR.below hb3
  replace BB := bl_trans BB hb3
  replace Z2 := Z2.below hb3
  replace PN := PN.below hb3
  have p0 := PN.c0
  have p1 := PN.c1
  clear hb3
  have OO : Below w3.heap.size w3 (w3.alloc (.cells #[.bool b2, .slice A2 n2 c2, .slice A3 n3 c3] 26)) := bl_alloc _ _
  have PQ := Bq.new w3 b2 A2 n2 c2 A3 n3 c3
  replace PR := PR.below OO
  replace BB := bl_trans BB OO
  have NO := (OwK.rd O3).below OO
  have hq3' := HQ3.out
  have H1 := Lib.hid (show decide (y = 1) = true from decide_eq_true hq3')
  clear Z2 O3 OO hq3'
  go_wp2_with fail
  refine (cIsOne (k := k) (x := y) ⟨_, _, _, rfl, ⟨⟨_, NO, M.val_lims _⟩, l3⟩⟩ (by omega)).mono ?_
  rw [H1.out]
  rintro e w4 ⟨_, rfl, hb4, rfl⟩
  replace PR := PR.below hb4
  replace BB := bl_trans BB hb4
  clear hb4 NO p0 p1 PN PQ
  have hpl := PR.lt
  go_wp2_with fail
  refine (cQFrom 0 (by omega) (by omega)).mono ?_
  rintro e w9 ⟨_, rfl, hb9, q9⟩
  replace q9 := q9.zero1
  obtain ⟨b9, A9, n9, c9, B9, m9, d9, rfl, yy⟩ := id q9
  clear yy
  replace PR := PR.below hb9
  replace BB := bl_trans BB hb9
  clear hb9
  have r0 := PR.c0
  have r1 := PR.c1
  have r2 := PR.c2
  have f0 := PR.f 0
  have f1 := PR.f 1
  have f2 := PR.f 2
  go_wp2_with fail
  have PF := PR.set3 (b' := b9) (A' := A9) (n' := n9) (c' := c9) (B' := B9) (m' := m9) (d' := d9)
  obtain ⟨_, e1, fb, fq⟩ := fin_q (g := w.heap.size) q9 BB (by omega) (by omega) (.bool b9) (.slice A9 n9 c9) (.slice B9 m9 d9)
  cases e1
  clear r0 r1 r2 f0 f1 f2
  generalize World.setCell _ ⟨w.heap.size, 2, none⟩ _ = W9 at PF fq fb ⊢
  have z0 := PF.c0
  have z1 := PF.c1
  have z2 := PF.c2
  exact bodyPost_ret (v := .tuple #[.agg #[.bool b9, .slice A9 n9 c9, .slice B9 m9 d9], .bool false]) (by simp [results, Tryz.results44, go_sem, z0, z1, z2]) rfl ⟨_, rfl, fb, _, _, _, _, _, _, _, rfl, fq⟩

set_option maxHeartbeats 4000000 in
theorem cQParseB {w : World} {k : Nat} {l1 l2 : List Nat} (s : ByteArray) (hs : s.size ≤ 1048576) (h : M.bytes s = l1 ++ 47 :: l2) (hn : 47 ∉ l1) (hz : isZ (s.extract 0 l1.length)) (hd : M.Digits l2) (z : Int) (y : Nat) (hq1 : valZ (s.extract 0 l1.length) = z) (hq2 : M.dec 0 l2 = y) (hq3 : y ≠ 1) (hq4 : ¬ ((mkRat z (dOf y)).num = z ∧ (mkRat z (dOf y)).den = y)) (hv1 : z.natAbs < M.R ^ k) (hv2 : y < M.R ^ k) (hk : k ≤ 900) (hk1 : 1 ≤ k) : Calls Tryz.prog 44 #[.string s] w (Ans w fun w' v => IsQB w.heap.size w' v 0 1 false) := by
  have PR := Bq.new w false none 0 0 none 0 0
  have BB := bl_alloc w (.cells #[.bool false, .slice none 0 0, .slice none 0 0] 26)
  have HC := Lib.hid (scut_yes s hs (w.alloc (.cells #[.bool false, .slice none 0 0, .slice none 0 0] 26)) h hn)
  have hb := bytes_take s h
  have z1 : (s.extract 0 l1.length).size ≤ 1048576 := by rw [← M.bytes_len, hb.1]; have : (M.bytes s).length ≤ 1048576 := by rw [M.bytes_len]; exact hs
                                                         rw [h, List.length_append] at this; omega
  have z2 : (s.extract (l1.length + 1) s.size).size ≤ 1048576 := by rw [← M.bytes_len, hb.2]; have : (M.bytes s).length ≤ 1048576 := by rw [M.bytes_len]; exact hs
                                                                    rw [h, List.length_append, List.length_cons] at this; omega
  have HB2 := Lib.hid hb.2
  have HZ := Lib.hid hz
  have HQ1 := Lib.hid hq1
  have HQ2 := Lib.hid hq2
  have HQ3 := Lib.hid hq3
  have HQ4 := Lib.hid hq4
  have HV1 := Lib.hid hv1
  have HV2 := Lib.hid hv2
  have HD := Lib.hid hd
  clear h hz hq1 hq2 hq3 hq4 hv1 hv2 hd hb hn
  generalize s.extract 0 l1.length = s1 at HC HZ HQ1 z1
  generalize s.extract (l1.length + 1) s.size = s2 at HC HB2 z2
  go_enter Tryz.func44, Tryz.ntmps44
  go_wp2_with fail
  refine HC.out.mono ?_
  rintro e w1 ⟨_, rfl, hb1, rfl⟩
  have hs1 := hb1.size
  simp only [hs_alloc] at hs1
  replace PR := PR.below hb1
  replace BB := bl_trans BB hb1
  clear hb1 HC
  go_wp2_with fail
  refine (cParse (N := w.heap.size + 1) (k := k) s1 z1 HZ.out (by rw [HQ1.out]; exact HV1.out) (by omega)).mono ?_
  rw [HQ1.out]
  rintro e w2 ⟨_, rfl, hb2, b2, A2, n2, c2, rfl, Z2⟩
  have hs2 := hb2.size
  have OO : Below w2.heap.size w2 (w2.alloc (.cells #[.bool b2, .slice A2 n2 c2] 24)) := bl_alloc _ _
  replace PR := (PR.below hb2).below OO
  replace BB := bl_trans (bl_trans BB hb2) OO
  replace Z2 := Z2.below OO
  have PN := Bz.new w2 b2 A2 n2 c2
  have hl2 := hs_alloc w2 (.cells #[.bool b2, .slice A2 n2 c2] 24)
  clear hb2 HZ HV1 OO
  go_wp2_with fail
  refine (cParseD (N := w.heap.size + 1) (k := k) s2 z2 (by rw [HB2.out]; exact HD.out) (by rw [HB2.out, HQ2.out]; exact HV2.out) (by omega)).mono ?_
  rw [HB2.out, HQ2.out]
  rintro e w3 ⟨_, rfl, hb3, A3, n3, c3, rfl, O3, l3⟩
  have hs3 := hb3.size
  replace PR := PR.below hb3
  replace BB := bl_trans BB hb3
  replace Z2 := Z2.below hb3
  replace PN := PN.below hb3
  have p0 := PN.c0
  have p1 := PN.c1
  clear hb3
  have OO : Below w3.heap.size w3 (w3.alloc (.cells #[.bool b2, .slice A2 n2 c2, .slice A3 n3 c3] 26)) := bl_alloc _ _
  have PQ := Bq.new w3 b2 A2 n2 c2 A3 n3 c3
  have HR := Lib.hid (show (false = true ↔ RightQ b2 (M.lims z.natAbs) (M.lims y) (mkRat (zv b2 (M.val (M.lims z.natAbs))) (dOf (M.val (M.lims y))))) by
    refine ⟨fun h => (by cases h), fun h => ?_⟩
    exfalso
    have ez : zv b2 (M.val (M.lims z.natAbs)) = z := by
      rw [M.val_lims, Z2.neg]
      by_cases hz : z < 0
      · rw [decide_eq_true hz, zv_true]; omega
      · rw [decide_eq_false hz, zv_false]; omega
    unfold RightQ at h
    rw [ez, M.val_lims] at h
    obtain ⟨h1, h2, h3⟩ := h
    rw [M.lims_inj] at h2 h3
    refine HQ4.out ⟨?_, h3.symm⟩
    have h4 := Z2.neg
    rw [h1] at h4
    have h5 : ((mkRat z (dOf y)).num < 0) ↔ (z < 0) := by simpa using h4
    omega)
  have RX := Z2.tm.rd.below OO
  have LX := Z2.le
  replace PR := PR.below OO
  replace BB := bl_trans BB OO
  have NO := (OwK.rd O3).below OO
  have hq3' := HQ3.out
  have H1 := Lib.hid (show decide (y = 1) = false from decide_eq_false hq3')
  clear Z2 O3 OO hq3'
  go_wp2_with fail
  refine (cIsOne (k := k) (x := y) ⟨_, _, _, rfl, ⟨⟨_, NO, M.val_lims _⟩, l3⟩⟩ (by omega)).mono ?_
  rw [H1.out]
  rintro e w4 ⟨_, rfl, hb4, rfl⟩
  replace PR := PR.below hb4
  replace BB := bl_trans BB hb4
  replace PQ := PQ.below hb4
  replace NO := NO.below hb4
  replace RX := RX.below hb4
  clear hb4 p0 p1 PN
  have x0 := PQ.c0
  have x1 := PQ.c1
  have x2 := PQ.c2
  go_wp2_with fail
  refine (cQRightR RX NO (by omega) (by omega) HR.out).mono ?_
  rintro e w5 ⟨_, rfl, hb5, rfl⟩
  clear x0 x1 x2 PQ RX NO
  replace PR := PR.below hb5
  replace BB := bl_trans BB hb5
  clear hb5
  have hpl := PR.lt
  go_wp2_with fail
  refine (cQFrom 0 (by omega) (by omega)).mono ?_
  rintro e w9 ⟨_, rfl, hb9, q9⟩
  replace q9 := q9.zero1
  obtain ⟨b9, A9, n9, c9, B9, m9, d9, rfl, yy⟩ := id q9
  clear yy
  replace PR := PR.below hb9
  replace BB := bl_trans BB hb9
  clear hb9
  have r0 := PR.c0
  have r1 := PR.c1
  have r2 := PR.c2
  have f0 := PR.f 0
  have f1 := PR.f 1
  have f2 := PR.f 2
  go_wp2_with fail
  have PF := PR.set3 (b' := b9) (A' := A9) (n' := n9) (c' := c9) (B' := B9) (m' := m9) (d' := d9)
  obtain ⟨_, e1, fb, fq⟩ := fin_q (g := w.heap.size) q9 BB (by omega) (by omega) (.bool b9) (.slice A9 n9 c9) (.slice B9 m9 d9)
  cases e1
  clear r0 r1 r2 f0 f1 f2
  generalize World.setCell _ ⟨w.heap.size, 2, none⟩ _ = W9 at PF fq fb ⊢
  have z0 := PF.c0
  have z1 := PF.c1
  have z2 := PF.c2
  exact bodyPost_ret (v := .tuple #[.agg #[.bool b9, .slice A9 n9 c9, .slice B9 m9 d9], .bool false]) (by simp [results, Tryz.results44, go_sem, z0, z1, z2]) rfl ⟨_, rfl, fb, _, _, _, _, _, _, _, rfl, fq⟩

set_option maxHeartbeats 4000000 in
theorem cQParseD {w : World} {k : Nat} {l1 l2 : List Nat} (s : ByteArray) (hs : s.size ≤ 1048576) (h : M.bytes s = l1 ++ 47 :: l2) (hn : 47 ∉ l1) (hz : isZ (s.extract 0 l1.length)) (hd : ¬ M.Digits l2) (z : Int) (hq1 : valZ (s.extract 0 l1.length) = z) (hv1 : z.natAbs < M.R ^ k) (hk : k ≤ 900) (hk1 : 1 ≤ k) : Calls Tryz.prog 44 #[.string s] w (Ans w fun w' v => IsQB w.heap.size w' v 0 1 false) := by
  have PR := Bq.new w false none 0 0 none 0 0
  have BB := bl_alloc w (.cells #[.bool false, .slice none 0 0, .slice none 0 0] 26)
  have HC := Lib.hid (scut_yes s hs (w.alloc (.cells #[.bool false, .slice none 0 0, .slice none 0 0] 26)) h hn)
  have hb := bytes_take s h
  have z1 : (s.extract 0 l1.length).size ≤ 1048576 := by rw [← M.bytes_len, hb.1]; have : (M.bytes s).length ≤ 1048576 := by rw [M.bytes_len]; exact hs
                                                         rw [h, List.length_append] at this; omega
  have z2 : (s.extract (l1.length + 1) s.size).size ≤ 1048576 := by rw [← M.bytes_len, hb.2]; have : (M.bytes s).length ≤ 1048576 := by rw [M.bytes_len]; exact hs
                                                                    rw [h, List.length_append, List.length_cons] at this; omega
  have HB2 := Lib.hid hb.2
  have HZ := Lib.hid hz
  have HQ1 := Lib.hid hq1
  have HV1 := Lib.hid hv1
  have HD := Lib.hid hd
  clear h hz hq1 hv1 hd hb hn
  generalize s.extract 0 l1.length = s1 at HC HZ HQ1 z1
  generalize s.extract (l1.length + 1) s.size = s2 at HC HB2 z2
  go_enter Tryz.func44, Tryz.ntmps44
  go_wp2_with fail
  refine HC.out.mono ?_
  rintro e w1 ⟨_, rfl, hb1, rfl⟩
  have hs1 := hb1.size
  simp only [hs_alloc] at hs1
  replace PR := PR.below hb1
  replace BB := bl_trans BB hb1
  clear hb1 HC
  go_wp2_with fail
  refine (cParse (N := w.heap.size + 1) (k := k) s1 z1 HZ.out (by rw [HQ1.out]; exact HV1.out) (by omega)).mono ?_
  rw [HQ1.out]
  rintro e w2 ⟨_, rfl, hb2, b2, A2, n2, c2, rfl, Z2⟩
  have hs2 := hb2.size
  have OO : Below w2.heap.size w2 (w2.alloc (.cells #[.bool b2, .slice A2 n2 c2] 24)) := bl_alloc _ _
  replace PR := (PR.below hb2).below OO
  replace BB := bl_trans (bl_trans BB hb2) OO
  replace Z2 := Z2.below OO
  have PN := Bz.new w2 b2 A2 n2 c2
  have hl2 := hs_alloc w2 (.cells #[.bool b2, .slice A2 n2 c2] 24)
  clear hb2 HZ HV1 OO
  go_wp2_with fail
  refine (parse_no s2 _ z2 (by rw [HB2.out]; exact HD.out)).mono ?_
  rintro e w3 ⟨A3, c3, rfl, ho3, hb3⟩
  simp only [List.length_nil]
  have hs3 := hb3.size
  replace PR := PR.below hb3
  replace BB := bl_trans BB hb3
  replace PN := PN.below hb3
  have p0 := PN.c0
  have p1 := PN.c1
  clear hb3 Z2 ho3
  have OO : Below w3.heap.size w3 (w3.alloc (.cells #[.bool b2, .slice A2 n2 c2, .slice A3 0 c3] 26)) := bl_alloc _ _
  replace PR := PR.below OO
  replace BB := bl_trans BB OO
  clear OO PN
  have hpl := PR.lt
  go_wp2_with fail
  refine (cQFrom 0 (by omega) (by omega)).mono ?_
  rintro e w9 ⟨_, rfl, hb9, q9⟩
  replace q9 := q9.zero1
  obtain ⟨b9, A9, n9, c9, B9, m9, d9, rfl, yy⟩ := id q9
  clear yy
  replace PR := PR.below hb9
  replace BB := bl_trans BB hb9
  clear hb9
  have r0 := PR.c0
  have r1 := PR.c1
  have r2 := PR.c2
  have f0 := PR.f 0
  have f1 := PR.f 1
  have f2 := PR.f 2
  go_wp2_with fail
  have PF := PR.set3 (b' := b9) (A' := A9) (n' := n9) (c' := c9) (B' := B9) (m' := m9) (d' := d9)
  obtain ⟨_, e1, fb, fq⟩ := fin_q (g := w.heap.size) q9 BB (by omega) (by omega) (.bool b9) (.slice A9 n9 c9) (.slice B9 m9 d9)
  cases e1
  clear r0 r1 r2 f0 f1 f2
  generalize World.setCell _ ⟨w.heap.size, 2, none⟩ _ = W9 at PF fq fb ⊢
  have z0 := PF.c0
  have z1 := PF.c1
  have z2 := PF.c2
  exact bodyPost_ret (v := .tuple #[.agg #[.bool b9, .slice A9 n9 c9, .slice B9 m9 d9], .bool false]) (by simp [results, Tryz.results44, go_sem, z0, z1, z2]) rfl ⟨_, rfl, fb, _, _, _, _, _, _, _, rfl, fq⟩

set_option maxHeartbeats 4000000 in
theorem cQParseC2 {w : World} {l1 l2 : List Nat} (s : ByteArray) (hs : s.size ≤ 1048576) (h : M.bytes s = l1 ++ 47 :: l2) (hn : 47 ∉ l1) (hz : ¬ isZ (s.extract 0 l1.length)) : Calls Tryz.prog 44 #[.string s] w (Ans w fun w' v => IsQB w.heap.size w' v 0 1 false) := by
  have PR := Bq.new w false none 0 0 none 0 0
  have BB := bl_alloc w (.cells #[.bool false, .slice none 0 0, .slice none 0 0] 26)
  have HC := Lib.hid (scut_yes s hs (w.alloc (.cells #[.bool false, .slice none 0 0, .slice none 0 0] 26)) h hn)
  have hb := bytes_take s h
  have z1 : (s.extract 0 l1.length).size ≤ 1048576 := by rw [← M.bytes_len, hb.1]; have : (M.bytes s).length ≤ 1048576 := by rw [M.bytes_len]; exact hs
                                                         rw [h, List.length_append] at this; omega
  have z2 : (s.extract (l1.length + 1) s.size).size ≤ 1048576 := by rw [← M.bytes_len, hb.2]; have : (M.bytes s).length ≤ 1048576 := by rw [M.bytes_len]; exact hs
                                                                    rw [h, List.length_append, List.length_cons] at this; omega
  have HZ := Lib.hid hz
  clear h hz hb hn
  generalize s.extract 0 l1.length = s1 at HC HZ z1
  generalize s.extract (l1.length + 1) s.size = s2 at HC z2
  go_enter Tryz.func44, Tryz.ntmps44
  go_wp2_with fail
  refine HC.out.mono ?_
  rintro e w1 ⟨_, rfl, hb1, rfl⟩
  have hs1 := hb1.size
  simp only [hs_alloc] at hs1
  replace PR := PR.below hb1
  replace BB := bl_trans BB hb1
  clear hb1 HC
  go_wp2_with fail
  refine (cParse_no (N := w.heap.size + 1) s1 z1 HZ.out (by omega)).mono ?_
  rintro e w2 ⟨_, rfl, hb2, b2, A2, n2, c2, rfl, Z2⟩
  have OO : Below w2.heap.size w2 (w2.alloc (.cells #[.bool b2, .slice A2 n2 c2] 24)) := bl_alloc _ _
  replace PR := (PR.below hb2).below OO
  replace BB := bl_trans (bl_trans BB hb2) OO
  clear hb2 HZ OO Z2
  have hpl := PR.lt
  go_wp2_with fail
  refine (cQFrom 0 (by omega) (by omega)).mono ?_
  rintro e w9 ⟨_, rfl, hb9, q9⟩
  replace q9 := q9.zero1
  obtain ⟨b9, A9, n9, c9, B9, m9, d9, rfl, yy⟩ := id q9
  clear yy
  replace PR := PR.below hb9
  replace BB := bl_trans BB hb9
  clear hb9
  have r0 := PR.c0
  have r1 := PR.c1
  have r2 := PR.c2
  have f0 := PR.f 0
  have f1 := PR.f 1
  have f2 := PR.f 2
  go_wp2_with fail
  have PF := PR.set3 (b' := b9) (A' := A9) (n' := n9) (c' := c9) (B' := B9) (m' := m9) (d' := d9)
  obtain ⟨_, e1, fb, fq⟩ := fin_q (g := w.heap.size) q9 BB (by omega) (by omega) (.bool b9) (.slice A9 n9 c9) (.slice B9 m9 d9)
  cases e1
  clear r0 r1 r2 f0 f1 f2
  generalize World.setCell _ ⟨w.heap.size, 2, none⟩ _ = W9 at PF fq fb ⊢
  have z0 := PF.c0
  have z1 := PF.c1
  have z2 := PF.c2
  exact bodyPost_ret (v := .tuple #[.agg #[.bool b9, .slice A9 n9 c9, .slice B9 m9 d9], .bool false]) (by simp [results, Tryz.results44, go_sem, z0, z1, z2]) rfl ⟨_, rfl, fb, _, _, _, _, _, _, _, rfl, fq⟩

set_option maxHeartbeats 4000000 in
theorem cQParseC1 {w : World} (s : ByteArray) (hs : s.size ≤ 1048576) (h : 47 ∉ M.bytes s) (hz : ¬ isZ s) : Calls Tryz.prog 44 #[.string s] w (Ans w fun w' v => IsQB w.heap.size w' v 0 1 false) := by
  have PR := Bq.new w false none 0 0 none 0 0
  have BB := bl_alloc w (.cells #[.bool false, .slice none 0 0, .slice none 0 0] 26)
  have HC := Lib.hid (scut_no s hs (w.alloc (.cells #[.bool false, .slice none 0 0, .slice none 0 0] 26)) h)
  have HZ := Lib.hid hz
  clear h hz
  go_enter Tryz.func44, Tryz.ntmps44
  go_wp2_with fail
  refine HC.out.mono ?_
  rintro e w1 ⟨_, rfl, hb1, rfl⟩
  have hs1 := hb1.size
  simp only [hs_alloc] at hs1
  replace PR := PR.below hb1
  replace BB := bl_trans BB hb1
  clear hb1 HC
  go_wp2_with fail
  refine (cParse_no (N := w.heap.size + 1) s hs HZ.out (by omega)).mono ?_
  rintro e w2 ⟨_, rfl, hb2, b2, A2, n2, c2, rfl, Z2⟩
  have OO : Below w2.heap.size w2 (w2.alloc (.cells #[.bool b2, .slice A2 n2 c2] 24)) := bl_alloc _ _
  replace PR := (PR.below hb2).below OO
  replace BB := bl_trans (bl_trans BB hb2) OO
  clear hb2 HZ OO Z2
  have hpl := PR.lt
  go_wp2_with fail
  refine (cQFrom 0 (by omega) (by omega)).mono ?_
  rintro e w9 ⟨_, rfl, hb9, q9⟩
  replace q9 := q9.zero1
  obtain ⟨b9, A9, n9, c9, B9, m9, d9, rfl, yy⟩ := id q9
  clear yy
  replace PR := PR.below hb9
  replace BB := bl_trans BB hb9
  clear hb9
  have r0 := PR.c0
  have r1 := PR.c1
  have r2 := PR.c2
  have f0 := PR.f 0
  have f1 := PR.f 1
  have f2 := PR.f 2
  go_wp2_with fail
  have PF := PR.set3 (b' := b9) (A' := A9) (n' := n9) (c' := c9) (B' := B9) (m' := m9) (d' := d9)
  obtain ⟨_, e1, fb, fq⟩ := fin_q (g := w.heap.size) q9 BB (by omega) (by omega) (.bool b9) (.slice A9 n9 c9) (.slice B9 m9 d9)
  cases e1
  clear r0 r1 r2 f0 f1 f2
  generalize World.setCell _ ⟨w.heap.size, 2, none⟩ _ = W9 at PF fq fb ⊢
  have z0 := PF.c0
  have z1 := PF.c1
  have z2 := PF.c2
  exact bodyPost_ret (v := .tuple #[.agg #[.bool b9, .slice A9 n9 c9, .slice B9 m9 d9], .bool false]) (by simp [results, Tryz.results44, go_sem, z0, z1, z2]) rfl ⟨_, rfl, fb, _, _, _, _, _, _, _, rfl, fq⟩

end Go.Proofs.YtbhgbilhoonopaaGreat
