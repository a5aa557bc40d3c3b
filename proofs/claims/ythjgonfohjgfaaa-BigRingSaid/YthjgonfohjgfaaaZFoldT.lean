/- big.fold of rows, by times. -/
import Derived.Test.YthjgonfohjgfaaaZFold
namespace Go.Proofs.Ythjgonfohjgfaaa
open Go.RowKit
set_option linter.unusedVariables false
set_option maxRecDepth 100000

section
variable {w : World} {b0 s t : Bool} {A0 A B : Option Addr} {n0 c0 n c m d k j g o : Nat} {z0 z u : Int} {ls : List ZE}
set_option maxHeartbeats 1000000

theorem rfold_times1 (hN : Zm w b0 A0 n0 c0 1 2) (h : Zs w g o ls 10) (hl : ls.length = 1) (q : Nat) :
    Calls Try.prog 59 #[.slice (some ⟨g, o, none⟩) 1 q, .agg #[.bool b0, .slice A0 n0 c0], .func (Fn.func 63) #[] #[]] w (GivZ w (prodZ ls) 12) := by
  match ls, hl with
  | [e], _ =>
    have h0 := h.cell 0 e rfl
    have := fold_times1 hN (h.zm e (by simp)) (by omega) h0.1 h0.2 q
    rw [show (1 : Int) * e.z = prodZ [e] by simp [prodZ]] at this
    exact this
theorem rfold_times2 (hN : Zm w b0 A0 n0 c0 1 2) (h : Zs w g o ls 10) (hl : ls.length = 2) (q : Nat) :
    Calls Try.prog 59 #[.slice (some ⟨g, o, none⟩) 2 q, .agg #[.bool b0, .slice A0 n0 c0], .func (Fn.func 63) #[] #[]] w (GivZ w (prodZ ls) 20) := by
  match ls, hl with
  | [e, e'], _ =>
    have h0 := h.cell 0 e rfl
    have h1 := h.cell 1 e' rfl
    have := fold_times2 (b0 := b0) (A0 := A0) (n0 := n0) (c0 := c0) (h.zm e (by simp)) (h.zm e' (by simp)) (by omega) (by omega) (by omega) h0.1 h0.2 h1.1 h1.2 q
    rw [show e.z * e'.z = prodZ [e, e'] by simp [prodZ]] at this
    exact this

theorem rfold_times3 (hN : Zm w b0 A0 n0 c0 1 2) (h : Zs w g o ls 10) (hl : ls.length = 3) (q : Nat) (hq : 3 ≤ q) :
    Calls Try.prog 59 #[.slice (some ⟨g, o, none⟩) 3 q, .agg #[.bool b0, .slice A0 n0 c0], .func (Fn.func 63) #[] #[]] w (GivZ w (prodZ ls) 32) := by
  have N0 := ((hN.alloc (.cells #[.bool b0, .slice A0 n0 c0] 32)).alloc (.cells #[.bool false, .slice none 0 0] 32)).below (Below.drew (Below.refl _ _))
  have L := (((h.take 1).alloc (.cells #[.bool b0, .slice A0 n0 c0] 32)).alloc (.cells #[.bool false, .slice none 0 0] 32)).below (Below.drew (Below.refl _ _))
  have R := (((h.drop 1 (q := o + 2) (by omega)).alloc (.cells #[.bool b0, .slice A0 n0 c0] 32)).alloc (.cells #[.bool false, .slice none 0 0] 32)).below (Below.drew (Below.refl _ _))
  have hL : (ls.take 1).length = 1 := by rw [List.length_take, hl]; rfl
  have hR : (ls.drop 1).length = 2 := by rw [List.length_drop, hl]
  have HL := Lib.hid hL
  have HR := Lib.hid hR
  have HT := Lib.hid (prodZ_cut ls 1)
  have PN := ((Bz.new w b0 A0 n0 c0).alloc (.cells #[.bool false, .slice none 0 0] 32)).drew
  have PR := (Bz.new2 w (.cells #[.bool b0, .slice A0 n0 c0] 32) false none 0 0).drew
  have BB := Below.drew (bl_trans (bl_alloc w (.cells #[.bool b0, .slice A0 n0 c0] 32)) (bl_alloc _ (.cells #[.bool false, .slice none 0 0] 32)))
  have q1 : (1 : Int) ≤ (q : Int) := by omega
  have q2 : (3 : Int) ≤ (q : Int) := by omega
  have q3 : (1 : Int) < (q : Int) := by omega
  have q4 : ¬ (q = 1) := by omega
  have q5 : 1 < q := by omega
  have q6 : 3 ≤ q := hq
  clear hL hR hl h hN
  go_enter Try.func59, Try.ntmps59
  go_wp2_with fail
  go_region_held3 (fun w' => w'.cell? ⟨w.heap.size, 0, none⟩ = some (.bool b0) ∧ w'.cell? ⟨w.heap.size, 1, none⟩ = some (.slice A0 n0 c0))
    (first | exact ⟨(PN.st2 (by omega)).c0, (PN.st2 (by omega)).c1⟩ | exact ⟨PN.c0, PN.c1⟩)
    (first
      | (go_at_call 59; ((with_reducible refine (rfold_times1 N0 L HL.out _).mono ?_); rintro e w1 ⟨b1, A1, n1, c1, rfl, Z1, hb1⟩; replace N0 := N0.below hb1; replace R := R.below hb1; replace PN := PN.below hb1; replace PR := PR.below hb1; replace BB := bl_trans BB hb1; clear hb1 L))
      | (go_at_call 59; ((with_reducible refine (rfold_times2 N0 R HR.out _).mono ?_); rintro e w2 ⟨b2, A2, n2, c2, rfl, Z2, hb2⟩; replace Z1 := Z1.below hb2; replace PN := PN.below hb2; replace PR := PR.below hb2; replace BB := bl_trans BB hb2; clear hb2 R N0))
      | (go_at_call 63; refine (timesZ Z1.zm Z2.zm (by omega) (by omega) (by omega)).mono ?_; rintro e w3 ⟨b3, A3, n3, c3, rfl, Z, hb3⟩; have hs := PR.lt; replace PN := PN.below hb3; replace PR := PR.below hb3; replace BB := bl_trans BB hb3; have r0 := PR.c0; have r1 := PR.c1; have f0 := PR.f 0; have f1 := PR.f 1; clear hb3))
  rw [HT.out] at Z
  go_wp2_with fail
  exact bodyPost_ret (v := .agg #[.bool b3, .slice A3 n3 c3]) (by simp [results, Try.results59, go_sem, *]) rfl ⟨_, _, _, _, rfl, fin_z Z BB (by omega) (by omega) _ _⟩

theorem rfold_times4 (hN : Zm w b0 A0 n0 c0 1 2) (h : Zs w g o ls 10) (hl : ls.length = 4) (q : Nat) (hq : 4 ≤ q) :
    Calls Try.prog 59 #[.slice (some ⟨g, o, none⟩) 4 q, .agg #[.bool b0, .slice A0 n0 c0], .func (Fn.func 63) #[] #[]] w (GivZ w (prodZ ls) 40) := by
  have N0 := ((hN.alloc (.cells #[.bool b0, .slice A0 n0 c0] 32)).alloc (.cells #[.bool false, .slice none 0 0] 32)).below (Below.drew (Below.refl _ _))
  have L := (((h.take 2).alloc (.cells #[.bool b0, .slice A0 n0 c0] 32)).alloc (.cells #[.bool false, .slice none 0 0] 32)).below (Below.drew (Below.refl _ _))
  have R := (((h.drop 2 (q := o + 4) (by omega)).alloc (.cells #[.bool b0, .slice A0 n0 c0] 32)).alloc (.cells #[.bool false, .slice none 0 0] 32)).below (Below.drew (Below.refl _ _))
  have hL : (ls.take 2).length = 2 := by rw [List.length_take, hl]; rfl
  have hR : (ls.drop 2).length = 2 := by rw [List.length_drop, hl]
  have HL := Lib.hid hL
  have HR := Lib.hid hR
  have HT := Lib.hid (prodZ_cut ls 2)
  have PN := ((Bz.new w b0 A0 n0 c0).alloc (.cells #[.bool false, .slice none 0 0] 32)).drew
  have PR := (Bz.new2 w (.cells #[.bool b0, .slice A0 n0 c0] 32) false none 0 0).drew
  have BB := Below.drew (bl_trans (bl_alloc w (.cells #[.bool b0, .slice A0 n0 c0] 32)) (bl_alloc _ (.cells #[.bool false, .slice none 0 0] 32)))
  have q1 : (2 : Int) ≤ (q : Int) := by omega
  have q2 : (4 : Int) ≤ (q : Int) := by omega
  have q3 : (2 : Int) < (q : Int) := by omega
  have q4 : ¬ (q = 2) := by omega
  have q5 : 2 < q := by omega
  have q6 : 4 ≤ q := hq
  clear hL hR hl h hN
  go_enter Try.func59, Try.ntmps59
  go_wp2_with fail
  go_region_held3 (fun w' => w'.cell? ⟨w.heap.size, 0, none⟩ = some (.bool b0) ∧ w'.cell? ⟨w.heap.size, 1, none⟩ = some (.slice A0 n0 c0))
    (first | exact ⟨(PN.st2 (by omega)).c0, (PN.st2 (by omega)).c1⟩ | exact ⟨PN.c0, PN.c1⟩)
    (first
      | (go_at_call 59; ((with_reducible refine (rfold_times2 N0 L HL.out _).mono ?_); rintro e w1 ⟨b1, A1, n1, c1, rfl, Z1, hb1⟩; replace N0 := N0.below hb1; replace R := R.below hb1; replace PN := PN.below hb1; replace PR := PR.below hb1; replace BB := bl_trans BB hb1; clear hb1 L))
      | (go_at_call 59; ((with_reducible refine (rfold_times2 N0 R HR.out _).mono ?_); rintro e w2 ⟨b2, A2, n2, c2, rfl, Z2, hb2⟩; replace Z1 := Z1.below hb2; replace PN := PN.below hb2; replace PR := PR.below hb2; replace BB := bl_trans BB hb2; clear hb2 R N0))
      | (go_at_call 63; refine (timesZ Z1.zm Z2.zm (by omega) (by omega) (by omega)).mono ?_; rintro e w3 ⟨b3, A3, n3, c3, rfl, Z, hb3⟩; have hs := PR.lt; replace PN := PN.below hb3; replace PR := PR.below hb3; replace BB := bl_trans BB hb3; have r0 := PR.c0; have r1 := PR.c1; have f0 := PR.f 0; have f1 := PR.f 1; clear hb3))
  rw [HT.out] at Z
  go_wp2_with fail
  exact bodyPost_ret (v := .agg #[.bool b3, .slice A3 n3 c3]) (by simp [results, Try.results59, go_sem, *]) rfl ⟨_, _, _, _, rfl, fin_z Z BB (by omega) (by omega) _ _⟩

theorem rfold_times5 (hN : Zm w b0 A0 n0 c0 1 2) (h : Zs w g o ls 10) (hl : ls.length = 5) (q : Nat) (hq : 5 ≤ q) :
    Calls Try.prog 59 #[.slice (some ⟨g, o, none⟩) 5 q, .agg #[.bool b0, .slice A0 n0 c0], .func (Fn.func 63) #[] #[]] w (GivZ w (prodZ ls) 52) := by
  have N0 := ((hN.alloc (.cells #[.bool b0, .slice A0 n0 c0] 32)).alloc (.cells #[.bool false, .slice none 0 0] 32)).below (Below.drew (Below.refl _ _))
  have L := (((h.take 2).alloc (.cells #[.bool b0, .slice A0 n0 c0] 32)).alloc (.cells #[.bool false, .slice none 0 0] 32)).below (Below.drew (Below.refl _ _))
  have R := (((h.drop 2 (q := o + 4) (by omega)).alloc (.cells #[.bool b0, .slice A0 n0 c0] 32)).alloc (.cells #[.bool false, .slice none 0 0] 32)).below (Below.drew (Below.refl _ _))
  have hL : (ls.take 2).length = 2 := by rw [List.length_take, hl]; rfl
  have hR : (ls.drop 2).length = 3 := by rw [List.length_drop, hl]
  have HL := Lib.hid hL
  have HR := Lib.hid hR
  have HT := Lib.hid (prodZ_cut ls 2)
  have PN := ((Bz.new w b0 A0 n0 c0).alloc (.cells #[.bool false, .slice none 0 0] 32)).drew
  have PR := (Bz.new2 w (.cells #[.bool b0, .slice A0 n0 c0] 32) false none 0 0).drew
  have BB := Below.drew (bl_trans (bl_alloc w (.cells #[.bool b0, .slice A0 n0 c0] 32)) (bl_alloc _ (.cells #[.bool false, .slice none 0 0] 32)))
  have q1 : (2 : Int) ≤ (q : Int) := by omega
  have q2 : (5 : Int) ≤ (q : Int) := by omega
  have q3 : (2 : Int) < (q : Int) := by omega
  have q4 : ¬ (q = 2) := by omega
  have q5 : 2 < q := by omega
  have q6 : 5 ≤ q := hq
  clear hL hR hl h hN
  go_enter Try.func59, Try.ntmps59
  go_wp2_with fail
  go_region_held3 (fun w' => w'.cell? ⟨w.heap.size, 0, none⟩ = some (.bool b0) ∧ w'.cell? ⟨w.heap.size, 1, none⟩ = some (.slice A0 n0 c0))
    (first | exact ⟨(PN.st2 (by omega)).c0, (PN.st2 (by omega)).c1⟩ | exact ⟨PN.c0, PN.c1⟩)
    (first
      | (go_at_call 59; ((with_reducible refine (rfold_times2 N0 L HL.out _).mono ?_); rintro e w1 ⟨b1, A1, n1, c1, rfl, Z1, hb1⟩; replace N0 := N0.below hb1; replace R := R.below hb1; replace PN := PN.below hb1; replace PR := PR.below hb1; replace BB := bl_trans BB hb1; clear hb1 L))
      | (go_at_call 59; ((with_reducible refine (rfold_times3 N0 R HR.out _ (by omega)).mono ?_); rintro e w2 ⟨b2, A2, n2, c2, rfl, Z2, hb2⟩; replace Z1 := Z1.below hb2; replace PN := PN.below hb2; replace PR := PR.below hb2; replace BB := bl_trans BB hb2; clear hb2 R N0))
      | (go_at_call 63; refine (timesZ Z1.zm Z2.zm (by omega) (by omega) (by omega)).mono ?_; rintro e w3 ⟨b3, A3, n3, c3, rfl, Z, hb3⟩; have hs := PR.lt; replace PN := PN.below hb3; replace PR := PR.below hb3; replace BB := bl_trans BB hb3; have r0 := PR.c0; have r1 := PR.c1; have f0 := PR.f 0; have f1 := PR.f 1; clear hb3))
  rw [HT.out] at Z
  go_wp2_with fail
  exact bodyPost_ret (v := .agg #[.bool b3, .slice A3 n3 c3]) (by simp [results, Try.results59, go_sem, *]) rfl ⟨_, _, _, _, rfl, fin_z Z BB (by omega) (by omega) _ _⟩

theorem rfold_times6 (hN : Zm w b0 A0 n0 c0 1 2) (h : Zs w g o ls 10) (hl : ls.length = 6) (q : Nat) (hq : 6 ≤ q) :
    Calls Try.prog 59 #[.slice (some ⟨g, o, none⟩) 6 q, .agg #[.bool b0, .slice A0 n0 c0], .func (Fn.func 63) #[] #[]] w (GivZ w (prodZ ls) 64) := by
  have N0 := ((hN.alloc (.cells #[.bool b0, .slice A0 n0 c0] 32)).alloc (.cells #[.bool false, .slice none 0 0] 32)).below (Below.drew (Below.refl _ _))
  have L := (((h.take 3).alloc (.cells #[.bool b0, .slice A0 n0 c0] 32)).alloc (.cells #[.bool false, .slice none 0 0] 32)).below (Below.drew (Below.refl _ _))
  have R := (((h.drop 3 (q := o + 6) (by omega)).alloc (.cells #[.bool b0, .slice A0 n0 c0] 32)).alloc (.cells #[.bool false, .slice none 0 0] 32)).below (Below.drew (Below.refl _ _))
  have hL : (ls.take 3).length = 3 := by rw [List.length_take, hl]; rfl
  have hR : (ls.drop 3).length = 3 := by rw [List.length_drop, hl]
  have HL := Lib.hid hL
  have HR := Lib.hid hR
  have HT := Lib.hid (prodZ_cut ls 3)
  have PN := ((Bz.new w b0 A0 n0 c0).alloc (.cells #[.bool false, .slice none 0 0] 32)).drew
  have PR := (Bz.new2 w (.cells #[.bool b0, .slice A0 n0 c0] 32) false none 0 0).drew
  have BB := Below.drew (bl_trans (bl_alloc w (.cells #[.bool b0, .slice A0 n0 c0] 32)) (bl_alloc _ (.cells #[.bool false, .slice none 0 0] 32)))
  have q1 : (3 : Int) ≤ (q : Int) := by omega
  have q2 : (6 : Int) ≤ (q : Int) := by omega
  have q3 : (3 : Int) < (q : Int) := by omega
  have q4 : ¬ (q = 3) := by omega
  have q5 : 3 < q := by omega
  have q6 : 6 ≤ q := hq
  clear hL hR hl h hN
  go_enter Try.func59, Try.ntmps59
  go_wp2_with fail
  go_region_held3 (fun w' => w'.cell? ⟨w.heap.size, 0, none⟩ = some (.bool b0) ∧ w'.cell? ⟨w.heap.size, 1, none⟩ = some (.slice A0 n0 c0))
    (first | exact ⟨(PN.st2 (by omega)).c0, (PN.st2 (by omega)).c1⟩ | exact ⟨PN.c0, PN.c1⟩)
    (first
      | (go_at_call 59; ((with_reducible refine (rfold_times3 N0 L HL.out _ (by omega)).mono ?_); rintro e w1 ⟨b1, A1, n1, c1, rfl, Z1, hb1⟩; replace N0 := N0.below hb1; replace R := R.below hb1; replace PN := PN.below hb1; replace PR := PR.below hb1; replace BB := bl_trans BB hb1; clear hb1 L))
      | (go_at_call 59; ((with_reducible refine (rfold_times3 N0 R HR.out _ (by omega)).mono ?_); rintro e w2 ⟨b2, A2, n2, c2, rfl, Z2, hb2⟩; replace Z1 := Z1.below hb2; replace PN := PN.below hb2; replace PR := PR.below hb2; replace BB := bl_trans BB hb2; clear hb2 R N0))
      | (go_at_call 63; refine (timesZ Z1.zm Z2.zm (by omega) (by omega) (by omega)).mono ?_; rintro e w3 ⟨b3, A3, n3, c3, rfl, Z, hb3⟩; have hs := PR.lt; replace PN := PN.below hb3; replace PR := PR.below hb3; replace BB := bl_trans BB hb3; have r0 := PR.c0; have r1 := PR.c1; have f0 := PR.f 0; have f1 := PR.f 1; clear hb3))
  rw [HT.out] at Z
  go_wp2_with fail
  exact bodyPost_ret (v := .agg #[.bool b3, .slice A3 n3 c3]) (by simp [results, Try.results59, go_sem, *]) rfl ⟨_, _, _, _, rfl, fin_z Z BB (by omega) (by omega) _ _⟩
end

end Go.Proofs.Ythjgonfohjgfaaa
