/- Contracts of the program's functions, as far as the claims ask for them (6 of 6). -/
import Derived.Lib.ConvBytes
import Derived.Test.YtbhgbilhoonopaaGreatV5
namespace Go.Proofs.YtbhgbilhoonopaaGreat
open Go.RowKit
set_option linter.unusedVariables false

/-- A row of bytes that may be written, whole. -/
structure By (w : World) (g : Nat) (ds : List Nat) : Prop where
 lt : g < w.heap.size
 blk : ∃ (cur : Array Value) (p : Nat × Nat), w.heap[g]? = some (.cells cur 5 p) ∧ ds.length ≤ p.1 ∧ ∀ (i x : Nat), ds[i]? = some x → cur[i]? = some (.int .u8 (x : Int))

section
variable {w w' : World} {g : Nat} {ds : List Nat}
theorem By.cell (h : By w g ds) {i x : Nat} (hx : ds[i]? = some x) : w.cell? ⟨g, i, none⟩ = some (.int .u8 (x : Int)) := by
 obtain ⟨cur, p, hh, _, hc⟩ := h.blk
 rw [cell_of_row w g i cur _ p hh]
 exact hc i x hx
theorem By.fr (h : By w g ds) {i : Nat} (hi : i < ds.length) : w.frozen? ⟨g, i, none⟩ = false := by
 obtain ⟨cur, ⟨lo, up⟩, hh, hl, _⟩ := h.blk
 have h1 : ¬ lo ≤ i := by simp at hl; omega
 simp [World.frozen?, hh, h1]
theorem By.below (h : By w g ds) (hb : Below w.heap.size w w') : By w' g ds := by
 obtain ⟨cur, p, hh, hl, hc⟩ := h.blk
 exact ⟨Nat.lt_of_lt_of_le h.lt hb.size, cur, p, by rw [hb.block g h.lt]; exact hh, hl, hc⟩
theorem By.grown {row : Option Nat} (h : By w g ds) (hb : w.grownBy w' row) (hr : some g ≠ row) : By w' g ds := by
 obtain ⟨cur, p, hh, hl, hc⟩ := h.blk
 exact ⟨Nat.lt_of_lt_of_le h.lt hb.size, cur, p, by rw [hb.block g h.lt hr]; exact hh, hl, hc⟩
theorem By.drew (h : By w g ds) : By w.drew g ds := ⟨h.lt, h.blk⟩
theorem By.set (h : By w g ds) (k z : Nat) : By (w.setCell ⟨g, k, none⟩ (.int .u8 (z : Int))) g (ds.set k z) := by
 obtain ⟨cur, p, hh, hl, hc⟩ := h.blk
 refine ⟨by simp only [World.setCell, Array.size_modify]; exact h.lt, cur.setIfInBounds k (.int .u8 (z : Int)), p, by simp [World.setCell, Array.getElem?_modify, hh], by rw [List.length_set]; exact hl, fun i x hx => ?_⟩
 rw [List.getElem?_set] at hx
 rw [Array.getElem?_setIfInBounds]
 by_cases hki : k = i
 ·subst hki
  rw [if_pos rfl] at hx ⊢
  by_cases hkl : k < ds.length
  ·rw [if_pos hkl] at hx
   injection hx with hx
   have hc' := hc k _ (List.getElem?_eq_getElem hkl)
   rw [if_pos (Array.getElem?_eq_some_iff.1 hc').1, hx]
  ·rw [if_neg hkl] at hx
   cases hx
 ·rw [if_neg hki] at hx ⊢
  exact hc i x hx
end

/-- A text's bytes as a row of its own. -/
theorem conv_bytes (w : World) (s : ByteArray) : ∃ (w1 : World) (c : Nat), (convert 9 50 (.string s)).run Tryz.prog w = .ok (.slice (some ⟨w.heap.size, 0, none⟩) s.size c) w1 ∧ By w1 w.heap.size (M.bytes s) ∧ Below w.heap.size w w1 ∧ w1.heap.size = w.heap.size + 1 := by
 refine ⟨_, _, Lib.run_convert_string_bytes w 9 50 5 s Tryz.underlying9 Tryz.underlying50 Tryz.underlying5, ⟨by rw [Lib.bytesWorld_size]; omega, _, _, Lib.bytesWorld_at_new w _ s, ?_, fun i x hx => ?_⟩, ⟨?_, ?_, ?_, by rw [Lib.bytesWorld_size]; omega, fun k hk => Lib.bytesWorld_at_old w _ s k hk⟩, Lib.bytesWorld_size w _ s⟩
 ·rw [M.bytes_len]
  simp [Lib.bytesCells]
 ·have hi : i < s.size := by rw [← M.bytes_len]; exact (List.getElem?_eq_some_iff.1 hx).1
  rw [M.bytes_get s i hi] at hx
  injection hx with hx
  subst hx
  simp [Lib.bytesCells, Array.getElem?_append, hi]
  rfl
 all_goals rfl

theorem index_a2 (w : World) (u v : ByteArray) : (Instr.index 51 (.agg #[.string u, .string v]) (.int .i64 0)).run Tryz.prog w = .ok (.string u) w ∧ (Instr.index 51 (.agg #[.string u, .string v]) (.int .i64 1)).run Tryz.prog w = .ok (.string v) w := by
 constructor <;> simp [Instr.index, run_underlying Tryz.underlying51, asIntOf, go_sem]
theorem tmod_nat (x n : Nat) : (x : Int).tmod (n : Int) = ((x % n : Nat) : Int) := rfl

/-- A row of bytes as a text. -/
theorem By.back {w : World} {g : Nat} {ds : List Nat} (h : By w g ds) (n c : Nat) (hn : ds.length = n) : ∃ u : ByteArray, u.size = n ∧ (convert 50 9 (.slice (some ⟨g, 0, none⟩) n c)).run Tryz.prog w = .ok (.string u) w := by
 refine ⟨strOfNums (ds.map fun x : Nat => (x : Int)), by rw [strOfNums_size, List.length_map, hn], ?_⟩
 refine run_convert_bytes_arg (P := Tryz.prog) w 50 5 Tryz.underlying50 Tryz.underlying5 g 0 n c _ (by rw [List.length_map]; exact hn) (fun i hi => ?_) 9 Tryz.underlying9
 obtain ⟨x, hx⟩ : ∃ x, ds[i]? = some x := ⟨_, List.getElem?_eq_getElem (by omega)⟩
 rw [Nat.zero_add, h.cell hx, List.getD_eq_getElem?_getD, List.getElem?_map, hx]
 rfl

namespace M
theorem dec_le (v : Nat) (l : List Nat) : v ≤ dec v l := by
 rw [dec_shift]
 have h1 : 0 < 10 ^ l.length := Nat.pow_pos (by omega)
 have h2 : v * 1 ≤ v * 10 ^ l.length := Nat.mul_le_mul_left v h1
 omega
theorem dec_pos {y : Nat} {l : List Nat} (h : 49 ≤ y) : 0 < dec 0 (y :: l) := by
 rw [dec_cons]
 have := dec_le (0 * 10 + (y - 48)) l
 omega
theorem dec_nought (l : List Nat) : dec 0 (48 :: l) = dec 0 l := by rw [dec_cons]
theorem half_step {hs tl : List Nat} {r x V : Nat} (hr : r ≤ 1) (h : dec (2 * dec 0 hs + r) (x :: tl) = V) (hx : 48 ≤ x) : dec (2 * dec 0 (hs ++ [48 + (10 * r + (x - 48)) / 2]) + (10 * r + (x - 48)) % 2) tl = V := by
 rw [dec_cons] at h
 rw [dec_snoc, ← h]
 congr 1
 omega
/-- How many bits there are at most. -/
theorem bits_few {L V n : Nat} (hV : 0 < V) (h : 2 ^ L * V < 10 ^ n) : L ≤ 4 * n := by
 refine Nat.le_of_not_lt fun hc => ?_
 have h1 : (10 : Nat) ^ n ≤ 16 ^ n := Nat.pow_le_pow_left (by omega) n
 have h2 : (16 : Nat) ^ n = 2 ^ (4 * n) := by rw [Nat.pow_mul]
 have h3 : (2 : Nat) ^ (4 * n) ≤ 2 ^ L := Nat.pow_le_pow_right (by omega) (by omega)
 have h4 : 2 ^ L * 1 ≤ 2 ^ L * V := Nat.mul_le_mul_left _ hV
 omega
end M

set_option maxHeartbeats 2000000 in
theorem digitsR_any (s : ByteArray) (w : World) (hs : s.size ≤ 1048576) :
  Calls Tryz.prog 130 #[.string s] w fun e w' => e = .returned (.bool (decide (M.Digits (M.bytes s)))) ∧ w = w' := by
 have hlen := M.bytes_len s
 by_cases h0 : s.size = 0
 ·have he : s.toList.isEmpty = true := by rw [toList_empty]; simp [h0]
  have hno : decide (M.Digits (M.bytes s)) = false := by
   rw [decide_eq_false_iff_not]
   intro hc
   exact hc.1 (List.eq_nil_of_length_eq_zero (by omega))
  rw [hno]
  clear hno hlen h0
  go_enter Tryz.func130, Tryz.ntmps130
  go_wp2
  go_ret
  exact ⟨rfl, rfl⟩
 ·have he : s.toList.isEmpty = false := by rw [toList_empty]; simp [h0]
  have hpos : 0 < s.size := by omega
  have hx0 := M.bytes_get s 0 hpos
  by_cases hz : s[0].toNat = 48 ∧ 1 < s.size
  ·have hno : decide (M.Digits (M.bytes s)) = false := by
    rw [decide_eq_false_iff_not]
    intro hc
    have := hc.2.1 (by rw [hx0, hz.1])
    omega
   rw [hno]
   obtain ⟨hz1, hz2⟩ := hz
   have hzb : ((s[0].toNat : Int) == 48) = true := by simp; omega
   clear hno hlen hx0 h0 hz1
   go_enter Tryz.func130, Tryz.ntmps130
   go_wp2
   go_ret
   exact ⟨rfl, rfl⟩
  ·have main : ∀ (hyp : (((s[0].toNat : Int) == 48) = true ∧ s.size ≤ 1) ∨ ((s[0].toNat : Int) == 48) = false), Calls Tryz.prog 130 #[.string s] w fun e w' => e = .returned (.bool (decide (M.Digits (M.bytes s)))) ∧ w = w' := by
    have h1 : (M.bytes s)[0]? = some 48 → (M.bytes s).length = 1 := by
     intro h
     rw [hx0] at h
     injection h with h
     omega
    have h2 : M.bytes s ≠ [] := by
     intro h
     rw [h] at hlen
     simp at hlen
     omega
    have hiff : decide (M.Digits (M.bytes s)) = decide (M.Dig (M.bytes s)) := by
     rw [decide_eq_decide]
     exact ⟨fun h => h.2.2, fun h => ⟨h2, h1, h⟩⟩
    have HI := Lib.hid hiff
    clear hiff h1 h2 hx0 hz h0 hlen
    rintro (⟨hzb, hz1⟩ | hzb)
    all_goals
     go_enter Tryz.func130, Tryz.ntmps130
     go_wp2
     go_loop [3] (fun i => ∃ k : Nat, k ≤ s.size ∧ i = .int .i64 k ∧ M.Dig ((M.bytes s).take k)) (fun i => s.size - (intOf i).toNat)
     case atStart => exact ⟨0, Nat.zero_le _, rfl, by intro x hx; simp at hx⟩
     case round =>
      obtain ⟨k, hk, rfl, hd⟩ := hrel
      have HD := Lib.hid hd
      clear hd
      by_cases hkn : k < s.size
      ·have hx := M.bytes_get s k hkn
       have HX := Lib.hid hx
       clear hx
       by_cases hlo : (s[k].toNat : Int) < 48
       ·have HN := Lib.hid (show decide (M.Digits (M.bytes s)) = false by
         rw [HI.out, decide_eq_false_iff_not]
         intro hc
         have := hc _ (List.mem_of_getElem? HX.out)
         omega)
        go_wp2
        go_ret
        exact ⟨ret_bool HN.out.symm, rfl⟩
       ·by_cases hhi : (57 : Int) < s[k].toNat
        ·have HN := Lib.hid (show decide (M.Digits (M.bytes s)) = false by
          rw [HI.out, decide_eq_false_iff_not]
          intro hc
          have := hc _ (List.mem_of_getElem? HX.out)
          omega)
         go_wp2
         go_ret
         exact ⟨ret_bool HN.out.symm, rfl⟩
        ·have HN := Lib.hid (show M.Dig ((M.bytes s).take (k + 1)) by
          rw [List.take_add_one, HX.out]
          intro x hx
          rcases List.mem_append.1 hx with hx | hx
          ·exact HD.out x hx
          ·simp at hx
           subst hx
           omega)
         go_wp2
         go_round
         case rel => exact ⟨k + 1, by omega, by go_num, HN.out⟩
         case measure => simp [intOf]; omega
      ·have HN := Lib.hid (show decide (M.Digits (M.bytes s)) = true by
        rw [HI.out, decide_eq_true_iff]
        have := HD.out
        rw [List.take_of_length_le (by rw [M.bytes_len]; omega)] at this
        exact this)
       go_wp2
       go_ret
       exact ⟨ret_bool HN.out.symm, rfl⟩
   by_cases h48 : s[0].toNat = 48
   ·exact main (.inl ⟨by simp; omega, by omega⟩)
   ·exact main (.inr (by simp; omega))

set_option maxHeartbeats 400000 in
theorem parseR_no (s : ByteArray) (w : World) (hs : s.size ≤ 1048576) (hd : ¬ M.Digits (M.bytes s)) :
  Calls Tryz.prog 95 #[.string s] w (GivesB w [] false) := by
 have hd' := Lib.hid (show decide (M.Digits (M.bytes s)) = false by rw [decide_eq_false_iff_not]; exact hd)
 clear hd
 go_enter Tryz.func95, Tryz.ntmps95
 go_wp2_with fail
 refine (digitsR_any _ _ hs).mono ?_
 rw [hd'.out]
 rintro e w' ⟨rfl, rfl⟩
 go_wp2
 go_ret2
 exact ⟨none, 0, rfl, OwK.nil_ _ _, Below.refl _ _⟩

set_option maxHeartbeats 4000000 in
theorem parseR_yes (s : ByteArray) (w : World) (hs : s.size ≤ 1000) (hd : M.Digits (M.bytes s)) :
  Calls Tryz.prog 95 #[.string s] w (GivesB w (M.lims (M.dec 0 (M.bytes s))) true) := by
 obtain ⟨V0, hV0⟩ : ∃ V0, V0 = M.dec 0 (M.bytes s) := ⟨_, rfl⟩
 obtain ⟨n, hn⟩ : ∃ n, n = s.size := ⟨_, rfl⟩
 have hbound : V0 < 10 ^ n := by rw [hV0, hn, ← M.bytes_len]; exact M.dec_lt hd.2.2
 rw [← hV0]
 have hd' := Lib.hid (show decide (M.Digits (M.bytes s)) = true by rw [decide_eq_true_iff]; exact hd)
 have HDg := Lib.hid hd.2.2
 have HV0 := Lib.hid hV0
 have HN := Lib.hid hn
 have HBD := Lib.hid hbound
 have hn1 : n ≤ 1000 := by omega
 have hn0 : 0 < n := by
  rw [hn, ← M.bytes_len]
  exact List.length_pos_iff.2 hd.1
 obtain ⟨w1, c, hconv, by1, bl1, hs1⟩ := conv_bytes w s
 have hl1 := M.bytes_len s
 rw [← hn] at hconv hl1
 have HBY := Lib.hid by1
 have HB1 := Lib.hid bl1
 have HS1 := Lib.hid hs1
 have HL1 := Lib.hid hl1
 clear hd hV0 hn hbound by1 bl1 hs1 hl1
 go_enter Tryz.func95, Tryz.ntmps95
 go_wp2_with fail
 refine (digitsR_any _ _ (by omega)).mono ?_
 rw [hd'.out]
 rintro e w' ⟨rfl, rfl⟩
 clear hd'
 go_wp2
 go_loopg [5, 6] (V0 + 1) (fun g v i wr => ∃ (f L cp : Nat) (D : Option Addr) (bs : List Bool) (ds : List Nat), f ≤ n ∧ g = (if f < n then M.dec 0 (ds.drop f) + 1 else 0) ∧ i = .int .i64 (f : Int) ∧ v = .slice D L cp ∧ L ≤ 4 * n + 1 ∧ OwB wr (w.heap.size + 1) D L cp bs ∧ ds.length = n ∧ M.Dig ds ∧ By wr w.heap.size ds ∧ V0 = M.bval bs + 2 ^ L * M.dec 0 (ds.drop f) ∧ (L = 0 ∨ f = n ∨ 0 < M.dec 0 (ds.drop f)) ∧ Below w.heap.size w wr)
 case atStart =>
  refine ⟨0, 0, 0, none, [], M.bytes s, Nat.zero_le _, ?_, rfl, rfl, by omega, OwK.nil_ _ _, HL1.out, HDg.out, HBY.out, ?_, .inl rfl, HB1.out⟩
  ·rw [if_pos hn0, List.drop_zero, ← HV0.out]
  ·rw [List.drop_zero, ← HV0.out]
   simp [M.bval]
 case round =>
  obtain ⟨wo, rfl⟩ : ∃ wo, wo = wr := ⟨_, rfl⟩
  obtain ⟨f, L, cp, D, bs, ds, hf, hg, rfl, rfl, hL, ho, hdl, hdd, hby, hv, hor, hb⟩ := hrel
  have HG := Lib.hid hg
  have HO := Lib.hid ho
  have HDL := Lib.hid hdl
  have HDD := Lib.hid hdd
  have HY := Lib.hid hby
  have HV := Lib.hid hv
  have HOR := Lib.hid hor
  have HB := Lib.hid hb
  clear hg ho hdl hdd hby hv hor hb
  by_cases hfn : f < n
  ·have hhs : Hid (w.heap.size < wo.heap.size) := Lib.hid HY.out.lt
   have hL4 : L ≤ 4 * n := by
    rcases HOR.out with h | h | h
    ·omega
    ·omega
    ·have h1 := HV.out
     have h2 := HBD.out
     exact M.bits_few h (by omega)
   have HL4 := Lib.hid hL4
   go_wp2
   go_loopg [7, 8] (n - f) (fun g q v wi => ∃ (k r : Nat) (hs tl : List Nat), f ≤ k ∧ k ≤ n ∧ g = n - k ∧ q = .int .u8 (r : Int) ∧ v = .int .i64 (k : Int) ∧ r ≤ 1 ∧ hs.length = k - f ∧ tl = ds.drop k ∧ M.Dig hs ∧ M.dec (2 * M.dec 0 hs + r) tl = M.dec 0 (ds.drop f) ∧ By wi w.heap.size (ds.take f ++ hs ++ tl) ∧ wo.grownBy wi (some w.heap.size))
   case atStart =>
    refine ⟨f, 0, [], ds.drop f, Nat.le_refl _, by omega, rfl, rfl, rfl, by omega, by simp, rfl, (fun x hx => by cases hx), rfl, ?_, World.grownBy.refl _ _⟩
    rw [List.append_nil, List.take_append_drop]
    exact HY.out
   case round =>
    obtain ⟨k, r, hs', tl, hfk, hkn, hg2, rfl, rfl, hr1, hsl, htl, hsd, hdv, hby2, hgr⟩ := hrel
    have HG2 := Lib.hid hg2
    have HSL := Lib.hid hsl
    have HTL := Lib.hid htl
    have HSD := Lib.hid hsd
    have HDV := Lib.hid hdv
    have HY2 := Lib.hid hby2
    have HGR := Lib.hid hgr
    clear hg2 hsl htl hsd hdv hby2 hgr
    by_cases hk : k < n
    ·obtain ⟨x, hx⟩ : ∃ x, ds[k]? = some x := ⟨_, List.getElem?_eq_getElem (by rw [HDL.out]; exact hk)⟩
     have hxd := HDD.out x (List.mem_of_getElem? hx)
     have hxl : 48 ≤ x ∧ x ≤ 57 := hxd
     obtain ⟨hx1, hx2⟩ := hxl
     have hdr : tl = x :: ds.drop (k + 1) := by rw [HTL.out, M.drop_pred hx]
     have hpl : (ds.take f ++ hs').length = k := by rw [List.length_append, List.length_take, HSL.out, HDL.out]; omega
     have hxk : (ds.take f ++ hs' ++ tl)[k]? = some x := by rw [List.getElem?_append_right (by omega), hpl, Nat.sub_self, hdr]; rfl
     have cx := HY2.out.cell hxk
     have fx := HY2.out.fr (i := k) (by rw [List.length_append, hpl, hdr, List.length_cons]; omega)
     obtain ⟨d, hd⟩ : ∃ d, d = 10 * r + (x - 48) := ⟨_, rfl⟩
     obtain ⟨z, hz⟩ : ∃ z, z = 48 + d / 2 := ⟨_, rfl⟩
     obtain ⟨r2, hr2⟩ : ∃ r2, r2 = d % 2 := ⟨_, rfl⟩
     have hst := HDV.out
     rw [hdr] at hst
     replace hst := M.half_step hr1 hst hx1
     rw [← hd, ← hz, ← hr2] at hst
     have hset := HY2.out.set k z
     have hl2 : (ds.take f ++ hs' ++ tl).set k z = ds.take f ++ (hs' ++ [z]) ++ ds.drop (k + 1) := by
      rw [List.set_append, if_neg (by omega), hpl, Nat.sub_self, hdr, List.set_cons_zero, ← List.append_assoc, List.append_assoc _ [z]]
      rfl
     rw [hl2] at hset
     have hzd : M.Dig (hs' ++ [z]) := by
      intro y hy
      rcases List.mem_append.1 hy with hy | hy
      ·exact HSD.out y hy
      ·simp at hy
       omega
     have e1 : (10 * (r : Int) + (x : Int) - 48) = d := by omega
     have e2 : (48 : Int) + (d : Int) / 2 = z := by omega
     have e3 : (d : Int) % 2 = r2 := by omega
     have hdlt : d < 20 := by omega
     have hr21 : r2 ≤ 1 := by omega
     have HST := Lib.hid hst
     have HSET := Lib.hid hset
     have HZD := Lib.hid hzd
     have HGR2 := Lib.hid (World.grownBy.trans HGR.out (grownBy_setCell wr ⟨w.heap.size, k, none⟩ (.int .u8 (z : Int))))
     clear hx hxd hdr hpl hxk hst hset hl2 hzd hd hz hr2
     go_wp2
     go_roundg (n - (k + 1))
     case measure => have := HG2.out; omega
     case rel => exact ⟨k + 1, r2, hs' ++ [z], ds.drop (k + 1), by omega, by omega, rfl, by go_num, by go_num, hr21, by rw [List.length_append, HSL.out, List.length_singleton]; omega, rfl, HZD.out, HST.out, HSET.out, HGR2.out⟩
    ·obtain rfl : k = n := by omega
     have hfin := HDV.out
     rw [HTL.out, List.drop_of_length_le (by rw [HDL.out]; exact Nat.le_refl _), M.dec_nil] at hfin
     have hy2 := HY2.out
     rw [HTL.out, List.drop_of_length_le (by rw [HDL.out]; exact Nat.le_refl _), List.append_nil] at hy2
     obtain ⟨L2, hL2⟩ : ∃ L2, L2 = ds.take f ++ hs' := ⟨_, rfl⟩
     rw [← hL2] at hy2
     have hlen2 : L2.length = k := by rw [hL2, List.length_append, List.length_take, HSL.out, HDL.out]; omega
     have hdrop2 : L2.drop f = hs' := by
      rw [hL2, List.drop_append_of_le_length (by rw [List.length_take, HDL.out]; omega), List.drop_of_length_le (by rw [List.length_take]; omega), List.nil_append]
     have hdig2 : M.Dig L2 := by
      intro y hy
      rw [hL2] at hy
      rcases List.mem_append.1 hy with hy | hy
      ·exact HDD.out y (List.mem_of_mem_take hy)
      ·exact HSD.out y hy
     obtain ⟨V2, hV2⟩ : ∃ V2, V2 = M.dec 0 hs' := ⟨_, rfl⟩
     rw [← hV2] at hfin
     have hd2 : M.dec 0 (L2.drop f) = V2 := by rw [hdrop2, hV2]
     have ho3 := HO.out.grown HGR.out (fun p hp e => by have := (HO.out.lt hp).1; injection e with e; omega)
     have hb3 : Below w.heap.size w wr := HB.out.trans ⟨HGR.out.os, HGR.out.tape, HGR.out.output, HGR.out.size, fun j hj => HGR.out.block j (Nat.lt_of_lt_of_le hj HB.out.size) (fun e => by injection e with e; omega)⟩
     have HF := Lib.hid hfin
     have HY3 := Lib.hid hy2
     have HL2 := Lib.hid hlen2
     have HD2 := Lib.hid hd2
     have HG3 := Lib.hid hdig2
     have HO3 := Lib.hid ho3
     have HB3 := Lib.hid hb3
     clear hfin hy2 hlen2 hd2 hdig2 ho3 hb3 hdrop2 hL2 hV2
     rcases (show r = 0 ∨ r = 1 by omega) with rfl | rfl
     ·go_wp2_with (at_builtin; refine app_own kBool _ rfl _ _ rfl (w.heap.size + 1) D L cp bs rfl (HO3.out.alloc _) _ 1 1 [false] rfl (RdK.one (K := kBool) _ false trivial) (by omega) (by have := HY3.out.lt; simp; omega) ?_; intro A5 c5 w5 ho5 hg5; have HO5 := Lib.hid ho5; have HG5 := Lib.hid hg5; clear ho5 hg5)
      have hy5 : By w5 w.heap.size L2 := (HY3.out.below (bl_alloc _ _)).grown HG5.out (by
       cases D with
       | none => exact fun e => by cases e
       | some q =>
        intro e
        injection e with e
        have := (HO3.out.lt rfl).1
        omega)
      have HY5 := Lib.hid hy5
      have HB5 := Lib.hid (below_app HB3.out HB3.out.size (HO3.out.mono (Nat.le_succ _)) HG5.out)
      clear hy5
      go_loop [6] (fun i => ∃ j : Nat, f ≤ j ∧ j ≤ k ∧ i = .int .i64 (j : Int) ∧ M.dec 0 (L2.drop j) = V2) (fun i => k - (intOf i).toNat)
      case atStart => exact ⟨f, Nat.le_refl _, by omega, rfl, HD2.out⟩
      case round =>
       obtain ⟨j, hfj, hjk, rfl, hdj⟩ := hrel
       have HDJ := Lib.hid hdj
       clear hdj
       by_cases hj : j < k
       ·obtain ⟨y, hy⟩ : ∃ y, L2[j]? = some y := ⟨_, List.getElem?_eq_getElem (by rw [HL2.out]; exact hj)⟩
        have cy := HY5.out.cell hy
        have hyd := HG3.out y (List.mem_of_getElem? hy)
        have hdj := M.drop_pred hy
        by_cases h48 : y = 48
        ·subst h48
         have HN2 := Lib.hid (show M.dec 0 (L2.drop (j + 1)) = V2 by rw [← HDJ.out, hdj, M.dec_nought])
         clear hy hyd hdj
         go_wp2
         go_round
         case rel => exact ⟨j + 1, by omega, by omega, by go_num, HN2.out⟩
         case measure => simp [intOf]; omega
        ·have hyb : ((y : Int) == 48) = false := by simp; omega
         have hpos : 0 < V2 := by rw [← HDJ.out, hdj]; exact M.dec_pos (by omega)
         have HPOS := Lib.hid hpos
         clear hy hyd hdj hpos h48
         go_wp2
         go_roundg (V2 + 1)
         case measure =>
          have h1 := HG.out
          rw [if_pos hfn] at h1
          have h2 := HF.out
          have h3 := HPOS.out
          omega
         case rel =>
          refine ⟨j, L + 1, c5, A5, bs ++ [false], L2, by omega, by rw [if_pos hj, HDJ.out], rfl, rfl, by have := HL4.out; omega, HO5.out, HL2.out, HG3.out, HY5.out, ?_, .inr (.inr (by rw [HDJ.out]; exact HPOS.out)), HB5.out⟩
          rw [HDJ.out, M.bval_append, M.bval_one, HO3.out.len, HV.out, ← HF.out, Nat.pow_succ]
          simp only [Bool.toNat_false]
          rw [Nat.mul_add, Nat.mul_assoc]
          omega
       ·obtain rfl : j = k := by omega
        have hz : V2 = 0 := by rw [← HDJ.out, List.drop_of_length_le (by rw [HL2.out]; exact Nat.le_refl _), M.dec_nil]
        have HZ := Lib.hid hz
        clear hz
        go_wp2
        go_roundg 0
        case measure =>
         have h1 := HG.out
         rw [if_pos hfn] at h1
         omega
        case rel =>
         refine ⟨j, L + 1, c5, A5, bs ++ [false], L2, by omega, by rw [if_neg (by omega)], rfl, rfl, by have := HL4.out; omega, HO5.out, HL2.out, HG3.out, HY5.out, ?_, .inr (.inl rfl), HB5.out⟩
         rw [HDJ.out, M.bval_append, M.bval_one, HO3.out.len, HV.out, ← HF.out, Nat.pow_succ]
         simp only [Bool.toNat_false]
         rw [Nat.mul_add, Nat.mul_assoc]
         omega
     ·go_wp2_with (at_builtin; refine app_own kBool _ rfl _ _ rfl (w.heap.size + 1) D L cp bs rfl (HO3.out.alloc _) _ 1 1 [true] rfl (RdK.one (K := kBool) _ true trivial) (by omega) (by have := HY3.out.lt; simp; omega) ?_; intro A5 c5 w5 ho5 hg5; have HO5 := Lib.hid ho5; have HG5 := Lib.hid hg5; clear ho5 hg5)
      have hy5 : By w5 w.heap.size L2 := (HY3.out.below (bl_alloc _ _)).grown HG5.out (by
       cases D with
       | none => exact fun e => by cases e
       | some q =>
        intro e
        injection e with e
        have := (HO3.out.lt rfl).1
        omega)
      have HY5 := Lib.hid hy5
      have HB5 := Lib.hid (below_app HB3.out HB3.out.size (HO3.out.mono (Nat.le_succ _)) HG5.out)
      clear hy5
      go_loop [6] (fun i => ∃ j : Nat, f ≤ j ∧ j ≤ k ∧ i = .int .i64 (j : Int) ∧ M.dec 0 (L2.drop j) = V2) (fun i => k - (intOf i).toNat)
      case atStart => exact ⟨f, Nat.le_refl _, by omega, rfl, HD2.out⟩
      case round =>
       obtain ⟨j, hfj, hjk, rfl, hdj⟩ := hrel
       have HDJ := Lib.hid hdj
       clear hdj
       by_cases hj : j < k
       ·obtain ⟨y, hy⟩ : ∃ y, L2[j]? = some y := ⟨_, List.getElem?_eq_getElem (by rw [HL2.out]; exact hj)⟩
        have cy := HY5.out.cell hy
        have hyd := HG3.out y (List.mem_of_getElem? hy)
        have hdj := M.drop_pred hy
        by_cases h48 : y = 48
        ·subst h48
         have HN2 := Lib.hid (show M.dec 0 (L2.drop (j + 1)) = V2 by rw [← HDJ.out, hdj, M.dec_nought])
         clear hy hyd hdj
         go_wp2
         go_round
         case rel => exact ⟨j + 1, by omega, by omega, by go_num, HN2.out⟩
         case measure => simp [intOf]; omega
        ·have hyb : ((y : Int) == 48) = false := by simp; omega
         have hpos : 0 < V2 := by rw [← HDJ.out, hdj]; exact M.dec_pos (by omega)
         have HPOS := Lib.hid hpos
         clear hy hyd hdj hpos h48
         go_wp2
         go_roundg (V2 + 1)
         case measure =>
          have h1 := HG.out
          rw [if_pos hfn] at h1
          have h2 := HF.out
          have h3 := HPOS.out
          omega
         case rel =>
          refine ⟨j, L + 1, c5, A5, bs ++ [true], L2, by omega, by rw [if_pos hj, HDJ.out], rfl, rfl, by have := HL4.out; omega, HO5.out, HL2.out, HG3.out, HY5.out, ?_, .inr (.inr (by rw [HDJ.out]; exact HPOS.out)), HB5.out⟩
          rw [HDJ.out, M.bval_append, M.bval_one, HO3.out.len, HV.out, ← HF.out, Nat.pow_succ]
          simp only [Bool.toNat_true]
          rw [Nat.mul_add, Nat.mul_assoc]
          omega
       ·obtain rfl : j = k := by omega
        have hz : V2 = 0 := by rw [← HDJ.out, List.drop_of_length_le (by rw [HL2.out]; exact Nat.le_refl _), M.dec_nil]
        have HZ := Lib.hid hz
        clear hz
        go_wp2
        go_roundg 0
        case measure =>
         have h1 := HG.out
         rw [if_pos hfn] at h1
         omega
        case rel =>
         refine ⟨j, L + 1, c5, A5, bs ++ [true], L2, by omega, by rw [if_neg (by omega)], rfl, rfl, by have := HL4.out; omega, HO5.out, HL2.out, HG3.out, HY5.out, ?_, .inr (.inl rfl), HB5.out⟩
         rw [HDJ.out, M.bval_append, M.bval_one, HO3.out.len, HV.out, ← HF.out, Nat.pow_succ]
         simp only [Bool.toNat_true]
         rw [Nat.mul_add, Nat.mul_assoc]
         omega
  ·obtain rfl : f = n := by omega
   have hend := HV.out
   rw [List.drop_of_length_le (by rw [HDL.out]; exact Nat.le_refl _), M.dec_nil, Nat.mul_zero, Nat.add_zero] at hend
   have HE := Lib.hid hend
   clear hend
   go_wp2_with fail
   refine (limbs_any _ _ _ _ _ HO.out.rd (by omega)).mono ?_
   rw [← HE.out]
   rintro e w9 ⟨A9, c9, rfl, o9, b9⟩
   have HO9 := Lib.hid (o9.mono (base' := w.heap.size) HB.out.size)
   have HB9 := Lib.hid (bl_trans HB.out b9)
   clear o9 b9
   go_wp2
   go_ret2
   exact ⟨A9, c9, rfl, HO9.out, HB9.out⟩

end Go.Proofs.YtbhgbilhoonopaaGreat
namespace Go.Proofs.YtbhgbilhoonopaaGreat
open Go.RowKit
set_option linter.unusedVariables false
set_option maxRecDepth 100000

theorem ext_bytes (s : ByteArray) (a b : Nat) : M.bytes (s.extract a b) = ((M.bytes s).take b).drop a := by rw [M.bytes_extract, List.drop_take]
theorem parts2 {s : ByteArray} {i : Nat} (hi : i < s.size) (h47 : ((s[i].toNat : Int) == 47) = true) : M.bytes s = (M.bytes s).take i ++ 47 :: M.bytes (s.extract (i + 1) s.size) := by
 have hl := M.bytes_len s
 have hg := M.bytes_get s i hi
 have h : s[i].toNat = 47 := by have := eq_of_beq h47; omega
 rw [h] at hg
 have e2 : M.bytes (s.extract (i + 1) s.size) = (M.bytes s).drop (i + 1) := by rw [ext_bytes, List.take_of_length_le (by omega)]
 rw [e2]
 have := List.take_append_drop i (M.bytes s)
 rw [List.drop_eq_getElem_cons (by omega)] at this
 have e := List.getElem?_eq_getElem (l := M.bytes s) (i := i) (by omega)
 rw [hg] at e
 injection e with e
 rw [← e] at this
 exact this.symm
theorem no_succ {s : ByteArray} {i : Nat} (hi : i < s.size) (h47 : ((s[i].toNat : Int) == 47) = false) (hno : 47 ∉ (M.bytes s).take i) : 47 ∉ (M.bytes s).take (i + 1) := by
 have hg := M.bytes_get s i hi
 rw [List.take_add_one, hg]
 intro h
 rcases List.mem_append.1 h with h | h
 ·exact hno h
 ·have e : (47 : Nat) = s[i].toNat := by simpa using h
  rw [← e] at h47
  cases h47
theorem pre_neg {s : ByteArray} {i : Nat} (h0 : 0 < s.size) (h45 : ((s[0].toNat : Int) == 45) = true) (hi : 1 ≤ i) (hs : i ≤ s.size) : (M.bytes s).take i = (if true then [45] else []) ++ M.bytes (s.extract 1 i) := by
 have hg := M.bytes_get s 0 h0
 have h : s[0].toNat = 45 := by have := eq_of_beq h45; omega
 rw [h] at hg
 rw [ext_bytes s 1 i, if_pos rfl]
 cases hb : M.bytes s with
 | nil => rw [hb] at hg; cases hg
 | cons x l =>
  rw [hb] at hg
  injection hg with hg
  obtain ⟨j, rfl⟩ : ∃ j, i = j + 1 := ⟨i - 1, by omega⟩
  rw [List.take_succ_cons, hg]
  rfl
theorem pre_pos {s : ByteArray} {i : Nat} (hs : i ≤ s.size) : (M.bytes s).take i = (if false then [45] else []) ++ M.bytes (s.extract 0 i) := by
 rw [ext_bytes s 0 i]
 rfl
theorem first_pos {s : ByteArray} {i : Nat} (h0 : 0 < s.size) (h45 : ((s[0].toNat : Int) == 45) = false) (hs : i ≤ s.size) : (M.bytes (s.extract 0 i))[0]? ≠ some 45 := by
 rw [ext_bytes s 0 i, List.drop_zero]
 intro h
 have hg := M.bytes_get s 0 h0
 rw [List.getElem?_take] at h
 split at h
 ·rw [hg] at h
  injection h with h
  rw [h] at h45
  cases h45
 ·cases h
theorem tl_ne {s : ByteArray} (h : 0 < s.size) : ¬ s.toList = [] ∧ s.toList.isEmpty = false := by
 have h1 : ¬ s.toList = [] := by
  rw [Lib.toList_data]
  intro e
  have : s.data.toList.length = 0 := by rw [e]; rfl
  have h2 : s.data.toList.length = s.size := rfl
  omega
 exact ⟨h1, by cases hh : s.toList with | nil => exact absurd hh h1 | cons _ _ => rfl⟩
theorem tl_nil {s : ByteArray} (h : s.size = 0) : s.toList = [] ∧ s.toList.isEmpty = true := by
 have h1 : s.toList = [] := by
  rw [Lib.toList_data]
  exact List.eq_nil_of_length_eq_zero h
 exact ⟨h1, by rw [h1]; rfl⟩
section
variable {w : World}
theorem rParseB (s : ByteArray) (hs : s.size ≤ 60) : Calls Tryz.prog 95 #[.string s] w (Ans w fun w' v => IsTB w' v (if M.Digits (M.bytes s) then M.dec 0 (M.bytes s) else 0) 7 (decide (M.Digits (M.bytes s)))) := by
 by_cases h : M.Digits (M.bytes s)
 ·rw [if_pos h, decide_eq_true h]
  refine (parseR_yes s w (by omega) h).mono ?_
  rintro e w' ⟨A, c, rfl, o, b⟩
  exact ⟨_, rfl, b, A, _, c, rfl, o.rd, M.lims_length_le.2 (dec_small h (by rw [M.bytes_len]; exact hs))⟩
 ·rw [if_neg h, decide_eq_false h]
  refine (parseR_no s w (by omega) h).mono ?_
  rintro e w' ⟨A, c, rfl, o, b⟩
  exact ⟨_, rfl, b, A, _, c, rfl, by rw [M.lims_zero]; exact o.rd, by simp⟩
/-- What Parse answers. -/
def Says (s : ByteArray) (w : World) (v : Value) : Prop := (∃ q b A n c B m d, M.bytes s = txtQ q ∧ v = .tuple #[.agg #[.bool b, .slice A n c, .slice B m d], .bool true] ∧ IsQt w (.agg #[.bool b, .slice A n c, .slice B m d]) q 7) ∨ ((∀ q, M.bytes s ≠ txtQ q) ∧ v = .tuple #[.agg #[.bool false, .slice none 0 0, .slice none 0 0], .bool false])
theorem neT1 {k l : ByteArray} {m : List Nat} (hk : M.bytes k = m) (h : m = M.bytes l) : (k.toList == l.toList) = true ∧ (k.toList != l.toList) = false := by
 have : k = l := M.bytes_inj (hk.trans h)
 rw [this]
 simp
theorem neT2 {k l : ByteArray} {m : List Nat} (hk : M.bytes k = m) (h : m ≠ M.bytes l) : (k.toList == l.toList) = false ∧ (k.toList != l.toList) = true := by
 have e : (k.toList == l.toList) = false := by
  rw [beq_eq_false_iff_ne]
  intro e
  apply h
  rw [← hk]
  rw [Lib.toList_data, Lib.toList_data] at e
  rw [bytes_map, bytes_map, e]
 exact ⟨e, by rw [bne, e]; rfl⟩
set_option maxHeartbeats 4000000 in
theorem cParse3_n (s : ByteArray) (hs : s.size ≤ 60) (h0 : 0 < s.size) (h45 : ((s[0].toNat : Int) == 45) = true) : Calls Tryz.prog 45 #[.string s] w (Ans w (Says s)) := by
 have PR := Bq.new w false none 0 0 none 0 0
 have BB := bl_alloc w (.cells #[.bool false, .slice none 0 0, .slice none 0 0] 26)
 obtain ⟨hE1, hE2⟩ := tl_ne h0
 go_enter Tryz.func45, Tryz.ntmps45
 go_wp2_with fail
 clear hE1 hE2
 generalize w.alloc _ = w0 at PR BB ⊢
 go_loopg [5, 6] s.size (fun g q v wr => ∃ i : Nat, i ≤ s.size ∧ g = s.size - i ∧ q = .int .i64 (s.size : Int) ∧ v = .int .i64 (i : Int) ∧ wr = w0 ∧ 47 ∉ (M.bytes s).take i)
 case atStart => exact ⟨0, by omega, rfl, rfl, rfl, rfl, by simp⟩
 case round =>
  obtain ⟨i, hi, hgi, rfl, rfl, hw, hno⟩ := hrel
  subst hw
  have HNO := Lib.hid hno
  have HGI := Lib.hid hgi
  clear hno hgi
  by_cases hin : i < s.size
  ·by_cases h47 : ((s[i].toNat : Int) == 47) = true
   ·have hfi : 1 ≤ i := by
     refine Nat.pos_of_ne_zero fun e => ?_
     subst e
     have := (eq_of_beq h45).symm.trans (eq_of_beq h47)
     omega
    have HLF := Lib.hid (fun (q : Rat) (hq : M.bytes s = txtQ q) => leaf2 (sb := true) (a := M.bytes (s.extract 1 i)) (by rw [← pre_neg (i := i) h0 h45 hfi (by omega)]; exact parts2 hin h47) (by rw [← pre_neg (i := i) h0 h45 hfi (by omega)]; exact HNO.out) (fun e => by cases e) hq)
    go_wp2_with fail
    refine (rParseB (s.extract 1 i) (by rw [ByteArray.size_extract]; omega)).mono ?_
    rintro e w1 ⟨_, rfl, hb1, A1, n1, c1, rfl, T1⟩
    have OO := bl_trans hb1 (bl_alloc w1 (.cells #[.int .u32 1] 44))
    replace PR := PR.below OO
    replace BB := bl_trans BB OO
    replace T1 := T1.below (bl_alloc w1 (.cells #[.int .u32 1] 44))
    clear hb1 OO
    go_wp2_with fail
    refine (rParseB (s.extract (i + 1) s.size) (by rw [ByteArray.size_extract]; omega)).mono ?_
    rintro e w2 ⟨_, rfl, hb2, A2, n2, c2, rfl, T2⟩
    replace PR := PR.below hb2
    replace BB := bl_trans BB hb2
    replace T1 := T1.below hb2
    clear hb2
    have QM : IsQm w2 (.agg #[.bool true, .slice A1 n1 c1, .slice A2 n2 c2]) (mkRat (zv true (if M.Digits (M.bytes (s.extract 1 i)) then M.dec 0 (M.bytes (s.extract 1 i)) else 0)) (dOf (if M.Digits (M.bytes (s.extract (i + 1) s.size)) then M.dec 0 (M.bytes (s.extract (i + 1) s.size)) else 0))) 7 := ⟨_, _, _, _, _, _, _, rfl, _, _, ⟨⟨_, T1.nm, rfl⟩⟩, T2.nm, rfl⟩
    clear T1 T2
    go_wp2_with fail
    refine (cMade3 QM (by omega) (by omega)).mono ?_
    intro e w3 h3
    obtain ⟨_, rfl, hb3, hq⟩ := h3
    obtain ⟨b3, A3, n3, c3, B3, m3, d3, rfl, Q3⟩ := hq.opened
    have OO := bl_trans hb3 (bl_alloc w3 (.cells #[.bool b3, .slice A3 n3 c3, .slice B3 m3 d3] 26))
    have P11 := Bq.new w3 b3 A3 n3 c3 B3 m3 d3
    replace PR := PR.below OO
    replace BB := bl_trans BB OO
    replace Q3 := Q3.below (bl_alloc w3 (.cells #[.bool b3, .slice A3 n3 c3, .slice B3 m3 d3] 26))
    clear hb3 OO hq QM
    by_cases hd1 : M.Digits (M.bytes (s.extract 1 i))
    ·rw [decide_eq_true hd1]
     rw [if_pos hd1] at Q3
     clear hd1
     by_cases hd2 : M.Digits (M.bytes (s.extract (i + 1) s.size))
     ·rw [decide_eq_true hd2]
      rw [if_pos hd2] at Q3
      clear hd2
      have x0 := P11.c0
      have x1 := P11.c1
      have x2 := P11.c2
      go_wp2_with fail
      refine (cText3 Q3.m (by omega) (by omega)).mono ?_
      rintro e w4 ⟨_, rfl, hb4, st, rfl, hst⟩
      clear x0 x1 x2
      replace PR := PR.below hb4
      replace P11 := P11.below hb4
      replace Q3 := Q3.below hb4
      replace BB := bl_trans BB hb4
      clear hb4
      by_cases heq : txtQ (mkRat (zv true (M.dec 0 (M.bytes (s.extract 1 i)))) (dOf (M.dec 0 (M.bytes (s.extract (i + 1) s.size))))) = M.bytes s
      ·obtain ⟨e1, e2⟩ := neT1 hst heq
       have HEQ := Lib.hid heq
       clear heq hst
       have r0 := PR.c0
       have r1 := PR.c1
       have r2 := PR.c2
       have f0 := PR.f 0
       have f1 := PR.f 1
       have f2 := PR.f 2
       have x0 := P11.c0
       have x1 := P11.c1
       have x2 := P11.c2
       go_wp2_with fail
       replace BB := Below.put3 (g := w.heap.size) (b' := b3) (A' := A3) (n' := n3) (c' := c3) (B' := B3) (m' := m3) (d' := d3) BB (Nat.le_refl _)
       replace Q3 := Q3.kr (kr_put3 (b' := b3) (A' := A3) (n' := n3) (c' := c3) (B' := B3) (m' := m3) (d' := d3) PR)
       replace PR := PR.set3 (b' := b3) (A' := A3) (n' := n3) (c' := c3) (B' := B3) (m' := m3) (d' := d3)
       clear r0 r1 r2 f0 f1 f2 x0 x1 x2
       have rc0 := PR.c0
       have rc1 := PR.c1
       have rc2 := PR.c2
       exact bodyPost_ret (v := .tuple #[.agg #[.bool b3, .slice A3 n3 c3, .slice B3 m3 d3], .bool true]) (by simp [results, Tryz.results45, go_sem, rc0, rc1, rc2]) rfl ⟨_, rfl, BB, Or.inl ⟨_, _, _, _, _, _, _, _, HEQ.out.symm, rfl, Q3⟩⟩
      ·obtain ⟨e1, e2⟩ := neT2 hst heq
       have HEQ := Lib.hid heq
       clear heq hst
       have r0 := PR.c0
       have r1 := PR.c1
       have r2 := PR.c2
       have f0 := PR.f 0
       have f1 := PR.f 1
       have f2 := PR.f 2
       go_wp2_with fail
       replace BB := Below.put3 (g := w.heap.size) (b' := false) (A' := none) (n' := 0) (c' := 0) (B' := none) (m' := 0) (d' := 0) BB (Nat.le_refl _)
       replace PR := PR.set3 (b' := false) (A' := none) (n' := 0) (c' := 0) (B' := none) (m' := 0) (d' := 0)
       clear r0 r1 r2 f0 f1 f2
       have rc0 := PR.c0
       have rc1 := PR.c1
       have rc2 := PR.c2
       exact bodyPost_ret (v := .tuple #[.agg #[.bool false, .slice none 0 0, .slice none 0 0], .bool false]) (by simp [results, Tryz.results45, go_sem, rc0, rc1, rc2]) rfl ⟨_, rfl, BB, Or.inr ⟨fun q hq => HEQ.out ((congrArg txtQ (HLF.out q hq).2.2).trans hq.symm), rfl⟩⟩
     ·rw [decide_eq_false hd2]
      have HD := Lib.hid hd2
      clear hd2 P11 Q3
      have r0 := PR.c0
      have r1 := PR.c1
      have r2 := PR.c2
      have f0 := PR.f 0
      have f1 := PR.f 1
      have f2 := PR.f 2
      go_wp2_with fail
      replace BB := Below.put3 (g := w.heap.size) (b' := false) (A' := none) (n' := 0) (c' := 0) (B' := none) (m' := 0) (d' := 0) BB (Nat.le_refl _)
      replace PR := PR.set3 (b' := false) (A' := none) (n' := 0) (c' := 0) (B' := none) (m' := 0) (d' := 0)
      clear r0 r1 r2 f0 f1 f2
      have rc0 := PR.c0
      have rc1 := PR.c1
      have rc2 := PR.c2
      exact bodyPost_ret (v := .tuple #[.agg #[.bool false, .slice none 0 0, .slice none 0 0], .bool false]) (by simp [results, Tryz.results45, go_sem, rc0, rc1, rc2]) rfl ⟨_, rfl, BB, Or.inr ⟨fun q hq => HD.out (HLF.out q hq).2.1, rfl⟩⟩
    ·rw [decide_eq_false hd1]
     have HD := Lib.hid hd1
     clear hd1 P11 Q3
     have r0 := PR.c0
     have r1 := PR.c1
     have r2 := PR.c2
     have f0 := PR.f 0
     have f1 := PR.f 1
     have f2 := PR.f 2
     go_wp2_with fail
     replace BB := Below.put3 (g := w.heap.size) (b' := false) (A' := none) (n' := 0) (c' := 0) (B' := none) (m' := 0) (d' := 0) BB (Nat.le_refl _)
     replace PR := PR.set3 (b' := false) (A' := none) (n' := 0) (c' := 0) (B' := none) (m' := 0) (d' := 0)
     clear r0 r1 r2 f0 f1 f2
     have rc0 := PR.c0
     have rc1 := PR.c1
     have rc2 := PR.c2
     exact bodyPost_ret (v := .tuple #[.agg #[.bool false, .slice none 0 0, .slice none 0 0], .bool false]) (by simp [results, Tryz.results45, go_sem, rc0, rc1, rc2]) rfl ⟨_, rfl, BB, Or.inr ⟨fun q hq => HD.out (HLF.out q hq).1, rfl⟩⟩
   ·have h47' : ((s[i].toNat : Int) == 47) = false := by simpa using h47
    have HNX := Lib.hid (no_succ hin h47' HNO.out)
    clear h47 HNO
    go_wp2
    go_roundg (s.size - (i + 1))
    case measure => have := HGI.out; omega
    case rel => exact ⟨i + 1, by omega, rfl, rfl, by go_num, rfl, HNX.out⟩
  ·obtain rfl : i = s.size := by omega
   have hall : (M.bytes s).take s.size = M.bytes s := List.take_of_length_le (by rw [M.bytes_len]; exact Nat.le_refl _)
   have HLF := Lib.hid (fun (q : Rat) (hq : M.bytes s = txtQ q) => leaf1 (sb := true) (a := M.bytes (s.extract 1 s.size)) (l := M.bytes s) (by rw [← pre_neg (i := s.size) h0 h45 (by omega) (by omega), hall]) (by rw [← hall]; exact HNO.out) (fun e => by cases e) hq)
   clear hall
   go_wp2_with fail
   refine (rParseB (s.extract 1 s.size) (by rw [ByteArray.size_extract]; omega)).mono ?_
   rintro e w1 ⟨_, rfl, hb1, A1, n1, c1, rfl, T1⟩
   have OO := bl_trans hb1 (bl_alloc w1 (.cells #[.int .u32 1] 44))
   replace PR := PR.below OO
   replace BB := bl_trans BB OO
   replace T1 := T1.below (bl_alloc w1 (.cells #[.int .u32 1] 44))
   clear hb1 OO
   have T2 := litT1 w1 1 1 (by rw [M.R_eq]; omega) (by omega) rfl
   have QM : IsQm (w1.alloc (.cells #[.int .u32 1] 44)) (.agg #[.bool true, .slice A1 n1 c1, .slice (some ⟨w1.heap.size, 0, none⟩) 1 1]) (mkRat (zv true (if M.Digits (M.bytes (s.extract 1 s.size)) then M.dec 0 (M.bytes (s.extract 1 s.size)) else 0)) (dOf 1)) 7 := ⟨_, _, _, _, _, _, _, rfl, _, _, ⟨⟨_, T1.nm, rfl⟩⟩, ⟨T2.nm.row, by omega⟩, rfl⟩
   clear T1 T2
   go_wp2_with fail
   refine (cMade3 QM (by omega) (by omega)).mono ?_
   intro e w3 h3
   obtain ⟨_, rfl, hb3, hq⟩ := h3
   obtain ⟨b3, A3, n3, c3, B3, m3, d3, rfl, Q3⟩ := hq.opened
   have OO := bl_trans hb3 (bl_alloc w3 (.cells #[.bool b3, .slice A3 n3 c3, .slice B3 m3 d3] 26))
   have P11 := Bq.new w3 b3 A3 n3 c3 B3 m3 d3
   replace PR := PR.below OO
   replace BB := bl_trans BB OO
   replace Q3 := Q3.below (bl_alloc w3 (.cells #[.bool b3, .slice A3 n3 c3, .slice B3 m3 d3] 26))
   clear hb3 OO hq QM
   by_cases hd1 : M.Digits (M.bytes (s.extract 1 s.size))
   ·rw [decide_eq_true hd1]
    rw [if_pos hd1] at Q3
    clear hd1
    have x0 := P11.c0
    have x1 := P11.c1
    have x2 := P11.c2
    go_wp2_with fail
    refine (cText3 Q3.m (by omega) (by omega)).mono ?_
    rintro e w4 ⟨_, rfl, hb4, st, rfl, hst⟩
    clear x0 x1 x2
    replace PR := PR.below hb4
    replace P11 := P11.below hb4
    replace Q3 := Q3.below hb4
    replace BB := bl_trans BB hb4
    clear hb4
    by_cases heq : txtQ (mkRat (zv true (M.dec 0 (M.bytes (s.extract 1 s.size)))) (dOf 1)) = M.bytes s
    ·obtain ⟨e1, e2⟩ := neT1 hst heq
     have HEQ := Lib.hid heq
     clear heq hst
     have r0 := PR.c0
     have r1 := PR.c1
     have r2 := PR.c2
     have f0 := PR.f 0
     have f1 := PR.f 1
     have f2 := PR.f 2
     have x0 := P11.c0
     have x1 := P11.c1
     have x2 := P11.c2
     go_wp2_with fail
     replace BB := Below.put3 (g := w.heap.size) (b' := b3) (A' := A3) (n' := n3) (c' := c3) (B' := B3) (m' := m3) (d' := d3) BB (Nat.le_refl _)
     replace Q3 := Q3.kr (kr_put3 (b' := b3) (A' := A3) (n' := n3) (c' := c3) (B' := B3) (m' := m3) (d' := d3) PR)
     replace PR := PR.set3 (b' := b3) (A' := A3) (n' := n3) (c' := c3) (B' := B3) (m' := m3) (d' := d3)
     clear r0 r1 r2 f0 f1 f2 x0 x1 x2
     have rc0 := PR.c0
     have rc1 := PR.c1
     have rc2 := PR.c2
     exact bodyPost_ret (v := .tuple #[.agg #[.bool b3, .slice A3 n3 c3, .slice B3 m3 d3], .bool true]) (by simp [results, Tryz.results45, go_sem, rc0, rc1, rc2]) rfl ⟨_, rfl, BB, Or.inl ⟨_, _, _, _, _, _, _, _, HEQ.out.symm, rfl, Q3⟩⟩
    ·obtain ⟨e1, e2⟩ := neT2 hst heq
     have HEQ := Lib.hid heq
     clear heq hst
     have r0 := PR.c0
     have r1 := PR.c1
     have r2 := PR.c2
     have f0 := PR.f 0
     have f1 := PR.f 1
     have f2 := PR.f 2
     go_wp2_with fail
     replace BB := Below.put3 (g := w.heap.size) (b' := false) (A' := none) (n' := 0) (c' := 0) (B' := none) (m' := 0) (d' := 0) BB (Nat.le_refl _)
     replace PR := PR.set3 (b' := false) (A' := none) (n' := 0) (c' := 0) (B' := none) (m' := 0) (d' := 0)
     clear r0 r1 r2 f0 f1 f2
     have rc0 := PR.c0
     have rc1 := PR.c1
     have rc2 := PR.c2
     exact bodyPost_ret (v := .tuple #[.agg #[.bool false, .slice none 0 0, .slice none 0 0], .bool false]) (by simp [results, Tryz.results45, go_sem, rc0, rc1, rc2]) rfl ⟨_, rfl, BB, Or.inr ⟨fun q hq => HEQ.out ((congrArg txtQ (HLF.out q hq).2).trans hq.symm), rfl⟩⟩
   ·rw [decide_eq_false hd1]
    have HD := Lib.hid hd1
    clear hd1 P11 Q3
    have r0 := PR.c0
    have r1 := PR.c1
    have r2 := PR.c2
    have f0 := PR.f 0
    have f1 := PR.f 1
    have f2 := PR.f 2
    go_wp2_with fail
    replace BB := Below.put3 (g := w.heap.size) (b' := false) (A' := none) (n' := 0) (c' := 0) (B' := none) (m' := 0) (d' := 0) BB (Nat.le_refl _)
    replace PR := PR.set3 (b' := false) (A' := none) (n' := 0) (c' := 0) (B' := none) (m' := 0) (d' := 0)
    clear r0 r1 r2 f0 f1 f2
    have rc0 := PR.c0
    have rc1 := PR.c1
    have rc2 := PR.c2
    exact bodyPost_ret (v := .tuple #[.agg #[.bool false, .slice none 0 0, .slice none 0 0], .bool false]) (by simp [results, Tryz.results45, go_sem, rc0, rc1, rc2]) rfl ⟨_, rfl, BB, Or.inr ⟨fun q hq => HD.out (HLF.out q hq).1, rfl⟩⟩
set_option maxHeartbeats 4000000 in
theorem cParse3_p (s : ByteArray) (hs : s.size ≤ 60) (h0 : 0 < s.size) (h45 : ((s[0].toNat : Int) == 45) = false) : Calls Tryz.prog 45 #[.string s] w (Ans w (Says s)) := by
 have PR := Bq.new w false none 0 0 none 0 0
 have BB := bl_alloc w (.cells #[.bool false, .slice none 0 0, .slice none 0 0] 26)
 obtain ⟨hE1, hE2⟩ := tl_ne h0
 go_enter Tryz.func45, Tryz.ntmps45
 go_wp2_with fail
 clear hE1 hE2
 generalize w.alloc _ = w0 at PR BB ⊢
 go_loopg [5, 6] s.size (fun g q v wr => ∃ i : Nat, i ≤ s.size ∧ g = s.size - i ∧ q = .int .i64 (s.size : Int) ∧ v = .int .i64 (i : Int) ∧ wr = w0 ∧ 47 ∉ (M.bytes s).take i)
 case atStart => exact ⟨0, by omega, rfl, rfl, rfl, rfl, by simp⟩
 case round =>
  obtain ⟨i, hi, hgi, rfl, rfl, hw, hno⟩ := hrel
  subst hw
  have HNO := Lib.hid hno
  have HGI := Lib.hid hgi
  clear hno hgi
  by_cases hin : i < s.size
  ·by_cases h47 : ((s[i].toNat : Int) == 47) = true
   ·skip
    have HLF := Lib.hid (fun (q : Rat) (hq : M.bytes s = txtQ q) => leaf2 (sb := false) (a := M.bytes (s.extract 0 i)) (by rw [← pre_pos (s := s) (i := i) (by omega)]; exact parts2 hin h47) (by rw [← pre_pos (s := s) (i := i) (by omega)]; exact HNO.out) (fun _ => first_pos h0 h45 (by omega)) hq)
    go_wp2_with fail
    refine (rParseB (s.extract 0 i) (by rw [ByteArray.size_extract]; omega)).mono ?_
    rintro e w1 ⟨_, rfl, hb1, A1, n1, c1, rfl, T1⟩
    have OO := bl_trans hb1 (bl_alloc w1 (.cells #[.int .u32 1] 44))
    replace PR := PR.below OO
    replace BB := bl_trans BB OO
    replace T1 := T1.below (bl_alloc w1 (.cells #[.int .u32 1] 44))
    clear hb1 OO
    go_wp2_with fail
    refine (rParseB (s.extract (i + 1) s.size) (by rw [ByteArray.size_extract]; omega)).mono ?_
    rintro e w2 ⟨_, rfl, hb2, A2, n2, c2, rfl, T2⟩
    replace PR := PR.below hb2
    replace BB := bl_trans BB hb2
    replace T1 := T1.below hb2
    clear hb2
    have QM : IsQm w2 (.agg #[.bool false, .slice A1 n1 c1, .slice A2 n2 c2]) (mkRat (zv false (if M.Digits (M.bytes (s.extract 0 i)) then M.dec 0 (M.bytes (s.extract 0 i)) else 0)) (dOf (if M.Digits (M.bytes (s.extract (i + 1) s.size)) then M.dec 0 (M.bytes (s.extract (i + 1) s.size)) else 0))) 7 := ⟨_, _, _, _, _, _, _, rfl, _, _, ⟨⟨_, T1.nm, rfl⟩⟩, T2.nm, rfl⟩
    clear T1 T2
    go_wp2_with fail
    refine (cMade3 QM (by omega) (by omega)).mono ?_
    intro e w3 h3
    obtain ⟨_, rfl, hb3, hq⟩ := h3
    obtain ⟨b3, A3, n3, c3, B3, m3, d3, rfl, Q3⟩ := hq.opened
    have OO := bl_trans hb3 (bl_alloc w3 (.cells #[.bool b3, .slice A3 n3 c3, .slice B3 m3 d3] 26))
    have P11 := Bq.new w3 b3 A3 n3 c3 B3 m3 d3
    replace PR := PR.below OO
    replace BB := bl_trans BB OO
    replace Q3 := Q3.below (bl_alloc w3 (.cells #[.bool b3, .slice A3 n3 c3, .slice B3 m3 d3] 26))
    clear hb3 OO hq QM
    by_cases hd1 : M.Digits (M.bytes (s.extract 0 i))
    ·rw [decide_eq_true hd1]
     rw [if_pos hd1] at Q3
     clear hd1
     by_cases hd2 : M.Digits (M.bytes (s.extract (i + 1) s.size))
     ·rw [decide_eq_true hd2]
      rw [if_pos hd2] at Q3
      clear hd2
      have x0 := P11.c0
      have x1 := P11.c1
      have x2 := P11.c2
      go_wp2_with fail
      refine (cText3 Q3.m (by omega) (by omega)).mono ?_
      rintro e w4 ⟨_, rfl, hb4, st, rfl, hst⟩
      clear x0 x1 x2
      replace PR := PR.below hb4
      replace P11 := P11.below hb4
      replace Q3 := Q3.below hb4
      replace BB := bl_trans BB hb4
      clear hb4
      by_cases heq : txtQ (mkRat (zv false (M.dec 0 (M.bytes (s.extract 0 i)))) (dOf (M.dec 0 (M.bytes (s.extract (i + 1) s.size))))) = M.bytes s
      ·obtain ⟨e1, e2⟩ := neT1 hst heq
       have HEQ := Lib.hid heq
       clear heq hst
       have r0 := PR.c0
       have r1 := PR.c1
       have r2 := PR.c2
       have f0 := PR.f 0
       have f1 := PR.f 1
       have f2 := PR.f 2
       have x0 := P11.c0
       have x1 := P11.c1
       have x2 := P11.c2
       go_wp2_with fail
       replace BB := Below.put3 (g := w.heap.size) (b' := b3) (A' := A3) (n' := n3) (c' := c3) (B' := B3) (m' := m3) (d' := d3) BB (Nat.le_refl _)
       replace Q3 := Q3.kr (kr_put3 (b' := b3) (A' := A3) (n' := n3) (c' := c3) (B' := B3) (m' := m3) (d' := d3) PR)
       replace PR := PR.set3 (b' := b3) (A' := A3) (n' := n3) (c' := c3) (B' := B3) (m' := m3) (d' := d3)
       clear r0 r1 r2 f0 f1 f2 x0 x1 x2
       have rc0 := PR.c0
       have rc1 := PR.c1
       have rc2 := PR.c2
       exact bodyPost_ret (v := .tuple #[.agg #[.bool b3, .slice A3 n3 c3, .slice B3 m3 d3], .bool true]) (by simp [results, Tryz.results45, go_sem, rc0, rc1, rc2]) rfl ⟨_, rfl, BB, Or.inl ⟨_, _, _, _, _, _, _, _, HEQ.out.symm, rfl, Q3⟩⟩
      ·obtain ⟨e1, e2⟩ := neT2 hst heq
       have HEQ := Lib.hid heq
       clear heq hst
       have r0 := PR.c0
       have r1 := PR.c1
       have r2 := PR.c2
       have f0 := PR.f 0
       have f1 := PR.f 1
       have f2 := PR.f 2
       go_wp2_with fail
       replace BB := Below.put3 (g := w.heap.size) (b' := false) (A' := none) (n' := 0) (c' := 0) (B' := none) (m' := 0) (d' := 0) BB (Nat.le_refl _)
       replace PR := PR.set3 (b' := false) (A' := none) (n' := 0) (c' := 0) (B' := none) (m' := 0) (d' := 0)
       clear r0 r1 r2 f0 f1 f2
       have rc0 := PR.c0
       have rc1 := PR.c1
       have rc2 := PR.c2
       exact bodyPost_ret (v := .tuple #[.agg #[.bool false, .slice none 0 0, .slice none 0 0], .bool false]) (by simp [results, Tryz.results45, go_sem, rc0, rc1, rc2]) rfl ⟨_, rfl, BB, Or.inr ⟨fun q hq => HEQ.out ((congrArg txtQ (HLF.out q hq).2.2).trans hq.symm), rfl⟩⟩
     ·rw [decide_eq_false hd2]
      have HD := Lib.hid hd2
      clear hd2 P11 Q3
      have r0 := PR.c0
      have r1 := PR.c1
      have r2 := PR.c2
      have f0 := PR.f 0
      have f1 := PR.f 1
      have f2 := PR.f 2
      go_wp2_with fail
      replace BB := Below.put3 (g := w.heap.size) (b' := false) (A' := none) (n' := 0) (c' := 0) (B' := none) (m' := 0) (d' := 0) BB (Nat.le_refl _)
      replace PR := PR.set3 (b' := false) (A' := none) (n' := 0) (c' := 0) (B' := none) (m' := 0) (d' := 0)
      clear r0 r1 r2 f0 f1 f2
      have rc0 := PR.c0
      have rc1 := PR.c1
      have rc2 := PR.c2
      exact bodyPost_ret (v := .tuple #[.agg #[.bool false, .slice none 0 0, .slice none 0 0], .bool false]) (by simp [results, Tryz.results45, go_sem, rc0, rc1, rc2]) rfl ⟨_, rfl, BB, Or.inr ⟨fun q hq => HD.out (HLF.out q hq).2.1, rfl⟩⟩
    ·rw [decide_eq_false hd1]
     have HD := Lib.hid hd1
     clear hd1 P11 Q3
     have r0 := PR.c0
     have r1 := PR.c1
     have r2 := PR.c2
     have f0 := PR.f 0
     have f1 := PR.f 1
     have f2 := PR.f 2
     go_wp2_with fail
     replace BB := Below.put3 (g := w.heap.size) (b' := false) (A' := none) (n' := 0) (c' := 0) (B' := none) (m' := 0) (d' := 0) BB (Nat.le_refl _)
     replace PR := PR.set3 (b' := false) (A' := none) (n' := 0) (c' := 0) (B' := none) (m' := 0) (d' := 0)
     clear r0 r1 r2 f0 f1 f2
     have rc0 := PR.c0
     have rc1 := PR.c1
     have rc2 := PR.c2
     exact bodyPost_ret (v := .tuple #[.agg #[.bool false, .slice none 0 0, .slice none 0 0], .bool false]) (by simp [results, Tryz.results45, go_sem, rc0, rc1, rc2]) rfl ⟨_, rfl, BB, Or.inr ⟨fun q hq => HD.out (HLF.out q hq).1, rfl⟩⟩
   ·have h47' : ((s[i].toNat : Int) == 47) = false := by simpa using h47
    have HNX := Lib.hid (no_succ hin h47' HNO.out)
    clear h47 HNO
    go_wp2
    go_roundg (s.size - (i + 1))
    case measure => have := HGI.out; omega
    case rel => exact ⟨i + 1, by omega, rfl, rfl, by go_num, rfl, HNX.out⟩
  ·obtain rfl : i = s.size := by omega
   have hall : (M.bytes s).take s.size = M.bytes s := List.take_of_length_le (by rw [M.bytes_len]; exact Nat.le_refl _)
   have HLF := Lib.hid (fun (q : Rat) (hq : M.bytes s = txtQ q) => leaf1 (sb := false) (a := M.bytes s) (l := M.bytes s) rfl (by rw [← hall]; exact HNO.out) (fun _ => by have h := first_pos (i := s.size) h0 h45 (Nat.le_refl _); rw [ext_bytes s 0 _, List.drop_zero, hall] at h; exact h) hq)
   clear hall
   go_wp2_with fail
   refine (rParseB s (by omega)).mono ?_
   rintro e w1 ⟨_, rfl, hb1, A1, n1, c1, rfl, T1⟩
   have OO := bl_trans hb1 (bl_alloc w1 (.cells #[.int .u32 1] 44))
   replace PR := PR.below OO
   replace BB := bl_trans BB OO
   replace T1 := T1.below (bl_alloc w1 (.cells #[.int .u32 1] 44))
   clear hb1 OO
   have T2 := litT1 w1 1 1 (by rw [M.R_eq]; omega) (by omega) rfl
   have QM : IsQm (w1.alloc (.cells #[.int .u32 1] 44)) (.agg #[.bool false, .slice A1 n1 c1, .slice (some ⟨w1.heap.size, 0, none⟩) 1 1]) (mkRat (zv false (if M.Digits (M.bytes s) then M.dec 0 (M.bytes s) else 0)) (dOf 1)) 7 := ⟨_, _, _, _, _, _, _, rfl, _, _, ⟨⟨_, T1.nm, rfl⟩⟩, ⟨T2.nm.row, by omega⟩, rfl⟩
   clear T1 T2
   go_wp2_with fail
   refine (cMade3 QM (by omega) (by omega)).mono ?_
   intro e w3 h3
   obtain ⟨_, rfl, hb3, hq⟩ := h3
   obtain ⟨b3, A3, n3, c3, B3, m3, d3, rfl, Q3⟩ := hq.opened
   have OO := bl_trans hb3 (bl_alloc w3 (.cells #[.bool b3, .slice A3 n3 c3, .slice B3 m3 d3] 26))
   have P11 := Bq.new w3 b3 A3 n3 c3 B3 m3 d3
   replace PR := PR.below OO
   replace BB := bl_trans BB OO
   replace Q3 := Q3.below (bl_alloc w3 (.cells #[.bool b3, .slice A3 n3 c3, .slice B3 m3 d3] 26))
   clear hb3 OO hq QM
   by_cases hd1 : M.Digits (M.bytes s)
   ·rw [decide_eq_true hd1]
    rw [if_pos hd1] at Q3
    clear hd1
    have x0 := P11.c0
    have x1 := P11.c1
    have x2 := P11.c2
    go_wp2_with fail
    refine (cText3 Q3.m (by omega) (by omega)).mono ?_
    rintro e w4 ⟨_, rfl, hb4, st, rfl, hst⟩
    clear x0 x1 x2
    replace PR := PR.below hb4
    replace P11 := P11.below hb4
    replace Q3 := Q3.below hb4
    replace BB := bl_trans BB hb4
    clear hb4
    by_cases heq : txtQ (mkRat (zv false (M.dec 0 (M.bytes s))) (dOf 1)) = M.bytes s
    ·obtain ⟨e1, e2⟩ := neT1 hst heq
     have HEQ := Lib.hid heq
     clear heq hst
     have r0 := PR.c0
     have r1 := PR.c1
     have r2 := PR.c2
     have f0 := PR.f 0
     have f1 := PR.f 1
     have f2 := PR.f 2
     have x0 := P11.c0
     have x1 := P11.c1
     have x2 := P11.c2
     go_wp2_with fail
     replace BB := Below.put3 (g := w.heap.size) (b' := b3) (A' := A3) (n' := n3) (c' := c3) (B' := B3) (m' := m3) (d' := d3) BB (Nat.le_refl _)
     replace Q3 := Q3.kr (kr_put3 (b' := b3) (A' := A3) (n' := n3) (c' := c3) (B' := B3) (m' := m3) (d' := d3) PR)
     replace PR := PR.set3 (b' := b3) (A' := A3) (n' := n3) (c' := c3) (B' := B3) (m' := m3) (d' := d3)
     clear r0 r1 r2 f0 f1 f2 x0 x1 x2
     have rc0 := PR.c0
     have rc1 := PR.c1
     have rc2 := PR.c2
     exact bodyPost_ret (v := .tuple #[.agg #[.bool b3, .slice A3 n3 c3, .slice B3 m3 d3], .bool true]) (by simp [results, Tryz.results45, go_sem, rc0, rc1, rc2]) rfl ⟨_, rfl, BB, Or.inl ⟨_, _, _, _, _, _, _, _, HEQ.out.symm, rfl, Q3⟩⟩
    ·obtain ⟨e1, e2⟩ := neT2 hst heq
     have HEQ := Lib.hid heq
     clear heq hst
     have r0 := PR.c0
     have r1 := PR.c1
     have r2 := PR.c2
     have f0 := PR.f 0
     have f1 := PR.f 1
     have f2 := PR.f 2
     go_wp2_with fail
     replace BB := Below.put3 (g := w.heap.size) (b' := false) (A' := none) (n' := 0) (c' := 0) (B' := none) (m' := 0) (d' := 0) BB (Nat.le_refl _)
     replace PR := PR.set3 (b' := false) (A' := none) (n' := 0) (c' := 0) (B' := none) (m' := 0) (d' := 0)
     clear r0 r1 r2 f0 f1 f2
     have rc0 := PR.c0
     have rc1 := PR.c1
     have rc2 := PR.c2
     exact bodyPost_ret (v := .tuple #[.agg #[.bool false, .slice none 0 0, .slice none 0 0], .bool false]) (by simp [results, Tryz.results45, go_sem, rc0, rc1, rc2]) rfl ⟨_, rfl, BB, Or.inr ⟨fun q hq => HEQ.out ((congrArg txtQ (HLF.out q hq).2).trans hq.symm), rfl⟩⟩
   ·rw [decide_eq_false hd1]
    have HD := Lib.hid hd1
    clear hd1 P11 Q3
    have r0 := PR.c0
    have r1 := PR.c1
    have r2 := PR.c2
    have f0 := PR.f 0
    have f1 := PR.f 1
    have f2 := PR.f 2
    go_wp2_with fail
    replace BB := Below.put3 (g := w.heap.size) (b' := false) (A' := none) (n' := 0) (c' := 0) (B' := none) (m' := 0) (d' := 0) BB (Nat.le_refl _)
    replace PR := PR.set3 (b' := false) (A' := none) (n' := 0) (c' := 0) (B' := none) (m' := 0) (d' := 0)
    clear r0 r1 r2 f0 f1 f2
    have rc0 := PR.c0
    have rc1 := PR.c1
    have rc2 := PR.c2
    exact bodyPost_ret (v := .tuple #[.agg #[.bool false, .slice none 0 0, .slice none 0 0], .bool false]) (by simp [results, Tryz.results45, go_sem, rc0, rc1, rc2]) rfl ⟨_, rfl, BB, Or.inr ⟨fun q hq => HD.out (HLF.out q hq).1, rfl⟩⟩
set_option maxHeartbeats 4000000 in
theorem cParse3_e (s : ByteArray) (hs : s.size ≤ 60) (h0 : s.size = 0) : Calls Tryz.prog 45 #[.string s] w (Ans w (Says s)) := by
 have PR := Bq.new w false none 0 0 none 0 0
 have BB := bl_alloc w (.cells #[.bool false, .slice none 0 0, .slice none 0 0] 26)
 obtain ⟨hE1, hE2⟩ := tl_nil h0
 have HZ := Lib.hid h0
 clear h0
 go_enter Tryz.func45, Tryz.ntmps45
 go_wp2_with fail
 clear hE1 hE2
 generalize w.alloc _ = w0 at PR BB ⊢
 go_loopg [5, 6] s.size (fun g q v wr => ∃ i : Nat, i ≤ s.size ∧ g = s.size - i ∧ q = .int .i64 (s.size : Int) ∧ v = .int .i64 (i : Int) ∧ wr = w0 ∧ 47 ∉ (M.bytes s).take i)
 case atStart => exact ⟨0, by omega, rfl, rfl, rfl, rfl, by simp⟩
 case round =>
  obtain ⟨i, hi, hgi, rfl, rfl, hw, hno⟩ := hrel
  subst hw
  have HNO := Lib.hid hno
  have HGI := Lib.hid hgi
  clear hno hgi
  by_cases hin : i < s.size
  ·exfalso; have := HZ.out; omega
  ·obtain rfl : i = s.size := by omega
   have hall : (M.bytes s).take s.size = M.bytes s := List.take_of_length_le (by rw [M.bytes_len]; exact Nat.le_refl _)
   have HLF := Lib.hid (fun (q : Rat) (hq : M.bytes s = txtQ q) => leaf1 (sb := false) (a := M.bytes s) (l := M.bytes s) rfl (by rw [← hall]; exact HNO.out) (fun _ => by have h := (show (M.bytes (s.extract 0 s.size))[0]? ≠ some 45 by rw [ext_bytes s 0 _, List.eq_nil_of_length_eq_zero (l := M.bytes s) (by rw [M.bytes_len]; exact HZ.out)]; simp); rw [ext_bytes s 0 _, List.drop_zero, hall] at h; exact h) hq)
   clear hall
   go_wp2_with fail
   refine (rParseB s (by omega)).mono ?_
   rintro e w1 ⟨_, rfl, hb1, A1, n1, c1, rfl, T1⟩
   have OO := bl_trans hb1 (bl_alloc w1 (.cells #[.int .u32 1] 44))
   replace PR := PR.below OO
   replace BB := bl_trans BB OO
   replace T1 := T1.below (bl_alloc w1 (.cells #[.int .u32 1] 44))
   clear hb1 OO
   have T2 := litT1 w1 1 1 (by rw [M.R_eq]; omega) (by omega) rfl
   have QM : IsQm (w1.alloc (.cells #[.int .u32 1] 44)) (.agg #[.bool false, .slice A1 n1 c1, .slice (some ⟨w1.heap.size, 0, none⟩) 1 1]) (mkRat (zv false (if M.Digits (M.bytes s) then M.dec 0 (M.bytes s) else 0)) (dOf 1)) 7 := ⟨_, _, _, _, _, _, _, rfl, _, _, ⟨⟨_, T1.nm, rfl⟩⟩, ⟨T2.nm.row, by omega⟩, rfl⟩
   clear T1 T2
   go_wp2_with fail
   refine (cMade3 QM (by omega) (by omega)).mono ?_
   intro e w3 h3
   obtain ⟨_, rfl, hb3, hq⟩ := h3
   obtain ⟨b3, A3, n3, c3, B3, m3, d3, rfl, Q3⟩ := hq.opened
   have OO := bl_trans hb3 (bl_alloc w3 (.cells #[.bool b3, .slice A3 n3 c3, .slice B3 m3 d3] 26))
   have P11 := Bq.new w3 b3 A3 n3 c3 B3 m3 d3
   replace PR := PR.below OO
   replace BB := bl_trans BB OO
   replace Q3 := Q3.below (bl_alloc w3 (.cells #[.bool b3, .slice A3 n3 c3, .slice B3 m3 d3] 26))
   clear hb3 OO hq QM
   by_cases hd1 : M.Digits (M.bytes s)
   ·rw [decide_eq_true hd1]
    rw [if_pos hd1] at Q3
    clear hd1
    have x0 := P11.c0
    have x1 := P11.c1
    have x2 := P11.c2
    go_wp2_with fail
    refine (cText3 Q3.m (by omega) (by omega)).mono ?_
    rintro e w4 ⟨_, rfl, hb4, st, rfl, hst⟩
    clear x0 x1 x2
    replace PR := PR.below hb4
    replace P11 := P11.below hb4
    replace Q3 := Q3.below hb4
    replace BB := bl_trans BB hb4
    clear hb4
    by_cases heq : txtQ (mkRat (zv false (M.dec 0 (M.bytes s))) (dOf 1)) = M.bytes s
    ·obtain ⟨e1, e2⟩ := neT1 hst heq
     have HEQ := Lib.hid heq
     clear heq hst
     have r0 := PR.c0
     have r1 := PR.c1
     have r2 := PR.c2
     have f0 := PR.f 0
     have f1 := PR.f 1
     have f2 := PR.f 2
     have x0 := P11.c0
     have x1 := P11.c1
     have x2 := P11.c2
     go_wp2_with fail
     replace BB := Below.put3 (g := w.heap.size) (b' := b3) (A' := A3) (n' := n3) (c' := c3) (B' := B3) (m' := m3) (d' := d3) BB (Nat.le_refl _)
     replace Q3 := Q3.kr (kr_put3 (b' := b3) (A' := A3) (n' := n3) (c' := c3) (B' := B3) (m' := m3) (d' := d3) PR)
     replace PR := PR.set3 (b' := b3) (A' := A3) (n' := n3) (c' := c3) (B' := B3) (m' := m3) (d' := d3)
     clear r0 r1 r2 f0 f1 f2 x0 x1 x2
     have rc0 := PR.c0
     have rc1 := PR.c1
     have rc2 := PR.c2
     exact bodyPost_ret (v := .tuple #[.agg #[.bool b3, .slice A3 n3 c3, .slice B3 m3 d3], .bool true]) (by simp [results, Tryz.results45, go_sem, rc0, rc1, rc2]) rfl ⟨_, rfl, BB, Or.inl ⟨_, _, _, _, _, _, _, _, HEQ.out.symm, rfl, Q3⟩⟩
    ·obtain ⟨e1, e2⟩ := neT2 hst heq
     have HEQ := Lib.hid heq
     clear heq hst
     have r0 := PR.c0
     have r1 := PR.c1
     have r2 := PR.c2
     have f0 := PR.f 0
     have f1 := PR.f 1
     have f2 := PR.f 2
     go_wp2_with fail
     replace BB := Below.put3 (g := w.heap.size) (b' := false) (A' := none) (n' := 0) (c' := 0) (B' := none) (m' := 0) (d' := 0) BB (Nat.le_refl _)
     replace PR := PR.set3 (b' := false) (A' := none) (n' := 0) (c' := 0) (B' := none) (m' := 0) (d' := 0)
     clear r0 r1 r2 f0 f1 f2
     have rc0 := PR.c0
     have rc1 := PR.c1
     have rc2 := PR.c2
     exact bodyPost_ret (v := .tuple #[.agg #[.bool false, .slice none 0 0, .slice none 0 0], .bool false]) (by simp [results, Tryz.results45, go_sem, rc0, rc1, rc2]) rfl ⟨_, rfl, BB, Or.inr ⟨fun q hq => HEQ.out ((congrArg txtQ (HLF.out q hq).2).trans hq.symm), rfl⟩⟩
   ·rw [decide_eq_false hd1]
    have HD := Lib.hid hd1
    clear hd1 P11 Q3
    have r0 := PR.c0
    have r1 := PR.c1
    have r2 := PR.c2
    have f0 := PR.f 0
    have f1 := PR.f 1
    have f2 := PR.f 2
    go_wp2_with fail
    replace BB := Below.put3 (g := w.heap.size) (b' := false) (A' := none) (n' := 0) (c' := 0) (B' := none) (m' := 0) (d' := 0) BB (Nat.le_refl _)
    replace PR := PR.set3 (b' := false) (A' := none) (n' := 0) (c' := 0) (B' := none) (m' := 0) (d' := 0)
    clear r0 r1 r2 f0 f1 f2
    have rc0 := PR.c0
    have rc1 := PR.c1
    have rc2 := PR.c2
    exact bodyPost_ret (v := .tuple #[.agg #[.bool false, .slice none 0 0, .slice none 0 0], .bool false]) (by simp [results, Tryz.results45, go_sem, rc0, rc1, rc2]) rfl ⟨_, rfl, BB, Or.inr ⟨fun q hq => HD.out (HLF.out q hq).1, rfl⟩⟩
theorem cParse3 (s : ByteArray) (hs : s.size ≤ 60) : Calls Tryz.prog 45 #[.string s] w (Ans w (Says s)) := by
 by_cases h0 : s.size = 0
 ·exact cParse3_e s hs h0
 ·have hp : 0 < s.size := by omega
  by_cases h45 : ((s[0].toNat : Int) == 45) = true
  ·exact cParse3_n s hs hp h45
  ·exact cParse3_p s hs hp (by simpa using h45)
theorem cParse3Y {s : ByteArray} {q : Rat} (hs : s.size ≤ 60) (hq : M.bytes s = txtQ q) : Calls Tryz.prog 45 #[.string s] w (Ans w fun w' v => ∃ b A n c B m d, v = .tuple #[.agg #[.bool b, .slice A n c, .slice B m d], .bool true] ∧ IsQt w' (.agg #[.bool b, .slice A n c, .slice B m d]) q 7) := by
 refine (cParse3 s hs).mono ?_
 rintro e w' ⟨v, he, hb, ⟨p, b, A, n, c, B, m, d, hp, hv, h⟩ | ⟨hn, _⟩⟩
 ·obtain rfl : p = q := txtQ_inj (hp.symm.trans hq)
  exact ⟨v, he, hb, b, A, n, c, B, m, d, hv, h⟩
 ·exact absurd hq (hn q)
theorem cParse3N {s : ByteArray} (hs : s.size ≤ 60) (hn : ∀ q, M.bytes s ≠ txtQ q) : Calls Tryz.prog 45 #[.string s] w (Ans w fun _ v => v = .tuple #[.agg #[.bool false, .slice none 0 0, .slice none 0 0], .bool false]) := by
 refine (cParse3 s hs).mono ?_
 rintro e w' ⟨v, he, hb, ⟨p, b, A, n, c, B, m, d, hp, hv, h⟩ | ⟨_, hv⟩⟩
 ·exact absurd hp (hn p)
 ·exact ⟨v, he, hb, hv⟩
end
end Go.Proofs.YtbhgbilhoonopaaGreat
