/- nat.Text: for every row of limbs (of 10^5 at most). -/
import Derived.Test.YtbcceopgmkmbfaaWText
namespace Go.Proofs.Ytbcceopgmkmbfaa
open Go.RowKit
set_option linter.unusedVariables false

def slLen : Value → Nat | .slice _ n _ => n | _ => 0

/-- A call answers a text: these bytes. -/
def GivesT (w : World) (l : List Nat) (e : Ending) (w' : World) : Prop := ∃ s, e = .returned (.string s) ∧ M.bytes s = l ∧ Below w.heap.size w w'

theorem bytes_strOfNums {l : List Nat} (h : M.Dig l) : M.bytes (strOfNums (l.map fun x : Nat => (x : Int))) = l := by
  unfold M.bytes
  rw [strOfNums_data, List.map_map, List.map_map]
  have : ∀ x ∈ l, (UInt8.toNat ∘ (fun n : Int => UInt8.ofNat n.toNat) ∘ fun x : Nat => (x : Int)) x = x := by
    intro x hx
    have := h x hx
    simp only [Function.comp, Int.toNat_natCast]
    rw [UInt8.toNat_ofNat']
    omega
  exact (List.map_congr_left this).trans (List.map_id' l)

set_option maxHeartbeats 4000000 in
theorem text_any (A0 : Option Addr) (n0 c0 : Nat) (xs : List Nat) (w : World) (h : Rd w A0 n0 c0 xs) (hn : n0 ≤ 100000) :
    Calls Try.prog 28 #[.slice A0 n0 c0] w (GivesT w (M.txt (M.val xs))) := by
  have H := Lib.hid h
  have hL : (M.lows (M.val xs)).length ≤ 1000000 := by have := M.lows_val_len h.Lim; rw [h.len] at this; omega
  clear h
  obtain ⟨V, hV⟩ : ∃ V, M.val xs = V := ⟨_, rfl⟩
  rw [hV] at hL ⊢
  have HV := Lib.hid hV
  clear hV
  go_enter Try.func28, Try.ntmps28
  go_wp2_with fail
  refine (digitTaker_any _ _ _ _ _ H.out (by omega)).mono ?_
  rw [HV.out]
  rintro e w1 ⟨Bc, Br, Bl, rfl, htk1, hbc1, hb1⟩
  have HTK1 := Lib.hid htk1
  have HB1 := Lib.hid hb1
  clear htk1 hb1
  go_wp2_with fail
  refine (taker_any _ _ _ _ _ _ HTK1.out).mono ?_
  rintro e w2 ⟨htk2, rfl, hba2⟩
  have HTK2 := Lib.hid htk2
  have HBA2 := Lib.hid hba2
  clear htk2 hba2
  go_wp2_with fail
  go_loopw [4, 5, 6] (fun q dg mo wr => ∃ (n c T : Nat) (A : Option Addr), q = .slice A n c ∧ dg = .int .u8 (tdig T : Nat) ∧ mo = .bool (tmore T) ∧ T = V / 10 ^ n ∧ n ≤ (M.lows V).length ∧
      OwK kU8 wr (Bc + 1) A n c ((M.lows V).take n) ∧ Tk wr w.heap.size Bc Br Bl (T / 10) ∧ Below w.heap.size w wr ∧ Bc < wr.heap.size) (fun q _ _ _ => (M.lows V).length - slLen q)
  case atStart =>
    refine ⟨0, 0, V, none, rfl, rfl, rfl, by simp, by omega, OwK.nil_ _ _, HTK2.out, HB1.out.trans HBA2.out.below, ?_⟩
    rw [HBA2.out.size]
    exact hbc1
  case round =>
    obtain ⟨n, c, T, A, rfl, rfl, hmo, hT, hnL, ho, htk, hb, hbc⟩ := hrel
    have HO := Lib.hid ho
    have HTK := Lib.hid htk
    have HB := Lib.hid hb
    have HT := Lib.hid hT
    clear ho htk hb hT HTK1 HTK2 HBA2 HB1
    by_cases hT0 : T = 0
    · subst hT0
      rw [tmore_zero] at hmo
      subst hmo
      have htake := M.lows_take_all V n HT.out.symm
      have ho := HO.out
      rw [htake] at ho
      have HO2 := Lib.hid ho
      clear htake ho
      by_cases hn0 : n = 0
      · subst hn0
        have hV0 : V = 0 := by have := HT.out; simp at this; exact this.symm
        have HV0 := Lib.hid hV0
        clear hV0
        go_wp2
        go_ret
        refine ⟨_, rfl, ?_, HB.out⟩
        rw [HV0.out]
        rfl
      · have hnne : ((n : Int) == 0) = false := by simp; omega
        obtain ⟨g, hA, hg, hg'⟩ := HO2.out.head (by omega)
        subst hA
        have hV0 : V ≠ 0 := by
          intro e
          have := HO2.out.len
          rw [e, M.lows_zero] at this
          simp at this
          omega
        have HV0 := Lib.hid hV0
        clear hV0
        go_wp2_with fail
        refine (reverse_any _ g n c _ _ HO2.out (by omega)).mono ?_
        rintro e w3 ⟨rfl, ho3, hg3⟩
        have hlen3 := ho3.len
        have hconv := run_convert_bytes_arg (P := Try.prog) w3 36 5 Try.underlying36 Try.underlying5 g 0 n c ((M.lows V).reverse.map fun x : Nat => (x : Int)) (by rw [List.length_map]; exact hlen3) (fun i hi => by
          obtain ⟨x, hx⟩ : ∃ x, (M.lows V).reverse[i]? = some x := ⟨_, List.getElem?_eq_getElem (by rw [hlen3]; exact hi)⟩
          have := ho3.cellAt hx
          rw [Nat.zero_add, this]
          simp only [kU8]
          rw [List.getD_eq_getElem?_getD, List.getElem?_map, hx]
          rfl) 9 Try.underlying9
        have hb3 := HB.out.grown hg3 HB.out.size (fun k hk => by cases hk; have := HB.out.size; have := HTK.out.ord1; have := HTK.out.ord2; have := HTK.out.ord3; omega)
        have HB3 := Lib.hid hb3
        clear ho3 hg3 hb3 hlen3
        go_wp2
        go_ret
        refine ⟨_, rfl, ?_, HB3.out⟩
        rw [← List.map_reverse, bytes_strOfNums (fun x hx => M.lows_dig V x (List.mem_reverse.1 hx))]
        unfold M.txt
        rw [if_neg HV0.out]
    · rw [tmore_pos hT0] at hmo
      subst hmo
      have hd : tdig T < 256 := by rw [tdig_pos hT0]; omega
      have htd : (M.lows V).take (n + 1) = (M.lows V).take n ++ [tdig T] := by
        rw [tdig_pos hT0, HT.out]
        exact M.lows_take V n (by rw [← HT.out]; exact hT0)
      have hlt : n < (M.lows V).length := M.lows_lt (by rw [← HT.out]; exact hT0)
      have hTn : T / 10 = V / 10 ^ (n + 1) := by rw [HT.out, Nat.pow_succ, Nat.div_div_eq_div_mul]
      have HTD := Lib.hid htd
      have HTN := Lib.hid hTn
      have HD := Lib.hid hd
      generalize tdig T = d at *
      clear htd hTn hd
      go_wp2_with (at_builtin; refine app_own kU8 _ rfl _ _ rfl (Bc + 1) A n c _ rfl (HO.out.alloc _) _ 1 1 [d] rfl (RdK.one _ d HD.out) (by omega) (by simp; omega) ?_; intro A2 c2 w3 ho3 hg3; have HO3 := Lib.hid ho3; have HG3 := Lib.hid hg3; clear ho3 hg3)
      have htk3 := (HTK.out.grown (World.grownBy_alloc wr _ none) (fun g hg => by cases hg)).grown HG3.out (fun g hg => by have := (HO.out.row.lt g hg).1; omega)
      have hb3 := (HB.out.alloc HB.out.size _).grown HG3.out (by have := HB.out.size; simp; omega) (fun g hg => by have := (HO.out.row.lt g hg).1; have := HTK.out.ord1; have := HTK.out.ord2; have := HTK.out.ord3; omega)
      have hsz3 : Bc < w3.heap.size := by have := HG3.out.size; simp at this; omega
      refine (taker_any _ _ _ _ _ _ htk3).mono ?_
      rintro e w4 ⟨htk4, rfl, hba4⟩
      have ho4 := HO3.out.above hba4 (by omega)
      rw [← HTD.out] at ho4
      have hb4 := hb3.trans hba4.below
      have hsz4 : Bc < w4.heap.size := by rw [hba4.size]; exact hsz3
      have HO4 := Lib.hid ho4
      have HTK4 := Lib.hid htk4
      have HB4 := Lib.hid hb4
      clear ho4 htk4 hba4 hb4 htk3 hb3
      go_wp2
      go_roundw
      case rel => exact ⟨n + 1, c2, T / 10, A2, rfl, rfl, rfl, HTN.out, by omega, HO4.out, HTK4.out, HB4.out, hsz4⟩
      case measure => simp only [slLen]; omega

end Go.Proofs.Ytbcceopgmkmbfaa
