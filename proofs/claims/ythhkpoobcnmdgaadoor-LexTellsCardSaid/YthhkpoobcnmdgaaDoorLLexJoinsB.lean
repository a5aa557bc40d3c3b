import Derived.Test.YthhkpoobcnmdgaaDoorBZ1
import Derived.Test.YthhkpoobcnmdgaaDoorXRowsB
/-
  LexJoins: walked.
-/
namespace Go.Proofs.YthhkpoobcnmdgaaDoor
open Go.RowKit
set_option linter.unusedVariables false

/-- What Tokens answers, where the answer is known. -/
theorem tok_none {s : ByteArray} {w w' : World} {e : Ending} {ts : List Tk} (h : TokP s w e w') (hx : Lx (M.bytes s) 0 ts none) : Below w.heap.size w w' ∧ ∃ es A c, es.map TE.tk = ts ∧ e = .returned (.tuple #[.slice A es.length c, .nilIface]) ∧ OwT w' w.heap.size A es.length c es := by
  obtain ⟨us, r, hl, hb, h⟩ := h
  obtain ⟨rfl, rfl⟩ := hl.list.uniq hx
  rcases h with ⟨_, h⟩ | ⟨k, c, h, _⟩
  · exact ⟨hb, h⟩
  · cases h
theorem tok_some {s : ByteArray} {w w' : World} {e : Ending} {ts : List Tk} {k : Nat} (h : TokP s w e w') (hx : Lx (M.bytes s) 0 ts (some k)) : Below w.heap.size w w' ∧ ∃ c, e = .returned (.tuple #[.slice none 0 0, .iface 90 (.pointer (some ⟨c, 0, none⟩))]) ∧ c < w'.heap.size ∧ w'.cell? ⟨c, 0, none⟩ = some (.int .i64 4) ∧ w'.cell? ⟨c, 1, none⟩ = some (.int .i64 k) := by
  obtain ⟨us, r, hl, hb, h⟩ := h
  obtain ⟨rfl, rfl⟩ := hl.list.uniq hx
  rcases h with ⟨h, _⟩ | ⟨k', c, h, he, hr⟩
  · cases h
  · cases h; exact ⟨hb, c, he, hr⟩

theorem field_f1 (x y : Int) (w : World) : (Instr.field 33 (.agg #[.int .i64 x, .int .i64 y]) 1).run Tryd.prog w = .ok (.int .i64 y) w := by
  simp [Instr.field, run_underlying Tryd.underlying33, asAgg, go_sem]
set_option maxRecDepth 20000 in
set_option maxHeartbeats 4000000 in
theorem joins_walk (s t : ByteArray) (w : World) (hg : w.cell? ⟨0, 0, none⟩ = some handle) : Calls Tryd.prog 6 #[.string s, .string t] w fun e w' => e = .returned (.bool true) ∧ Below w.heap.size w w' := by
  have HG := Lib.hid hg
  clear hg
  go_enter Tryd.func6, Tryd.ntmps6
  go_wp2_with (first
    | (go_at_call 13; refine (cWorks5 _ HG.out).mono ?_; rintro _ w1 ⟨rfl, hl⟩; have HB1 := Lib.hid hl; clear hl)
    | (go_at_call 8; have hx := hs1; clear hx; refine (few200 _ _).mono ?_; rintro _ _ ⟨⟨t1, rfl, ht1⟩, rfl⟩)
    | (go_at_call 8; refine (few200 _ _).mono ?_; rintro _ _ ⟨⟨s1, rfl, hs1⟩, rfl⟩))
  have z := Lib.hid (show ((s1 ++ (⟨#[10]⟩ : ByteArray)) ++ t1).size ≤ 1048576 from app_size (by rw [ByteArray.size_append]; have : (⟨#[10]⟩ : ByteArray).size = 1 := rfl; omega))
  have BN := Lib.hid (bytes_nl s1 t1)
  have BL := Lib.hid (M.bytes_len s1)
  refine (tokens_c s1 (by omega) _).mono ?_
  rintro e w2 ⟨ts, r, hl, hb, (⟨rfl, es, A, c, rfl, rfl, ho⟩ | ⟨k, c, rfl, rfl, hc, h4, hx⟩)⟩
  · have L1 := Lib.hid hl.list
    have HB2 := Lib.hid (bl_trans HB1.out hb)
    have O1 := Lib.hid ho
    have P1 := Lib.hid hl.count
    clear hl hb ho
    go_wp2_with fail
    refine (tokens_c t1 (by omega) _).mono ?_
    rintro e w3 ⟨ts, r, hl, hb, (⟨rfl, fs, B, d, rfl, rfl, ho⟩ | ⟨k, c, rfl, rfl, hc, h4, hx⟩)⟩
    · -- both have tokens
      have L2 := Lib.hid hl.list
      have HB3 := Lib.hid (bl_trans HB2.out hb)
      have hs23 := hb.size
      have RA := Lib.hid (O1.out.rd.below hb)
      have OB := Lib.hid ho
      have P2 := Lib.hid hl.count
      clear hl hb ho
      have L3 := Lib.hid (show Lx (M.bytes ((s1 ++ (⟨#[10]⟩ : ByteArray)) ++ t1)) 0 (es.map TE.tk ++ (fs.map TE.tk).map (Tk.moved (s1.size + 1))) none by
        rw [BN.out]
        have := joins L1.out L2.out
        rwa [BL.out] at this)
      go_wp2_with fail
      refine (tokens_c _ z.out _).mono ?_
      rintro e w4 hT
      obtain ⟨hb, gs, C, d3, hgs, rfl, ho⟩ := tok_none hT L3.out
      have hb3s := hb.size
      have HB4 := Lib.hid (bl_trans HB3.out hb)
      have RA4 := Lib.hid (RA.out.below hb)
      have OB4 := Lib.hid (ownsRow_at OB.out fun g hg => hb.block g (OB.out.lt g hg).2)
      have OC := Lib.hid ho
      have HGS := Lib.hid hgs
      clear hT hgs ho hb
      have HA := Lib.hid (fun p (hp : A = some p) => (O1.out.lt p.block (by rw [hp]; rfl)).2)
      have HC := Lib.hid (fun p (hp : C = some p) => (OC.out.lt p.block (by rw [hp]; rfl)).1)
      have RC4 := Lib.hid OC.out.rd
      have HP := Lib.hid (fun (e : TE) (he : e ∈ fs) => show e.k < t1.size from by
        have := (TokL.place (show TokL _ _ _ none from L2.out)).1 e.tk (List.mem_map_of_mem he)
        rw [List.length_drop, M.bytes_len] at this
        have h2 : e.tk.k = e.k := rfl
        have h3 := skipL_le (M.bytes t1) false
        rw [M.bytes_len] at h3
        omega)
      have hel : es.length ≤ 200 := by have := P1.out; rw [List.length_map] at this; omega
      have hfl : fs.length ≤ 200 := by have := P2.out; rw [List.length_map] at this; omega
      have hgl : gs.length ≤ 400 := by have := congrArg List.length HGS.out; rw [List.length_map, List.length_append, List.length_map, List.length_map, List.length_map] at this; omega
      go_wp2
      go_loopw [11] (fun i wr => ∃ m : Nat, m ≤ fs.length ∧ i = .int .i64 m ∧ w4.heap.size ≤ wr.heap.size ∧ Below w.heap.size w wr ∧ RdT wr A es.length c es ∧ RdT wr C gs.length d3 gs ∧ OwT wr w2.heap.size B fs.length d (mvd (s1.size + 1) m fs)) (fun i _ => fs.length - (intOf i).toNat)
      case atStart => exact ⟨0, Nat.zero_le _, rfl, Nat.le_refl _, HB4.out, RA4.out, RC4.out, by rw [mvd_zero]; exact OB4.out⟩
      case round =>
        obtain ⟨m, hm, rfl, hwr, hb, ra, rc, ob⟩ := hrel
        have HBr := Lib.hid hb
        have RAr := Lib.hid ra
        have RCr := Lib.hid rc
        have OBr := Lib.hid ob
        clear hb ra rc ob
        by_cases hmn : m < fs.length
        · obtain ⟨⟨ed, et, ek⟩, he⟩ : ∃ e, fs[m]? = some e := ⟨_, List.getElem?_eq_getElem hmn⟩
          have hek : ek < t1.size := HP.out _ (List.mem_of_getElem? he)
          obtain ⟨g, o, hB, hgl, c0, c1, c2⟩ := OBr.out.rd.cell m _ (mvd_at he)
          have ho0 : o = 0 := by
            rcases OBr.out.2 with ⟨hv, hn⟩ | ⟨g', cap, cur, hv, _⟩
            · omega
            · injection hv with h1 h2 h3
              rw [hB] at h1
              injection h1 with h1
              injection h1
          subst ho0
          subst hB
          rw [Nat.zero_add] at c0 c1 c2
          have f2 := World.ownsRow.frozenAt OBr.out (m * 3 + 2)
          have hg1 := (OBr.out.lt g rfl).1
          have hg2 := (OB.out.lt g rfl).2
          have HE := Lib.hid he
          have HV := Lib.hid (show ((ek : Int) + s1.size + 1) = ((ek + (s1.size + 1) : Nat) : Int) by push_cast; omega)
          clear he hgl
          go_wp2
          go_roundw
          case rel =>
            refine ⟨m + 1, by omega, by go_num, by rw [World.size_setCell]; exact hwr, ?_, ?_, ?_, ?_⟩
            · exact HBr.out.setCell (p := ⟨g, _, none⟩) (Nat.le_trans HB2.out.size hg1) _
            · exact RAr.out.set (fun p hp => by have := HA.out p hp; omega) _
            · exact RCr.out.set (fun p hp => by have := HC.out p hp; omega) _
            · rw [HV.out]
              exact OwT.move OBr.out HE.out
          case measure => simp [intOf]; omega
        · obtain rfl : m = fs.length := by omega
          have OF := Lib.hid (show OwT wr w2.heap.size B fs.length d (fs.map (TE.moved (s1.size + 1))) by rw [← mvd_all]; exact OBr.out)
          have hw4 := HBr.out.size
          have O0 : OwT (wr.alloc (.cells #[] 43)) wr.heap.size (some ⟨wr.heap.size, 0, none⟩) 0 0 [] := ⟨rfl, .inr ⟨wr.heap.size, 0, #[], rfl, Nat.le_refl _, heap_alloc_new wr _, Nat.le_refl _, by unfold maxLen; omega, rfl, rfl⟩⟩
          have OO := Lib.hid O0
          have RA1 := Lib.hid (RAr.out.below (bx_alloc wr (.cells #[] 43)))
          have RC1 := Lib.hid (RCr.out.below (bx_alloc wr (.cells #[] 43)))
          have OF1 := Lib.hid (OF.out.rd.below (bx_alloc wr (.cells #[] 43)))
          have NA := Lib.hid (OwT.nilcap O1.out)
          have NB := Lib.hid (OwT.nilcap OB.out)
          have HBx := Lib.hid (bl_trans HBr.out (bx_alloc wr (.cells #[] 43)))
          have lB := Lib.hid fun p (hp : B = some p) => show some p.block ≠ some wr.heap.size from fun e => by
            have := (OF.out.lt p.block (by rw [hp]; rfl)).2
            injection e with e
            omega
          have lC := Lib.hid fun p (hp : C = some p) => show p.block < wr.heap.size from Nat.lt_of_lt_of_le (OC.out.lt p.block (by rw [hp]; rfl)).2 hwr
          have hbb := HBr.out.size
          have SM := Lib.hid (show sameB true gs (es ++ fs.map (TE.moved (s1.size + 1))) = true by
            rw [same_true]
            refine decide_eq_true (HGS.out.trans ?_)
            rw [List.map_append, List.map_map, List.map_map]
            rfl)
          clear O0
          go_wp2_with (first
            | (at_builtin; have hx := OG.out; clear hx; refine app_rowT _ (by rfl) _ _ rfl rfl OG.out rfl OF2.out NB.out.1 NB.out.2 (by omega) hza.out ?_; intro A2 c2 wb how hgr; have OH := Lib.hid how; have RC3 := Lib.hid (RC2.out.grown hgr (fun p hp e => (by have h1 := lC.out p hp; have h2 := (OG.out.lt p.block e.symm).1; omega))); have HBz := Lib.hid (HBy.out.grown hgr HBy.out.size (fun g e => (by have h2 := (OG.out.lt g e).1; omega))); clear how hgr)
            | (at_builtin; refine app_rowT _ (by rfl) _ _ rfl rfl OO.out rfl RA1.out NA.out.1 NA.out.2 (by omega) (by simp) ?_; intro A1 c1 wa how hgr; rw [Nat.zero_add, List.nil_append] at how; have OG := Lib.hid how; have OF2 := Lib.hid (OF1.out.grown hgr lB.out); have RC2 := Lib.hid (RC1.out.grown hgr (fun p hp (e : some p.block = some wr.heap.size) => (by have := lC.out p hp; injection e with e; omega))); have hza := Lib.hid (show wr.heap.size ≤ wa.heap.size from (by have := hgr.size; simp at this; omega)); have HBy := Lib.hid (HBx.out.grown hgr HBx.out.size (fun g (e : some wr.heap.size = some g) => (by injection e with e; omega))); clear how hgr)
            | (go_at_call 12; refine (same_c true _ _ _ gs _ _ _ _ _ RC3.out OH.out.rd (by omega) (by omega)).mono ?_; rw [SM.out]; rintro _ w9 ⟨rfl, q, rfl⟩))
          go_ret
          exact ⟨rfl, below_drewN HBz.out q⟩
    · -- the second is wrong
      have L2 := Lib.hid hl.list
      have HB3 := Lib.hid (bl_trans HB2.out hb)
      have C1 := Lib.hid (And.intro hc (And.intro h4 hx))
      have hk : k < t1.size := by
        have := (TokL.place (show TokL _ _ _ (some k) from hl.list)).2.2 k rfl
        rw [List.length_drop, M.bytes_len] at this
        have h3 := skipL_le (M.bytes t1) false
        rw [M.bytes_len] at h3
        omega
      clear hl hb hc h4 hx
      have L3 := Lib.hid (show Lx (M.bytes ((s1 ++ (⟨#[10]⟩ : ByteArray)) ++ t1)) 0 (es.map TE.tk ++ ts.map (Tk.moved (s1.size + 1))) (some (k + (s1.size + 1))) by
        rw [BN.out]
        have := joins L1.out L2.out
        rwa [BL.out] at this)
      go_wp2_with fail
      refine (tokens_c _ z.out _).mono ?_
      rintro e w4 hT
      obtain ⟨hb, c3, rfl, hc3, h4, hx⟩ := tok_some hT L3.out
      have HB4 := Lib.hid (bl_trans HB3.out hb)
      have HC4 := Lib.hid hb
      have hff := field_f1 4 k
      have T3 := Lib.hid (told_wrong c3 0 4 ((k : Int) + s1.size + 1) w4 (cell0_b HG.out HB4.out) h4 (by rw [hx]; congr 2 <;> push_cast <;> omega))
      clear hT hb hc3 h4 hx
      go_wp2_with (first
        | (go_at_call 17; ((with_reducible refine T3.out.mono ?_); rintro e w5 ⟨rfl, hb5⟩; have HB5 := Lib.hid (bl_trans HB4.out hb5); have HC5 := Lib.hid (bl_trans HC4.out hb5); clear hb5))
        | (go_at_call 17; refine (told_wrong c 0 4 k _ (cell0_b HG.out HB5.out) (by rw [HC5.out.cell (p := ⟨c, 0, none⟩) C1.out.1]; exact C1.out.2.1) (by rw [HC5.out.cell (p := ⟨c, 1, none⟩) C1.out.1]; exact C1.out.2.2)).mono ?_; rintro e w6 ⟨rfl, hb6⟩; have HB6 := Lib.hid (bl_trans HB5.out hb6); clear hb6))
      go_ret
      exact ⟨rfl, HB6.out⟩
  · -- the first is wrong
    have L1 := Lib.hid hl.list
    have HB2 := Lib.hid (bl_trans HB1.out hb)
    have C1 := Lib.hid (And.intro hc (And.intro h4 hx))
    clear hl hb hc h4 hx
    have L3 := Lib.hid (show Lx (M.bytes ((s1 ++ (⟨#[10]⟩ : ByteArray)) ++ t1)) 0 ts (some k) by rw [BN.out]; exact L1.out.wrong)
    go_wp2_with fail
    refine (tokens_c t1 (by omega) _).mono ?_
    rintro e w3 ⟨us, r, hl, hb, h⟩
    have HB3 := Lib.hid (bl_trans HB2.out hb)
    have HC3 := Lib.hid hb
    clear hl hb
    rcases h with ⟨_, fs, B, d, _, rfl, _⟩ | ⟨k', c', _, rfl, _⟩
    all_goals
      go_wp2_with fail
      refine (tokens_c _ z.out _).mono ?_
      rintro e w4 hT
      obtain ⟨hb, c3, rfl, hc3, h4, hx⟩ := tok_some hT L3.out
      have HB4 := Lib.hid (bl_trans HB3.out hb)
      have HC4 := Lib.hid (bl_trans HC3.out hb)
      have T3 := Lib.hid (told_wrong c3 0 4 k w4 (cell0_b HG.out HB4.out) h4 hx)
      clear hT hb hc3 h4 hx
      go_wp2_with (first
        | (go_at_call 17; ((with_reducible refine T3.out.mono ?_); rintro e w5 ⟨rfl, hb5⟩; have HB5 := Lib.hid (bl_trans HB4.out hb5); have HC5 := Lib.hid (bl_trans HC4.out hb5); clear hb5))
        | (go_at_call 17; refine (told_wrong c 0 4 k _ (cell0_b HG.out HB5.out) (by rw [HC5.out.cell (p := ⟨c, 0, none⟩) C1.out.1]; exact C1.out.2.1) (by rw [HC5.out.cell (p := ⟨c, 1, none⟩) C1.out.1]; exact C1.out.2.2)).mono ?_; rintro e w6 ⟨rfl, hb6⟩; have HB6 := Lib.hid (bl_trans HB5.out hb6); clear hb6))
      go_ret
      exact ⟨rfl, HB6.out⟩
end Go.Proofs.YthhkpoobcnmdgaaDoor
