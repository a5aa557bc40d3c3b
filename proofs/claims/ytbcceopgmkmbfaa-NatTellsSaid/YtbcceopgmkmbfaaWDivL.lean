/- nat.divideLimb: one limb of a long division. -/
import Derived.Test.YtbcceopgmkmbfaaWGuess
import Derived.Test.YtbcceopgmkmbfaaWTimes
namespace Go.Proofs.Ytbcceopgmkmbfaa
open Go.RowKit
set_option linter.unusedVariables false

namespace M
theorem Guess.exists (t3 b2 : Nat) (hb : 0 < b2) : Guess t3 b2 (min (t3 / b2) (R - 1)) := by
  have hR := R_pos
  have h1 : min (t3 / b2) (R - 1) ≤ t3 / b2 := Nat.min_le_left _ _
  refine ⟨by have := Nat.min_le_right (t3 / b2) (R - 1); omega, Nat.le_trans (Nat.mul_le_mul_right _ h1) (Nat.div_mul_le_self _ _), ?_⟩
  by_cases h : t3 / b2 ≤ R - 1
  · right
    rw [Nat.min_eq_left h, Nat.add_mul, Nat.one_mul, Nat.mul_comm]
    have := Nat.lt_mul_div_succ t3 hb
    rw [Nat.mul_add, Nat.mul_one] at this
    exact this
  · left
    rw [Nat.min_eq_right (by omega)]
    omega
theorem Guess.uniq {t3 b2 g g' : Nat} (h : Guess t3 b2 g) (h' : Guess t3 b2 g') : g = g' := by
  have aux : ∀ {x y : Nat}, Guess t3 b2 x → Guess t3 b2 y → ¬ x < y := by
    intro x y hx hy hlt
    obtain ⟨_, _, h3⟩ := hx
    obtain ⟨k1, k2, _⟩ := hy
    rcases h3 with h3 | h3
    · omega
    · have : (x + 1) * b2 ≤ y * b2 := Nat.mul_le_mul_right _ hlt
      omega
  have := aux h h'
  have := aux h' h
  omega

/-- Was it too often? -/
theorem take_bo {U V g P y bo : Nat} (hy : y < P) (hb : bo ≤ 1) (h : U + P * bo = y + g * V) : (g * V ≤ U ∧ bo = 0 ∧ y = U - g * V) ∨ (U < g * V ∧ bo = 1 ∧ y + g * V = U + P) := by
  rcases (show bo = 0 ∨ bo = 1 by omega) with rfl | rfl
  · left
    rw [Nat.mul_zero] at h
    omega
  · right
    rw [Nat.mul_one] at h
    omega

/-- Once back. -/
theorem take_back {P X yt t zv cy V : Nat} (hX : X < P) (hz : zv < P) (h1 : yt + P * t + V = X + P * R) (h2 : zv + P * cy = yt + V) : t + cy = R ∧ zv = X := by
  have e : P * (t + cy) = P * t + P * cy := Nat.mul_add _ _ _
  have h3 : t + cy = R := by
    rcases Nat.lt_trichotomy (t + cy) R with h | h | h
    · have : P * (t + cy + 1) ≤ P * R := Nat.mul_le_mul_left _ h
      rw [Nat.mul_add, Nat.mul_one] at this
      omega
    · exact h
    · have : P * (R + 1) ≤ P * (t + cy) := Nat.mul_le_mul_left _ h
      rw [Nat.mul_add, Nat.mul_one] at this
      omega
  refine ⟨h3, ?_⟩
  rw [h3] at e
  omega

/-- The highest limb is at most the divisor's. -/
theorem top_le {P U V b1 r2 : Nat} (hU : U < V * R) (h1 : r2 * (P * R) ≤ U) (h2 : V < (b1 + 1) * P) : r2 ≤ b1 := by
  refine Nat.le_of_lt_succ ?_
  refine Nat.lt_of_not_le fun hc => ?_
  have e1 : (b1 + 1) * (P * R) ≤ r2 * (P * R) := Nat.mul_le_mul_right _ hc
  have e2 : V * R < (b1 + 1) * P * R := Nat.mul_lt_mul_of_pos_right h2 R_pos
  rw [Nat.mul_assoc] at e2
  omega
end M

section
variable {α : Type} {K : Kd α} {w w1 w2 : World} {g o : Nat} {xs ys : List α}
theorem PutK.over (h : PutK K w w1 g o xs) (h' : PutK K w1 w2 g o ys) (hl : ys.length = xs.length) : PutK K w w2 g o ys := by
  obtain ⟨cur, cur', h1, h2, hs, h3, h4⟩ := h.blk
  obtain ⟨c1, c2, k1, k2, ks, k3, k4⟩ := h'.blk
  rw [h2] at k1
  injection k1 with k1
  injection k1 with k1
  subst k1
  refine ⟨⟨h'.grown.os.trans h.grown.os, h'.grown.tape.trans h.grown.tape, h'.grown.output.trans h.grown.output, Nat.le_trans h.grown.size h'.grown.size, fun k hk hne => ?_⟩, h'.size.trans h.size, cur, c2, h1, k2, ks.trans hs, k3, fun j hj => ?_⟩
  · exact (h'.grown.block k (by have := h.grown.size; omega) hne).trans (h.grown.block k hk hne)
  · rw [k4 j hj, h4 j (by omega)]
theorem PutK.ofDrewN {k : Nat} (h : PutK K (w.drewN k) w1 g o xs) : PutK K w w1 g o xs := ⟨⟨h.grown.os, h.grown.tape, h.grown.output, h.grown.size, h.grown.block⟩, h.size, h.blk⟩
theorem WrK.drewN {n : Nat} (h : WrK K w g o n xs) (k : Nat) : WrK K (w.drewN k) g o n xs := ⟨h.len, h.lim, h.blk⟩
theorem WrK.take {n m : Nat} (h : WrK K w g o n xs) (hm : m ≤ n) : WrK K w g o m (xs.take m) := by
  obtain ⟨cur, hh, hx⟩ := h.blk
  refine ⟨by rw [List.length_take, h.len]; omega, fun x hx => h.lim x (List.mem_of_mem_take hx), cur, hh, fun i x hi => ?_⟩
  rw [List.getElem?_take] at hi
  split at hi
  · exact hx i x hi
  · cases hi
theorem RdK.drewN {A : Option Addr} {n c : Nat} (h : RdK K w A n c xs) (k : Nat) : RdK K (w.drewN k) A n c xs := ⟨h.len, h.cap, h.nil, h.lim, h.cells⟩
end

/-- The guess by its own number. -/
theorem guess_q (b o ca b' o' cb r0 r1 r2 b0 b1 G : Nat) (w : World) (c0 : w.cell? ⟨b, o, none⟩ = some (.int .u32 (r0 : Int))) (c1 : w.cell? ⟨b, o + 1, none⟩ = some (.int .u32 (r1 : Int))) (c2 : w.cell? ⟨b, o + 2, none⟩ = some (.int .u32 (r2 : Int)))
    (d0 : w.cell? ⟨b', o', none⟩ = some (.int .u32 (b0 : Int))) (d1 : w.cell? ⟨b', o' + 1, none⟩ = some (.int .u32 (b1 : Int))) (h0 : r0 < 4294967296) (h1 : r1 < 4294967296) (h2 : r2 ≤ b1) (g0 : b0 < 4294967296) (g1 : b1 < 4294967296) (g2 : 2147483648 ≤ b1)
    (hG : M.Guess ((r2 * M.R + r1) * M.R + r0) (b1 * M.R + b0) G) :
    Calls Try.prog 73 #[.slice (some ⟨b, o, none⟩) 3 ca, .slice (some ⟨b', o', none⟩) 2 cb] w fun e w' => e = .returned (.int .u32 (G : Int)) ∧ ∃ m, w' = w.drewN m := by
  refine (guess_any b o ca b' o' cb r0 r1 r2 b0 b1 w c0 c1 c2 d0 d1 h0 h1 h2 g0 g1 g2).mono ?_
  rintro e w' ⟨g, k, rfl, hg, rfl⟩
  rw [hg.uniq hG]
  exact ⟨rfl, k, rfl⟩

def DivT (w : World) (g o U V n : Nat) (e : Ending) (w' : World) : Prop :=
  ∃ (ys : List Nat), e = .returned (.int .u32 ((U / V : Nat) : Int)) ∧ ys.length = n + 1 ∧ M.Lim ys ∧ M.val ys = U % V ∧ PutK kU32 w w' g o ys

set_option maxHeartbeats 4000000 in
theorem divideLimb_any (g o m c : Nat) (us : List Nat) (b' o' c' : Nat) (vs : List Nat) (b1 : Nat) (w : World) (h : WrK kU32 w g o (m + 2 + 1) us) (h' : Rd w (some ⟨b', o', none⟩) (m + 2) c' vs) (hc : m + 2 + 1 ≤ c) (hne : b' ≠ g)
    (hn : m ≤ 4194300) (hb1 : vs[m + 1]? = some b1) (htop : 2147483648 ≤ b1) (hU : M.val us < M.val vs * M.R) :
    Calls Try.prog 67 #[.slice (some ⟨g, o, none⟩) (m + 2 + 1) c, .slice (some ⟨b', o', none⟩) (m + 2) c'] w (DivT w g o (M.val us) (M.val vs) (m + 2)) := by
  obtain ⟨_, _, r0, hA, hr0, hr0l, cr0⟩ := (h.rd hc).at32 (i := m) (by omega)
  injection hA with hA
  injection hA with hA hA'
  subst hA hA'
  obtain ⟨_, _, r1, hA, hr1, hr1l, cr1⟩ := (h.rd hc).at32 (i := m + 1) (by omega)
  injection hA with hA
  injection hA with hA hA'
  subst hA hA'
  obtain ⟨_, _, r2, hA, hr2, hr2l, cr2⟩ := (h.rd hc).at32 (i := m + 2) (by omega)
  injection hA with hA
  injection hA with hA hA'
  subst hA hA'
  obtain ⟨_, _, b0, hA, hb0, hb0l, cb0⟩ := h'.at32 (i := m) (by omega)
  injection hA with hA
  injection hA with hA hA'
  subst hA hA'
  obtain ⟨_, _, b1', hA, hb1', hb1l, cb1⟩ := h'.at32 (i := m + 1) (by omega)
  injection hA with hA
  injection hA with hA hA'
  subst hA hA'
  rw [hb1] at hb1'
  injection hb1' with hb1'
  subst hb1'
  have hulim : M.Lim us := h.lim
  have hvlim := h'.Lim
  have eU := M.val_top3 h.len hr0 hr1 hr2
  have eV := M.val_top2 h'.len hb0 hb1
  have hRm : 0 < M.R ^ m := Nat.pow_pos M.R_pos
  have hul := M.val_lt (hulim.take m)
  have hvl := M.val_lt (hvlim.take m)
  rw [List.length_take, h.len, Nat.min_eq_left (by omega)] at hul
  rw [List.length_take, h'.len, Nat.min_eq_left (by omega)] at hvl
  have hb2 : M.R ≤ b1 * M.R + b0 := by
    have : 1 * M.R ≤ b1 * M.R := Nat.mul_le_mul_right _ (by omega)
    omega
  have hr2b : r2 ≤ b1 := by
    refine M.top_le (P := M.R ^ m * M.R) hU ?_ ?_
    · rw [eU]
      have e1 : ((r2 * M.R + r1) * M.R + r0) * M.R ^ m = r2 * (M.R ^ m * M.R * M.R) + (r1 * M.R + r0) * M.R ^ m := by
        rw [Nat.add_mul, Nat.add_mul (r2 * M.R), Nat.add_mul, Nat.add_mul (r1 * M.R), Nat.add_assoc]
        congr 1
        simp only [Nat.mul_assoc, Nat.mul_comm, Nat.mul_left_comm]
      omega
    · rw [eV, Nat.add_mul, Nat.add_mul, Nat.one_mul]
      have e1 : b1 * M.R * M.R ^ m = b1 * (M.R ^ m * M.R) := by rw [Nat.mul_assoc, Nat.mul_comm M.R]
      have e2 : (b0 + 1) * M.R ^ m ≤ M.R * M.R ^ m := Nat.mul_le_mul_right _ hb0l
      rw [Nat.add_mul, Nat.one_mul, Nat.mul_comm M.R] at e2
      omega
  have hG := M.Guess.exists ((r2 * M.R + r1) * M.R + r0) (b1 * M.R + b0) (by have := M.R_pos; omega)
  obtain ⟨G, hGe⟩ : ∃ G, G = min (((r2 * M.R + r1) * M.R + r0) / (b1 * M.R + b0)) (M.R - 1) := ⟨_, rfl⟩
  rw [← hGe] at hG
  have hGR := hG.1
  have hVp : 0 < M.val vs := by
    rw [eV]
    have : 0 < (b1 * M.R + b0) * M.R ^ m := Nat.mul_pos (by have := M.R_pos; omega) hRm
    omega
  have hnear := M.guess_near hRm hvl hul hb2 hG (by rw [← eU, ← eV]; exact hU)
  rw [← eU, ← eV] at hnear
  have hdiv := M.guess_div hVp hnear.1 hnear.2
  have hvlt := M.val_lt hvlim
  rw [h'.len] at hvlt
  rw [M.R_eq] at hr0l hr1l hr2l hb0l hb1l hGR
  have H := Lib.hid h
  have H' := Lib.hid h'
  have HG := Lib.hid hG
  have HD := Lib.hid hdiv
  have HVL := Lib.hid hvlt
  have hcm : ¬ c' = m := by have := H'.out.cap; omega
  have C0 := Lib.hid cr0
  have C1 := Lib.hid (show w.cell? ⟨g, o + m + 1, none⟩ = some (.int .u32 (r1 : Int)) by rw [Nat.add_assoc]; exact cr1)
  have C2 := Lib.hid (show w.cell? ⟨g, o + m + 2, none⟩ = some (.int .u32 (r2 : Int)) by rw [Nat.add_assoc]; exact cr2)
  have D0 := Lib.hid cb0
  have D1 := Lib.hid (show w.cell? ⟨b', o' + m + 1, none⟩ = some (.int .u32 (b1 : Int)) by rw [Nat.add_assoc]; exact cb1)
  have HVP := Lib.hid hVp
  have HNR := Lib.hid hnear.1
  clear h h' hG hdiv hnear hGe eU eV hul hvl hb2 hulim hvlim hU hr0 hr1 hr2 hb0 hb1 hRm hvlt cr0 cr1 cr2 cb0 cb1 hVp
  go_enter Try.func67, Try.ntmps67
  go_wp2
  go_quiet ((go_at_call 73; rw [show m + 2 + 1 - m = 3 by omega]; exact Calls.quiet_of (guess_q g (o + m) _ b' (o' + m) _ r0 r1 r2 b0 b1 G _ C0.out C1.out C2.out D0.out D1.out hr0l hr1l hr2b hb0l hb1l htop HG.out)))
  go_wp2_with fail
  refine (takeTimes_any g o (m + 2) c us _ c' vs G _ (H.out.drewN _) (H'.out.drewN _) (fun p hp _ => by cases hp; exact hne) (by omega) hGR).mono ?_
  rintro e w1 ⟨ys, bo, rfl, hbo, hyl, hys, hsum, hp⟩
  have hylt := M.val_lt hys
  rw [hyl] at hylt
  have hp1 := hp.ofDrewN
  rcases M.take_bo hylt hbo hsum with ⟨h1, rfl, h3⟩ | ⟨h1, rfl, h3⟩
  · have hres : M.val us / M.val vs = G ∧ M.val ys = M.val us % M.val vs := by
      rcases HD.out with ⟨_, k2, k3⟩ | ⟨k1, _⟩
      · exact ⟨k2, by rw [k3, h3]⟩
      · omega
    have HR := Lib.hid hres
    have HY := Lib.hid hys
    have HP := Lib.hid hp1
    have HYL := Lib.hid hyl
    clear hres hys hp hp1 hsum hylt h1 h3 hyl
    go_wp2
    go_ret
    exact ⟨ys, ret_int (by rw [HR.out.1]), HYL.out, HY.out, HR.out.2, HP.out⟩
  · have hres : 1 ≤ G ∧ M.val us / M.val vs = G - 1 ∧ M.val us % M.val vs = M.val us + M.val vs - G * M.val vs := by
      rcases HD.out with ⟨k1, _⟩ | ⟨_, k1, k2, k3⟩
      · omega
      · exact ⟨k1, k2, k3⟩
    obtain ⟨hG1, hq, hr⟩ := hres
    have hrlt := Nat.mod_lt (M.val us) HVP.out
    have hw1 := hp1.wr hys
    rw [hyl] at hw1
    obtain ⟨_, _, t, hA, ht, htl, hct⟩ := (hw1.rd (c := m + 2 + 1) (Nat.le_refl _)).at32 (i := m + 2) (by omega)
    injection hA with hA
    injection hA with hA hA'
    subst hA hA'
    have hft : w1.frozen? ⟨g, o + (m + 2), none⟩ = false := hp1.frozen _
    have hval : M.val ys = M.val (ys.take (m + 2)) + M.R ^ (m + 2) * t := by
      have := M.val_take_some ht
      rw [List.take_of_length_le (by omega)] at this
      exact this
    have h4 : M.val (ys.take (m + 2)) + M.R ^ (m + 2) * t + M.val vs = M.val us % M.val vs + M.R ^ (m + 2) * M.R := by
      rw [← Nat.pow_succ, hr, ← hval]
      have : m + 2 + 1 = (m + 2).succ := rfl
      rw [this] at h3
      have := HNR.out
      omega
    have hrd1 := (H'.out.drewN _).put hp (fun p hp _ => by cases hp; exact hne)
    have hwt := hw1.take (m := m + 2) (by omega)
    have HW1 := Lib.hid hwt
    have HRD := Lib.hid hrd1
    have H4 := Lib.hid h4
    have HP1 := Lib.hid hp1
    have HRL := Lib.hid hrlt
    have HQ := Lib.hid hq
    have HYL := Lib.hid hyl
    have HT := Lib.hid hct
    rw [M.R_eq] at htl
    clear hwt hrd1 h4 hp1 hrlt hq hp hsum hylt h1 h3 hys hr hw1 ht hval hyl
    have hm2 : ¬ c = m + 2 := by omega
    go_wp2_with fail
    refine (addTimes_any g o (m + 2) c _ _ c' vs 1 w1 HW1.out HRD.out (fun p hp _ => by cases hp; exact hne) (by omega) (by omega)).mono ?_
    rintro e w2 ⟨zs, cy, rfl, hcy, hzl, hzs, hzv, hp2⟩
    have hzlt := M.val_lt hzs
    rw [hzl] at hzlt
    rw [Nat.one_mul] at hzv
    obtain ⟨htc, hzX⟩ := M.take_back (Nat.lt_trans HRL.out HVL.out) hzlt H4.out hzv
    have hct2 : w2.cell? ⟨g, o + (m + 2), none⟩ = some (.int .u32 (t : Int)) := by rw [hp2.cellOut (by omega)]; exact HT.out
    have hft2 : w2.frozen? ⟨g, o + (m + 2), none⟩ = false := hp2.frozen _
    have hT2 := HT.out
    rw [← hzl] at hT2
    have hp3 := hp2.snoc 0 hT2
    rw [hzl] at hp3
    have hp4 := HP1.out.over hp3 (by simp [hzl, HYL.out])
    rw [M.R_eq] at htc hcy
    have htc2 : ((t : Int) + (cy : Int)) % 4294967296 = 0 := by omega
    have HP4 := Lib.hid hp4
    have HZS := Lib.hid hzs
    have HZL := Lib.hid hzl
    have HZX := Lib.hid hzX
    clear hp4 hp3 hp2 hT2 hzs hzl hzX hzv hzlt
    go_wp2
    go_ret
    refine ⟨zs ++ [0], ret_int ?_, by simp [HZL.out], M.Lim.append HZS.out (M.Lim.cons M.R_pos M.Lim.nil), ?_, HP4.out⟩
    · rw [HQ.out]
      omega
    · rw [M.val_append, M.val_one, Nat.mul_zero, Nat.add_zero, HZX.out]

end Go.Proofs.Ytbcceopgmkmbfaa
