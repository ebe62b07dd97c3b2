/-
  FrameJoin: the walk.
-/
import Derived.Test.YtjpkokmokdaddaaGl
import Derived.StillTailTactics
set_option linter.unusedVariables false
namespace Go.Proofs.Ytjpkokmokdaddaa
open Go.RowKit Go.Shelf Go.Lib Go.Deep

theorem scan_count (x : List UInt8) : (scanL x).1.length ≤ x.length := by
  have h1 := atL_ge (scanL x).1 (scanL x).1.length (Nat.le_refl _)
  have h2 := (at_end x).2
  omega
theorem RW.empty (W : World) : RW W (W.alloc (.cells #[] 22)) [] (.slice (some ⟨W.heap.size, 0, none⟩) 0 0) :=
  ⟨[], ⟨rfl, .inr ⟨W.heap.size, 0, #[], rfl, Nat.le_refl _, heap_alloc_new W _, Nat.le_refl _, by unfold maxLen; omega, by simp, rfl⟩⟩, fun i h => absurd h (by simp), (Below.refl _ _).alloc (Nat.le_refl _) _⟩
set_option maxRecDepth 100000 in
set_option maxHeartbeats 4000000 in
theorem join_walk (v : Value) (x : List UInt8) (u : Value) (y : List UInt8) (w : World) (hx0 : rd w x v ∧ fit v) (hy0 : rd w y u ∧ fit u) : Calls Try.prog 8 #[v, u] w fun e w' => e = .returned (.bool true) ∧ Below w.heap.size w w' := by
  obtain ⟨hx, hft⟩ := hx0
  obtain ⟨hy, hgt⟩ := hy0
  obtain ⟨o, c, rfl, hc1, hc2⟩ := hx.form
  obtain ⟨p, d, rfl, hd1, hd2⟩ := hy.form
  by_cases hlen : 1500 < x.length
  · have t1 : decide ((1500 : Int) < (x.length : Int)) = true := decide_eq_true (by omega)
    have t1' : decide (1500 < x.length) = true := decide_eq_true hlen
    clear hx hy hc1 hc2 hlen hd1 hd2 hft hgt
    go_enter Try.func8, Try.ntmps8
    go_wp2_with (go_at_call 9; refine (wakes_hid w _ (Below.refl _ _)).mono ?_; rintro e w1 ⟨rfl, HB⟩)
    go_ret
    exact ⟨rfl, HB.out⟩
  have t1 : decide ((1500 : Int) < (x.length : Int)) = false := decide_eq_false (by omega)
  have t1' : decide (1500 < x.length) = false := decide_eq_false hlen
  by_cases hlen2 : 1500 < y.length
  · have t2 : decide ((1500 : Int) < (y.length : Int)) = true := decide_eq_true (by omega)
    have t2' : decide (1500 < y.length) = true := decide_eq_true hlen2
    clear hx hy hc1 hc2 hlen hd1 hd2 hft hgt hlen2
    go_enter Try.func8, Try.ntmps8
    go_wp2_with (go_at_call 9; refine (wakes_hid w _ (Below.refl _ _)).mono ?_; rintro e w1 ⟨rfl, HB⟩)
    go_ret
    exact ⟨rfl, HB.out⟩
  have t2 : decide ((1500 : Int) < (y.length : Int)) = false := decide_eq_false (by omega)
  have t2' : decide (1500 < y.length) = false := decide_eq_false hlen2
  have hT := scan_torn x
  have hk1 := scan_count x
  have hk2 := scan_count y
  have HJ := Lib.hid (scan_join y x.length x (Nat.le_refl _))
  have HS1 := Lib.hid (pscan_any x _ w hx hft (by omega))
  have HS2 : Hid (∀ W, Below w.heap.size w W → _) := Lib.hid fun W hW => pscan_any y _ W (hy.below hW) hgt (by omega)
  obtain ⟨L, hL⟩ : ∃ L, (scanL x).1 = L := ⟨_, rfl⟩
  obtain ⟨T, hTT⟩ : ∃ T, (scanL x).2 = T := ⟨_, rfl⟩
  obtain ⟨M, hM⟩ : ∃ M, (scanL y).1 = M := ⟨_, rfl⟩
  obtain ⟨R, hR⟩ : ∃ R, (scanL y).2 = R := ⟨_, rfl⟩
  rw [hL, hTT] at HS1
  rw [hM, hR] at HS2
  rw [hL, hM, hTT, hR] at HJ
  rw [hTT] at hT
  rw [hL] at hk1
  rw [hM] at hk2
  have HK := Lib.hid (show L.length + M.length ≤ 3000 by omega)
  have HX := Lib.hid hx
  have HY := Lib.hid hy
  have HC := Lib.hid (And.intro hlen (And.intro hlen2 (And.intro hc1 hc2)))
  have t3 : decide ((T : Int) < 0) = false := decide_eq_false (by omega)
  have t4 : decide ((x.length : Int) < (T : Int)) = false := decide_eq_false (by omega)
  have t4' : decide (x.length < T) = false := decide_eq_false (by omega)
  obtain ⟨X, hX⟩ : ∃ X, x.take (x.length - T) = X := ⟨_, rfl⟩
  have hq : X.length = x.length - T := by rw [← hX, List.length_take]; omega
  rw [hX] at HJ
  have hX2 : x.take X.length = X := by rw [hq]; exact hX
  have hsub : IntKind.i64.wrap ((x.length : Int) - (T : Int)) = (X.length : Int) := by
    rw [show (x.length : Int) - (T : Int) = (X.length : Int) by omega]
    go_unwrap
  have hqc : (X.length : Int) ≤ (c : Int) := by omega
  have hqx : X.length ≤ x.length := by omega
  have HQ := Lib.hid hq
  have HQX := Lib.hid (And.intro hqx hX2)
  have HTS := Lib.hid (And.intro hL (And.intro hTT hT))
  clear hk1 hk2 hx hy hc1 hc2 hlen hd1 hd2 hft hgt hlen2 hL hM hR hTT hT hq hqx hX hX2
  go_enter Try.func8, Try.ntmps8
  go_wp2_with (go_at_call_of 14 (Value.slice o x.length c); refine HS1.out.mono ?_)
  rintro e w1 ⟨o1, c1, rfl, hq1⟩
  have HB1 := Lib.hid hq1.out.2
  have HL1 := Lib.hid hq1.out.1
  clear hq1 HS1
  go_wp2_with (go_at_call 14; refine (HS2.out w1 HB1.out).mono ?_)
  rintro e w2 ⟨o2, c2, rfl, hq2⟩
  have HB2 := Lib.hid (HB1.out.trans (hq2.out.2.mono HB1.out.size))
  have HL2 := Lib.hid (HL1.out.below hq2.out.2)
  have HM2 := Lib.hid hq2.out.1
  clear hq2 HS2 HL1
  have hb3 : Below w2.heap.size w2 (w2.alloc (.cells #[] 5)) := (Below.refl _ _).alloc (Nat.le_refl _) _
  have OW3 := Lib.hid (ow.new (base := w2.heap.size) (W := w2) [] #[] 0 (Nat.le_refl _) (Nat.le_refl _) (by unfold maxLen; omega) (by simp) rfl)
  have hx3 := HX.out.cut X.length c HQX.out.1 (by omega) (by have := HC.out.2.2.2; omega)
  rw [HQX.out.2] at hx3
  have HX3 := Lib.hid (hx3.below (HB2.out.trans (hb3.mono HB2.out.size)))
  have HB3 := Lib.hid hb3
  clear hb3 hx3
  go_wp2_with (at_builtin; go_loud (refine wpList_app_ow rfl _ _ rfl w2.heap.size (.slice (some ⟨w2.heap.size, 0, none⟩) 0 0) (.slice o X.length c) [] X rfl rfl OW3.out HX3.out (by have := HC.out; have := HQX.out.1; simp; omega) (by have := HB3.out.size; omega) ?_))
  intro o4 c4 w4 own4 gr4 at4
  try simp only [List.length_nil, Nat.zero_add, List.nil_append] at own4
  try simp only [List.length_nil, Nat.zero_add, List.nil_append] at at4
  try simp only [List.length_nil, Nat.zero_add, List.nil_append]
  have hb4 : Below w2.heap.size w2 w4 := HB3.out.trans ((Fr.grown (B := fun k => w2.heap.size ≤ k) gr4 (fun r hr => by simp [Value.ownBlock] at hr; omega)).below (fun k hk => hk) HB3.out.size)
  have HB24 := Lib.hid hb4
  have HB4 := Lib.hid (HB2.out.trans (hb4.mono HB2.out.size))
  have OW4 := Lib.hid own4
  have HY4 := Lib.hid (HY.out.below HB4.out)
  clear own4 gr4 at4 hb4 HB3 OW3 HX3
  go_wp2_with (at_builtin; go_loud (refine wpList_app_ow rfl _ _ rfl w2.heap.size (.slice o4 X.length c4) (.slice p y.length d) X y rfl rfl OW4.out HY4.out (by have := HC.out; have := HQX.out.1; omega) HB24.out.size ?_))
  intro o5 c5 w5 own5 gr5 at5
  have hb5 : Below w2.heap.size w2 w5 := HB24.out.trans ((Fr.grown (B := fun k => w2.heap.size ≤ k) gr5 (fun r hr => (OW4.out.lt r hr).1)).below (fun k hk => hk) HB24.out.size)
  have HB25 := Lib.hid hb5
  have HB5 := Lib.hid (HB2.out.trans (hb5.mono HB2.out.size))
  have hS5 := pscan_any (X ++ y) _ w5 (by have := own5.rd; exact this) own5.fit (by rw [List.length_append]; have := HC.out; have := HQX.out.1; omega)
  rw [HJ.out] at hS5
  obtain ⟨N, hN⟩ : ∃ N, L ++ M = N := ⟨_, rfl⟩
  simp only [hN] at hS5
  have HNN := Lib.hid hN
  have HS5 := Lib.hid hS5
  clear own5 gr5 at5 hb5 hS5 hN OW4 HY4 HB24 HB4
  go_wp2_with (go_at_call 14; go_loud (refine HS5.out.mono ?_))
  rintro e w6 ⟨o6, c6, rfl, hq6⟩
  have HB26 := Lib.hid (HB25.out.trans (hq6.out.2.mono HB25.out.size))
  have HN6 := Lib.hid hq6.out.1
  clear hq6 HS5 HB25 HB5
  have hE7 := RW.empty w6
  have HE7 := Lib.hid hE7
  have HB27 : Hid (Below w6.heap.size w6 (w6.alloc (.cells #[] 22))) := Lib.hid ((Below.refl _ _).alloc (Nat.le_refl _) _)
  have HL6 := Lib.hid (HL2.out.below HB26.out).rds
  have HM6 := Lib.hid (HM2.out.below HB26.out).rds
  clear hE7
  go_wp2_with (at_builtin; go_loud (refine wpList_app_rw rfl _ _ rfl w6 (.slice (some ⟨w6.heap.size, 0, none⟩) 0 0) (.slice o1 L.length c1) [] L rfl rfl HE7.out (RN.of HL6.out HB27.out) (by have := HK.out; simp; omega) ?_))
  intro o8 c8 w8 rw8 gr8
  try simp only [List.length_nil, Nat.zero_add, List.nil_append] at rw8
  try simp only [List.length_nil, Nat.zero_add, List.nil_append]
  have RW8 := Lib.hid rw8
  have HB8 : Hid (Below w6.heap.size w6 w8) := Lib.hid (by obtain ⟨_, _, _, h⟩ := rw8; exact h)
  clear rw8 gr8
  go_wp2_with (at_builtin; go_loud (refine wpList_app_rw rfl _ _ rfl w6 (.slice o8 L.length c8) (.slice o2 M.length c2) L M rfl rfl RW8.out (RN.of HM6.out HB8.out) (by have := HK.out; omega) ?_))
  intro o9 c9 w9 rw9 gr9
  have hB9 : Below w6.heap.size w6 w9 := by obtain ⟨_, _, _, h⟩ := rw9; exact h
  have hs9 := rsame_any N (L ++ M) _ _ w9 (HN6.out.rds.below hB9) rw9.rds
  rw [HNN.out, decide_eq_true rfl] at hs9
  have HS9 : Hid (Calls Try.prog 16 #[.slice o6 N.length c6, .slice o9 (L.length + M.length) c9] w9 fun e w' => e = .returned (.bool true) ∧ Hid (Below w9.heap.size w9 w')) := Lib.hid hs9
  have HB9 := Lib.hid (HB2.out.trans ((HB26.out.trans (hB9.mono HB26.out.size)).mono HB2.out.size))
  clear rw9 gr9 hs9 hB9 RW8 HM6 HL6 HE7
  by_cases hT0 : T = 0
  · have t5 : ((T : Int) == 0) = true := by simp [hT0]
    clear hT0
    go_wp2_with first
      | (go_at_call 16; go_loud (refine HS9.out.mono ?_); rintro e w10 ⟨rfl, hq10⟩; have HB10 := Lib.hid (HB9.out.trans (hq10.out.mono HB9.out.size)); clear hq10)
      | (go_at_call 9; refine (wakes_hid w _ HB10.out).mono ?_; rintro e w11 ⟨rfl, HB⟩)
    go_ret
    exact ⟨rfl, HB.out⟩
  · have t5 : ((T : Int) == 0) = false := by simpa using hT0
    obtain ⟨ad, rfl, _⟩ := HX.out.at (by have := HTS.out; omega)
    have hcX : ¬ c = X.length := by have := HTS.out; have := HQ.out; have := HC.out; omega
    obtain ⟨Z, hZ⟩ : ∃ Z, x.drop X.length = Z := ⟨_, rfl⟩
    have hxz : x.length - X.length = Z.length := by rw [← hZ, List.length_drop]
    have hZT : Z.length = T := by have := HQ.out; have := HTS.out; omega
    have hz := HX.out.drop X.length HQX.out.1
    rw [if_neg hcX, hZ, hxz] at hz
    have hg : goodL Z := ⟨by omega, by have := HTS.out; have := HC.out; omega⟩
    have hfr : frB Z = frameL Z := by unfold frB; exact if_pos hg
    have hfe : frE Z = 0 := by unfold frE; rw [if_neg (by omega), if_neg (by have := hg.2; omega)]
    have hsc : scanL (frameL Z) = ([Z], 0) := by
      have := scan_frame hg []
      rw [List.append_nil, scan_nil] at this
      exact this
    have HFR := Lib.hid (And.intro hfr (And.intro hfe (And.intro hsc hg)))
    have HZ := Lib.hid hz
    have hqx : (X.length : Int) ≤ (x.length : Int) := by have := HQX.out; omega
    clear hT0 hz hZT hZ hg hfr hfe hsc
    go_wp2_with first
      | (go_at_call 16; go_loud (refine HS9.out.mono ?_); rintro e w10 ⟨rfl, hq10⟩; have HB10 := Lib.hid (HB9.out.trans (hq10.out.mono HB9.out.size)); clear hq10)
      | (go_at_call 10; have hF := pframe_any Z _ w10 (HZ.out.below HB10.out); rw [HFR.out.1, HFR.out.2.1] at hF; go_loud (refine hF.mono ?_); clear hF)
    rintro e w11 ⟨o11, c11, rfl, hq11⟩
    have HB11 := Lib.hid (HB10.out.trans (hq11.out.2.mono HB10.out.size))
    have hS11 := pscan_any (frameL Z) _ w11 hq11.out.1.rd hq11.out.1.fit (by rw [frame_length]; have := HFR.out.2.2.2.2; omega)
    rw [HFR.out.2.2.1] at hS11
    have HS11 := Lib.hid hS11
    clear hq11 hS11
    go_wp2_with (go_at_call 14; refine HS11.out.mono ?_)
    rintro e w12 ⟨o12, c12, rfl, hq12⟩
    have HB12 := Lib.hid (HB11.out.trans (hq12.out.2.mono HB11.out.size))
    obtain ⟨o14, a14, c14, e14, f1, f2, f3, _, f5⟩ := hq12.out.1
    cases e14
    obtain ⟨rfl, _⟩ := f3 (by simp)
    obtain ⟨ab, cb, g1, _, g2⟩ := f5 0 (by simp)
    simp only [List.getElem_cons_zero] at g1 g2
    have g0 : w12.cell? a14 = some (.slice (some ab) Z.length cb) := by simpa [Addr.add] using g1
    have k1 := run_strF w12 _ _ _ _ g2
    have k2 := run_strF w12 _ _ _ _ (HZ.out.below HB12.out)
    simp only [List.length_cons, List.length_nil, Nat.zero_add]
    have k3 := run_strF w12.drew _ _ _ _ (g2.below (Below.refl w12.heap.size w12).drew)
    have k4 := run_strF w12.drew _ _ _ _ (HZ.out.below HB12.out.drew)
    have HW := Lib.hid (wakes_hid w w12.drew HB12.out.drew)
    clear hq12 f1 f2 f3 f5 HS11 g1 g2
    go_wp2_with fail
    go_still_tail 26, (by kernel_rfl)
    change wpList _ _ _ _ _ w12.drew
    go_wp2_with (go_at_call 9; refine HW.out.mono ?_; rintro e w13 ⟨rfl, HB⟩)
    go_ret
    exact ⟨rfl, HB.out⟩
end Go.Proofs.Ytjpkokmokdaddaa
