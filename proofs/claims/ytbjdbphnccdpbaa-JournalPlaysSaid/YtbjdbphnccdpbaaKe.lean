/-
  JournalPlays: the walk.
-/
import Derived.Test.YtbjdbphnccdpbaaKd
import Derived.Test.YtbjdbphnccdpbaaKr
import Derived.Deep.Cut
import Derived.Deep.CutBlock
import Derived.Deep.CutRange
set_option linter.unusedVariables false
namespace Go.Proofs.Ytbjdbphnccdpbaa
open Go.RowKit Go.Shelf Go.Lib Go.Deep

set_option maxRecDepth 100000 in
set_option maxHeartbeats 32000000 in
theorem plays_walk (v : Value) (l : List AC) (a : Addr) (cap : Nat) (fr lv : Int) (w : World) (hv : slv v l.length a cap) (hl : isAs w l a) (hfr : (Lit.int .i64 fr).wf = true) {p : Prop} (_ : p) :
    Calls Try.prog 3 #[v, .int .i64 fr, .int .i64 lv] w fun e w' => e = .returned (.bool true) ∧ Below w.heap.size w w' := by
  have HG := Lib.hid ((great_any v l a cap w hv hl).mono fun e w' h => Lib.hid h)
  obtain ⟨o, rfl, hc1, hc2, ho⟩ := hv
  unfold maxLen at hc2
  have HL := Lib.hid hl
  have HO := Lib.hid ho
  obtain ⟨st, hst, hs63⟩ : ∃ st : Nat, (st : Int) = (if fr < 0 then 0 else fr) ∧ (st : Int) ≤ 9223372036854775807 := by
    have : fr ≤ 9223372036854775807 := by simp [Lit.wf, IntKind.min, IntKind.max, IntKind.bits, IntKind.signed] at hfr; omega
    by_cases c : fr < 0
    · exact ⟨0, by rw [if_pos c]; rfl, by omega⟩
    · exact ⟨fr.toNat, by rw [if_neg c]; omega, by omega⟩
  have HST := Lib.hid (And.intro hst hs63)
  have HWK : Hid (∀ W, Below w.heap.size w W → Calls Try.prog 7 #[] W fun e w' => e = .returned (.bool true) ∧ Hid (Below w.heap.size w w')) := Lib.hid fun W hW => (wakes_any W).mono fun e w' ⟨h1, h2⟩ => ⟨h1, Lib.hid (hW.trans (h2.out.mono hW.size))⟩
  clear hl ho hfr hst hs63
  go_enter Try.func3, Try.ntmps3
  go_wp2_with (go_at_call 6; go_loud (refine HG.out.mono ?_))
  rintro e w0 hq0
  obtain ⟨bb, rfl, HB0⟩ := hq0.out
  clear hq0 HG
  cases bb
  case true =>
    go_wp2_with (go_at_call 7; go_loud (refine (HWK.out _ HB0.out).mono ?_); rintro e w2 ⟨rfl, HB⟩)
    go_ret
    exact ⟨rfl, HB.out⟩
  have HN := Lib.hid (new_any w.heap.size w0 HB0.out.size)
  go_wp2_with (go_at_call 8; go_loud (refine HN.out.mono ?_))
  rintro e w1 ⟨rfl, hk1, hb1⟩
  obtain ⟨nb, hnb⟩ : ∃ nb, w0.heap.size = nb := ⟨_, rfl⟩
  have HPI : Hid (PI w nb w1) := Lib.hid ⟨_, _, hnb ▸ hk1, HB0.out.trans (hb1.mono HB0.out.size)⟩
  rw [hnb]
  clear hk1 hb1 hnb HB0 HN
  go_wp2_with fail
  go_loopw [8, 9, 10, 11, 12, 13, 14, 15, 16, 17, 18, 19, 20, 21, 22, 23, 24] (fun iv y9 y10 y11 y12 y13 y14 y15 y16 y17 y18 y19 y20 y21 y22 y23 y24 wr => ∃ j : Nat, j ≤ l.length ∧ iv = .int .i64 (j : Nat) ∧ Hid (PI w nb wr)) (fun iv _ _ _ _ _ _ _ _ _ _ _ _ _ _ _ _ _ => l.length - (intOf iv).toNat)
  case atStart => exact ⟨0, by omega, rfl, HPI⟩
  case round =>
    obtain ⟨j, hj, rfl, hI⟩ := hrel
    by_cases hlt : j < l.length
    · have hlt' : (j : Int) < (l.length : Int) := by omega
      obtain rfl := HO.out (by omega)
      obtain ⟨s, vd, hk, hb⟩ := hI.out
      obtain ⟨c1, c2, g0, g1, g2, g3, h3, h4⟩ := as_later HL.out hb j hlt
      obtain ⟨ob, cb, rfl, hb1, hb2⟩ := h3.form
      obtain ⟨ol, al, cl, rfl, hl1, hl2, _⟩ := id h4
      unfold maxLen at hb2 hl2
      generalize l[j] = X at *
      obtain ⟨d, x, L, n⟩ := X
      have HX := Lib.hid h3
      have HXL := Lib.hid h4
      have HK := Lib.hid (And.intro hk hb)
      have HLT := Lib.hid hlt
      dsimp only at *
      clear h3 h4 hk hb hI hlt
      obtain ⟨nx, hnx⟩ : ∃ nx, wr.heap.size = nx := ⟨_, rfl⟩
      have HAK : Hid (∀ W, wr.alloc (.cells #[.int .i64 d, .slice ob x.length cb, .slice ol L.length cl, .int .i64 n] 30) = W → AK nx d (.slice ob x.length cb) (.slice ol L.length cl) n W ∧ Dk 52 w.heap.size nb s vd W ∧ Below w.heap.size w W) := Lib.hid fun W hW => by
        have hB : Below wr.heap.size wr W := by rw [← hW]; exact (Below.refl _ _).alloc (Nat.le_refl _) _
        refine ⟨?_, HK.out.1.below hB, HK.out.2.trans (hB.mono HK.out.2.size)⟩
        rw [← hW, ← hnx]
        exact heap_alloc_new wr _
      have HBY : Hid (∀ W, wr.alloc (.cells #[.int .i64 d, .slice ob x.length cb, .slice ol L.length cl, .int .i64 n] 30) = W → Calls Try.prog 9 #[.pointer (some ⟨nb, 0, none⟩)] W fun e w' => Hid (∃ o c, e = .returned (.tuple #[.slice o (byD s).length c, .int .i64 (beD s)]) ∧ Hid (ow W.heap.size w' (.slice o (byD s).length c) (byD s) ∧ Below W.heap.size W w'))) := Lib.hid fun W hW =>
        (bytes_own W (HAK.out W hW).2.1).mono fun e w' h => Lib.hid h
      go_wp2_with (go_at_call 9; go_loud (refine (HBY.out _ rfl).mono ?_))
      obtain ⟨W1, hW1⟩ : ∃ W1, wr.alloc (.cells #[.int .i64 d, .slice ob x.length cb, .slice ol L.length cl, .int .i64 n] 30) = W1 := ⟨_, rfl⟩
      have hAK := HAK.out W1 hW1
      rw [hW1]
      rintro e w2 hq0
      obtain ⟨o2, c2, rfl, hq1⟩ := hq0.out
      have hz1 : W1.heap.size = nx + 1 := by rw [← hW1, World.size_alloc, hnx]
      have hq2 := hq1.out
      rw [← hz1] at hq2
      have hq := Lib.hid hq2
      have HA2 : Hid (AK nx d (.slice ob x.length cb) (.slice ol L.length cl) n w2) := Lib.hid ((hq.out.2.block nx (Array.getElem?_eq_some_iff.1 hAK.1).1).trans hAK.1)
      have HK2 := Lib.hid (And.intro (hAK.2.1.below hq.out.2) (hAK.2.2.trans (hq.out.2.mono hAK.2.2.size)))
      have HFP := Lib.hid hAK.2.1.fp
      have HOW := Lib.hid hq.out.1
      obtain ⟨a0, a1, a2, a3⟩ := HA2.out.cells
      obtain ⟨B1, hB1⟩ : ∃ B1, W1.heap.size = B1 := ⟨_, rfl⟩
      rw [hB1] at HOW HFP
      have HBL := Lib.hid (byD_le HK2.out.1.1)
      clear hq0 hq1 hq2 hz1 hq hAK hW1 HAK HBY HK g0 g1 g2 g3 hnx hB1
      go_upto_block 2 with fail
      go_cut [12, 13, 14, 15, 16, 17, 18] from 46 to 143 (fun s12 s13 s14 s15 s16 s17 s18 wx => Hid (PI w nb wx))
      case first =>
        by_cases d0 : d = 0
        · subst d0
          have HAP := Lib.hid ((japp_any w2 HK2.out.1 HK2.out.2.size (HX.out.below HK2.out.2)).mono fun e w' h => Lib.hid h)
          go_wp2_with (go_at_call 10; go_loud (refine HAP.out.mono ?_))
          rintro e w3 hq0
          obtain ⟨r, rfl, hq⟩ := hq0.out
          have HQ : Hid (PI w nb w3) := Lib.hid (PI.q HK2.out.1 HK2.out.2 hq.out.2)
          generalize r.1 = ri at *
          clear hq0 hq HAP a0 a1 a2 a3
          go_wp2_with fail
          go_meet
          exact HQ
        have e0 : (d == 0) = false := by rw [beq_eq_false_iff_ne]; exact d0
        by_cases d1 : d = 1
        · subst d1
          have HSN := Lib.hid ((jsnap_any w2 HK2.out.1 HK2.out.2.size (HXL.out.below HK2.out.2)).mono fun e w' h => Lib.hid h)
          clear d0 e0
          go_wp2_with (go_at_call 11; go_loud (refine HSN.out.mono ?_))
          rintro e w3 hq0
          obtain ⟨r, rfl, hq⟩ := hq0.out
          have HQ : Hid (PI w nb w3) := Lib.hid (PI.q HK2.out.1 HK2.out.2 hq.out.2)
          generalize r.1 = ri at *
          clear hq0 hq HSN a0 a1 a2 a3
          go_wp2_with fail
          go_meet
          exact HQ
        have e1 : (d == 1) = false := by rw [beq_eq_false_iff_ne]; exact d1
        by_cases d2 : d = 2
        · subst d2
          have HAM := Lib.hid (arm_any n w2 HK2.out.1)
          clear d0 e0 d1 e1
          go_wp2_with (go_at_call 12; go_loud (refine HAM.out.mono ?_))
          rintro e w3 hq
          have HQ : Hid (PI w nb w3) := Lib.hid (PI.q HK2.out.1 HK2.out.2 hq)
          obtain ⟨rfl, _⟩ := hq
          clear HAM a0 a1 a2 a3
          go_wp2_with fail
          go_meet
          exact HQ
        have e2 : (d == 2) = false := by rw [beq_eq_false_iff_ne]; exact d2
        by_cases d3 : d = 3
        · subst d3
          have HCR := Lib.hid (crash_any w2 HK2.out.1)
          clear d0 e0 d1 e1 d2 e2
          go_wp2_with (go_at_call 13; go_loud (refine HCR.out.mono ?_))
          rintro e w3 hq
          have HQ : Hid (PI w nb w3) := Lib.hid (PI.q HK2.out.1 HK2.out.2 hq)
          obtain ⟨rfl, _⟩ := hq
          obtain ⟨s3, v3, hk3, hb3⟩ := HQ.out
          have HUP := Lib.hid (up_any w3 hk3)
          have HK3 := Lib.hid (And.intro hk3 hb3)
          clear HCR a0 a1 a2 a3 hk3 hb3
          go_wp2_with (go_at_call 14; go_loud (refine HUP.out.mono ?_))
          rintro e w4 hq
          have HQ4 : Hid (PI w nb w4) := Lib.hid (PI.q HK3.out.1 HK3.out.2 hq)
          obtain ⟨rfl, _⟩ := hq
          clear HUP
          go_wp2_with fail
          go_meet
          exact HQ4
        have e3 : (d == 3) = false := by rw [beq_eq_false_iff_ne]; exact d3
        by_cases d4 : d = 4
        · subst d4
          have HOP := Lib.hid ((jopen_any w2 HK2.out.1 HK2.out.2.size).mono fun e w' h => Lib.hid h)
          clear d0 e0 d1 e1 d2 e2 d3 e3
          go_wp2_with (go_at_call 15; go_loud (refine HOP.out.mono ?_))
          rintro e w3 hq0
          obtain ⟨o3, c3, rfl, hq⟩ := hq0.out
          obtain ⟨v3, hoe, hrw3⟩ := hq.out
          have HOW3 := Lib.hid (HOW.out.keep fun k o hk ho => hoe.2.2.2 k o ho (fun hb => by have := (HFP.out k hb).2; have := (HOW.out.lt k hk).1; omega))
          have HK3 := Lib.hid (And.intro hoe.1 (HK2.out.2.trans (hoe.2.2.below (fun k hk2 => (HK2.out.1.fp k hk2).1) HK2.out.2.size)))
          have HR3 := Lib.hid hrw3.rds
          have HSC := Lib.hid ((rscan_tell (byD s) _ w3 HOW3.out.rd (by have := HBL.out; omega)).mono fun e w' h => Lib.hid h)
          clear hq0 hq hoe hrw3 HOP a0 a1 a2 a3 HA2
          go_wp2_with (go_at_call 16; go_loud (refine HSC.out.mono ?_))
          rintro e w4 hq0
          obtain ⟨o4, c4, rfl, hq⟩ := hq0.out
          have HOW4 := Lib.hid (HOW3.out.rd.below hq.out.2)
          have HK4 := Lib.hid (And.intro (HK3.out.1.below hq.out.2) (HK3.out.2.trans (hq.out.2.mono HK3.out.2.size)))
          have HR4 := Lib.hid (And.intro (HR3.out.below hq.out.2) hq.out.1)
          have HBY := Lib.hid ((bytes_own w4 HK4.out.1).mono fun e w' h => Lib.hid h)
          clear hq0 hq HSC HOW3 HK3 HR3
          go_wp2_with (go_at_call 9; go_loud (refine HBY.out.mono ?_))
          rintro e w5 hq0
          obtain ⟨o5, c5, rfl, hq⟩ := hq0.out
          have HQ5 : Hid (∀ W, Below w5.heap.size w5 W → PI w nb W) := Lib.hid fun W hW => ⟨_, _, (HK4.out.1.below hq.out.2).below hW, (HK4.out.2.trans (hq.out.2.mono HK4.out.2.size)).trans (hW.mono (HK4.out.2.trans (hq.out.2.mono HK4.out.2.size)).size)⟩
          have HOW5 := Lib.hid (And.intro (HOW4.out.below hq.out.2) hq.out.1.rd)
          have HR5 := Lib.hid (And.intro (HR4.out.1.below hq.out.2) (HR4.out.2.below hq.out.2))
          clear hq0 hq HBY HOW4 HK4 HR4
          by_cases hE : (openD s).1 = 0
          · obtain ⟨hdn, hby, hol, hot, hbe, hby2⟩ := open_ok hE
            have hol2 : opL s = (scanL (byD s)).1 := by rw [hol, hby]
            have SM : Hid (∀ W, Below w5.heap.size w5 W → Calls Try.prog 17 #[.slice o3 (opL s).length c3, .slice o4 (scanL (byD s)).1.length c4] W fun e w' => e = .returned (.bool true) ∧ Hid (Below w5.heap.size w5 w')) := Lib.hid fun W hW => by
              have := rsame_any _ _ _ _ W (HR5.out.1.below hW) (HR5.out.2.below hW)
              rw [decide_eq_true hol2] at this
              exact this.mono fun e w' ⟨h1, h2⟩ => ⟨h1, Lib.hid (hW.trans (h2.out.mono hW.size))⟩
            have hat := (at_end s.f).2
            have hbl := HBL.out
            have hln : (byD s).length = s.f.length := by rw [hby]
            obtain ⟨T, hT⟩ : ∃ T, (scanL s.f).2 = T := ⟨_, rfl⟩
            have hT2 : (scanL (byD s)).2 = T := by rw [hby]; exact hT
            obtain ⟨X, hX⟩ : ∃ X, (byD s).take ((byD s).length - T) = X := ⟨_, rfl⟩
            have hXl : X.length = (byD s).length - T := by rw [← hX, List.length_take]; omega
            have hby3 : byD (openD s).2 = X := by rw [hby2, hT, ← hX, hby]
            rw [hT] at hat
            rw [hby3, hXl] at HOW5
            rw [hE, hot, hT, hT2, hbe, hby3, hXl]
            obtain ⟨oB, aB, cB, eB, hB1, hB2, _⟩ := id HOW5.out.1
            injection eB with eB1 eB2 eB3
            subst eB1 eB3
            have KS : Hid (∀ W, Below w5.heap.size w5 W → (convert 27 9 (.slice o5 ((byD s).length - T) c5)).run Try.prog W = .ok (.string ⟨X.toArray⟩) W ∧ (convert 27 9 (.slice o2 ((byD s).length - T) c2)).run Try.prog W = .ok (.string ⟨X.toArray⟩) W) := Lib.hid fun W hW =>
              ⟨run_strF W X _ _ _ (HOW5.out.2.below hW), run_strF W X _ _ _ (by
                have := (HOW5.out.1.below hW).cut ((byD s).length - T) c2 (by omega) (by omega) hB2
                rwa [hX] at this)⟩
            rw [hol2] at SM ⊢
            obtain ⟨N', hN'⟩ : ∃ N', (byD s).length - T = N' := ⟨_, rfl⟩
            rw [hN'] at KS ⊢
            obtain ⟨n5, hn5⟩ : ∃ n5, (byD s).length = n5 := ⟨_, rfl⟩
            rw [hn5] at hln hbl hB1 hN'
            have hwr : IntKind.i64.wrap (((byD s).length : Int) - (T : Int)) = (N' : Int) := by
              rw [hn5, show (n5 : Int) - (T : Int) = (N' : Int) by omega]
              go_unwrap
            have hle : N' ≤ (byD s).length := by omega
            have hlc : N' ≤ c2 := by omega
            have HBd2 : Hid (Below w5.heap.size w5 w5.drew) := Lib.hid (Below.refl _ _).drew
            generalize (scanL (byD s)).1.length = ml at *
            unfold maxLen at hB2
            clear hE hdn hby hol hot hbe hby2 hat hbl hX hXl hN' hT HR5 HOW5 HBL HOW HFP hol2 hln hT2 hby3 hn5
            have HSM := Lib.hid (SM.out w5.drew HBd2.out)
            clear SM
            go_wp2_with fail
            refine Rm.region_mid (by kernel_rfl) (by kernel_rfl) ?_
            repeat still_step
            refine wpStill_nil ?_
            refine ⟨?_, ?_⟩
            all_goals
              repeat still_step
              refine wpStill_nil ?_
              intro K hK
              go_simp
              refine .inl (HSM.out.mono ?_)
              rintro e w6 ⟨rfl, HB6⟩
              refine hK _ _ ?_
              clear hK K
              obtain ⟨k1, k2⟩ := KS.out w6 HB6.out
              have HQ6 := Lib.hid (HQ5.out w6 HB6.out)
              repeat (refine Rm.ws_one (fun KK hKK => ?_); go_simp; refine hKK _ ?_; clear hKK KK)
              refine Rm.ws_nil ?_
              go_wp2_with fail
              go_meet
              exact HQ6
          · have t0 : ((openD s).1 == 0) = false := by rw [beq_eq_false_iff_ne]; exact hE
            obtain ⟨ri, hri⟩ : ∃ ri, (openD s).1 = ri := ⟨_, rfl⟩
            obtain ⟨z1, hz1⟩ : ∃ z, beD (openD s).2 = z := ⟨_, rfl⟩
            obtain ⟨z2, hz2⟩ : ∃ z, (byD (openD s).2).length = z := ⟨_, rfl⟩
            obtain ⟨z3, hz3⟩ : ∃ z, (opL s).length = z := ⟨_, rfl⟩
            obtain ⟨z4, hz4⟩ : ∃ z, (scanL (byD s)).1.length = z := ⟨_, rfl⟩
            obtain ⟨z5, hz5⟩ : ∃ z, (scanL (byD s)).2 = z := ⟨_, rfl⟩
            obtain ⟨z6, hz6⟩ : ∃ z, opT s = z := ⟨_, rfl⟩
            rw [hri] at t0
            rw [hri, hz1, hz2, hz3, hz4, hz5, hz6]
            clear hri hz1 hz2 hz3 hz4 hz5 hz6
            have HQ6 : Hid (PI w nb w5.drew) := Lib.hid (HQ5.out _ (Below.refl w5.heap.size w5).drew)
            clear hE HR5 HOW5 HQ5 HBL HOW HFP
            go_wp2_with fail
            refine Rm.region_mid (by kernel_rfl) (by kernel_rfl) ?_
            repeat still_step
            refine wpStill_nil ?_
            refine ⟨?_, ?_⟩
            all_goals
              repeat still_step
              refine wpStill_nil ?_
              intro K hK
              go_simp
              refine hK _ _ ?_
              clear hK K
              repeat (refine Rm.ws_one (fun KK hKK => ?_); go_simp; refine hKK _ ?_; clear hKK KK)
              refine Rm.ws_nil ?_
              go_wp2_with fail
              go_meet
              exact HQ6
        have e4 : (d == 4) = false := by rw [beq_eq_false_iff_ne]; exact d4
        have HQ2 : Hid (PI w nb w2) := Lib.hid ⟨_, _, HK2.out.1, HK2.out.2⟩
        clear d0 d1 d2 d3 d4
        by_cases p1 : 0 < (byD s).length
        · have t1 : decide (0 < ((byD s).length : Int)) = true := decide_eq_true (by omega)
          have t1' : decide (0 < (byD s).length) = true := decide_eq_true p1
          by_cases p2 : (byD s).length < 2000
          · have t2 : decide (((byD s).length : Int) < 2000) = true := decide_eq_true (by omega)
            have t2' : decide ((byD s).length < 2000) = true := decide_eq_true p2
            obtain ⟨g, rfl⟩ := own_some HOW.out p1
            obtain ⟨C, hC, hm1, hm2⟩ := modL n (byD s).length p1 (by omega)
            obtain ⟨b8, q1, q2, q3, q4⟩ := own_flip HOW.out hC
            obtain ⟨y, hy, hrd, hF⟩ := q4 (bits BinOp.xor .u8 b8.toNat 1) (bits_lo_u8 _ _ _) (bits_hi_u8 _ _ _)
            have hk3 := HK2.out.1.keep (W' := w2.setCell ⟨g, C, none⟩ (.int .u8 (bits BinOp.xor .u8 b8.toNat 1))) fun k o hk ho => hF.2 k o ho (fun hb => by have := (HFP.out k hk).2; omega)
            have hb3 : Below w.heap.size w (w2.setCell ⟨g, C, none⟩ (.int .u8 (bits BinOp.xor .u8 b8.toNat 1))) := HK2.out.2.trans (hF.below (fun k hk => by have := HFP.out nb (.inl rfl); omega) HK2.out.2.size)
            have HSW := Lib.hid (swap_any _ hk3 hb3.size hrd)
            have HK3 := Lib.hid (And.intro hk3 hb3)
            have hz : ((byD s).length : Int) ≠ 0 := by omega
            have hz' : (((byD s).length : Int) == 0) = false := by rw [beq_eq_false_iff_ne]; omega
            have hC' : (C : Int) < ((byD s).length : Int) := by omega
            clear q4 hrd hF hk3 hb3 hy
            go_wp2_with (go_at_call 18; go_loud (refine HSW.out.mono ?_))
            rintro e w3 hq
            have HQ3 : Hid (PI w nb w3) := Lib.hid (PI.q HK3.out.1 HK3.out.2 hq)
            obtain ⟨rfl, _⟩ := hq
            go_wp2_with fail
            go_meet
            exact HQ3
          · have t2 : decide (((byD s).length : Int) < 2000) = false := decide_eq_false (by omega)
            have t2' : decide ((byD s).length < 2000) = false := decide_eq_false p2
            clear p1 p2
            go_wp2_with fail
            go_meet
            exact HQ2
        · have t1 : decide (0 < ((byD s).length : Int)) = false := decide_eq_false (by omega)
          have t1' : decide (0 < (byD s).length) = false := decide_eq_false p1
          clear p1
          go_wp2_with fail
          go_meet
          exact HQ2
      case rest =>
        obtain ⟨s6, v6, hk6, hb6⟩ := hcut.out
        have HRO := Lib.hid ((jrows_any wc hk6).mono fun e w' h => Lib.hid h)
        have HK6 := Lib.hid (And.intro hk6 hb6)
        have HBL6 := Lib.hid (byD_le hk6.1)
        clear a0 a1 a2 a3 hk6 hb6 hcut HOW HFP HBL HA2 HK2 HX HXL
        go_wp2_with (go_at_call 19; go_loud (refine HRO.out.mono ?_))
        rintro e w3 hq0
        obtain ⟨o3, c3, rfl, hq⟩ := hq0.out
        have HK7 := Lib.hid (And.intro (HK6.out.1.below hq.out.2) (HK6.out.2.trans (hq.out.2.mono HK6.out.2.size)))
        have HR7 := Lib.hid hq.out.1
        have HBY := Lib.hid ((bytes_own w3 HK7.out.1).mono fun e w' h => Lib.hid h)
        clear hq0 hq HRO HK6
        go_wp2_with (go_at_call 9; go_loud (refine HBY.out.mono ?_))
        rintro e w4 hq0
        obtain ⟨o4, c4, rfl, hq⟩ := hq0.out
        have HK8 := Lib.hid (And.intro (HK7.out.1.below hq.out.2) (HK7.out.2.trans (hq.out.2.mono HK7.out.2.size)))
        have HR8 := Lib.hid (HR7.out.below hq.out.2)
        have HSC := Lib.hid ((rscan_tell (byD s6) _ w4 hq.out.1.rd (by have := HBL6.out; omega)).mono fun e w' h => Lib.hid h)
        have tb : (beD s6 != beD s6) = false := by simp
        clear hq0 hq HBY HK7 HR7
        go_wp2_with (go_at_call 16; go_loud (refine HSC.out.mono ?_))
        rintro e w5 hq0
        obtain ⟨o5, c5, rfl, hq⟩ := hq0.out
        have HQ5 : Hid (∀ W, Below w5.heap.size w5 W → PI w nb W) := Lib.hid fun W hW => by
          have hB := hq.out.2.trans (hW.mono hq.out.2.size)
          exact ⟨_, _, HK8.out.1.below hB, HK8.out.2.trans (hB.mono HK8.out.2.size)⟩
        have hro : roL s6 = (scanL (byD s6)).1 := rfl
        have hrz := HR8.out.below hq.out.2
        rw [hro] at hrz ⊢
        have hsm := rsame_any _ _ _ _ w5 hrz.rds hq.out.1
        rw [decide_eq_true rfl] at hsm
        have HSM := Lib.hid hsm
        have HOV : Hid (∀ W, Below w5.heap.size w5 W → Calls Try.prog 20 #[.slice o3 (scanL (byD s6)).1.length c3, .int .i64 fr, .int .i64 lv] W fun e w' => e = .returned (.bool true) ∧ Hid (Below w5.heap.size w5 w')) := Lib.hid fun W hW =>
          (over_any _ _ fr lv st HST.out.1 HST.out.2 W (rwP.ofz (hrz.below hW) (fun k hk => hk)) (rdz_fit hrz) (by have := scan_count (byD s6); have := HBL6.out; omega) (scan_small _)).mono fun e w' ⟨h1, h2⟩ => ⟨h1, Lib.hid (hW.trans (h2.out.mono hW.size))⟩
        clear hq0 hq HSC HK8 HR8 hrz hsm hro
        generalize (scanL (byD s6)).1.length = ml at *
        by_cases hE : beD s6 = 0
        · rw [hE]
          clear hE tb
          go_wp2_with (go_at_call 17; go_loud (refine HSM.out.mono ?_))
          first | rintro e w6 rfl HB6 | rintro e w6 ⟨rfl, HB6⟩
          have HOV6 := Lib.hid (HOV.out w6 HB6.out)
          clear HOV HSM
          go_wp2_with (go_at_call 20; go_loud (refine HOV6.out.mono ?_); first | rintro e w7 rfl HB7 | rintro e w7 ⟨rfl, HB7⟩)
          have HQ7 := Lib.hid (HQ5.out w7 HB7.out)
          go_roundw
          case rel => exact ⟨j + 1, by have := HLT.out; omega, by go_num, HQ7⟩
          case measure => simp [intOf]; have := HLT.out; omega
        · have t0 : (beD s6 == 0) = false := by rw [beq_eq_false_iff_ne]; exact hE
          have HQ7 := Lib.hid (HQ5.out w5 (Below.refl _ _))
          clear hE HOV HSM
          go_wp2_with fail
          go_roundw
          case rel => exact ⟨j + 1, by have := HLT.out; omega, by go_num, HQ7⟩
          case measure => simp [intOf]; have := HLT.out; omega
    · obtain rfl : j = l.length := by omega
      have hlt' : decide ((l.length : Int) < (l.length : Int)) = false := decide_eq_false (by omega)
      obtain ⟨s, vd, hk, hb⟩ := hI.out
      have HB1 := Lib.hid hb
      clear hk hb hI hlt
      go_wp2_with (go_at_call 7; go_loud (refine (HWK.out wr HB1.out).mono ?_); rintro e w5 ⟨rfl, HB⟩)
      go_ret
      exact ⟨rfl, HB.out⟩
end Go.Proofs.Ytbjdbphnccdpbaa
