/-
  CloudOnce, walked.
-/
import Derived.Test.YtkigeegahepnaaaGreatDoorHJ
set_option linter.unusedVariables false
set_option linter.unusedSimpArgs false
namespace Go.Proofs.YtkigeegahepnaaaGreatDoor
open Go.RowKit Go.Maps Go.Deep

set_option maxRecDepth 100000 in
set_option maxHeartbeats 16000000 in
theorem cloudOnce_any (L : List Ac) (v : Value) (x : Cl) (u : Value) (w : World) (hE : Env9 w) (h : isAs w L v) (hx : isX w x u) : Calls Tryz.prog 4 #[v, u] w fun e w' => e = .returned (.bool true) ∧ Below w.heap.size w w' := by
  obtain ⟨ox, cx, rfl, hg, hok⟩ := isX_form hx
  have hA1 : KB w (w.alloc (.cells #[.int .i64 x.tok, .int .i8 x.kd, .string x.ph, .string x.ty, .slice ox x.ps.length cx] 32)) := kbA
  have n1 := World.alloc_heap_new w (.cells #[.int .i64 x.tok, .int .i8 x.kd, .string x.ph, .string x.ty, .slice ox x.ps.length cx] 32)
  have hAs := isAs_below hA1 h
  have hX1 := isX_below hA1 hx
  obtain ⟨a, cap, ⟨o, rfl, hc1, hc2, ho⟩, hat⟩ := h
  have HE := Lib.hid (hE.kb hA1)
  have HA := Lib.hid hA1
  have HN := Lib.hid n1
  have HAS := Lib.hid hAs
  have HX1 := Lib.hid hX1
  have HOK := Lib.hid hok
  have HAT := Lib.hid (fun i (hi : i < L.length) => isAat_below hA1 (hat i hi))
  clear hg hok hA1 n1 hAs hX1 hat hE hx
  go_enter Tryz.func4, Tryz.ntmps4
  go_upto_region 1 with fail
  have hsz : (w.alloc (.cells #[.int .i64 x.tok, .int .i8 x.kd, .string x.ph, .string x.ty, .slice ox x.ps.length cx] 32)).heap.size = w.heap.size + 1 := by simp
  generalize w.alloc (.cells #[.int .i64 x.tok, .int .i8 x.kd, .string x.ph, .string x.ty, .slice ox x.ps.length cx] 32) = W1 at *
  have SX : Hid (∀ W, Hid (KB W1 W) → W.cell? ⟨w.heap.size, 0, none⟩ = some (.int .i64 x.tok) ∧ W.cell? ⟨w.heap.size, 1, none⟩ = some (.int .i8 x.kd) ∧ W.cell? ⟨w.heap.size, 2, none⟩ = some (.string x.ph) ∧ W.cell? ⟨w.heap.size, 3, none⟩ = some (.string x.ty) ∧ W.cell? ⟨w.heap.size, 4, none⟩ = some (.slice ox x.ps.length cx)) := Lib.hid fun W hK => five_cells ((hK.out.block _ (Array.getElem?_eq_some_iff.1 HN.out).1).trans HN.out)
  have WK : Hid (∀ W, Hid (KB W1 W) → Calls Tryz.prog 11 #[] W fun e w' => e = .returned (.bool true) ∧ Hid (KB W1 w')) := Lib.hid fun W hK => (wakes11_any W (HE.out.kb hK.out)).mono fun e w' ⟨h1, h2⟩ => ⟨h1, Lib.hid (hK.out.trans (h2.mono hK.out.size))⟩
  have GA : Hid (Calls Tryz.prog 10 #[.slice o L.length cap] W1 fun e w' => e = .returned (.bool (actsG L)) ∧ Hid (KB W1 w')) := Lib.hid ((acts11_any L _ W1 HAS.out).mono fun e w' ⟨h1, h2⟩ => ⟨h1, Lib.hid h2⟩)
  have GX : Hid (∀ W, Hid (KB W1 W) → Calls Tryz.prog 33 #[.agg #[.int .i64 x.tok, .int .i8 x.kd, .string x.ph, .string x.ty, .slice ox x.ps.length cx]] W fun e w' => e = .returned (.bool (greatX x)) ∧ Hid (KB W1 w')) := Lib.hid fun W hK => (greatX_any x _ W (isX_below hK.out HX1.out)).mono fun e w' ⟨h1, h2⟩ => ⟨h1, Lib.hid (hK.out.trans (h2.mono hK.out.size))⟩
  by_cases hga : actsG L = true
  · rw [hga] at GA
    clear hga
    go_wp2_with (first
      | (go_at_call 10; refine GA.out.mono ?_; rintro e w2 ⟨rfl, K2⟩)
      | (go_at_call 11; refine (WK.out _ K2).mono ?_; rintro e w3 ⟨rfl, K3⟩))
    go_ret
    exact ⟨rfl, HA.out.trans (K3.out.mono HA.out.size)⟩
  · have hga' : actsG L = false := by simpa using hga
    rw [hga'] at GA
    by_cases hgx : greatX x = true
    · rw [hgx] at GX
      clear hga hga' hgx
      go_wp2_with (first
        | (go_at_call 10; refine GA.out.mono ?_; rintro e w2 ⟨rfl, K2⟩; obtain ⟨r0, r1, r2, r3, r4⟩ := SX.out _ K2)
        | (go_at_call 33; refine (GX.out _ K2).mono ?_; rintro e w3 ⟨rfl, K3⟩)
        | (go_at_call 11; refine (WK.out _ K3).mono ?_; rintro e w4 ⟨rfl, K4⟩))
      go_ret
      exact ⟨rfl, HA.out.trans (K4.out.mono HA.out.size)⟩
    · have hgx' : greatX x = false := by simpa using hgx
      rw [hgx'] at GX
      obtain ⟨hl100, hall⟩ := actsG_no hga'
      have HFX := Lib.hid (fineX_of hgx' HOK.out)
      have HALL : Hid (∀ y ∈ L, fineX y.x) := Lib.hid fun y hy => by
        obtain ⟨_, _, _, hat⟩ := HAS.out
        obtain ⟨i, hi, rfl⟩ := List.getElem_of_mem hy
        obtain ⟨_, _, _, _, _, _, _, _, _, _, hok, -⟩ := isAat_seven (hat i hi)
        exact fineX_of (hall _ hy) hok
      have HG := Lib.hid (good_run hl100 HALL.out)
      clear hga hga' hgx hgx' hall
      go_wp2_with (first
        | (go_at_call 10; refine GA.out.mono ?_; rintro e w2 ⟨rfl, K2⟩; obtain ⟨r0, r1, r2, r3, r4⟩ := SX.out _ K2)
        | (go_at_call 33; refine (GX.out _ K2).mono ?_; rintro e w3 ⟨rfl, K3⟩)
        | (go_at_call 12; refine (new_any _).mono ?_; rintro e w5 ⟨rfl, rfl⟩))
      have HON0 := Lib.hid (OnK.new w3)
      clear r0 r1 r2 r3 r4 K2 GA GX
      generalize w3.alloc (.cells #[.slice none 0 0, .int .i64 0, .map none, .slice none 0 0, .slice none 0 0] 72) = W4 at *
      go_loopw [25] (fun iv wr => ∃ (j : Nat), j ≤ L.length ∧ iv = .int .i64 j ∧ Hid (OnK w3 (fun k => w3.heap.size ≤ k) w3.heap.size (runA (L.take j)) wr)) (fun iv _ => L.length - (intOf iv).toNat)
      case atStart => exact ⟨0, by omega, rfl, HON0⟩
      case round =>
        obtain ⟨j, hj, rfl, hON⟩ := hrel
        clear HON0
        have KW : Hid (KB W1 wr) := Lib.hid (K3.out.trans (hON.out.bel.mono K3.out.size))
        by_cases hlt : j < L.length
        · obtain rfl := ho (by omega)
          obtain ⟨o1, c1, q0, q1, q2, q3, q4, q5, q6, hg, hok, -, -⟩ := isAat_seven (isAat_below KW.out (HAT.out j hlt))
          have hfx := HALL.out _ (List.getElem_mem hlt)
          have hgd := HG.out j (by omega)
          have hst := runA_succ hlt
          generalize L[j] = y at *
          obtain ⟨c, hc⟩ : ∃ c, runA (L.take j) = c := ⟨_, rfl⟩
          rw [hc] at hgd hst hON
          clear hc
          by_cases h0 : y.dO = 0
          · rw [h0] at q0
            have hkA : KB wr (wr.alloc (.cells #[.int .i64 0, .int .i64 y.n, .int .i64 y.x.tok, .int .i8 y.x.kd, .string y.x.ph, .string y.x.ty, .slice o1 y.x.ps.length c1] 34)) := kbA
            have HC := Lib.hid (Submit_on (hON.out.below hkA) (HE.out.kb (KW.out.trans (hkA.mono KW.out.size))) hfx (v := .agg #[.int .i64 y.x.tok, .int .i8 y.x.kd, .string y.x.ph, .string y.x.ty, .slice o1 y.x.ps.length c1]) ⟨_, rfl, isGs_below hkA hg, hok⟩ hgd (by omega))
            have HST : Hid (runA (L.take (j + 1)) = (submitC c y.x).1) := Lib.hid (by rw [hst]; unfold stepA; rw [if_pos h0])
            clear hg hok hfx hgd hst h0 hkA hON
            go_wp2_with (go_at_call 14; refine HC.out.mono ?_; rintro e w6 ⟨rfl, hon6⟩)
            have HN6 := Lib.hid hon6
            rw [← HST.out] at HN6
            clear hon6
            go_roundw
            case rel => exact ⟨j + 1, by omega, by go_num, HN6⟩
            case measure => simp [intOf]; omega
          · have z0 : (y.dO == 0) = false := beqI h0
            by_cases h1 : y.dO = 1
            · rw [h1] at q0
              have hkA : KB wr (wr.alloc (.cells #[.int .i64 1, .int .i64 y.n, .int .i64 y.x.tok, .int .i8 y.x.kd, .string y.x.ph, .string y.x.ty, .slice o1 y.x.ps.length c1] 34)) := kbA
              have HC := Lib.hid (End_on (hON.out.below hkA) (HE.out.kb (KW.out.trans (hkA.mono KW.out.size))) hgd (by omega) y.n true)
              have HST : Hid (runA (L.take (j + 1)) = (endC c y.n true).1) := Lib.hid (by rw [hst]; unfold stepA; rw [if_neg h0, if_pos h1])
              clear hg hok hfx hgd hst h0 h1 z0 hkA hON
              go_wp2_with (go_at_call 16; refine HC.out.mono ?_; rintro e w6 ⟨rfl, hon6⟩)
              have HN6 := Lib.hid hon6
              rw [← HST.out] at HN6
              clear hon6
              go_roundw
              case rel => exact ⟨j + 1, by omega, by go_num, HN6⟩
              case measure => simp [intOf]; omega
            · have z1 : (y.dO == 1) = false := beqI h1
              by_cases h2 : y.dO = 2
              · rw [h2] at q0
                have hkA : KB wr (wr.alloc (.cells #[.int .i64 2, .int .i64 y.n, .int .i64 y.x.tok, .int .i8 y.x.kd, .string y.x.ph, .string y.x.ty, .slice o1 y.x.ps.length c1] 34)) := kbA
                have HC := Lib.hid (End_on (hON.out.below hkA) (HE.out.kb (KW.out.trans (hkA.mono KW.out.size))) hgd (by omega) y.n false)
                have HST : Hid (runA (L.take (j + 1)) = (endC c y.n false).1) := Lib.hid (by rw [hst]; unfold stepA; rw [if_neg h0, if_neg h1, if_pos h2])
                clear hg hok hfx hgd hst h0 h1 h2 z0 z1 hkA hON
                go_wp2_with (go_at_call 16; refine HC.out.mono ?_; rintro e w6 ⟨rfl, hon6⟩)
                have HN6 := Lib.hid hon6
                rw [← HST.out] at HN6
                clear hon6
                go_roundw
                case rel => exact ⟨j + 1, by omega, by go_num, HN6⟩
                case measure => simp [intOf]; omega
              · have z2 : (y.dO == 2) = false := beqI h2
                have HST : Hid (runA (L.take (j + 1)) = c) := Lib.hid (by rw [hst]; unfold stepA; rw [if_neg h0, if_neg h1, if_neg h2])
                have HN6 := Lib.hid (hON.out.below (kbA (o := .cells #[.int .i64 y.dO, .int .i64 y.n, .int .i64 y.x.tok, .int .i8 y.x.kd, .string y.x.ph, .string y.x.ty, .slice o1 y.x.ps.length c1] 34)))
                rw [← HST.out] at HN6
                clear hg hok hfx hgd hst h0 h1 h2 hON
                go_wp2_with fail
                go_roundw
                case rel => exact ⟨j + 1, by omega, by go_num, HN6⟩
                case measure => simp [intOf]; omega
        · obtain rfl : j = L.length := by omega
          have hgd := HG.out L.length (Nat.le_refl _)
          rw [List.take_of_length_le (Nat.le_refl _)] at hON hgd
          have HGD := Lib.hid hgd
          clear hgd hlt hj
          generalize runA L = c at *
          go_upto_region 14 with fail
          have HASK := Lib.hid (Ask_on hON.out HOK.out.1)
          obtain ⟨r0, r1, r2, r3, r4⟩ := SX.out _ KW
          go_cut [9] (fun s9 wx => s9 = .bool (askC c x.tok).2 ∧ Hid (OnK w3 (fun k => w3.heap.size ≤ k) w3.heap.size c wx))
          case first =>
            go_wp2_with (go_at_call 18; refine HASK.out.mono ?_; rintro e w6 ⟨rfl, hb6⟩)
            go_meet
            exact ⟨rfl, Lib.hid ((hON.out.below hb6).below kbA)⟩
          case rest =>
            obtain ⟨rfl, hON7⟩ := hcut
            clear r0 r1 r2 r3 r4 HASK hON KW
            obtain ⟨w7, rfl⟩ : ∃ w7, w7 = wc := ⟨_, rfl⟩
            have hn1000 : L.length ≤ 1000 := by omega
            have THG := Lib.hid (Things_on hON7.out HGD.out hn1000)
            have FLT := Lib.hid (fun W (hb : Below w7.heap.size w7 W) => Flight_on (hON7.out.below hb) HGD.out hn1000)
            have MDE := Lib.hid (fun W (hb : Below w7.heap.size w7 W) => Made_on (hON7.out.below hb))
            have CLS := Lib.hid (fun W (hb : Below w7.heap.size w7 W) => Calls_on (hON7.out.below hb) HGD.out hn1000)
            go_upto_region 15 with fail
            go_cut [10, 11, 12, 13] (fun s10 s11 s12 s13 wx => ∃ o1 c1 o2 c2 P' lo, s10 = .slice o1 c.s.l.length c1 ∧ s11 = .slice o2 c.fl.length c2 ∧ s12 = .int .i64 c.s.made ∧ s13 = .int .i64 c.L.length ∧ Hid (OnK wx P' w3.heap.size c wx ∧ isTs wx c.s.l (.slice o1 c.s.l.length c1) ∧ rdN wx lo c.fl (.slice o2 c.fl.length c2) ∧ (∀ k, P' k → k < lo) ∧ (∀ k, P' k → w3.heap.size ≤ k) ∧ Fr (fun k => w3.heap.size ≤ k) w3 wx ∧ NoS wx P'))
            case first =>
              go_wp2_with (first
                | (go_at_call 28; refine THG.out.mono ?_; rintro e w8 ⟨⟨o8, c8, rfl, ht8⟩, hb8⟩; have B8 := Lib.hid hb8; have T8 := Lib.hid ht8; clear hb8 ht8)
                | (go_at_call 24; refine (FLT.out _ B8.out).mono ?_; rintro e w9 ⟨⟨o9, c9, rfl, ht9⟩, hb9⟩; have B9 : Hid (Below w7.heap.size w7 w9) := Lib.hid (B8.out.trans (hb9.mono B8.out.size)); have T9 : Hid (rdN w9 w8.heap.size c.fl (.slice o9 c.fl.length c9) ∧ isTs w9 c.s.l (.slice o8 c.s.l.length c8)) := Lib.hid ⟨ht9, isTs_below hb9 T8.out⟩; clear hb9 ht9)
                | (go_at_call 26; refine (MDE.out _ B9.out).mono ?_; rintro e w10 ⟨rfl, hb10⟩; have B10 : Hid (Below w7.heap.size w7 w10) := Lib.hid (B9.out.trans (hb10.mono B9.out.size)); have T10 : Hid (rdN w10 w8.heap.size c.fl (.slice o9 c.fl.length c9) ∧ isTs w10 c.s.l (.slice o8 c.s.l.length c8)) := Lib.hid ⟨T9.out.1.below hb10, isTs_below hb10 T9.out.2⟩; clear hb10)
                | (go_at_call 31; refine (CLS.out _ B10.out).mono ?_; rintro e w11 ⟨⟨o11, c11, rfl, -⟩, hb11⟩; have B11 : Hid (Below w7.heap.size w7 w11) := Lib.hid (B10.out.trans (hb11.mono B10.out.size)); have T11 : Hid (rdN w11 w8.heap.size c.fl (.slice o9 c.fl.length c9) ∧ isTs w11 c.s.l (.slice o8 c.s.l.length c8)) := Lib.hid ⟨T10.out.1.below hb11, isTs_below hb11 T10.out.2⟩; clear hb11))
              go_meet
              obtain ⟨P', k1, k2, k3, k4, k5⟩ := hON7.out.frame2 B11.out
              exact ⟨o8, c8, o9, c9, P', w8.heap.size, rfl, rfl, rfl, rfl, Lib.hid ⟨k1, T11.out.2, T11.out.1, fun k hk => Nat.lt_of_lt_of_le (k2 k hk) B8.out.size, fun k hk => (k3 k hk).elim id id, k4, k5⟩⟩
            case rest =>
              obtain ⟨o1, c1, o2, c2, P', lo, rfl, rfl, rfl, rfl, HF⟩ := hcut
              clear THG FLT MDE CLS hON7
              obtain ⟨wf, rfl⟩ : ∃ wf, wf = wc := ⟨_, rfl⟩
              have hk3f : KB w3 wf := HF.out.2.2.2.2.2.1.below (fun k hk => hk) (Nat.le_refl _)
              have KF : Hid (KB W1 wf) := Lib.hid (K3.out.trans (hk3f.mono K3.out.size))
              have HSUB := Lib.hid (Submit_on HF.out.1 (HE.out.kb KF.out) HFX.out (isX_below KF.out HX1.out) HGD.out hn1000)
              obtain ⟨r0, r1, r2, r3, r4⟩ := SX.out _ KF
              go_upto_region 16 with fail
              go_cut [14] (fun s14 wx => s14 = .int .i64 (submitC c x).2 ∧ Hid (OnK w3 (fun k => w3.heap.size ≤ k) w3.heap.size (submitC c x).1 wx ∧ isTs wx c.s.l (.slice o1 c.s.l.length c1) ∧ rdN wx lo c.fl (.slice o2 c.fl.length c2)))
              case first =>
                go_wp2_with (go_at_call 14; refine HSUB.out.mono ?_; rintro e w12 ⟨rfl, hon12⟩)
                go_meet
                refine ⟨rfl, Lib.hid ⟨OnK.step HF.out.2.2.2.2.2.1 (fun k hk => .inl (HF.out.2.2.2.2.1 k hk)) hon12, isTs_fr HF.out.2.2.2.2.2.2 hon12.fr HF.out.2.1, HF.out.2.2.1.fr hon12.fr HF.out.2.2.2.1⟩⟩
              case rest =>
                obtain ⟨rfl, HS⟩ := hcut
                clear r0 r1 r2 r3 r4 HF HSUB hk3f KF
                obtain ⟨wg, rfl⟩ : ∃ wg, wg = wc := ⟨_, rfl⟩
                have hkg : KB w3 wg := HS.out.1.bel
                have KG : Hid (KB W1 wg) := Lib.hid (K3.out.trans (hkg.mono K3.out.size))
                have WKG : Hid (∀ W, Hid (KB wg W) → Calls Tryz.prog 11 #[] W fun e w' => e = .returned (.bool true) ∧ Hid (KB W1 w')) := Lib.hid fun W hK => WK.out W (Lib.hid (KG.out.trans (hK.out.mono KG.out.size)))
                have HGD2 := Lib.hid (good_submit HGD.out HFX.out)
                have hn1 : L.length + 1 ≤ 1000 := by omega
                have THG : Hid (∀ W, Hid (KB wg W) → Calls Tryz.prog 28 #[.pointer (some ⟨w3.heap.size, 0, none⟩)] W fun e w' => (∃ o cap, e = .returned (.slice o (submitC c x).1.s.l.length cap) ∧ Hid (isTs w' (submitC c x).1.s.l (.slice o (submitC c x).1.s.l.length cap))) ∧ Hid (KB wg w')) := Lib.hid fun W hK => (Things_on (HS.out.1.below hK.out) HGD2.out hn1).mono fun e w' ⟨⟨o, cap, e1, e2⟩, hb⟩ => ⟨⟨o, cap, e1, Lib.hid e2⟩, Lib.hid (hK.out.trans (hb.mono hK.out.size))⟩
                have FLT : Hid (∀ W, Hid (KB wg W) → Calls Tryz.prog 24 #[.pointer (some ⟨w3.heap.size, 0, none⟩)] W fun e w' => (∃ o cap, e = .returned (.slice o (submitC c x).1.fl.length cap) ∧ Hid (rdI w' (submitC c x).1.fl (.slice o (submitC c x).1.fl.length cap))) ∧ Hid (KB wg w')) := Lib.hid fun W hK => (Flight_on (HS.out.1.below hK.out) HGD2.out hn1).mono fun e w' ⟨⟨o, cap, e1, e2⟩, hb⟩ => ⟨⟨o, cap, e1, Lib.hid e2.1⟩, Lib.hid (hK.out.trans (hb.mono hK.out.size))⟩
                have MDE : Hid (∀ W, Hid (KB wg W) → Calls Tryz.prog 26 #[.pointer (some ⟨w3.heap.size, 0, none⟩)] W fun e w' => e = .returned (.int .i64 (submitC c x).1.s.made) ∧ Hid (KB wg w')) := Lib.hid fun W hK => (Made_on (HS.out.1.below hK.out)).mono fun e w' ⟨e1, hb⟩ => ⟨e1, Lib.hid (hK.out.trans (hb.mono hK.out.size))⟩
                have CLS : Hid (∀ W, Hid (KB wg W) → Calls Tryz.prog 31 #[.pointer (some ⟨w3.heap.size, 0, none⟩)] W fun e w' => (∃ o cap, e = .returned (.slice o (submitC c x).1.L.length cap)) ∧ Hid (KB wg w')) := Lib.hid fun W hK => (Calls_on (HS.out.1.below hK.out) HGD2.out hn1).mono fun e w' ⟨⟨o, cap, e1, _⟩, hb⟩ => ⟨⟨o, cap, e1⟩, Lib.hid (hK.out.trans (hb.mono hK.out.size))⟩
                have KG0 : Hid (KB wg wg) := Lib.hid (Below.refl _ _)
                have hask : (askC c x.tok).2 = (findC c.L x.tok).isSome := by
                  unfold askC
                  cases findC c.L x.tok <;> rfl
                cases hok2 : (findC c.L x.tok).isSome with
                | true =>
                  rw [hok2] at hask
                  rw [hask]
                  rw [submit_there hok2] at THG FLT MDE CLS
                  have hl1 := HGD.out.len
                  have hl2 := HGD.out.slen
                  have SMT : Hid (∀ W o cap, Hid (KB wg W) → Hid (isTs W c.s.l (.slice o c.s.l.length cap)) → Calls Tryz.prog 22 #[.slice o c.s.l.length cap, .slice o1 c.s.l.length c1] W fun e w' => e = .returned (.bool true) ∧ Hid (KB wg w')) := Lib.hid fun W o cap hK hT => (things_same c.s.l _ _ W (fun t ht => (HGD.out.fine t ht).2) (by omega) hT.out (isTs_below hK.out HS.out.2.1)).mono fun e w' ⟨e1, hb⟩ => ⟨e1, Lib.hid (hK.out.trans (hb.mono hK.out.size))⟩
                  have SMI : Hid (∀ W o cap, Hid (KB wg W) → Hid (rdI W c.fl (.slice o c.fl.length cap)) → Calls Tryz.prog 23 #[.slice o c.fl.length cap, .slice o2 c.fl.length c2] W fun e w' => e = .returned (.bool true) ∧ Hid (KB wg w')) := Lib.hid fun W o cap hK hT => (ints_same c.fl _ _ W (by omega) hT.out (HS.out.2.2.1.below hK.out)).mono fun e w' ⟨e1, hb⟩ => ⟨e1, Lib.hid (hK.out.trans (hb.mono hK.out.size))⟩
                  have z1 : (c.s.made == c.s.made) = true := beq_self_eq_true _
                  have z2 : ((c.L.length : Int) == (c.L.length : Int)) = true := beq_self_eq_true _
                  clear hask hok2 hl1 hl2 HS HGD2 hkg
                  generalize (submitC c x).2 = ee at *
                  go_wp2_with (first
                    | (go_at_call 28; refine (THG.out _ KG0).mono ?_; rintro e w13 ⟨⟨o13, c13, rfl, T13⟩, K13⟩)
                    | (go_at_call 22; refine (SMT.out _ _ _ K13 T13).mono ?_; rintro e w14 ⟨rfl, K14⟩)
                    | (go_at_call 24; refine (FLT.out _ K14).mono ?_; rintro e w15 ⟨⟨o15, c15, rfl, T15⟩, K15⟩)
                    | (go_at_call 23; refine (SMI.out _ _ _ K15 T15).mono ?_; rintro e w16 ⟨rfl, K16⟩)
                    | (go_at_call 26; refine (MDE.out _ K16).mono ?_; rintro e w17 ⟨rfl, K17⟩)
                    | (go_at_call 31; refine (CLS.out _ K17).mono ?_; rintro e w18 ⟨⟨o18, c18, rfl⟩, K18⟩)
                    | (go_at_call 11; refine (WKG.out _ K18).mono ?_; rintro e w19 ⟨rfl, K19⟩))
                  go_ret
                  exact ⟨rfl, HA.out.trans (K19.out.mono HA.out.size)⟩
                | false =>
                  rw [hok2] at hask
                  rw [hask]
                  have hl1 := HGD.out.len
                  have hl2 := HGD.out.slen
                  obtain ⟨ee, nl', nf', bb, he, hnl, hnf, hbb, hnl2, hnf2⟩ : ∃ (ee : Int) (nl' nf' : Nat) (bb : Bool), (submitC c x).2 = ee ∧ (submitC c x).1.L.length = nl' ∧ (submitC c x).1.fl.length = nf' ∧ (ee == 0) = bb ∧ nl' = c.L.length + (if bb = true then 1 else 0) ∧ nf' = c.fl.length + (if bb = true then 1 else 0) := by
                    rcases submit_new hok2 with ⟨hw, hs⟩ | ⟨hw, hs⟩
                    · refine ⟨0, c.L.length + 1, c.fl.length + 1, true, by rw [hs], by rw [hs]; simp, by rw [hs]; simp, rfl, rfl, rfl⟩
                    · refine ⟨wrongC x, c.L.length, c.fl.length, false, by rw [hs], by rw [hs], by rw [hs], beqI hw, rfl, rfl⟩
                  rw [he]
                  rw [hnl] at CLS
                  rw [hnf] at FLT
                  clear hask hok2 HS HGD2 hkg he hnl hnf THG MDE
                  generalize c.L.length = nl at *
                  generalize c.fl.length = nf at *
                  have d0 : (nl' : Int) = (nl : Int) + (nf' : Int) - (nf : Int) := by
                    rw [hnl2, hnf2]; split <;> simp <;> omega
                  have d1 : IntKind.i64.wrap ((nl : Int) + (nf' : Int)) = (nl : Int) + (nf' : Int) := by
                    have : nf' ≤ nf + 1 := by rw [hnf2]; split <;> omega
                    simp [IntKind.wrap, IntKind.bits, IntKind.signed]; omega
                  have d2 : IntKind.i64.wrap ((nl : Int) + (nf' : Int) - (nf : Int)) = (nl' : Int) := by
                    rw [← d0]
                    have : nl' ≤ nl + 1 := by rw [hnl2]; split <;> omega
                    simp [IntKind.wrap, IntKind.bits, IntKind.signed]; omega
                  have d3 : IntKind.i64.wrap ((nl : Int) + 1) = (nl : Int) + 1 := by simp [IntKind.wrap, IntKind.bits, IntKind.signed]; omega
                  have d4 : ((nl' : Int) == (nl' : Int)) = true := beq_self_eq_true _
                  have d5 : ((nl' : Int) == (nl : Int) + 1) = bb := by
                    rw [hnl2]
                    cases bb
                    · exact beqI (by simp only [Bool.false_eq_true, if_false, Nat.add_zero]; omega)
                    · simp
                  clear d0 hnl2 hnf2
                  cases bb
                  all_goals
                    go_wp2_with (first
                      | (go_at_call 31; first | (refine (CLS.out _ KG0).mono ?_; rintro e w13 ⟨⟨o13, c13, rfl⟩, K13⟩) | (refine (CLS.out _ K14).mono ?_; rintro e w15 ⟨⟨o15, c15, rfl⟩, K15⟩))
                      | (go_at_call 24; refine (FLT.out _ K13).mono ?_; rintro e w14 ⟨⟨o14, c14, rfl, T14⟩, K14⟩)
                      | (go_at_call 11; refine (WKG.out _ K15).mono ?_; rintro e w19 ⟨rfl, K19⟩))
                    go_ret
                    exact ⟨rfl, HA.out.trans (K19.out.mono HA.out.size)⟩
end Go.Proofs.YtkigeegahepnaaaGreatDoor
