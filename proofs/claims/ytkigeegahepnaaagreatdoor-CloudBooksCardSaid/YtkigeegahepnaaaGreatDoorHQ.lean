/-
  CloudBooks, walked.
-/
import Derived.Test.YtkigeegahepnaaaGreatDoorHP
import Derived.Test.YtkigeegahepnaaaGreatDoorHN
set_option linter.unusedVariables false
set_option linter.unusedSimpArgs false
namespace Go.Proofs.YtkigeegahepnaaaGreatDoor
open Go.RowKit Go.Maps Go.Deep

theorem MapIs.below' {P : Program} {k : TypeId} {W W' : World} {b n : Nat} {f : ByteArray → Option Value} (h : MapIs P k W b n f) (hb : Below W.heap.size W W') : MapIs P k W' b n f :=
  h.kept (row := none) ⟨hb.os, hb.tape, hb.output, hb.size, fun k hk _ => hb.block k hk⟩ (fun e => by cases e)
set_option maxRecDepth 100000 in
set_option maxHeartbeats 16000000 in
theorem cloudBooks_any (L : List Ac) (v : Value) (w : World) (hE : Env9 w) (h : isAs w L v) : Calls Tryz.prog 6 #[v] w fun e w' => e = .returned (.bool true) ∧ Below w.heap.size w w' := by
  have GA : Hid (Calls Tryz.prog 10 #[v] w fun e w' => e = .returned (.bool (actsG L)) ∧ Hid (KB w w')) := Lib.hid ((acts11_any L v w h).mono fun e w' ⟨h1, h2⟩ => ⟨h1, Lib.hid h2⟩)
  have HAS := Lib.hid h
  obtain ⟨a, cap, ⟨o, rfl, hc1, hc2, ho⟩, hat⟩ := h
  have HAT := Lib.hid hat
  have HE := Lib.hid (fun W (hK : KB w W) => hE.kb hK)
  have WK : Hid (∀ W, Hid (KB w W) → Calls Tryz.prog 11 #[] W fun e w' => e = .returned (.bool true) ∧ Hid (KB w w')) := Lib.hid fun W hK => (wakes11_any W (hE.kb hK.out)).mono fun e w' ⟨h1, h2⟩ => ⟨h1, Lib.hid (hK.out.trans (h2.mono hK.out.size))⟩
  clear hat hE
  go_enter Tryz.func6, Tryz.ntmps6
  by_cases hga : actsG L = true
  · rw [hga] at GA
    clear hga
    go_wp2_with (first
      | (go_at_call 10; refine GA.out.mono ?_; rintro e w2 ⟨rfl, K2⟩)
      | (go_at_call 11; refine (WK.out _ K2).mono ?_; rintro e w3 ⟨rfl, K3⟩))
    go_ret
    exact ⟨rfl, K3.out⟩
  · have hga' : actsG L = false := by simpa using hga
    rw [hga'] at GA
    obtain ⟨hl100, hall⟩ := actsG_no hga'
    have HALL : Hid (∀ y ∈ L, fineX y.x) := Lib.hid fun y hy => by
      obtain ⟨i, hi, rfl⟩ := List.getElem_of_mem hy
      obtain ⟨_, _, _, _, _, _, _, _, _, _, hok, -⟩ := isAat_seven (HAT.out i hi)
      exact fineX_of (hall _ hy) hok
    have HG := Lib.hid (good_run hl100 HALL.out)
    clear hga hga' hall
    go_wp2_with (first
      | (go_at_call 10; refine GA.out.mono ?_; rintro e w3 ⟨rfl, K3⟩)
      | (go_at_call 12; refine (new_any _).mono ?_; rintro e w5 ⟨rfl, rfl⟩))
    have HON0 := Lib.hid (OnK.new w3)
    clear GA
    generalize w3.alloc (.cells #[.slice none 0 0, .int .i64 0, .map none, .slice none 0 0, .slice none 0 0] 72) = W4 at *
    go_loopw [23] (fun iv wr => ∃ (j : Nat), j ≤ L.length ∧ iv = .int .i64 j ∧ Hid (OnK w3 (fun k => w3.heap.size ≤ k) w3.heap.size (runA (L.take j)) wr)) (fun iv _ => L.length - (intOf iv).toNat)
    case atStart => exact ⟨0, by omega, rfl, HON0⟩
    case round =>
      obtain ⟨j, hj, rfl, hON⟩ := hrel
      clear HON0
      have KW : Hid (KB w wr) := Lib.hid (K3.out.trans (hON.out.bel.mono K3.out.size))
      by_cases hlt : j < L.length
      · obtain rfl := ho (by omega)
        obtain ⟨o1, c1, q0, q1, q2, q3, q4, q5, q6, hg, hok, -, -⟩ := isAat_seven (isAat_below KW.out (HAT.out j hlt))
        have hfx := HALL.out _ (List.getElem_mem hlt)
        have hgd := HG.out j (by omega)
        have hst := runA_succ hlt
        generalize L[j] = y at *
        obtain ⟨c, hc⟩ : ∃ c, runA (L.take j) = c := ⟨_, rfl⟩
        rw [hc] at hgd hst hON
        clear hc
        by_cases h0 : y.dO = 0
        · rw [h0] at q0
          have hkA : KB wr (wr.alloc (.cells #[.int .i64 0, .int .i64 y.n, .int .i64 y.x.tok, .int .i8 y.x.kd, .string y.x.ph, .string y.x.ty, .slice o1 y.x.ps.length c1] 34)) := kbA
          have HC := Lib.hid (Submit_on (hON.out.below hkA) (HE.out _ (KW.out.trans (hkA.mono KW.out.size))) hfx (v := .agg #[.int .i64 y.x.tok, .int .i8 y.x.kd, .string y.x.ph, .string y.x.ty, .slice o1 y.x.ps.length c1]) ⟨_, rfl, isGs_below hkA hg, hok⟩ hgd (by omega))
          have HST : Hid (runA (L.take (j + 1)) = (submitC c y.x).1) := Lib.hid (by rw [hst]; unfold stepA; rw [if_pos h0])
          clear hg hok hfx hgd hst h0 hkA hON
          go_wp2_with (go_at_call 14; refine HC.out.mono ?_; rintro e w6 ⟨rfl, hon6⟩)
          have HN6 := Lib.hid hon6
          rw [← HST.out] at HN6
          clear hon6
          go_roundw
          case rel => exact ⟨j + 1, by omega, by go_num, HN6⟩
          case measure => simp [intOf]; omega
        · have z0 : (y.dO == 0) = false := beqI h0
          by_cases h1 : y.dO = 1
          · rw [h1] at q0
            have hkA : KB wr (wr.alloc (.cells #[.int .i64 1, .int .i64 y.n, .int .i64 y.x.tok, .int .i8 y.x.kd, .string y.x.ph, .string y.x.ty, .slice o1 y.x.ps.length c1] 34)) := kbA
            have HC := Lib.hid (End_on (hON.out.below hkA) (HE.out _ (KW.out.trans (hkA.mono KW.out.size))) hgd (by omega) y.n true)
            have HST : Hid (runA (L.take (j + 1)) = (endC c y.n true).1) := Lib.hid (by rw [hst]; unfold stepA; rw [if_neg h0, if_pos h1])
            clear hg hok hfx hgd hst h0 h1 z0 hkA hON
            go_wp2_with (go_at_call 16; refine HC.out.mono ?_; rintro e w6 ⟨rfl, hon6⟩)
            have HN6 := Lib.hid hon6
            rw [← HST.out] at HN6
            clear hon6
            go_roundw
            case rel => exact ⟨j + 1, by omega, by go_num, HN6⟩
            case measure => simp [intOf]; omega
          · have z1 : (y.dO == 1) = false := beqI h1
            by_cases h2 : y.dO = 2
            · rw [h2] at q0
              have hkA : KB wr (wr.alloc (.cells #[.int .i64 2, .int .i64 y.n, .int .i64 y.x.tok, .int .i8 y.x.kd, .string y.x.ph, .string y.x.ty, .slice o1 y.x.ps.length c1] 34)) := kbA
              have HC := Lib.hid (End_on (hON.out.below hkA) (HE.out _ (KW.out.trans (hkA.mono KW.out.size))) hgd (by omega) y.n false)
              have HST : Hid (runA (L.take (j + 1)) = (endC c y.n false).1) := Lib.hid (by rw [hst]; unfold stepA; rw [if_neg h0, if_neg h1, if_pos h2])
              clear hg hok hfx hgd hst h0 h1 h2 z0 z1 hkA hON
              go_wp2_with (go_at_call 16; refine HC.out.mono ?_; rintro e w6 ⟨rfl, hon6⟩)
              have HN6 := Lib.hid hon6
              rw [← HST.out] at HN6
              clear hon6
              go_roundw
              case rel => exact ⟨j + 1, by omega, by go_num, HN6⟩
              case measure => simp [intOf]; omega
            · have z2 : (y.dO == 2) = false := beqI h2
              have HST : Hid (runA (L.take (j + 1)) = c) := Lib.hid (by rw [hst]; unfold stepA; rw [if_neg h0, if_neg h1, if_neg h2])
              have HN6 := Lib.hid (hON.out.below (kbA (o := .cells #[.int .i64 y.dO, .int .i64 y.n, .int .i64 y.x.tok, .int .i8 y.x.kd, .string y.x.ph, .string y.x.ty, .slice o1 y.x.ps.length c1] 34)))
              rw [← HST.out] at HN6
              clear hg hok hfx hgd hst h0 h1 h2 hON
              go_wp2_with fail
              go_roundw
              case rel => exact ⟨j + 1, by omega, by go_num, HN6⟩
              case measure => simp [intOf]; omega
      · obtain rfl : j = L.length := by omega
        have hgd := HG.out L.length (Nat.le_refl _)
        rw [List.take_of_length_le (Nat.le_refl _)] at hON hgd
        have HGD := Lib.hid hgd
        have hbk := BK.run hl100 HALL.out L.length (Nat.le_refl _)
        have hph := phs_run hl100 HALL.out L.length (Nat.le_refl _)
        rw [List.take_of_length_le (Nat.le_refl _)] at hbk hph
        have HBK := Lib.hid hbk
        have HPH := Lib.hid hph
        clear hbk hph
        clear hgd hlt hj
        generalize runA L = c at *
        have hn1000 : L.length ≤ 1000 := by omega
        obtain ⟨wB, rfl⟩ : ∃ wB, wB = wr := ⟨_, rfl⟩
        have hkm : KB wB (wB.alloc (.map #[] 0)) := kbA
        have CLS : Hid (Calls Tryz.prog 31 #[.pointer (some ⟨w3.heap.size, 0, none⟩)] (wB.alloc (.map #[] 0)) fun e w' => (∃ o cap, e = .returned (.slice o c.L.length cap) ∧ Hid (isXs w' (c.L.map (·.1)) (.slice o c.L.length cap))) ∧ Hid (Below (wB.alloc (.map #[] 0)).heap.size (wB.alloc (.map #[] 0)) w')) := Lib.hid
          ((Calls_on (hON.out.below hkm) HGD.out hn1000).mono fun e w' ⟨⟨o, cap, e1, e2⟩, hb⟩ => ⟨⟨o, cap, e1, Lib.hid e2⟩, Lib.hid hb⟩)
        have HM0 := Lib.hid (MapIs.made Tryz.prog 9 wB)
        have HKM := Lib.hid hkm
        have HLL : Hid (c.L.length ≤ 100) := Lib.hid (by have := HGD.out.len; omega)
        clear hkm
        have hmm := @run_makeMap Tryz.prog
        go_wp2_with fail
        refine CLS.out.mono ?_
        rintro e w11 ⟨⟨o2, c2, rfl, HXS⟩, hb11⟩
        have HI0 : Hid (KB wB w11 ∧ MapIs Tryz.prog 9 w11 wB.heap.size 0 (fB (c.L.take 0)) ∧ isXs w11 (c.L.map (·.1)) (.slice o2 c.L.length c2)) := Lib.hid ⟨HKM.out.trans (hb11.out.mono HKM.out.size), by
          have e : (fun _ => none) = fB (c.L.take 0) := by funext z; simp [fB]
          rw [← e]
          exact MapIs.below' HM0.out hb11.out, HXS.out⟩
        clear CLS HM0 HKM hb11 HXS hmm
        go_wp2_with fail
        go_loopw [7, 50] (fun sv iv wr => ∃ (j : Nat), j ≤ c.L.length ∧ iv = .int .i64 j ∧ sv = .int .i64 (madeD (c.L.take j)) ∧ Hid (KB wB wr ∧ MapIs Tryz.prog 9 wr wB.heap.size j (fB (c.L.take j)) ∧ isXs wr (c.L.map (·.1)) (.slice o2 c.L.length c2))) (fun _ iv _ => c.L.length - (intOf iv).toNat)
        case atStart => exact ⟨0, by omega, rfl, rfl, HI0⟩
        case round =>
          obtain ⟨j, hj, rfl, rfl, hI⟩ := hrel
          clear HI0
          by_cases hlt : j < c.L.length
          · obtain ⟨a3, c9, ⟨o9, e9, hc3, hc4, ho3⟩, hat3⟩ := hI.out.2.2
            simp only [Value.slice.injEq, true_and] at e9
            obtain ⟨rfl, -, rfl⟩ := e9
            obtain rfl := ho3 (by simpa using (show 0 < c.L.length by omega))
            obtain ⟨pv, g0, g1, g2, g3, g4, hg, hok⟩ := hat3 j (by simpa using hlt)
            rw [List.getElem_map] at g0 g1 g2 g3 hg hok
            obtain ⟨o5, c5, rfl⟩ : ∃ o5 c5, pv = .slice o5 c.L[j].1.ps.length c5 := by obtain ⟨_, c5, ⟨o5, rfl, _⟩, _⟩ := hg; exact ⟨o5, c5, rfl⟩
            have hfd := HGD.out.find (List.getElem_mem hlt)
            have hask : askC c c.L[j].1.tok = (c.L[j].2, true) := by unfold askC; rw [hfd]
            have hz : okZ c.L[j].1.tok := okZ_find HGD.out (List.getElem_mem hlt)
            have hps1 : c.L[j].1.ph.size ≤ maxLen := hok.2.2.1
            have hps2 : c.L[j].2.ph.size ≤ maxLen := HPH.out _ (List.getElem_mem hlt)
            have htk : c.L.take (j + 1) = c.L.take j ++ [c.L[j]] := List.take_succ_eq_append_getElem hlt
            have HT := Lib.hid htk
            have hml := madeD_le (c.L.take j)
            have hbl := fun p => balD_le (c.L.take j) p
            have hlen : (c.L.take j).length = j := by rw [List.length_take]; omega
            rw [hlen] at hml hbl
            have HBL := Lib.hid hbl
            have HPS := Lib.hid (And.intro hps1 hps2)
            clear hg hok hfd hat3 hc3 hc4 htk hbl hlen hps1 hps2
            generalize c.L[j] = p at *
            generalize c.L.take j = M at *
            obtain ⟨x, ⟨en, ok, ph⟩⟩ := p
            dsimp only at g0 g1 g2 g3 g4 hask hz
            have hk1 : KB wr (wr.alloc (.cells #[.int .i64 x.tok, .int .i8 x.kd, .string x.ph, .string x.ty, .slice o5 x.ps.length c5] 32)) := kbA
            have hK1 : KB wB (wr.alloc (.cells #[.int .i64 x.tok, .int .i8 x.kd, .string x.ph, .string x.ty, .slice o5 x.ps.length c5] 32)) := hI.out.1.trans (hk1.mono hI.out.1.size)
            have HASK := Lib.hid (Ask_on (hON.out.below hK1) hz)
            rw [hask] at HASK
            have HK1 := Lib.hid (And.intro hK1 hk1)
            have HNX := Lib.hid (World.alloc_heap_new wr (.cells #[.int .i64 x.tok, .int .i8 x.kd, .string x.ph, .string x.ty, .slice o5 x.ps.length c5] 32))
            have HLJ := HLL.out
            clear hask hk1 hK1 hz
            go_wp2_with fail
            refine HASK.out.mono ?_
            rintro e w13 ⟨rfl, hb13⟩
            have hkA : KB w13 (w13.alloc (.cells #[.bool en, .bool ok, .string ph] 38)) := kbA
            have hr14 : KB wr (w13.alloc (.cells #[.bool en, .bool ok, .string ph] 38)) := HK1.out.2.trans ((hb13.trans (hkA.mono hb13.size)).mono HK1.out.2.size)
            have H14 : Hid (KB wB (w13.alloc (.cells #[.bool en, .bool ok, .string ph] 38)) ∧ MapIs Tryz.prog 9 (w13.alloc (.cells #[.bool en, .bool ok, .string ph] 38)) wB.heap.size j (fB M) ∧ isXs (w13.alloc (.cells #[.bool en, .bool ok, .string ph] 38)) (c.L.map (·.1)) (.slice (some a3) c.L.length c2)) :=
              Lib.hid ⟨hI.out.1.trans (hr14.mono hI.out.1.size), hI.out.2.1.below' hr14, isXs_below hr14 hI.out.2.2⟩
            have hbx : (w13.alloc (.cells #[.bool en, .bool ok, .string ph] 38)).heap[wr.heap.size]? = _ := (hkA.block _ (by have := hb13.size; simp at this; omega)).trans ((hb13.block _ (by simp)).trans HNX.out)
            obtain ⟨b0, b1, b2, b3, b4⟩ := five_cells hbx
            have HBX := Lib.hid hbx
            clear hkA hr14 hb13 hbx
            cases ok with
            | false =>
              have HN : Hid (KB wB (w13.alloc (.cells #[.bool en, .bool false, .string ph] 38)) ∧ MapIs Tryz.prog 9 (w13.alloc (.cells #[.bool en, .bool false, .string ph] 38)) wB.heap.size (j + 1) (fB (c.L.take (j + 1))) ∧ isXs (w13.alloc (.cells #[.bool en, .bool false, .string ph] 38)) (c.L.map (·.1)) (.slice (some a3) c.L.length c2)) := Lib.hid ⟨H14.out.1, by
                rw [HT.out, fB_bad rfl]; exact H14.out.2.1.mono (Nat.le_succ j), H14.out.2.2⟩
              have HMD : Hid (madeD (c.L.take (j + 1)) = madeD M) := Lib.hid (by rw [HT.out, madeD_append]; simp [madeD, mkD])
              go_wp2_with fail
              go_roundw
              case rel => exact ⟨j + 1, by omega, by go_num, by rw [HMD.out], HN⟩
              case measure => simp [intOf]; omega
            | true =>
              by_cases hkd : x.kd = 0
              · skip
                have hl := H14.out.2.1.look lawS Tryz.underlying9 Tryz.underlying61 false (show (zeroValue 3).run Tryz.prog _ = .ok (.int .i64 0) _ by kernel_rfl) HPS.out.2
                rw [fB_look] at hl
                have hbk := HBL.out ph
                have dw : IntKind.i64.wrap (balD M ph + 1) = balD M ph + 1 := by simp [IntKind.wrap, IntKind.bits, IntKind.signed]; omega
                have dm : IntKind.i64.wrap (madeD M + 1) = madeD M + 1 := by simp [IntKind.wrap, IntKind.bits, IntKind.signed]; omega
                obtain ⟨w15, hrun, hm15, hg15⟩ := H14.out.2.1.update lawS Tryz.underlying9 Tryz.underlying61 (by unfold maxLen; omega) HPS.out.2 (.int .i64 (balD M ph + 1))
                have hF15 : Fr (fun k => k = wB.heap.size) (w13.alloc (.cells #[.bool en, .bool true, .string ph] 38)) w15 := Fr.grown hg15 (fun r e => (Option.some.inj e).symm)
                have hN15 : NoS (w13.alloc (.cells #[.bool en, .bool true, .string ph] 38)) (fun k => k = wB.heap.size) := fun a s hc hk => by
                  obtain ⟨D, ⟨es, clock, hb, -⟩, -⟩ := H14.out.2.1
                  refine NoS_of_block (k := wB.heap.size) (fun cs t fr hh s' => ?_) hc hk
                  rw [hb] at hh
                  cases hh
                have HN : Hid (KB wB w15 ∧ MapIs Tryz.prog 9 w15 wB.heap.size (j + 1) (fB (c.L.take (j + 1))) ∧ isXs w15 (c.L.map (·.1)) (.slice (some a3) c.L.length c2)) := Lib.hid ⟨H14.out.1.trans (hF15.below (fun k e => by rw [e]; exact Nat.le_refl _) H14.out.1.size), by
                  rw [HT.out, fB_create rfl hkd]
                  exact hm15, isXs_fr hN15 hF15 H14.out.2.2⟩
                have hne : wr.heap.size ≠ wB.heap.size := fun e => by
                  obtain ⟨D, ⟨es, clock, hb, -⟩, -⟩ := hI.out.2.1
                  have := (Array.getElem?_eq_some_iff.1 hb).1
                  omega
                obtain ⟨v0, v1, v2, v3, v4⟩ := five_cells (hF15.2 _ _ HBX.out hne)
                have HMD : Hid (madeD (c.L.take (j + 1)) = madeD M + 1) := Lib.hid (by rw [HT.out, madeD_append]; simp [madeD, mkD, hkd])
                rw [hkd] at b1 v1
                clear hm15 hg15 hF15 hN15 hne hbk
                go_wp2_with fail
                go_roundw
                case rel => exact ⟨j + 1, by omega, by go_num, by rw [HMD.out], HN⟩
                case measure => simp [intOf]; omega
              · by_cases hkd2 : x.kd = 2
                · have hk9 := hkd
                  clear hkd
                  have hkd := hkd2
                  have hl := H14.out.2.1.look lawS Tryz.underlying9 Tryz.underlying61 false (show (zeroValue 3).run Tryz.prog _ = .ok (.int .i64 0) _ by kernel_rfl) HPS.out.1
                  rw [fB_look] at hl
                  have hbk := HBL.out x.ph
                  have dw : IntKind.i64.wrap (balD M x.ph - 1) = balD M x.ph - 1 := by simp [IntKind.wrap, IntKind.bits, IntKind.signed]; omega
                  have dm : IntKind.i64.wrap (madeD M + 1) = madeD M + 1 := by simp [IntKind.wrap, IntKind.bits, IntKind.signed]; omega
                  obtain ⟨w15, hrun, hm15, hg15⟩ := H14.out.2.1.update lawS Tryz.underlying9 Tryz.underlying61 (by unfold maxLen; omega) HPS.out.1 (.int .i64 (balD M x.ph - 1))
                  have hF15 : Fr (fun k => k = wB.heap.size) (w13.alloc (.cells #[.bool en, .bool true, .string ph] 38)) w15 := Fr.grown hg15 (fun r e => (Option.some.inj e).symm)
                  have hN15 : NoS (w13.alloc (.cells #[.bool en, .bool true, .string ph] 38)) (fun k => k = wB.heap.size) := fun a s hc hk => by
                    obtain ⟨D, ⟨es, clock, hb, -⟩, -⟩ := H14.out.2.1
                    refine NoS_of_block (k := wB.heap.size) (fun cs t fr hh s' => ?_) hc hk
                    rw [hb] at hh
                    cases hh
                  have HN : Hid (KB wB w15 ∧ MapIs Tryz.prog 9 w15 wB.heap.size (j + 1) (fB (c.L.take (j + 1))) ∧ isXs w15 (c.L.map (·.1)) (.slice (some a3) c.L.length c2)) := Lib.hid ⟨H14.out.1.trans (hF15.below (fun k e => by rw [e]; exact Nat.le_refl _) H14.out.1.size), by
                    rw [HT.out, fB_delete rfl hkd]
                    exact hm15, isXs_fr hN15 hF15 H14.out.2.2⟩
                  have hne : wr.heap.size ≠ wB.heap.size := fun e => by
                    obtain ⟨D, ⟨es, clock, hb, -⟩, -⟩ := hI.out.2.1
                    have := (Array.getElem?_eq_some_iff.1 hb).1
                    omega
                  obtain ⟨v0, v1, v2, v3, v4⟩ := five_cells (hF15.2 _ _ HBX.out hne)
                  have HMD : Hid (madeD (c.L.take (j + 1)) = madeD M) := Lib.hid (by rw [HT.out, madeD_append]; simp [madeD, mkD, hkd])
                  rw [hkd] at b1 v1
                  clear hm15 hg15 hF15 hN15 hne hbk
                  go_wp2_with fail
                  go_roundw
                  case rel => exact ⟨j + 1, by omega, by go_num, by rw [HMD.out], HN⟩
                  case measure => simp [intOf]; omega
                · have y0 : (x.kd == 0) = false := beqI hkd
                  have y2 : (x.kd == 2) = false := beqI hkd2
                  have HN : Hid (KB wB (w13.alloc (.cells #[.bool en, .bool true, .string ph] 38)) ∧ MapIs Tryz.prog 9 (w13.alloc (.cells #[.bool en, .bool true, .string ph] 38)) wB.heap.size (j + 1) (fB (c.L.take (j + 1))) ∧ isXs (w13.alloc (.cells #[.bool en, .bool true, .string ph] 38)) (c.L.map (·.1)) (.slice (some a3) c.L.length c2)) := Lib.hid ⟨H14.out.1, by
                    rw [HT.out, fB_upd hkd hkd2]; exact H14.out.2.1.mono (Nat.le_succ j), H14.out.2.2⟩
                  have HMD : Hid (madeD (c.L.take (j + 1)) = madeD M) := Lib.hid (by rw [HT.out, madeD_append]; simp [madeD, mkD, hkd])
                  clear hkd hkd2
                  go_wp2_with fail
                  go_roundw
                  case rel => exact ⟨j + 1, by omega, by go_num, by rw [HMD.out], HN⟩
                  case measure => simp [intOf]; omega
          · obtain rfl : j = c.L.length := by omega
            have hI2 := hI.out
            rw [List.take_of_length_le (Nat.le_refl _)] at hI2 ⊢
            rw [HBK.out.made]
            have HBM := Lib.hid hI2.2.1
            obtain ⟨wC, rfl⟩ : ∃ wC, wC = wr := ⟨_, rfl⟩
            have HKC := Lib.hid hI2.1
            have HUQ := Lib.hid (uniq_ph HGD.out.okS)
            have hsl := HGD.out.slen
            have HSL : Hid (c.s.l.length ≤ 100) := Lib.hid (by have := HLL.out; omega)
            clear hI hI2 hlt hj hsl
            go_wp2_with (at_range; refine wpList_range_map rfl _ 61 rfl 9 3 lawS Tryz.underlying61 rfl HBM.out ?_; intro w7 cnt0 hrg0 hg7 hs7)
            have HR0 := Lib.hid hrg0
            have HC0 : Hid (cntL c.s.l (fun s => (fB c.L s).isSome) = 0) := Lib.hid (cntL_zero (fun t ht => by rw [fB_there HBK.out ht]; rfl))
            have HK7 : Hid (KB wC w7) := Lib.hid ((Below.refl _ _).grown hg7 (Nat.le_refl _) (fun k e => by cases e))
            clear hrg0 hg7 hs7
            go_frame
            go_loopw [12] (fun nv wr => ∃ (left : ByteArray → Bool) (cnt : Nat), nv = .int .i64 (cntL c.s.l left) ∧ Hid (RangeIs Tryz.prog 9 wr wB.heap.size wC.heap.size c.L.length (fB c.L) left cnt) ∧ Hid (KB wC wr)) (fun _ wr => wr.rangeLeft wB.heap.size wC.heap.size)
            case atStart => exact ⟨_, _, by rw [HC0.out], HR0, HK7⟩
            case round =>
              obtain ⟨left, cnt, rfl, hR, hB⟩ := hrel
              clear HR0 HC0 HK7
              go_wp2_with (at_next; refine wpList_next_map rfl _ rfl 9 lawS Tryz.underlying9 _ _ _ _ _ _ rfl hR.out ?_ ?_)
              · intro hc0 hl0
                have HCA : Hid (cntL c.s.l left = c.s.l.length) := Lib.hid (cntL_all (fun t _ => hl0 _))
                clear hc0 hl0
                rw [HCA.out]
                obtain ⟨wD, rfl⟩ : ∃ wD, wD = wr := ⟨_, rfl⟩
                have hkD : KB wB wD := HKC.out.trans (hB.out.mono HKC.out.size)
                have HMD : Hid (∀ W, KB wD W → MapIs Tryz.prog 9 W wB.heap.size c.L.length (fB c.L) ∧ OnK w3 (fun k => w3.heap.size ≤ k) w3.heap.size c W ∧ KB w W) := Lib.hid fun W hK => by
                  have h1 : KB wB W := hkD.trans (hK.mono hkD.size)
                  exact ⟨hR.out.owns.below' hK, hON.out.below h1, KW.out.trans (h1.mono KW.out.size)⟩
                have THG : Hid (∀ W, Hid (KB wD W) → Calls Tryz.prog 28 #[.pointer (some ⟨w3.heap.size, 0, none⟩)] W fun e w' => (∃ o cap, e = .returned (.slice o c.s.l.length cap) ∧ Hid (isTs w' c.s.l (.slice o c.s.l.length cap))) ∧ Hid (KB wD w')) := Lib.hid fun W hK => (Things_on (HMD.out _ hK.out).2.1 HGD.out hn1000).mono fun e w' ⟨⟨o, cap, e1, e2⟩, hb⟩ => ⟨⟨o, cap, e1, Lib.hid e2⟩, Lib.hid (hK.out.trans (hb.mono hK.out.size))⟩
                have KD0 : Hid (KB wD wD) := Lib.hid (Below.refl _ _)
                clear hR hB hkD
                go_wp2_with fail
                refine (THG.out _ KD0).mono ?_
                rintro e w12 ⟨⟨o3, c3, rfl, HTS⟩, K12⟩
                obtain ⟨a3, c9, ⟨o9, e9, hc3, hc4, ho3⟩, hat3⟩ := HTS.out
                simp only [Value.slice.injEq, true_and] at e9
                obtain ⟨rfl, rfl⟩ := e9
                have HAT3 := Lib.hid hat3
                have K120 : Hid (KB w12 w12) := Lib.hid (Below.refl _ _)
                clear hat3 hc4
                go_wp2_with fail
                go_loopw [107] (fun iv wr => ∃ (j : Nat), j ≤ c.s.l.length ∧ iv = .int .i64 j ∧ Hid (KB w12 wr)) (fun iv _ => c.s.l.length - (intOf iv).toNat)
                case atStart => exact ⟨0, by omega, rfl, K120⟩
                case round =>
                  obtain ⟨j, hj, rfl, hK⟩ := hrel
                  clear K120
                  have hs9 := HSL.out
                  by_cases hlt : j < c.s.l.length
                  · obtain rfl := ho3 (by omega)
                    obtain ⟨o1, c1, q0, q1, q2, hth⟩ := isTat_three (isTat_below hK.out (HAT3.out j hlt))
                    obtain ⟨_, -, -, hph, -⟩ := hth
                    have hthere := fB_there HBK.out (List.getElem_mem hlt)
                    have hkA : KB wr (wr.alloc (.cells #[.string c.s.l[j].ph, .string c.s.l[j].ty, .slice o1 c.s.l[j].ps.length c1] 44)) := kbA
                    have HN : Hid (KB w12 (wr.alloc (.cells #[.string c.s.l[j].ph, .string c.s.l[j].ty, .slice o1 c.s.l[j].ps.length c1] 44))) := Lib.hid (hK.out.trans (hkA.mono hK.out.size))
                    have hl := (HMD.out _ (K12.out.trans (HN.out.mono K12.out.size))).1.look lawS Tryz.underlying9 Tryz.underlying61 false (show (zeroValue 3).run Tryz.prog _ = .ok (.int .i64 0) _ by kernel_rfl) (s := c.s.l[j].ph) hph
                    rw [hthere] at hl
                    clear hph hthere hkA
                    generalize c.s.l[j] = T at *
                    go_wp2_with fail
                    go_roundw
                    case rel => exact ⟨j + 1, by omega, by go_num, HN⟩
                    case measure => simp [intOf]; omega
                  · obtain rfl : j = c.s.l.length := by omega
                    have KDr : Hid (KB wD wr) := Lib.hid (K12.out.trans (hK.out.mono K12.out.size))
                    have z1 : (c.s.made == c.s.made) = true := beq_self_eq_true _
                    have z2 : ((c.s.l.length : Int) == (c.s.l.length : Int)) = true := beq_self_eq_true _
                    clear hlt hj
                    go_wp2_with fail
                    refine (THG.out _ KDr).mono ?_
                    rintro e w13 ⟨⟨o13, c13, rfl, -⟩, K13⟩
                    have MD := Lib.hid (Made_on (HMD.out _ K13.out).2.1)
                    go_wp2_with fail
                    refine MD.out.mono ?_
                    rintro e w14 ⟨rfl, hb14⟩
                    have K14 : Hid (KB w w14) := Lib.hid (HMD.out _ (K13.out.trans (hb14.mono K13.out.size))).2.2
                    clear hb14
                    go_wp2_with fail
                    refine (WK.out _ K14).mono ?_
                    rintro e w15 ⟨rfl, K15⟩
                    go_wp2_with fail
                    go_ret
                    exact ⟨rfl, K15.out⟩
              · intro s v w8 cnt8 hsl hls hfs hrg8 hlt8 hg8 hs8 hen8
                obtain rfl := fB_key HBK.out hfs
                have hst := cntL_step HUQ.out hls
                have hle := cntL_le c.s.l left
                have HR8 := Lib.hid hrg8
                have HB8 : Hid (KB wC w8) := Lib.hid (hB.out.grown hg8 hB.out.size (fun k e => by cases e; exact Nat.le_refl _))
                have HMs : Hid (cnt8 < wr.rangeLeft wB.heap.size wC.heap.size) := Lib.hid (by rw [hR.out.left_eq]; exact hlt8)
                have HLE8 : Hid (w8.rangeLeft wB.heap.size wC.heap.size = cnt8) := Lib.hid hrg8.left_eq
                have hs9 := HSL.out
                by_cases he : ∃ t ∈ c.s.l, t.ph = s
                · rw [if_pos he] at hen8 hst
                  rw [if_pos he]
                  have dw : IntKind.i64.wrap (cntL c.s.l left + 1) = cntL c.s.l left + 1 := by simp [IntKind.wrap, IntKind.bits, IntKind.signed]; omega
                  have dw0 : IntKind.i64.wrap (cntL c.s.l left) = cntL c.s.l left := by simp [IntKind.wrap, IntKind.bits, IntKind.signed]; omega
                  have HST := Lib.hid hst
                  clear hst he hrg8 hlt8 hg8 hls hfs
                  go_wp2_with fail
                  go_roundw
                  case rel => exact ⟨_, cnt8, by rw [HST.out], HR8, HB8⟩
                  case measure => rw [HLE8.out]; exact HMs.out
                · rw [if_neg he] at hen8 hst
                  rw [if_neg he]
                  have dw : IntKind.i64.wrap (cntL c.s.l left + 0) = cntL c.s.l left + 0 := by simp [IntKind.wrap, IntKind.bits, IntKind.signed]; omega
                  have dw0 : IntKind.i64.wrap (cntL c.s.l left) = cntL c.s.l left := by simp [IntKind.wrap, IntKind.bits, IntKind.signed]; omega
                  have HST := Lib.hid hst
                  clear hst he hrg8 hlt8 hg8 hls hfs
                  go_wp2_with fail
                  go_roundw
                  case rel => exact ⟨_, cnt8, by rw [HST.out]; simp, HR8, HB8⟩
                  case measure => rw [HLE8.out]; exact HMs.out
end Go.Proofs.YtkigeegahepnaaaGreatDoor
