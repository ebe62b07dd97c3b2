/-
  JournalSays: the walk.
-/
import Derived.Test.YtbjdbphnccdpbaaJs
import Derived.Deep.Cut
import Derived.Deep.CutBlock
import Derived.Deep.CutRange
set_option linter.unusedVariables false
namespace Go.Proofs.Ytbjdbphnccdpbaa
open Go.RowKit Go.Shelf Go.Lib Go.Deep

/-- The loops' outcome: the error, all the bytes. -/
def LQ (w0 : World) (L : List (List UInt8)) (hv : Int) (o : Option Addr) (m c : Nat) (W : World) : Prop := hv = snE L ∧ (snE L = 0 → m = (framesL L).length ∧ ow w0.heap.size W (.slice o m c) (framesL L)) ∧ Below w0.heap.size w0 W
set_option maxRecDepth 100000 in
set_option maxHeartbeats 32000000 in
theorem says_walk (v : Value) (x : List UInt8) (u : Value) (L : List (List UInt8)) (w : World) (hx : rd w x v) (hu : rds w L u) :
    Calls Try.prog 4 #[v, u] w fun e w' => e = .returned (.bool true) ∧ Below w.heap.size w w' := by
  obtain ⟨o, c, rfl, hc1, hc2⟩ := hx.form
  obtain ⟨p, a, d, rfl, hd1, hd2, ho, hL⟩ := id hu
  have HX := Lib.hid hx
  have HU := Lib.hid hu
  have HO := Lib.hid ho
  have HL := Lib.hid hL
  unfold maxLen at hc2 hd2
  have HWK : Hid (∀ W, Below w.heap.size w W → Calls Try.prog 7 #[] W fun e w' => e = .returned (.bool true) ∧ Hid (Below w.heap.size w w')) := Lib.hid fun W hW => (wakes_any W).mono fun e w' ⟨h1, h2⟩ => ⟨h1, Lib.hid (hW.trans (h2.out.mono hW.size))⟩
  have HSZ := Lib.hid (size_any L _ w hu)
  clear hx hu ho hL
  by_cases p1 : 1048576 < x.length
  · have q1 : decide ((1048576 : Int) < (x.length : Int)) = true := decide_eq_true (by omega)
    have q1' : decide (1048576 < x.length) = true := decide_eq_true p1
    clear p1
    go_enter Try.func4, Try.ntmps4
    go_wp2_with (go_at_call 7; refine (HWK.out w (Below.refl _ _)).mono ?_; rintro e w2 ⟨rfl, HB⟩)
    go_ret
    exact ⟨rfl, HB.out⟩
  have q1 : decide ((1048576 : Int) < (x.length : Int)) = false := decide_eq_false (by omega)
  have q1' : decide (1048576 < x.length) = false := decide_eq_false p1
  by_cases p2 : 200 < L.length
  · have q2 : decide ((200 : Int) < (L.length : Int)) = true := decide_eq_true (by omega)
    have q2' : decide (200 < L.length) = true := decide_eq_true p2
    clear p1 p2
    go_enter Try.func4, Try.ntmps4
    go_wp2_with (go_at_call 7; refine (HWK.out w (Below.refl _ _)).mono ?_; rintro e w2 ⟨rfl, HB⟩)
    go_ret
    exact ⟨rfl, HB.out⟩
  have q2 : decide ((200 : Int) < (L.length : Int)) = false := decide_eq_false (by omega)
  have q2' : decide (200 < L.length) = false := decide_eq_false p2
  have HP := Lib.hid (And.intro p1 p2)
  clear p1 p2
  go_enter Try.func4, Try.ntmps4
  go_wp2_with (go_at_call 21; refine HSZ.out.mono ?_)
  rintro e w0 ⟨n, rfl, rfl⟩
  by_cases p3 : 3145728 < n
  · have q3 : decide (3145728 < n) = true := decide_eq_true p3
    clear p3
    go_wp2_with (go_at_call 7; refine (HWK.out w (Below.refl _ _)).mono ?_; rintro e w2 ⟨rfl, HB⟩)
    go_ret
    exact ⟨rfl, HB.out⟩
  have q3 : decide (3145728 < n) = false := decide_eq_false p3
  have HN1 := Lib.hid (new_any w.heap.size w (Nat.le_refl _))
  clear p3
  go_wp2_with (go_at_call 8; refine HN1.out.mono ?_)
  rintro e w1 ⟨rfl, hk1, hb1⟩
  have HK1 := Lib.hid hk1
  have HB1 := Lib.hid hb1
  have HN2 := Lib.hid (new_any w.heap.size w1 hb1.size)
  obtain ⟨nb, hnb⟩ : ∃ nb, w1.heap.size = nb := ⟨_, rfl⟩
  rw [hnb] at HN2
  have HNB : Hid (w.heap.size < nb) := Lib.hid (by rw [← hnb]; exact hk1.lt)
  clear hk1 hb1 HN1 HSZ
  go_wp2_with (go_at_call 8; refine HN2.out.mono ?_)
  rintro e w2 ⟨rfl, hk2, hb2⟩
  rw [← hnb] at hb2
  have HA := Lib.hid (HK1.out.below hb2)
  have HR := Lib.hid hk2
  have HB2 := Lib.hid (HB1.out.trans (hb2.mono HB1.out.size))
  have HAP := Lib.hid (japp_any w2 HA.out HB2.out.size (HX.out.below HB2.out))
  clear hk2 hb2 HN2 HK1 HB1 hnb
  go_wp2_with (go_at_call 10; refine HAP.out.mono ?_)
  rintro e w3 ⟨r, rfl, hq⟩
  have e1 := app_fresh hq.out.1
  subst e1
  obtain ⟨_, v3, k3, _, f3⟩ := hq.out.2
  have HB3 : Hid (Below w.heap.size w w3) := Lib.hid (HB2.out.trans (f3.below (fun k hk => by rcases hk with rfl | hk; exact Nat.le_refl _; cases hk) HB2.out.size))
  have HR3 : Hid (Dk 52 w.heap.size nb ⟨[], false, none⟩ (.slice none 0 0) w3) := Lib.hid (HR.out.fr f3 (fun k hk hk2 => by
    have h0 := HNB.out
    rcases hk with rfl | hk
    · rcases hk2 with e | hk2
      · omega
      · cases hk2
    · cases hk))
  obtain ⟨fe, hfe⟩ : ∃ fe, frE x = fe := ⟨_, rfl⟩
  obtain ⟨FB, hFB⟩ : ∃ FB, frB x = FB := ⟨_, rfl⟩
  have HRF0 := rframe_any x _ w3 (HX.out.below HB3.out)
  rw [hfe, hFB] at HRF0
  have HRF := Lib.hid (HRF0.mono fun e w' h => Lib.hid h)
  clear HRF0
  rw [hFB] at k3
  have HK3 := Lib.hid k3
  dsimp only
  rw [hfe]
  clear hq k3 f3 HAP HA HR hfe hFB
  go_wp2_with (go_at_call 22; refine HRF.out.mono ?_)
  rintro e w4 hq0
  obtain ⟨o4, c4, rfl, hq⟩ := hq0.out
  clear hq0
  have HB4 := Lib.hid (HB3.out.trans (hq.out.2.mono HB3.out.size))
  have HR4 := Lib.hid (HR3.out.below hq.out.2)
  have HF4 := Lib.hid hq.out.1.rd
  have HBY0 := bytes_own w4 (HK3.out.below hq.out.2)
  rw [show byD ⟨FB, false, none⟩ = FB from rfl, show beD ⟨FB, false, none⟩ = 0 from rfl] at HBY0
  have HBY := Lib.hid (HBY0.mono fun e w' h => Lib.hid h)
  clear HBY0
  clear hq HRF HB3 HR3 HK3
  go_wp2_with (go_at_call 9; refine HBY.out.mono ?_)
  rintro e w5 hq0
  obtain ⟨o5, c5, rfl, hq⟩ := hq0.out
  clear hq0
  have HB5 := Lib.hid (HB4.out.trans (hq.out.2.mono HB4.out.size))
  have HR5 := Lib.hid (HR4.out.below hq.out.2)
  have cv1 := run_strF w5 FB o4 _ c4 (HF4.out.below hq.out.2)
  have cv2 := run_strF w5 FB o5 _ c5 hq.out.1.rd
  have HU5 := Lib.hid (HU.out.below HB5.out)
  generalize FB.length = fl at *
  clear hq HBY HB4 HR4 HF4
  go_upto_block 0 with fail
  go_cut [13, 14] from 65 to 82 (fun s13 s14 wx => s13 = .int .i64 (soundE L) ∧ (∃ j : Nat, s14 = .int .i64 j) ∧ Hid (Below w5.heap.size w5 wx))
  case first =>
    clear cv1 cv2 HWK
    go_wp2_with fail
    go_loopw [13, 14] (fun hv iv wr => ∃ j : Nat, j ≤ L.length ∧ iv = .int .i64 j ∧ hv = .int .i64 (soundE (L.take j)) ∧ Hid (Below w5.heap.size w5 wr)) (fun _ iv _ => L.length - (intOf iv).toNat)
    case atStart => exact ⟨0, by omega, rfl, by simp [soundE], Lib.hid (Below.refl _ _)⟩
    case round =>
      obtain ⟨j, hj, rfl, rfl, hB⟩ := hrel
      by_cases hlt : j < L.length
      · have hlt' : (j : Int) < (L.length : Int) := by omega
        by_cases hse : soundE (L.take j) = 0
        · obtain rfl := HO.out (by omega)
          obtain ⟨ob, cb, g0, g1⟩ := HL.out j hlt
          have hbw := HB5.out.trans (hB.out.mono HB5.out.size)
          have g0' := (Fr.of_below (B := fun _ => False) hbw).cell _ _ (fun h => h) g0
          have HST := Lib.hid (sound_step L j hlt hse)
          have HRF := Lib.hid ((rframe_any L[j] _ wr (g1.below hbw)).mono fun e w' h => Lib.hid h)
          have hlk : lk L j = L[j] := lk_get hlt
          rw [hlk] at HST
          have ht : (soundE (L.take j) == 0) = true := by rw [beq_iff_eq]; exact hse
          generalize soundE (L.take j) = se at *
          generalize L[j] = X at *
          clear g0 g1 hbw hlk hse
          go_wp2_with (go_at_call 22; go_loud (refine HRF.out.mono ?_); rintro e w6 hq0; obtain ⟨o6, c6, rfl, hq⟩ := hq0.out; clear hq0)
          go_roundw
          case rel => exact ⟨j + 1, by omega, by go_num, by rw [HST.out], Lib.hid (hB.out.trans (hq.out.2.mono hB.out.size))⟩
          case measure => simp [intOf]; omega
        · have HST := Lib.hid (sound_take L j hse)
          have ht : (soundE (L.take j) == 0) = false := by rw [beq_eq_false_iff_ne]; exact hse
          generalize soundE (L.take j) = se at *
          clear hse
          go_wp2_with fail
          go_meet
          exact ⟨by rw [HST.out], ⟨j, rfl⟩, hB⟩
      · obtain rfl : j = L.length := by omega
        have hlt' : decide ((L.length : Int) < (L.length : Int)) = false := decide_eq_false (by omega)
        have HST : Hid (soundE (L.take L.length) = soundE L) := Lib.hid (by rw [List.take_length])
        generalize soundE (L.take L.length) = se at *
        go_wp2_with fail
        go_meet
        exact ⟨by rw [HST.out], ⟨_, rfl⟩, hB⟩
  case rest =>
    obtain ⟨rfl, ⟨j0, rfl⟩, HBc⟩ := hcut
    have HBW := Lib.hid (HB5.out.trans (HBc.out.mono HB5.out.size))
    clear cv1 cv2
    go_upto_block 2 with fail
    go_cut [12, 13, 15, 16, 17] from 83 to 109 (fun s12 s13 s15 s16 s17 wx => ∃ (hv : Int) (oa : Option Addr) (ma ca : Nat), s13 = .int .i64 hv ∧ s12 = .slice oa ma ca ∧ Hid (LQ w5 L hv oa ma ca wx))
    case first =>
      by_cases hS : soundE L = 0
      · rw [hS]
        have HSG := Lib.hid (sound_good hS)
        have HSN : Hid (snE L = fitE L) := Lib.hid (by unfold snE; rw [if_pos hS])
        clear hS HWK
        go_wp2_with fail
        go_loopw [12, 13, 15, 16, 17] (fun av hv iv yv zv wr => ∃ (j : Nat) (oa : Option Addr) (ca : Nat), j ≤ L.length ∧ iv = .int .i64 j ∧ hv = .int .i64 0 ∧ av = .slice oa (framesL (L.take j)).length ca ∧ Hid (ow w5.heap.size wr (.slice oa (framesL (L.take j)).length ca) (framesL (L.take j)) ∧ Below w5.heap.size w5 wr ∧ (framesL (L.take j)).length ≤ 1048576)) (fun _ _ iv _ _ _ => L.length - (intOf iv).toNat)
        case atStart => exact ⟨0, none, 0, by omega, rfl, rfl, by simp [framesL], Lib.hid ⟨.inl ⟨by simp [framesL], by simp [framesL]⟩, HBc.out, by simp [framesL]⟩⟩
        case round =>
          obtain ⟨j, oa, ca, hj, rfl, rfl, rfl, hI⟩ := hrel
          by_cases hlt : j < L.length
          · have hlt' : (j : Int) < (L.length : Int) := by omega
            obtain rfl := HO.out (by omega)
            obtain ⟨ob, cb, g0, g1⟩ := HL.out j hlt
            have hbw := HB5.out.trans (hI.out.2.1.mono HB5.out.size)
            have g0' := (Fr.of_below (B := fun _ => False) hbw).cell _ _ (fun h => h) g0
            have hlk : lk L j = L[j] := lk_get hlt
            have hgd := HSG.out _ (lk_mem hlt)
            have HFT := Lib.hid (frames_take L j hlt)
            have HFl : Hid ((frameL (lk L j)).length ≤ 600000) := Lib.hid (by rw [frame_length]; have := hgd.2; omega)
            have HFM := Lib.hid (frames_mono L (j + 1))
            have hrf := rframe_any L[j] _ wr (g1.below hbw)
            rw [← hlk] at hrf g0'
            rw [fr_of_good hgd, show frB (lk L j) = frameL (lk L j) from (fr_ok (fr_of_good hgd)).2] at hrf
            have HRF := Lib.hid (hrf.mono fun e w' h => Lib.hid h)
            generalize (lk L j).length = ml at *
            generalize frameL (lk L j) = F at *
            generalize hP : framesL (L.take j) = P at *
            clear g0 g1 hbw hlk hrf hgd hP
            by_cases hbig : 1048576 < P.length + F.length
            · have tb : decide ((1048576 : Int) < (P.length : Int) + (F.length : Int)) = true := decide_eq_true (by omega)
              have tb' : decide (1048576 < P.length + F.length) = true := decide_eq_true hbig
              have HFE : Hid (snE L = 3) := Lib.hid (by
                rw [HSN.out]
                unfold fitE
                rw [if_pos]
                have := HFM.out
                rw [HFT.out, List.length_append] at this
                omega)
              have hFs := HFM.out
              have hPs := hI.out.2.2
              have hFl : F.length ≤ 600000 := HFl.out
              have hwp : IntKind.i64.wrap ((P.length : Int) + (F.length : Int)) = (P.length : Int) + (F.length : Int) := by go_unwrap
              clear hbig hFs hPs hFl
              go_wp2_with (go_at_call 22; go_loud (refine HRF.out.mono ?_); rintro e w6 hq0; obtain ⟨o6, c6, rfl, hq⟩ := hq0.out; clear hq0)
              go_meet
              exact ⟨3, oa, P.length, ca, rfl, rfl, Lib.hid ⟨HFE.out.symm, fun h => by rw [HFE.out] at h; omega, hI.out.2.1.trans (hq.out.2.mono hI.out.2.1.size)⟩⟩
            · have tb : decide ((1048576 : Int) < (P.length : Int) + (F.length : Int)) = false := decide_eq_false (by omega)
              have tb' : decide (1048576 < P.length + F.length) = false := decide_eq_false hbig
              have HBG := Lib.hid hbig
              have hwp : IntKind.i64.wrap ((P.length : Int) + (F.length : Int)) = (P.length : Int) + (F.length : Int) := by go_unwrap
              clear hbig
              go_wp2_with (go_at_call 22; go_loud (refine HRF.out.mono ?_))
              rintro e w6 hq0
              obtain ⟨o6, c6, rfl, hq⟩ := hq0.out
              have hb6 := hq.out.2
              have OW6 := Lib.hid (ow_rd_below hI.out.1 hb6)
              have HB6 := Lib.hid (hI.out.2.1.trans (hb6.mono hI.out.2.1.size))
              have HR6 := Lib.hid hq.out.1.rd
              clear hq0 hq hb6
              go_wp2_with (at_builtin; go_loud (refine wpList_app_ow rfl _ _ rfl w5.heap.size (.slice oa P.length ca) (.slice o6 F.length c6) P F rfl rfl OW6.out HR6.out (by have := HBG.out; omega) HB6.out.size ?_))
              intro o7 c7 w7 own7 gr7 at7
              have HQ7 : Hid (ow w5.heap.size w7 (.slice o7 (framesL (L.take (j + 1))).length c7) (framesL (L.take (j + 1))) ∧ Below w5.heap.size w5 w7 ∧ (framesL (L.take (j + 1))).length ≤ 1048576) := Lib.hid ⟨by rw [HFT.out, List.length_append]; exact own7, HB6.out.trans ((Fr.grown (B := fun k => w5.heap.size ≤ k) gr7 (fun r hr => (OW6.out.lt r hr).1)).below (fun k hk => hk) HB6.out.size), by rw [HFT.out, List.length_append]; have := HBG.out; omega⟩
              rw [show P.length + F.length = (framesL (L.take (j + 1))).length by rw [HFT.out, List.length_append]]
              clear own7 gr7 at7 hwp tb tb'
              go_wp2_with fail
              go_roundw
              case rel => exact ⟨j + 1, o7, c7, by omega, by go_num, rfl, rfl, HQ7⟩
              case measure => simp [intOf]; omega
          · obtain rfl : j = L.length := by omega
            have hlt' : decide ((L.length : Int) < (L.length : Int)) = false := decide_eq_false (by omega)
            have hI2 := hI.out
            rw [List.take_length] at hI2
            have HI2 : Hid (LQ w5 L 0 oa (framesL L).length ca wr) := Lib.hid ⟨by rw [HSN.out]; unfold fitE; rw [if_neg (by have := hI2.2.2; omega)], fun _ => ⟨rfl, hI2.1⟩, hI2.2.1⟩
            rw [List.take_length]
            clear hI hI2
            go_wp2_with fail
            go_meet
            exact ⟨0, oa, _, ca, rfl, rfl, HI2⟩
      · have ts : (soundE L == 0) = false := by rw [beq_eq_false_iff_ne]; exact hS
        have HLQ : Hid (LQ w5 L (soundE L) none 0 0 wc) := Lib.hid ⟨by unfold snE; rw [if_neg hS], fun h => by unfold snE at h; rw [if_neg hS] at h; exact absurd h hS, HBc.out⟩
        generalize soundE L = se at *
        clear hS HWK
        go_wp2_with fail
        go_loopw [12, 13, 15, 16, 17] (fun av hv iv yv zv wr => iv = .int .i64 0 ∧ hv = .int .i64 se ∧ av = .slice none 0 0 ∧ wr = wc) (fun _ _ iv _ _ _ => 1)
        case atStart => exact ⟨rfl, rfl, rfl, rfl⟩
        case round =>
          obtain ⟨rfl, rfl, rfl, rfl⟩ := hrel
          by_cases hl0 : 0 < L.length
          · have hlt' : (0 : Int) < (L.length : Int) := by omega
            go_wp2_with fail
            go_meet
            exact ⟨se, none, 0, 0, rfl, rfl, HLQ⟩
          · have hlt' : decide ((0 : Int) < (L.length : Int)) = false := decide_eq_false (by omega)
            have hlt'' : decide (0 < L.length) = false := decide_eq_false hl0
            clear hl0
            go_wp2_with fail
            go_meet
            exact ⟨se, none, 0, 0, rfl, rfl, HLQ⟩
    case rest =>
      obtain ⟨hv, oa, ma, ca, rfl, rfl, HL2⟩ := hcut
      have HBd := Lib.hid (HB5.out.trans (HL2.out.2.2.mono HB5.out.size))
      have HRc := Lib.hid (HR5.out.below HL2.out.2.2)
      obtain rfl := HL2.out.1
      clear HBc HBW
      go_upto_if 111 with fail
      go_cut [12] from 111 to 111 (fun s12 wx => ∃ (oo : Option Addr) (mm cc : Nat), s12 = .slice oo mm cc ∧ Hid (ow w5.heap.size wc (.slice oo mm cc) (snB L)) ∧ wc = wx)
      case first =>
        by_cases hE : snE L = 0
        · have ht : (snE L != 0) = false := by simpa using hE
          have HQ : Hid (ow w5.heap.size wc (.slice oa ma ca) (snB L)) := Lib.hid (by unfold snB; rw [if_pos hE]; exact (HL2.out.2.1 hE).2)
          generalize snE L = se at *
          clear hE HWK
          go_wp2_with fail
          go_meet
          exact ⟨oa, ma, ca, rfl, HQ, rfl⟩
        · have ht : (snE L != 0) = true := by simpa using hE
          have HQ : Hid (ow w5.heap.size wc (.slice none 0 0) (snB L)) := Lib.hid (by unfold snB; rw [if_neg hE]; exact .inl ⟨rfl, rfl⟩)
          generalize snE L = se at *
          clear hE HWK
          go_wp2_with fail
          go_meet
          exact ⟨none, 0, 0, rfl, HQ, rfl⟩
      case rest =>
        obtain ⟨oo, mm, cc, rfl, HALL, rfl⟩ := hcut
        have HUc := Lib.hid (HU.out.below HBd.out)
        have HSNP := Lib.hid ((jsnap_any wc HRc.out HBd.out.size HUc.out).mono fun e w' h => Lib.hid h)
        have HNIL : Hid (∀ W, Below w.heap.size w W → Calls Try.prog 11 #[.pointer none, .slice p L.length d] W fun e w' => e = .returned (.int .i64 1) ∧ Hid (Below w.heap.size w w')) := Lib.hid fun W hW => (jsnap_nil W (HU.out.below hW)).mono fun e w' ⟨h1, h2⟩ => ⟨h1, Lib.hid (hW.trans (h2.out.mono hW.size))⟩
        clear HL2
        go_wp2_with (go_at_call_of 11 (Value.pointer (some ⟨nb, 0, none⟩)); go_loud (refine HSNP.out.mono ?_))
        rintro e w8 hq0
        obtain ⟨r, rfl, hq⟩ := hq0.out
        have e1 := snap_fresh hq.out.1
        subst e1
        obtain ⟨_, v8, k8, _, f8⟩ := hq.out.2
        have HB8 : Hid (Below w.heap.size w w8) := Lib.hid (HBd.out.trans (f8.below (fun k hk => by rcases hk with rfl | hk; have := HNB.out; omega; cases hk) HBd.out.size))
        have HALL8 : Hid (rd w8 (snB L) (.slice oo mm cc)) := Lib.hid (HALL.out.keep (fun k o hk ho => f8.2 k o ho (fun e => by
          have h1 := HR5.out.lt
          have h2 := (HALL.out.lt k hk).1
          rcases e with rfl | e
          · omega
          · cases e))).rd
        have HBY0 := bytes_own w8 k8
        rw [show byD ⟨snB L, false, none⟩ = snB L from rfl, show beD ⟨snB L, false, none⟩ = 0 from rfl] at HBY0
        have HBY := Lib.hid (HBY0.mono fun e w' h => Lib.hid h)
        clear HBY0 hq0 hq k8 f8 HSNP HRc
        dsimp only
        generalize snE L = se at *
        generalize snB L = SB at *
        go_wp2_with (go_at_call 9; go_loud (refine HBY.out.mono ?_))
        rintro e w9 hq0
        obtain ⟨o9, c9, rfl, hq⟩ := hq0.out
        have HB9 := Lib.hid (HB8.out.trans (hq.out.2.mono HB8.out.size))
        have cv1 : Hid (∀ W, Below w9.heap.size w9 W → (convert 27 9 (.slice oo mm cc)).run Try.prog W = .ok (.string ⟨SB.toArray⟩) W) := Lib.hid fun W hW => run_strF W SB oo _ cc ((HALL8.out.below hq.out.2).below hW)
        have cv2 : Hid (∀ W, Below w9.heap.size w9 W → (convert 27 9 (.slice o9 SB.length c9)).run Try.prog W = .ok (.string ⟨SB.toArray⟩) W) := Lib.hid fun W hW => run_strF W SB o9 _ c9 (hq.out.1.rd.below hW)
        generalize SB.length = sl at *
        clear hq hq0 HBY HB8 HALL8
        go_wp2_with (go_at_call 15; go_loud (refine (jopen_nil w9).mono ?_))
        rintro e w10 ⟨rfl, HB10⟩
        go_wp2_with (go_at_call 19; go_loud (refine (jrows_nil w10).mono ?_))
        rintro e w11 ⟨rfl, HB11⟩
        have hb911 := HB10.out.trans (HB11.out.mono HB10.out.size)
        have HB12 := Lib.hid (HB9.out.trans (hb911.mono HB9.out.size))
        have dv1 := cv1.out w11 hb911
        have dv2 := cv2.out w11 hb911
        clear hb911 cv1 cv2 HB9 HB10 HB11
        go_wp2_with first
          | (go_at_call_of 11 (Value.pointer none); go_loud (refine (HNIL.out w11 HB12.out).mono ?_); rintro e w13 ⟨rfl, HB13⟩)
          | (go_at_call 7; go_loud (refine (HWK.out w13 HB13.out).mono ?_); rintro e w14 ⟨rfl, HB14⟩)
        go_ret
        exact ⟨rfl, HB14.out⟩
theorem says_row (v : Value) (x : List UInt8) (u : Value) (L : List (List UInt8)) (w : World) (hx : rd w x v ∧ fit v) (hu : rds w L u) :
    Calls Try.prog 4 #[v, u] w fun e w' => e = .returned (.bool true) ∧ Below w.heap.size w w' := says_walk v x u L w hx.1 hu
end Go.Proofs.Ytbjdbphnccdpbaa
