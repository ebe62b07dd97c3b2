/-
  CloudBad, walked.
-/
import Derived.Test.YtkigeegahepnaaaGreatDoorHL
set_option linter.unusedVariables false
set_option linter.unusedSimpArgs false
namespace Go.Proofs.YtkigeegahepnaaaGreatDoor
open Go.RowKit Go.Maps Go.Deep

set_option maxRecDepth 100000 in
set_option maxHeartbeats 16000000 in
theorem cloudBad_any (LL : List (List G)) (v : Value) (ws : List Bool) (u : Value) (w : World) (hE : Env9 w) (h : isGss w LL v) (h' : isBs w ws u) : Calls Tryz.prog 7 #[v, u] w fun e w' => e = .returned (.bool true) ∧ Below w.heap.size w w' := by
  obtain ⟨a, cap, ⟨o, rfl, hc1, hc2, ho⟩, hat⟩ := h
  obtain ⟨a', cap', ⟨o', rfl, hc1', hc2', ho'⟩, hat'⟩ := h'
  unfold maxLen at hc2 hc2'
  have HAT : Hid (∀ i (hi : i < LL.length), ∃ oo c, isGs w LL[i] (.slice oo LL[i].length c) ∧ ∀ W, Hid (KB w W) → W.cell? (a.add i) = some (.slice oo LL[i].length c)) := Lib.hid fun i hi => by
    obtain ⟨pv, q1, q2⟩ := hat i hi
    rw [Nat.mul_one] at q1
    have q2' := q2
    obtain ⟨_, c, ⟨oo, rfl, _⟩, _⟩ := q2
    exact ⟨oo, c, q2', fun W hK => cell_below hK.out _ _ q1⟩
  have HBT : Hid (∀ i (hi : i < ws.length), ∀ W, Hid (KB w W) → W.cell? (a'.add i) = some (.bool ws[i])) := Lib.hid fun i hi W hK => by
    have q1 := hat' i hi
    rw [Nat.mul_one] at q1
    exact cell_below hK.out _ _ q1
  have WK : Hid (∀ W, Hid (KB w W) → Calls Tryz.prog 11 #[] W fun e w' => e = .returned (.bool true) ∧ Hid (KB w w')) := Lib.hid fun W hK => (wakes11_any W (hE.kb hK.out)).mono fun e w' ⟨h1, h2⟩ => ⟨h1, Lib.hid (hK.out.trans (h2.mono hK.out.size))⟩
  have HE := Lib.hid (fun W (hK : KB w W) => hE.kb hK)
  have KW0 : Hid (KB w w) := Lib.hid (Below.refl _ _)
  clear hat hat' hE
  go_enter Tryz.func7, Tryz.ntmps7
  by_cases hl1 : 60 < LL.length
  · have d1 : decide ((60 : Int) < (LL.length : Int)) = true := decide_eq_true (by omega)
    go_wp2_with (go_at_call 11; refine (WK.out _ KW0).mono ?_; rintro e w3 ⟨rfl, K3⟩)
    go_ret
    exact ⟨rfl, K3.out⟩
  · have d1 : decide ((60 : Int) < (LL.length : Int)) = false := decide_eq_false (by omega)
    by_cases hl2 : 100 < ws.length
    · have d2 : decide ((100 : Int) < (ws.length : Int)) = true := decide_eq_true (by omega)
      go_wp2_with (go_at_call 11; refine (WK.out _ KW0).mono ?_; rintro e w3 ⟨rfl, K3⟩)
      go_ret
      exact ⟨rfl, K3.out⟩
    · have d2 : decide ((100 : Int) < (ws.length : Int)) = false := decide_eq_false (by omega)
      go_wp2_with fail
      go_loopw [27] (fun iv wr => ∃ (j : Nat), j ≤ LL.length ∧ iv = .int .i64 j ∧ Hid (∀ i (hi : i < LL.length), i < j → greatG LL[i] = false) ∧ Hid (KB w wr)) (fun iv _ => LL.length - (intOf iv).toNat)
      case atStart => exact ⟨0, by omega, rfl, Lib.hid (fun i hi h => absurd h (by omega)), KW0⟩
      case round =>
        obtain ⟨j, hj, rfl, HA, HB⟩ := hrel
        by_cases hlt : j < LL.length
        · obtain rfl := ho (by omega)
          obtain ⟨oo, c, hg, hcell⟩ := HAT.out j hlt
          have q0 := hcell wr HB
          have GX := Lib.hid (great9_any LL[j] _ wr (isGs_below HB.out hg))
          by_cases hgr : greatG LL[j] = true
          · rw [hgr] at GX
            clear hg hcell hgr
            generalize LL[j] = ps at *
            go_wp2_with (first
              | (go_at_call 34; refine GX.out.mono ?_; rintro e w2 ⟨rfl, hb2⟩; have K2 : Hid (KB w w2) := Lib.hid (HB.out.trans (hb2.mono HB.out.size)); clear hb2)
              | (go_at_call 11; refine (WK.out _ K2).mono ?_; rintro e w3 ⟨rfl, K3⟩))
            go_ret
            exact ⟨rfl, K3.out⟩
          · have hgr' : greatG LL[j] = false := by simpa using hgr
            rw [hgr'] at GX
            have HA2 : Hid (∀ i (hi : i < LL.length), i < j + 1 → greatG LL[i] = false) := Lib.hid fun i hi h => by
              by_cases e : i = j
              · subst e; exact hgr'
              · exact HA.out i hi (by omega)
            clear hg hcell hgr hgr'
            generalize LL[j] = ps at *
            go_wp2_with (go_at_call 34; refine GX.out.mono ?_; rintro e w2 ⟨rfl, hb2⟩)
            go_roundw
            case rel => exact ⟨j + 1, by omega, by go_num, HA2, Lib.hid (HB.out.trans (hb2.mono HB.out.size))⟩
            case measure => simp [intOf]; omega
        · obtain rfl : j = LL.length := by omega
          have HGR : Hid (∀ i (hi : i < LL.length), greatG LL[i] = false) := Lib.hid fun i hi => HA.out i hi hi
          clear HA hlt hj KW0
          go_wp2_with (first
            | (go_at_call 12; first | (refine (new_any _).mono ?_; rintro e w5 ⟨rfl, rfl⟩))
            )
          obtain ⟨w5, rfl⟩ : ∃ w5, w5 = wr := ⟨_, rfl⟩
          have HT0 := Lib.hid (Two.new w5)
          generalize (w5.alloc (.cells #[.slice none 0 0, .int .i64 0, .map none, .slice none 0 0, .slice none 0 0] 72)).alloc (.cells #[.slice none 0 0, .int .i64 0, .map none, .slice none 0 0, .slice none 0 0] 72) = W2 at *
          generalize w5.heap.size + 1 = b2 at *
          have KB5 : Hid (∀ W, KB w5 W → KB w W) := Lib.hid fun W hK => HB.out.trans (hK.mono HB.out.size)
          go_loopw [39] (fun iv wx => ∃ (j : Nat) (c d : CSt), j ≤ LL.length ∧ iv = .int .i64 j ∧ Hid (BI c d j) ∧ Hid (Two w5 w5.heap.size c b2 d none wx)) (fun iv _ => LL.length - (intOf iv).toNat)
          case atStart => exact ⟨0, zC, zC, by omega, rfl, Lib.hid BI.zero, HT0⟩
          case round =>
            obtain ⟨j, c, d, hj, rfl, HI, HT⟩ := hrel
            clear HT0
            by_cases hlt : j < LL.length
            · obtain rfl := ho (by omega)
              obtain ⟨oo, cc, hg, hcell⟩ := HAT.out j hlt
              have KWr : Hid (KB w wr) := Lib.hid (KB5.out _ HT.out.kb)
              have q0 := hcell wr KWr
              have hgr := HGR.out j hlt
              have hfx := fine_callB (j := j) (by omega) hgr
              have d8 : IntKind.i64.wrap ((j : Int) + 1) = (j : Int) + 1 := by simp [IntKind.wrap, IntKind.bits, IntKind.signed]; omega
              have hT1 := HT.out.alloc #[.int .i64 ((j : Int) + 1), .int .i8 0, .string ⟨#[]⟩, .string ⟨#[78, 111, 100, 101]⟩, .slice oo LL[j].length cc] 32
              have HXI : Hid (∀ W, KB w W → isX W (callB j LL[j]) (.agg #[.int .i64 ((j : Int) + 1), .int .i8 0, .string ⟨#[]⟩, .string ⟨#[78, 111, 100, 101]⟩, .slice oo LL[j].length cc])) := Lib.hid fun W hK => ⟨_, rfl, isGs_below hK hg, okX_fine hfx⟩
              obtain ⟨P1, on1, -, -, keep1⟩ := hT1.left
              have HS1 := Lib.hid (Submit_on on1 (HE.out _ (KB5.out _ hT1.kb)) hfx (HXI.out _ (KB5.out _ hT1.kb)) HI.out.g1 (by omega))
              have KP1 := Lib.hid keep1
              have hj1000 : j < 1000 := by omega
              by_cases hw : wrongC (callB j LL[j]) = 0
              · have he0 : (submitC c (callB j LL[j])).2 = 0 := (alone HI.out.g1 HI.out.f1 hfx hw (fun p hp e => by have := HI.out.t1 p hp; rw [e] at this; change (j : Int) + 1 ≤ j at this; omega) true).1
                rw [he0] at HS1
                have HB1 := Lib.hid (HI.out.bad hj1000 hfx hw)
                have HB2 := Lib.hid (HI.out.good hj1000 hfx hw)
                have HGC := Lib.hid (good_submit HI.out.g1 hfx)
                have HGD := Lib.hid (good_submit HI.out.g2 hfx)
                have HFX := Lib.hid hfx
                have HBC : Hid (∀ W, Hid (KB w W) → ∀ hi : j < ws.length, W.cell? (a'.add j) = some (.bool ws[j])) := Lib.hid fun W hK hi => HBT.out j hi W hK
                have hj1 : j + 1 ≤ 1000 := by omega
                have HGD0 := Lib.hid HI.out.g2
                clear hg hcell hgr hT1 on1 keep1 hw he0 hfx HI HT
                generalize LL[j] = ps at *
                by_cases hjw : j < ws.length
                · have p9 := fun W hK => HBC.out W hK hjw
                  have HP9 := Lib.hid p9
                  obtain rfl := ho' (by omega)
                  have d9 : decide ((j : Int) < (ws.length : Int)) = true := decide_eq_true (by omega)
                  have d10 : decide (j < ws.length) = true := decide_eq_true hjw
                  clear p9 HBC
                  generalize ws[j] = gd at *
                  cases gd
                  case false =>
                    go_wp2_with fail
                    refine HS1.out.mono ?_
                    rintro e w6 ⟨rfl, hon6⟩
                    have T6 := Lib.hid (KP1.out _ _ hon6)
                    have K6 : Hid (KB w w6) := Lib.hid (KB5.out _ T6.out.kb)
                    have p0 := HP9.out _ K6
                    obtain ⟨P2, on2, -, -, keep2⟩ := T6.out.left
                    have HS2 := Lib.hid (End_on on2 (HE.out _ K6.out) HGC.out hj1 0 false)
                    have KP2 := Lib.hid keep2
                    clear hon6 on2 keep2
                    go_wp2_with fail
                    refine HS2.out.mono ?_
                    rintro e w7 ⟨rfl, hon7⟩
                    have HT7 := Lib.hid (KP2.out _ _ hon7).nobox
                    clear hon7
                    go_wp2_with fail
                    go_roundw
                    case rel => exact ⟨j + 1, _, d, by omega, by go_num, HB1, HT7⟩
                    case measure => simp [intOf]; omega
                  case true =>
                    go_wp2_with fail
                    refine HS1.out.mono ?_
                    rintro e w6 ⟨rfl, hon6⟩
                    have T6 := Lib.hid (KP1.out _ _ hon6)
                    have K6 : Hid (KB w w6) := Lib.hid (KB5.out _ T6.out.kb)
                    have p0 := HP9.out _ K6
                    obtain ⟨P2, on2, -, -, keep2⟩ := T6.out.left
                    have HS2 := Lib.hid (End_on on2 (HE.out _ K6.out) HGC.out hj1 0 true)
                    have KP2 := Lib.hid keep2
                    clear hon6 on2 keep2
                    go_wp2_with fail
                    refine HS2.out.mono ?_
                    rintro e w7 ⟨rfl, hon7⟩
                    have T7 := Lib.hid (KP2.out _ _ hon7).swap
                    have K7 : Hid (KB w w7) := Lib.hid (KB5.out _ T7.out.kb)
                    obtain ⟨r0, r1, r2, r3, r4⟩ := five_cells T7.out.box
                    obtain ⟨P3, on3, -, -, keep3⟩ := T7.out.left
                    have HS3 := Lib.hid (Submit_on on3 (HE.out _ K7.out) HFX.out (HXI.out _ K7.out) HGD0.out (Nat.le_of_lt hj1000))
                    have KP3 := Lib.hid keep3
                    clear hon7 on3 keep3
                    go_wp2_with fail
                    refine HS3.out.mono ?_
                    rintro e w8 ⟨rfl, hon8⟩
                    have T8 := Lib.hid (KP3.out _ _ hon8)
                    have K8 : Hid (KB w w8) := Lib.hid (KB5.out _ T8.out.kb)
                    obtain ⟨P4, on4, -, -, keep4⟩ := T8.out.left
                    have HS4 := Lib.hid (End_on on4 (HE.out _ K8.out) HGD.out hj1 0 true)
                    have KP4 := Lib.hid keep4
                    clear hon8 on4 keep4 r0 r1 r2 r3 r4
                    go_wp2_with fail
                    refine HS4.out.mono ?_
                    rintro e w9 ⟨rfl, hon9⟩
                    have HT9 := Lib.hid (KP4.out _ _ hon9).swap.nobox
                    clear hon9
                    go_wp2_with fail
                    go_roundw
                    case rel => exact ⟨j + 1, _, _, by omega, by go_num, HB2, HT9⟩
                    case measure => simp [intOf]; omega
                · have d9 : decide ((j : Int) < (ws.length : Int)) = false := decide_eq_false (by omega)
                  have d10 : decide (j < ws.length) = false := decide_eq_false hjw
                  go_wp2_with fail
                  refine HS1.out.mono ?_
                  rintro e w6 ⟨rfl, hon6⟩
                  have T6 := Lib.hid (KP1.out _ _ hon6)
                  have K6 : Hid (KB w w6) := Lib.hid (KB5.out _ T6.out.kb)
                  obtain ⟨P2, on2, -, -, keep2⟩ := T6.out.left
                  have HS2 := Lib.hid (End_on on2 (HE.out _ K6.out) HGC.out hj1 0 false)
                  have KP2 := Lib.hid keep2
                  clear hon6 on2 keep2
                  go_wp2_with fail
                  refine HS2.out.mono ?_
                  rintro e w7 ⟨rfl, hon7⟩
                  have HT7 := Lib.hid (KP2.out _ _ hon7).nobox
                  clear hon7
                  go_wp2_with fail
                  go_roundw
                  case rel => exact ⟨j + 1, _, d, by omega, by go_num, HB1, HT7⟩
                  case measure => simp [intOf]; omega
              · have hs := HI.out.wrong (x := callB j LL[j]) hw
                have z1 : (wrongC (callB j LL[j]) == 0) = false := beqI hw
                have z2 : (wrongC (callB j LL[j]) != 0) = true := bne_iff_ne.2 hw
                rw [hs] at HS1
                have HI2 := Lib.hid HI.out.mono
                clear hg hcell hgr hT1 on1 keep1 hw hs HXI hfx
                generalize wrongC (callB j LL[j]) = ec at *
                generalize LL[j] = ps at *
                go_wp2_with (go_at_call 14; refine HS1.out.mono ?_; rintro e w6 ⟨rfl, hon6⟩)
                have HT6 := Lib.hid (KP1.out _ _ hon6).nobox
                clear hon6
                go_roundw
                case rel => exact ⟨j + 1, c, d, by omega, by go_num, HI2, HT6⟩
                case measure => simp [intOf]; omega
            · obtain rfl : j = LL.length := by omega
              have hn : LL.length ≤ 1000 := by omega
              have HTH1 : Hid (∀ W, Hid (Two w5 w5.heap.size c b2 d none W) → Calls Tryz.prog 28 #[.pointer (some ⟨w5.heap.size, 0, none⟩)] W fun e w' => (∃ o cap, e = .returned (.slice o c.s.l.length cap) ∧ Hid (isTs w' c.s.l (.slice o c.s.l.length cap))) ∧ Hid (Two w5 w5.heap.size c b2 d none w') ∧ Hid (Below W.heap.size W w')) := Lib.hid fun W hT => by
                obtain ⟨P, on, -⟩ := hT.out.left
                exact (Things_on on HI.out.g1 hn).mono fun e w' ⟨⟨o, cap, e1, e2⟩, hb⟩ => ⟨⟨o, cap, e1, Lib.hid e2⟩, Lib.hid (hT.out.below hb), Lib.hid hb⟩
              have HTH2 : Hid (∀ W, Hid (Two w5 w5.heap.size c b2 d none W) → Calls Tryz.prog 28 #[.pointer (some ⟨b2, 0, none⟩)] W fun e w' => (∃ o cap, e = .returned (.slice o c.s.l.length cap) ∧ Hid (isTs w' c.s.l (.slice o c.s.l.length cap))) ∧ Hid (Two w5 w5.heap.size c b2 d none w') ∧ Hid (Below W.heap.size W w')) := Lib.hid fun W hT => by
                obtain ⟨P, on, -⟩ := hT.out.swap.left
                have := Things_on on HI.out.g2 hn
                rw [← HI.out.s] at this
                exact this.mono fun e w' ⟨⟨o, cap, e1, e2⟩, hb⟩ => ⟨⟨o, cap, e1, Lib.hid e2⟩, Lib.hid (hT.out.below hb), Lib.hid hb⟩
              have HM1 : Hid (∀ W, Hid (Two w5 w5.heap.size c b2 d none W) → Calls Tryz.prog 26 #[.pointer (some ⟨w5.heap.size, 0, none⟩)] W fun e w' => e = .returned (.int .i64 c.s.made) ∧ Hid (Two w5 w5.heap.size c b2 d none w')) := Lib.hid fun W hT => by
                obtain ⟨P, on, -⟩ := hT.out.left
                exact (Made_on on).mono fun e w' ⟨e1, hb⟩ => ⟨e1, Lib.hid (hT.out.below hb)⟩
              have HM2 : Hid (∀ W, Hid (Two w5 w5.heap.size c b2 d none W) → Calls Tryz.prog 26 #[.pointer (some ⟨b2, 0, none⟩)] W fun e w' => e = .returned (.int .i64 c.s.made) ∧ Hid (Two w5 w5.heap.size c b2 d none w')) := Lib.hid fun W hT => by
                obtain ⟨P, on, -⟩ := hT.out.swap.left
                have := Made_on on
                rw [← HI.out.s] at this
                exact this.mono fun e w' ⟨e1, hb⟩ => ⟨e1, Lib.hid (hT.out.below hb)⟩
              have hl3 := HI.out.g1.len
              have hl4 := HI.out.g1.slen
              have SMT : Hid (∀ W o cap o' cap', Hid (isTs W c.s.l (.slice o c.s.l.length cap)) → Hid (isTs W c.s.l (.slice o' c.s.l.length cap')) → Calls Tryz.prog 22 #[.slice o c.s.l.length cap, .slice o' c.s.l.length cap'] W fun e w' => e = .returned (.bool true) ∧ Hid (Below W.heap.size W w')) := Lib.hid fun W o cap o' cap' hT hT' => (things_same c.s.l _ _ W (fun t ht => (HI.out.g1.fine t ht).2) (by omega) hT.out hT'.out).mono fun e w' ⟨e1, hb⟩ => ⟨e1, Lib.hid hb⟩
              have z1 : (c.s.made == c.s.made) = true := beq_self_eq_true _
              clear hlt hj hl3 hl4 HI
              go_wp2_with fail
              refine (HTH1.out _ HT).mono ?_
              rintro e w6 ⟨⟨o6, c6, rfl, t6⟩, T6, -⟩
              go_wp2_with fail
              refine (HTH2.out _ T6).mono ?_
              rintro e w7 ⟨⟨o7, c7, rfl, t7⟩, T7, b7⟩
              have t67 := Lib.hid (isTs_below b7.out t6.out)
              go_wp2_with fail
              refine (SMT.out _ _ _ _ _ t67 t7).mono ?_
              rintro e w8 ⟨rfl, b8⟩
              have T8 := Lib.hid (T7.out.below b8.out)
              go_wp2_with fail
              refine (HM1.out _ T8).mono ?_
              rintro e w9 ⟨rfl, T9⟩
              go_wp2_with fail
              refine (HM2.out _ T9).mono ?_
              rintro e w10 ⟨rfl, T10⟩
              have K10 : Hid (KB w w10) := Lib.hid (KB5.out _ T10.out.kb)
              go_wp2_with fail
              refine (WK.out _ K10).mono ?_
              rintro e w11 ⟨rfl, K11⟩
              go_wp2_with fail
              go_ret
              exact ⟨rfl, K11.out⟩
end Go.Proofs.YtkigeegahepnaaaGreatDoor
