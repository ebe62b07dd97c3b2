/-
  CloudAnswers, walked.
-/
import Derived.Test.YtkigeegahepnaaaGreatDoorHN
set_option linter.unusedVariables false
set_option linter.unusedSimpArgs false
namespace Go.Proofs.YtkigeegahepnaaaGreatDoor
open Go.RowKit Go.Maps Go.Deep

/-- The map of those in flight, while it is made. -/
def fI (l : List Int) (j : Nat) (z : Int) : Option Value := if z ∈ l.take j then some (.bool true) else none
theorem fI_succ {l : List Int} {j : Nat} (hj : j < l.length) : fI l (j + 1) = fun z => if z = l[j] then some (.bool true) else fI l j z := by
  funext z
  unfold fI
  rw [List.take_succ_eq_append_getElem hj]
  by_cases e : z = l[j]
  · rw [if_pos e, if_pos (List.mem_append_right _ (by rw [e]; exact List.mem_singleton.2 rfl))]
  · rw [if_neg e]
    by_cases h : z ∈ l.take j
    · rw [if_pos h, if_pos (List.mem_append_left _ h)]
    · rw [if_neg h, if_neg (fun hm => (List.mem_append.1 hm).elim h (fun h2 => e (List.mem_singleton.1 h2)))]
set_option maxRecDepth 100000 in
set_option maxHeartbeats 16000000 in
theorem cloudAnswers_any (L : List Ac) (v : Value) (w : World) (hE : Env9 w) (h : isAs w L v) : Calls Tryz.prog 5 #[v] w fun e w' => e = .returned (.bool true) ∧ Below w.heap.size w w' := by
  have GA : Hid (Calls Tryz.prog 10 #[v] w fun e w' => e = .returned (.bool (actsG L)) ∧ Hid (KB w w')) := Lib.hid ((acts11_any L v w h).mono fun e w' ⟨h1, h2⟩ => ⟨h1, Lib.hid h2⟩)
  have HAS := Lib.hid h
  obtain ⟨a, cap, ⟨o, rfl, hc1, hc2, ho⟩, hat⟩ := h
  have HAT := Lib.hid hat
  have HE := Lib.hid (fun W (hK : KB w W) => hE.kb hK)
  have WK : Hid (∀ W, Hid (KB w W) → Calls Tryz.prog 11 #[] W fun e w' => e = .returned (.bool true) ∧ Hid (KB w w')) := Lib.hid fun W hK => (wakes11_any W (hE.kb hK.out)).mono fun e w' ⟨h1, h2⟩ => ⟨h1, Lib.hid (hK.out.trans (h2.mono hK.out.size))⟩
  clear hat hE
  go_enter Tryz.func5, Tryz.ntmps5
  by_cases hga : actsG L = true
  · rw [hga] at GA
    clear hga
    go_wp2_with (first
      | (go_at_call 10; refine GA.out.mono ?_; rintro e w2 ⟨rfl, K2⟩)
      | (go_at_call 11; refine (WK.out _ K2).mono ?_; rintro e w3 ⟨rfl, K3⟩))
    go_ret
    exact ⟨rfl, K3.out⟩
  · have hga' : actsG L = false := by simpa using hga
    rw [hga'] at GA
    obtain ⟨hl100, hall⟩ := actsG_no hga'
    have HALL : Hid (∀ y ∈ L, fineX y.x) := Lib.hid fun y hy => by
      obtain ⟨i, hi, rfl⟩ := List.getElem_of_mem hy
      obtain ⟨_, _, _, _, _, _, _, _, _, _, hok, -⟩ := isAat_seven (HAT.out i hi)
      exact fineX_of (hall _ hy) hok
    have HG := Lib.hid (good_run hl100 HALL.out)
    clear hga hga' hall
    have hmm := @run_makeMap Tryz.prog
    go_wp2_with (first
      | (go_at_call 10; refine GA.out.mono ?_; rintro e w3 ⟨rfl, K3⟩)
      | (go_at_call 12; refine (new_any _).mono ?_; rintro e w5 ⟨rfl, rfl⟩))
    have HON0 := Lib.hid (OneM.new w3)
    clear GA hmm
    generalize (w3.alloc (.cells #[.slice none 0 0, .int .i64 0, .map none, .slice none 0 0, .slice none 0 0] 72)).alloc (.map #[] 0) = W4 at *
    generalize w3.heap.size + 1 = mT at *
    go_loopw [28] (fun iv wr => ∃ (j : Nat), j ≤ L.length ∧ iv = .int .i64 j ∧ Hid (OneM w3 w3.heap.size (runA (L.take j)) mT j (tF (runA (L.take j))) none wr)) (fun iv _ => L.length - (intOf iv).toNat)
    case atStart => exact ⟨0, by omega, rfl, Lib.hid (HON0.out.congr (Nat.le_refl _) (fun z => rfl))⟩
    case round =>
      obtain ⟨j, hj, rfl, hON⟩ := hrel
      clear HON0
      have KW : Hid (KB w wr) := Lib.hid (K3.out.trans (hON.out.kb.mono K3.out.size))
      by_cases hlt : j < L.length
      · obtain rfl := ho (by omega)
        obtain ⟨o1, c1, q0, q1, q2, q3, q4, q5, q6, hg, hok, -, -⟩ := isAat_seven (isAat_below KW.out (HAT.out j hlt))
        have hfx := HALL.out _ (List.getElem_mem hlt)
        have hgd := HG.out j (by omega)
        have hst := runA_succ hlt
        generalize L[j] = y at *
        obtain ⟨c, hc⟩ : ∃ c, runA (L.take j) = c := ⟨_, rfl⟩
        rw [hc] at hgd hst hON
        clear hc
        by_cases h0 : y.dO = 0
        · rw [h0] at q0
          have hT1 := hON.out.alloc #[.int .i64 0, .int .i64 y.n, .int .i64 y.x.tok, .int .i8 y.x.kd, .string y.x.ph, .string y.x.ty, .slice o1 y.x.ps.length c1] 34
          have hkA : KB wr (wr.alloc (.cells #[.int .i64 0, .int .i64 y.n, .int .i64 y.x.tok, .int .i8 y.x.kd, .string y.x.ph, .string y.x.ty, .slice o1 y.x.ps.length c1] 34)) := kbA
          obtain ⟨P, on1, keep⟩ := hT1.touch
          have HC := Lib.hid (Submit_on on1 (HE.out _ (KW.out.trans (hkA.mono KW.out.size))) hfx (v := .agg #[.int .i64 y.x.tok, .int .i8 y.x.kd, .string y.x.ph, .string y.x.ty, .slice o1 y.x.ps.length c1]) ⟨_, rfl, isGs_below hkA hg, hok⟩ hgd (by omega))
          have HKP := Lib.hid keep
          have HST : Hid (runA (L.take (j + 1)) = (submitC c y.x).1) := Lib.hid (by rw [hst]; unfold stepA; rw [if_pos h0])
          clear hg hok hfx hgd hst h0 hkA hON hT1 on1 keep
          go_wp2_with fail
          refine HC.out.mono ?_
          rintro e w6 ⟨rfl, hon6⟩
          have HN6 : Hid (OneM w3 w3.heap.size (runA (L.take (j + 1))) mT (j + 1) (tF (runA (L.take (j + 1)))) none w6) := Lib.hid (by
            rw [HST.out]
            exact ((HKP.out _ _ hon6).nobox).congr (Nat.le_succ j) (fun z => (tF_submit z).symm))
          clear hon6
          go_wp2_with fail
          go_roundw
          case rel => exact ⟨j + 1, by omega, by go_num, HN6⟩
          case measure => simp [intOf]; omega
        · have z0 : (y.dO == 0) = false := beqI h0
          by_cases h1 : y.dO = 1
          · skip
            rw [h1] at q0
            have hT1 := hON.out.alloc #[.int .i64 1, .int .i64 y.n, .int .i64 y.x.tok, .int .i8 y.x.kd, .string y.x.ph, .string y.x.ty, .slice o1 y.x.ps.length c1] 34
            have hkA : KB wr (wr.alloc (.cells #[.int .i64 1, .int .i64 y.n, .int .i64 y.x.tok, .int .i8 y.x.kd, .string y.x.ph, .string y.x.ty, .slice o1 y.x.ps.length c1] 34)) := kbA
            obtain ⟨P, on1, keep⟩ := hT1.touch
            have HC := Lib.hid (End_on on1 (HE.out _ (KW.out.trans (hkA.mono KW.out.size))) hgd (by omega) y.n true)
            have HKP := Lib.hid keep
            have HST : Hid (runA (L.take (j + 1)) = (endC c y.n true).1) := Lib.hid (by rw [hst]; unfold stepA; rw [if_neg h0, if_pos h1])
            by_cases hk : 0 ≤ y.n ∧ y.n < c.fl.length
            · obtain ⟨i, hin⟩ : ∃ i : Nat, y.n = i := ⟨y.n.toNat, by omega⟩
              have hi : i < c.fl.length := by omega
              obtain ⟨x, hx, htk, -, hfx2, -⟩ := hgd.at hi
              obtain ⟨htn, hte⟩ := tF_end hgd hi true
              have hte := hte x hx
              rw [hin] at HST
              have HTE : Hid (∀ z, tF (runA (L.take (j + 1))) z = if z = c.fl[i] then some (anV (endA c.s x true).2) else tF c z) := Lib.hid (by rw [HST.out]; exact hte)
              rw [hin] at HC HKP q1
              have hec := endC_good hgd hi true hx
              rw [hec] at HC HST
              have hen := endA_en c.s x true
              have hz : okZ c.fl[i] := by have := hfx2.2.2.2.1; rwa [htk] at this
              generalize (endA c.s x true) = r at *
              obtain ⟨s', ⟨en, ok, ph⟩⟩ := r
              dsimp only at hen HC HST HTE
              subst hen
              have HTN := Lib.hid htn
              have HZ := Lib.hid hz
              generalize c.fl[i] = z at *
              clear hg hok hfx hgd hst h0 h1 z0 hkA hON hT1 on1 keep hk hx htk hfx2 hte hec hz htn
              go_wp2_with fail
              refine HC.out.mono ?_
              rintro e w6 ⟨rfl, hon6⟩
              have T6 := Lib.hid (HKP.out _ _ hon6)
              have lk := ((T6.out.map).below' (kbA (w := w6) (o := .cells #[.bool true, .bool ok, .string ph] 38))).look lawZ Tryz.underlying3 Tryz.underlying59 true (zeroAns _) HZ.out
              rw [HTN.out] at lk
              have k1 : KB w6 (w6.alloc (.cells #[.bool true, .bool ok, .string ph] 38)) := kbA
              have k2 : KB (w6.alloc (.cells #[.bool true, .bool ok, .string ph] 38)) ((w6.alloc (.cells #[.bool true, .bool ok, .string ph] 38)).alloc (.cells #[.bool false, .bool false, .string ⟨#[]⟩] 38)) := kbA
              have T8 := (T6.out.below k1).below k2
              have b0 : ((w6.alloc (.cells #[.bool true, .bool ok, .string ph] 38)).alloc (.cells #[.bool false, .bool false, .string ⟨#[]⟩] 38)).cell? ⟨wr.heap.size, 0, none⟩ = some (.int .i64 1) := by simp only [World.cell?, T8.box]; rfl
              obtain ⟨w8, hrun, HT8⟩ := T8.upd Tryz.underlying59 (by omega) HZ.out (.agg #[.bool true, .bool ok, .string ph])
              have HN8 : Hid (OneM w3 w3.heap.size (runA (L.take (j + 1))) mT (j + 1) (tF (runA (L.take (j + 1)))) none w8) := Lib.hid (by
                rw [HST.out]
                exact (HT8.out.nobox).congr (Nat.le_refl _) (fun z' => by rw [← HST.out, HTE.out z']; rfl))
              clear hon6 T8 k1 k2
              go_wp2_with fail
              go_roundw
              case rel => exact ⟨j + 1, by omega, by go_num, HN8⟩
              case measure => simp [intOf]; omega
            · have hec := endC_bad hk true
              rw [hec] at HC HST
              clear hg hok hfx hgd hst h0 h1 z0 hkA hON hT1 on1 keep hk hec
              go_wp2_with fail
              refine HC.out.mono ?_
              rintro e w6 ⟨rfl, hon6⟩
              have HN6 : Hid (OneM w3 w3.heap.size (runA (L.take (j + 1))) mT (j + 1) (tF (runA (L.take (j + 1)))) none (w6.alloc (.cells #[.bool false, .bool false, .string ⟨#[]⟩] 38))) := Lib.hid (by
                rw [HST.out]
                exact (((HKP.out _ _ hon6).nobox).below kbA).congr (Nat.le_succ j) (fun z => rfl))
              clear hon6
              go_wp2_with fail
              go_roundw
              case rel => exact ⟨j + 1, by omega, by go_num, HN6⟩
              case measure => simp [intOf]; omega
          · have z1 : (y.dO == 1) = false := beqI h1
            by_cases h2 : y.dO = 2
            · skip
              rw [h2] at q0
              have hT1 := hON.out.alloc #[.int .i64 2, .int .i64 y.n, .int .i64 y.x.tok, .int .i8 y.x.kd, .string y.x.ph, .string y.x.ty, .slice o1 y.x.ps.length c1] 34
              have hkA : KB wr (wr.alloc (.cells #[.int .i64 2, .int .i64 y.n, .int .i64 y.x.tok, .int .i8 y.x.kd, .string y.x.ph, .string y.x.ty, .slice o1 y.x.ps.length c1] 34)) := kbA
              obtain ⟨P, on1, keep⟩ := hT1.touch
              have HC := Lib.hid (End_on on1 (HE.out _ (KW.out.trans (hkA.mono KW.out.size))) hgd (by omega) y.n false)
              have HKP := Lib.hid keep
              have HST : Hid (runA (L.take (j + 1)) = (endC c y.n false).1) := Lib.hid (by rw [hst]; unfold stepA; rw [if_neg h0, if_neg h1, if_pos h2])
              by_cases hk : 0 ≤ y.n ∧ y.n < c.fl.length
              · obtain ⟨i, hin⟩ : ∃ i : Nat, y.n = i := ⟨y.n.toNat, by omega⟩
                have hi : i < c.fl.length := by omega
                obtain ⟨x, hx, htk, -, hfx2, -⟩ := hgd.at hi
                obtain ⟨htn, hte⟩ := tF_end hgd hi false
                have hte := hte x hx
                rw [hin] at HST
                have HTE : Hid (∀ z, tF (runA (L.take (j + 1))) z = if z = c.fl[i] then some (anV (endA c.s x false).2) else tF c z) := Lib.hid (by rw [HST.out]; exact hte)
                rw [hin] at HC HKP q1
                have hec := endC_good hgd hi false hx
                rw [hec] at HC HST
                have hen := endA_en c.s x false
                have hz : okZ c.fl[i] := by have := hfx2.2.2.2.1; rwa [htk] at this
                have hokf : (endA c.s x false).2.ok = false := rfl
                generalize (endA c.s x false) = r at *
                obtain ⟨s', ⟨en, ok, ph⟩⟩ := r
                dsimp only at hen HC HST HTE hokf
                subst hen
                subst hokf
                have HTN := Lib.hid htn
                have HZ := Lib.hid hz
                generalize c.fl[i] = z at *
                clear hg hok hfx hgd hst h0 h2 h1 z0 z1 hkA hON hT1 on1 keep hk hx htk hfx2 hte hec hz htn
                go_wp2_with fail
                refine HC.out.mono ?_
                rintro e w6 ⟨rfl, hon6⟩
                have T6 := Lib.hid (HKP.out _ _ hon6)
                have lk := ((T6.out.map).below' (kbA (w := w6) (o := .cells #[.bool true, .bool false, .string ph] 38))).look lawZ Tryz.underlying3 Tryz.underlying59 true (zeroAns _) HZ.out
                rw [HTN.out] at lk
                have k1 : KB w6 (w6.alloc (.cells #[.bool true, .bool false, .string ph] 38)) := kbA
                have k2 : KB (w6.alloc (.cells #[.bool true, .bool false, .string ph] 38)) ((w6.alloc (.cells #[.bool true, .bool false, .string ph] 38)).alloc (.cells #[.bool false, .bool false, .string ⟨#[]⟩] 38)) := kbA
                have T8 := (T6.out.below k1).below k2
                have b0 : ((w6.alloc (.cells #[.bool true, .bool false, .string ph] 38)).alloc (.cells #[.bool false, .bool false, .string ⟨#[]⟩] 38)).cell? ⟨wr.heap.size, 0, none⟩ = some (.int .i64 2) := by simp only [World.cell?, T8.box]; rfl
                obtain ⟨w8, hrun, HT8⟩ := T8.upd Tryz.underlying59 (by omega) HZ.out (.agg #[.bool true, .bool false, .string ph])
                have HN8 : Hid (OneM w3 w3.heap.size (runA (L.take (j + 1))) mT (j + 1) (tF (runA (L.take (j + 1)))) none w8) := Lib.hid (by
                  rw [HST.out]
                  exact (HT8.out.nobox).congr (Nat.le_refl _) (fun z' => by rw [← HST.out, HTE.out z']; rfl))
                clear hon6 T8 k1 k2
                go_wp2_with fail
                go_roundw
                case rel => exact ⟨j + 1, by omega, by go_num, HN8⟩
                case measure => simp [intOf]; omega
              · have hec := endC_bad hk false
                rw [hec] at HC HST
                clear hg hok hfx hgd hst h0 h2 h1 z0 z1 hkA hON hT1 on1 keep hk hec
                go_wp2_with fail
                refine HC.out.mono ?_
                rintro e w6 ⟨rfl, hon6⟩
                have HN6 : Hid (OneM w3 w3.heap.size (runA (L.take (j + 1))) mT (j + 1) (tF (runA (L.take (j + 1)))) none (w6.alloc (.cells #[.bool false, .bool false, .string ⟨#[]⟩] 38))) := Lib.hid (by
                  rw [HST.out]
                  exact (((HKP.out _ _ hon6).nobox).below kbA).congr (Nat.le_succ j) (fun z => rfl))
                clear hon6
                go_wp2_with fail
                go_roundw
                case rel => exact ⟨j + 1, by omega, by go_num, HN6⟩
                case measure => simp [intOf]; omega
            · have z2 : (y.dO == 2) = false := beqI h2
              have HST : Hid (runA (L.take (j + 1)) = c) := Lib.hid (by rw [hst]; unfold stepA; rw [if_neg h0, if_neg h1, if_neg h2])
              have HN6 : Hid (OneM w3 w3.heap.size (runA (L.take (j + 1))) mT (j + 1) (tF (runA (L.take (j + 1)))) none (wr.alloc (.cells #[.int .i64 y.dO, .int .i64 y.n, .int .i64 y.x.tok, .int .i8 y.x.kd, .string y.x.ph, .string y.x.ty, .slice o1 y.x.ps.length c1] 34))) := Lib.hid (by
                rw [HST.out]
                exact (hON.out.below kbA).congr (Nat.le_succ j) (fun z => rfl))
              clear hg hok hfx hgd hst h0 h1 h2 hON
              go_wp2_with fail
              go_roundw
              case rel => exact ⟨j + 1, by omega, by go_num, HN6⟩
              case measure => simp [intOf]; omega
      · obtain rfl : j = L.length := by omega
        have hgd := HG.out L.length (Nat.le_refl _)
        rw [List.take_of_length_le (Nat.le_refl _)] at hON hgd
        have HGD := Lib.hid hgd
        have hn1000 : L.length ≤ 1000 := by omega
        clear hgd hlt hj
        generalize runA L = c at *
        obtain ⟨wB, rfl⟩ : ∃ wB, wB = wr := ⟨_, rfl⟩
        have hkm : KB wB (wB.alloc (.map #[] 0)) := kbA
        have FLT : Hid (Calls Tryz.prog 24 #[.pointer (some ⟨w3.heap.size, 0, none⟩)] (wB.alloc (.map #[] 0)) fun e w' => (∃ o cap, e = .returned (.slice o c.fl.length cap) ∧ Hid (rdN w' (wB.heap.size + 1) c.fl (.slice o c.fl.length cap))) ∧ Hid (Below (wB.alloc (.map #[] 0)).heap.size (wB.alloc (.map #[] 0)) w')) := Lib.hid (by
          obtain ⟨P, on, -⟩ := (hON.out.below hkm).touch
          refine (Flight_on on HGD.out hn1000).mono fun e w' ⟨⟨o, cap, e1, e2⟩, hb⟩ => ⟨⟨o, cap, e1, Lib.hid ?_⟩, Lib.hid hb⟩
          have hs : (wB.alloc (.map #[] 0)).heap.size = wB.heap.size + 1 := by simp
          rw [hs] at e2
          exact e2)
        have HM0 := Lib.hid (MapZ.made Tryz.prog 3 wB)
        have HKM := Lib.hid hkm
        have hll := HGD.out.len
        have hls := HGD.out.slen
        have HBD : Hid (c.fl.length ≤ 1000 ∧ c.L.length ≤ 1000) := Lib.hid ⟨by omega, by omega⟩
        clear hkm hll hls
        have hmm := @run_makeMap Tryz.prog
        go_wp2_with fail
        refine FLT.out.mono ?_
        rintro e w11 ⟨⟨o2, c2, rfl, HRD⟩, hb11⟩
        have HI0 : Hid (KB wB w11 ∧ MapZ Tryz.prog 3 w11 wB.heap.size 0 (fI c.fl 0) ∧ rdN w11 (wB.heap.size + 1) c.fl (.slice o2 c.fl.length c2)) := Lib.hid ⟨HKM.out.trans (hb11.out.mono HKM.out.size), by
          have := HM0.out.below' hb11.out
          have e : (fun _ => none) = fI c.fl 0 := by funext z; simp [fI]
          rwa [← e], HRD.out⟩
        clear FLT HM0 HKM hb11 HRD hmm
        go_wp2_with fail
        go_loopw [85] (fun iv wr => ∃ (j : Nat), j ≤ c.fl.length ∧ iv = .int .i64 j ∧ Hid (KB wB wr ∧ MapZ Tryz.prog 3 wr wB.heap.size j (fI c.fl j) ∧ rdN wr (wB.heap.size + 1) c.fl (.slice o2 c.fl.length c2))) (fun iv _ => c.fl.length - (intOf iv).toNat)
        case atStart => exact ⟨0, by omega, rfl, HI0⟩
        case round =>
          obtain ⟨j, hj, rfl, hI⟩ := hrel
          clear HI0
          by_cases hlt : j < c.fl.length
          · obtain ⟨⟨o9, a9, c9, e9, h91, h92, h93, h94⟩, -⟩ := hI.out.2.2
            simp only [Value.slice.injEq, true_and] at e9
            obtain ⟨rfl, rfl⟩ := e9
            obtain rfl := h93 (by omega)
            have q0 : wr.cell? (a9.add j) = some (.int .i64 c.fl[j]) := h94 j _ (by unfold iCells; rw [List.getElem?_map, List.getElem?_eq_getElem hlt]; rfl)
            have hz : okZ c.fl[j] := by
              obtain ⟨p, h1, h2, -⟩ := HGD.out.fl _ (List.getElem_mem hlt)
              rw [← h2]; exact okZ_find HGD.out h1
            obtain ⟨w8, hrun, hm8, hg8⟩ := hI.out.2.1.update lawZ Tryz.underlying3 Tryz.underlying60 (by have := HBD.out.1; unfold maxLen; omega) hz (.bool true)
            have HI8 : Hid (KB wB w8 ∧ MapZ Tryz.prog 3 w8 wB.heap.size (j + 1) (fI c.fl (j + 1)) ∧ rdN w8 (wB.heap.size + 1) c.fl (.slice (some a9) c.fl.length c2)) := Lib.hid ⟨hI.out.1.grown hg8 hI.out.1.size (fun r e => by cases e; exact Nat.le_refl _), by
              rw [fI_succ hlt]; exact hm8, hI.out.2.2.fr (Fr.grown (B := fun k => k = wB.heap.size) hg8 (fun r e => (Option.some.inj e).symm)) (fun k e => by rw [e]; exact Nat.lt_succ_self _)⟩
            clear hm8 hg8 h94 h93 h91 h92 hz
            generalize c.fl[j] = z at *
            have hb9 := HBD.out.1
            go_wp2_with fail
            go_roundw
            case rel => exact ⟨j + 1, by omega, by go_num, HI8⟩
            case measure => simp [intOf]; omega
          · obtain rfl : j = c.fl.length := by omega
            clear hlt hj
            obtain ⟨wC, rfl⟩ : ∃ wC, wC = wr := ⟨_, rfl⟩
            have CLS : Hid (Calls Tryz.prog 31 #[.pointer (some ⟨w3.heap.size, 0, none⟩)] wC fun e w' => (∃ o cap, e = .returned (.slice o c.L.length cap) ∧ Hid (isXs w' (c.L.map (·.1)) (.slice o c.L.length cap))) ∧ Hid (KB wC w')) := Lib.hid (by
              obtain ⟨P, on, -⟩ := (hON.out.below hI.out.1).touch
              exact (Calls_on on HGD.out hn1000).mono fun e w' ⟨⟨o, cap, e1, e2⟩, hb⟩ => ⟨⟨o, cap, e1, Lib.hid e2⟩, Lib.hid hb⟩)
            go_wp2_with fail
            refine CLS.out.mono ?_
            rintro e w12 ⟨⟨o3, c3, rfl, HXS⟩, hk12⟩
            have KC : Hid (∀ W, KB w12 W → OneM w3 w3.heap.size c mT L.length (tF c) none W ∧ MapZ Tryz.prog 3 W wB.heap.size c.fl.length (fI c.fl c.fl.length) ∧ KB w W) := Lib.hid fun W hK => by
              have h1 : KB wC W := hk12.out.trans (hK.mono hk12.out.size)
              have h2 : KB wB W := hI.out.1.trans (h1.mono hI.out.1.size)
              exact ⟨hON.out.below h2, hI.out.2.1.below' h1, KW.out.trans (h2.mono KW.out.size)⟩
            have K0 : Hid (KB w12 w12) := Lib.hid (Below.refl _ _)
            clear CLS hI
            obtain ⟨a3, c9, ⟨o9, e9, hc3, hc4, ho3⟩, hat3⟩ := HXS.out
            simp only [Value.slice.injEq, true_and] at e9
            obtain ⟨rfl, -, rfl⟩ := e9
            have HAT3 := Lib.hid hat3
            have ho3' : 0 < c.L.length → o3 = some a3 := fun h => ho3 (by simpa using h)
            have HAT4 : Hid (∀ j (hj : j < c.L.length) W, KB w12 W → isXat W c.L[j].1 (a3.add (j * 5))) := Lib.hid fun j hj W hK => by
              have := HAT3.out j (by simpa using hj)
              rw [List.getElem_map] at this
              exact isXat_below hK this
            clear hat3 HAT3 HXS ho3 hc3 hc4
            go_wp2_with fail
            go_loopw [95] (fun iv wr => ∃ (j : Nat), j ≤ c.L.length ∧ iv = .int .i64 j ∧ Hid (KB w12 wr)) (fun iv _ => c.L.length - (intOf iv).toNat)
            case atStart => exact ⟨0, by omega, rfl, K0⟩
            case round =>
              obtain ⟨j, hj, rfl, hK⟩ := hrel
              clear K0
              by_cases hlt : j < c.L.length
              · obtain rfl := ho3' (by omega)
                obtain ⟨pv, g0, g1, g2, g3, g4, hg, hok⟩ := HAT4.out j hlt wr hK.out
                obtain ⟨o5, c5, rfl⟩ : ∃ o5 c5, pv = .slice o5 c.L[j].1.ps.length c5 := by obtain ⟨_, c5, ⟨o5, rfl, _⟩, _⟩ := hg; exact ⟨o5, c5, rfl⟩
                have hfd := HGD.out.find (List.getElem_mem hlt)
                obtain ⟨he1, he2⟩ := ended_iff HGD.out (List.getElem_mem hlt)
                have hask : askC c c.L[j].1.tok = (c.L[j].2, true) := by unfold askC; rw [hfd]
                have htf := tF_some hfd
                have hz : okZ c.L[j].1.tok := okZ_find HGD.out (List.getElem_mem hlt)
                have hfi : fI c.fl c.fl.length c.L[j].1.tok = if c.L[j].2.en = true then none else some (.bool true) := by
                  unfold fI
                  rw [List.take_of_length_le (Nat.le_refl _)]
                  cases he : c.L[j].2.en with
                  | false => rw [if_pos (he1 he).2]; rfl
                  | true => rw [if_neg (he2 he)]; rfl
                have hze : c.L[j].2.en = false → c.L[j].2 = zAn := fun h => (he1 h).1
                clear hg hok he1 he2 hfd
                generalize c.L[j] = p at *
                obtain ⟨x, ⟨en, ok, ph⟩⟩ := p
                dsimp only at g0 g1 g2 g3 g4 hask htf hz hfi hze
                have hk1 : KB wr (wr.alloc (.cells #[.int .i64 x.tok, .int .i8 x.kd, .string x.ph, .string x.ty, .slice o5 x.ps.length c5] 32)) := kbA
                have hK1 : KB w12 (wr.alloc (.cells #[.int .i64 x.tok, .int .i8 x.kd, .string x.ph, .string x.ty, .slice o5 x.ps.length c5] 32)) := hK.out.trans (hk1.mono hK.out.size)
                obtain ⟨P, on, -⟩ := (KC.out _ hK1).1.touch
                have HASK := Lib.hid (Ask_on on hz)
                rw [hask] at HASK
                have HK1 := Lib.hid hK1
                have HNX := Lib.hid (World.alloc_heap_new wr (.cells #[.int .i64 x.tok, .int .i8 x.kd, .string x.ph, .string x.ty, .slice o5 x.ps.length c5] 32))
                have HTF := Lib.hid (And.intro htf hfi)
                have HZ := Lib.hid hz
                have HB9 := HBD.out.2
                clear hask hk1 hK1 on htf hfi hz
                go_wp2_with fail
                refine HASK.out.mono ?_
                rintro e w13 ⟨rfl, hb13⟩
                have HK13 : Hid (KB w12 w13) := Lib.hid (HK1.out.trans (hb13.mono HK1.out.size))
                have hkA : KB w13 (w13.alloc (.cells #[.bool en, .bool ok, .string ph] 38)) := kbA
                have b0 : (w13.alloc (.cells #[.bool en, .bool ok, .string ph] 38)).cell? ⟨wr.heap.size, 0, none⟩ = some (.int .i64 x.tok) := cell_below hkA _ _ (five_cells ((hb13.block _ (by simp)).trans HNX.out)).1
                have hKA : KB w12 (w13.alloc (.cells #[.bool en, .bool ok, .string ph] 38)) := HK13.out.trans (hkA.mono HK13.out.size)
                have lk := (KC.out _ hKA).1.map.look lawZ Tryz.underlying3 Tryz.underlying59 true (zeroAns _) HZ.out
                rw [HTF.out.1] at lk
                have LKI : Hid (∀ W, KB (w13.alloc (.cells #[.bool en, .bool ok, .string ph] 38)) W → (Instr.lookup 60 (.map (some wB.heap.size)) (.int .i64 x.tok) false).run Tryz.prog W = .ok ((fI c.fl c.fl.length x.tok).getD (.bool false)) W) := Lib.hid fun W hW =>
                  (KC.out _ (hKA.trans (hW.mono hKA.size))).2.1.look lawZ Tryz.underlying3 Tryz.underlying60 false (zeroBool W) HZ.out
                rw [HTF.out.2] at LKI
                have HKA := Lib.hid hKA
                clear hkA hKA
                cases en with
                | true =>
                  have k2 : KB (w13.alloc (.cells #[.bool true, .bool ok, .string ph] 38)) ((w13.alloc (.cells #[.bool true, .bool ok, .string ph] 38)).alloc (.cells #[.bool true, .bool ok, .string ph] 38)) := kbA
                  have lki := LKI.out _ k2
                  have b02 := cell_below k2 _ _ b0
                  have HKN : Hid (KB w12 ((w13.alloc (.cells #[.bool true, .bool ok, .string ph] 38)).alloc (.cells #[.bool true, .bool ok, .string ph] 38))) := Lib.hid (HKA.out.trans (k2.mono HKA.out.size))
                  have neA : ∀ W, (binOp .neq 38 (.agg #[.bool true, .bool ok, .string ph]) (.agg #[.bool true, .bool ok, .string ph])).run Tryz.prog W = .ok (.bool false) W := fun W => by rw [ne_an]; simp
                  unfold anV at lk
                  clear k2 hze hb13
                  go_wp2_with fail
                  go_roundw
                  case rel => exact ⟨j + 1, by omega, by go_num, HKN⟩
                  case measure => simp [intOf]; omega
                | false =>
                  obtain ⟨rfl, rfl⟩ : ok = false ∧ ph = ⟨#[]⟩ := by
                    have := hze rfl
                    unfold zAn at this
                    simp only [An.mk.injEq, true_and] at this
                    exact this
                  have k2 : KB (w13.alloc (.cells #[.bool false, .bool false, .string ⟨#[]⟩] 38)) ((w13.alloc (.cells #[.bool false, .bool false, .string ⟨#[]⟩] 38)).alloc (.cells #[.bool false, .bool false, .string ⟨#[]⟩] 38)) := kbA
                  have lki := LKI.out _ k2
                  have b02 := cell_below k2 _ _ b0
                  have HKN : Hid (KB w12 ((w13.alloc (.cells #[.bool false, .bool false, .string ⟨#[]⟩] 38)).alloc (.cells #[.bool false, .bool false, .string ⟨#[]⟩] 38))) := Lib.hid (HKA.out.trans (k2.mono HKA.out.size))
                  have neA : ∀ W, (binOp .neq 38 (.agg #[.bool false, .bool false, .string ⟨#[]⟩]) (.agg #[.bool false, .bool false, .string ⟨#[]⟩])).run Tryz.prog W = .ok (.bool false) W := fun W => by rw [ne_an]; simp
                  clear k2 hze hb13
                  go_wp2_with fail
                  go_roundw
                  case rel => exact ⟨j + 1, by omega, by go_num, HKN⟩
                  case measure => simp [intOf]; omega
              · obtain rfl : j = c.L.length := by omega
                clear hlt hj HAT4 ho3'
                obtain ⟨k1, k2, -⟩ := KC.out _ hK.out
                obtain ⟨zs1, n1, -, z11, z12, es1, cl1, hb1, hs1⟩ := k1.map.keys2 lawZ Tryz.underlying3
                obtain ⟨zs2, n2, -, z21, z22, es2, cl2, hb2, hs2⟩ := k2.keys2 lawZ Tryz.underlying3
                have hcnt := ended_count HGD.out n1 (fun z hz => (z11 z hz).2) z12
                have hfl : zs2.length = c.fl.length := by
                  have hmem : ∀ z, fI c.fl c.fl.length z ≠ none ↔ z ∈ c.fl := fun z => by
                    unfold fI
                    rw [List.take_of_length_le (Nat.le_refl _)]
                    by_cases hz : z ∈ c.fl
                    · rw [if_pos hz]; exact ⟨fun _ => hz, fun _ => by simp⟩
                    · rw [if_neg hz]; exact ⟨fun h => absurd rfl h, fun h => absurd h hz⟩
                  have e1 := nodup_le n2 (m := c.fl) (fun z hz => (hmem z).1 (z21 z hz).2)
                  have e2 := nodup_le HGD.out.flu (m := zs2) (fun z hz => z22 z ((hmem z).2 hz))
                  omega
                have CLS : Hid (Calls Tryz.prog 31 #[.pointer (some ⟨w3.heap.size, 0, none⟩)] wr fun e w' => (∃ o cap, e = .returned (.slice o c.L.length cap)) ∧ Hid (KB w12 w')) := Lib.hid (by
                  obtain ⟨P, on, -⟩ := k1.touch
                  exact (Calls_on on HGD.out hn1000).mono fun e w' ⟨⟨o, cap, e1, _⟩, hb⟩ => ⟨⟨o, cap, e1⟩, Lib.hid (hK.out.trans (hb.mono hK.out.size))⟩)
                have hb9 := HBD.out.2
                have d1 : IntKind.i64.wrap ((es2.size : Int) + (es1.size : Int)) = (c.L.length : Int) := by
                  have : es2.size + es1.size = c.L.length := by omega
                  rw [← this]
                  simp [IntKind.wrap, IntKind.bits, IntKind.signed]; omega
                have d1' : IntKind.i64.wrap (((es2.size + es1.size : Nat) : Int)) = (c.L.length : Int) := by
                  rw [← d1]; simp
                have d2 : ((c.L.length : Int) == (c.L.length : Int)) = true := beq_self_eq_true _
                have lm2 : (Builtin.len_ #[60] 3 #[.map (some wB.heap.size)]).run Tryz.prog wr = .ok (.int .i64 es2.size) wr := run_len_map _ _ _ _ es2 cl2 (by kernel_rfl) hb2
                have lm1 : (Builtin.len_ #[59] 3 #[.map (some mT)]).run Tryz.prog wr = .ok (.int .i64 es1.size) wr := run_len_map _ _ _ _ es1 cl1 (by kernel_rfl) hb1
                have WK2 : Hid (∀ W, Hid (KB w12 W) → Calls Tryz.prog 11 #[] W fun e w' => e = .returned (.bool true) ∧ Hid (KB w w')) := Lib.hid fun W hW => WK.out W (Lib.hid (KC.out _ hW.out).2.2)
                clear k1 k2 z11 z12 z21 z22 hcnt hfl hs1 hs2 n1 n2 hb1 hb2
                generalize es1.size = s1 at *
                generalize es2.size = s2 at *
                go_wp2_with fail
                refine CLS.out.mono ?_
                rintro e w14 ⟨⟨o14, c14, rfl⟩, K14⟩
                go_wp2_with fail
                refine (WK2.out _ K14).mono ?_
                rintro e w15 ⟨rfl, K15⟩
                go_wp2_with fail
                go_ret
                exact ⟨rfl, K15.out⟩
end Go.Proofs.YtkigeegahepnaaaGreatDoor
