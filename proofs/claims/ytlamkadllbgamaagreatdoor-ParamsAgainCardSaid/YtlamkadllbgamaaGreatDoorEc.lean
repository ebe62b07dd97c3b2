/-
  The reference's bounds on parameters and on what is given.
-/
import Derived.Test.YtlamkadllbgamaaGreatDoorEb
set_option linter.unusedVariables false
set_option linter.unusedSimpArgs false
namespace Go.Proofs.YtlamkadllbgamaaGreatDoor
open Go.RowKit

def badG (g : G) : Bool := greatB g.v || decide (400 < g.nm.size)
def greatM (L : List G) : Bool := (L.take 41).any badG || decide (40 < L.length)
def badP (p : PR) : Bool := greatB p.d || (decide (40 < p.al.length) || (decide (400 < p.nm.size) || p.al.any greatB))
def greatP (L : List PR) : Bool := (L.take 41).any badP || decide (40 < L.length)
theorem greatM_no {L : List G} (h : greatM L = false) : L.length ≤ 40 ∧ fineG L ∧ ∀ g ∈ L, g.nm.size ≤ 400 := by
  unfold greatM at h
  rw [Bool.or_eq_false_iff] at h
  have h2 := of_decide_eq_false h.2
  rw [List.take_of_length_le (by omega)] at h
  have h3 : ∀ g ∈ L, badG g = false := fun g hg => by simpa using List.any_eq_false.1 h.1 g hg
  refine ⟨by omega, ⟨by omega, fun g hg => ?_⟩, fun g hg => ?_⟩
  · have h4 := h3 g hg
    unfold badG at h4
    rw [Bool.or_eq_false_iff] at h4
    exact ⟨Nat.le_trans (great_no h4.1).1 (by omega), great_fine h4.1⟩
  · have h4 := h3 g hg
    unfold badG at h4
    rw [Bool.or_eq_false_iff] at h4
    have := of_decide_eq_false h4.2
    omega
theorem greatP_no {L : List PR} (h : greatP L = false) : L.length ≤ 40 ∧ finePs L ∧ ∀ p ∈ L, p.nm.size ≤ 400 := by
  unfold greatP at h
  rw [Bool.or_eq_false_iff] at h
  have h2 := of_decide_eq_false h.2
  rw [List.take_of_length_le (by omega)] at h
  have h3 : ∀ p ∈ L, badP p = false := fun p hp => by simpa using List.any_eq_false.1 h.1 p hp
  refine ⟨by omega, ⟨by omega, fun p hp => ?_⟩, fun p hp => ?_⟩
  · have h4 := h3 p hp
    unfold badP at h4
    rw [Bool.or_eq_false_iff, Bool.or_eq_false_iff, Bool.or_eq_false_iff] at h4
    have h5 := of_decide_eq_false h4.2.1
    refine ⟨Nat.le_trans (great_no h4.1).1 (by omega), great_fine h4.1, by omega, fun x hx => ?_⟩
    have h6 : greatB x = false := by simpa using List.any_eq_false.1 h4.2.2.2 x hx
    exact ⟨Nat.le_trans (great_no h6).1 (by omega), great_fine h6⟩
  · have h4 := h3 p hp
    unfold badP at h4
    rw [Bool.or_eq_false_iff, Bool.or_eq_false_iff, Bool.or_eq_false_iff] at h4
    have := of_decide_eq_false h4.2.2.1
    omega

set_option maxRecDepth 100000 in
set_option maxHeartbeats 8000000 in
theorem great14_any (L : List G) (v : Value) (w : World) (h : isGs w L v) :
    Calls Tryz.prog 13 #[v] w fun e w' => e = .returned (.bool (greatM L)) ∧ Below w.heap.size w w' := by
  obtain ⟨a, cap, ⟨o, rfl, hc1, hc2, ho⟩, hgs⟩ := h
  unfold maxLen at hc2
  have HK := Lib.hid hgs
  obtain ⟨r, hr⟩ : ∃ r, greatM L = r := ⟨_, rfl⟩
  rw [hr]
  have HR := Lib.hid hr
  clear hgs hr
  go_enter Tryz.func13, Tryz.ntmps13
  go_wp2_with fail
  go_loopw [3] (fun i wr => ∃ (j : Nat), j ≤ L.length ∧ j ≤ 41 ∧ i = .int .i64 j ∧ Hid ((L.take j).any badG = false) ∧ Hid (Below w.heap.size w wr)) (fun i _ => L.length - (intOf i).toNat)
  case atStart => exact ⟨0, by omega, by omega, rfl, Lib.hid rfl, Lib.hid (Below.refl _ _)⟩
  case round =>
    obtain ⟨j, hj, hj41, rfl, hA, hB⟩ := hrel
    by_cases hlt : j < L.length
    · by_cases h40 : j ≤ 40
      · have y1 : decide ((j : Int) ≤ 40) = true := decide_eq_true (by omega)
        obtain rfl := ho (by omega)
        obtain ⟨k, b, n, s, o, m, c, o2, m2, c2, q0, q1, q2, q3, q4, q5, q6, q7, hg⟩ := isGat_eight (isGat_below hB.out (HK.out j hlt))
        obtain ⟨_, _, _, _, _, _, e1, hv, hnl⟩ := hg
        simp only [Value.agg.injEq, Array.mk.injEq, List.cons.injEq, true_and, and_true] at e1
        obtain ⟨rfl, rfl, rfl, rfl, rfl, rfl⟩ := e1
        have HG := Lib.hid (great_any L[j].v _ wr hv)
        have hst : (L.take (j + 1)).any badG = badG L[j] := by
          rw [List.take_succ_eq_append_getElem hlt, List.any_append, hA.out]
          simp
        have hup : badG L[j] = true → r = true := fun h => by
          rw [← HR.out]
          unfold greatM
          rw [Bool.or_eq_true, List.any_eq_true]
          exact .inl ⟨L[j], List.mem_take_iff_getElem.2 ⟨j, by omega, rfl⟩, h⟩
        have hbd : badG L[j] = (greatB L[j].v || decide (400 < L[j].nm.size)) := rfl
        unfold maxLen at hnl
        clear hv
        obtain ⟨R, hRR⟩ : ∃ R, greatB L[j].v = R := ⟨_, rfl⟩
        rw [hRR] at HG hbd
        rw [hbd] at hst hup
        clear hbd hRR
        generalize L[j] = g at *
        cases R with
        | true =>
          have HR2 := Lib.hid (hup rfl)
          clear hup hst
          go_wp2_with (go_at_call 30; refine HG.out.mono ?_; rintro e w5 ⟨rfl, hb5⟩)
          go_ret
          exact ⟨ret_bool HR2.out.symm, hB.out.trans (hb5.mono hB.out.size)⟩
        | false =>
          rw [Bool.false_or] at hst hup
          by_cases hb2 : 400 < g.nm.size
          · have HR2 := Lib.hid (hup (decide_eq_true hb2))
            have y2 : decide ((400 : Int) < (g.nm.size : Int)) = true := decide_eq_true (by omega)
            clear hup hst hb2
            go_wp2_with (go_at_call 30; refine HG.out.mono ?_; rintro e w5 ⟨rfl, hb5⟩; have q0 := cell_below hb5 _ _ q0)
            go_ret
            exact ⟨ret_bool HR2.out.symm, hB.out.trans (hb5.mono hB.out.size)⟩
          · have HS := Lib.hid (hst.trans (decide_eq_false hb2))
            have y2 : decide ((400 : Int) < (g.nm.size : Int)) = false := decide_eq_false (by omega)
            clear hup hst hb2
            go_wp2_with (go_at_call 30; refine HG.out.mono ?_; rintro e w5 ⟨rfl, hb5⟩; have q0 := cell_below hb5 _ _ q0)
            go_roundw
            case rel => exact ⟨j + 1, by omega, by omega, by go_num, HS, Lib.hid (hB.out.trans (hb5.mono hB.out.size))⟩
            case measure => simp [intOf]; omega
      · obtain rfl : j = 41 := by omega
        have y1 : decide (((41 : Nat) : Int) ≤ 40) = false := by decide
        have HRES : Hid (r = true) := Lib.hid (by rw [← HR.out]; unfold greatM; rw [Bool.or_eq_true]; exact .inr (decide_eq_true (by omega)))
        have y3 : decide ((40 : Int) < (L.length : Int)) = true := decide_eq_true (by omega)
        clear hA
        go_wp2_with fail
        go_ret
        exact ⟨ret_bool HRES.out.symm, hB.out⟩
    · obtain rfl : j = L.length := by omega
      have hres : r = decide (40 < L.length) := by
        rw [← HR.out]
        unfold greatM
        have h := hA.out
        rw [List.take_of_length_le (Nat.le_refl _)] at h
        have h2 : (L.take 41).any badG = false := by
          rw [List.any_eq_false] at h ⊢
          exact fun x hx => h x (List.mem_of_mem_take hx)
        rw [h2, Bool.false_or]
      have HRES := Lib.hid hres
      clear hA hres
      by_cases h40 : 40 < L.length
      · have y3 : decide ((40 : Int) < (L.length : Int)) = true := decide_eq_true (by omega)
        have HQ : Hid (r = true) := Lib.hid (by rw [HRES.out]; exact decide_eq_true h40)
        clear h40 HRES
        go_wp2_with fail
        go_ret
        exact ⟨ret_bool HQ.out.symm, hB.out⟩
      · have y3 : decide ((40 : Int) < (L.length : Int)) = false := decide_eq_false (by omega)
        have HQ : Hid (r = false) := Lib.hid (by rw [HRES.out]; exact decide_eq_false h40)
        clear h40 HRES
        go_wp2_with fail
        go_ret
        exact ⟨ret_bool HQ.out.symm, hB.out⟩

set_option maxRecDepth 100000 in
set_option maxHeartbeats 8000000 in
theorem greatP_any (L : List PR) (v : Value) (w : World) (h : isPs w L v) :
    Calls Tryz.prog 12 #[v] w fun e w' => e = .returned (.bool (greatP L)) ∧ Below w.heap.size w w' := by
  obtain ⟨a, cap, ⟨o, rfl, hc1, hc2, ho⟩, hgs⟩ := h
  unfold maxLen at hc2
  have HK := Lib.hid hgs
  obtain ⟨r, hr⟩ : ∃ r, greatP L = r := ⟨_, rfl⟩
  rw [hr]
  have HR := Lib.hid hr
  clear hgs hr
  go_enter Tryz.func12, Tryz.ntmps12
  go_wp2_with fail
  go_loopw [3, 4] (fun i k4 wr => ∃ (j : Nat), j ≤ L.length ∧ j ≤ 41 ∧ i = .int .i64 j ∧ Hid ((L.take j).any badP = false) ∧ Hid (Below w.heap.size w wr)) (fun i _ _ => L.length - (intOf i).toNat)
  case atStart => exact ⟨0, by omega, by omega, rfl, Lib.hid rfl, Lib.hid (Below.refl _ _)⟩
  case round =>
    obtain ⟨j, hj, hj41, rfl, hA, hB⟩ := hrel
    by_cases hlt : j < L.length
    · by_cases h40 : j ≤ 40
      · have y1 : decide ((j : Int) ≤ 40) = true := decide_eq_true (by omega)
        obtain rfl := ho (by omega)
        obtain ⟨k, b, n, s, o, m, c, o2, m2, c2, oa, ca, q0, q1, q2, q3, q4, q5, q6, q7, q8, q9, hg⟩ := isPat_ten (isPat_below hB.out (HK.out j hlt))
        have hnl : L[j].nm.size ≤ maxLen := by obtain ⟨_, _, _, _, _, _, _, _, _, _, _, _, _, _, _, _, _, h⟩ := hg; exact h
        obtain ⟨_, _, _, _, _, _, _, _, _, _, _, _, e1, hv, ⟨aa, caa, ⟨oo, e2, hca1, hca2, hoa⟩, hva⟩⟩ := isP_ten hg
        simp only [Value.agg.injEq, Array.mk.injEq, List.cons.injEq, Value.int.injEq, Value.bool.injEq, Value.string.injEq, Value.slice.injEq, true_and, and_true] at e1 e2
        obtain ⟨rfl, rfl, rfl, rfl, ⟨rfl, rfl, rfl⟩, ⟨rfl, rfl, rfl⟩, ⟨rfl, rfl⟩⟩ := e1
        obtain ⟨rfl, rfl⟩ := e2
        have HG := Lib.hid (great_any L[j].d _ wr hv)
        have HVA := Lib.hid hva
        have hst : (L.take (j + 1)).any badP = badP L[j] := by
          rw [List.take_succ_eq_append_getElem hlt, List.any_append, hA.out]
          simp
        have hup : badP L[j] = true → r = true := fun h => by
          rw [← HR.out]
          unfold greatP
          rw [Bool.or_eq_true, List.any_eq_true]
          exact .inl ⟨L[j], List.mem_take_iff_getElem.2 ⟨j, by omega, rfl⟩, h⟩
        have hbd : badP L[j] = (greatB L[j].d || (decide (40 < L[j].al.length) || (decide (400 < L[j].nm.size) || L[j].al.any greatB))) := rfl
        unfold maxLen at hnl hca2
        have HQ9 := Lib.hid q9
        clear hv hva hg
        obtain ⟨R, hRR⟩ : ∃ R, greatB L[j].d = R := ⟨_, rfl⟩
        rw [hRR] at HG hbd
        rw [hbd] at hst hup
        clear hbd hRR
        generalize L[j] = p at *
        cases R with
        | true =>
          have HR2 := Lib.hid (hup rfl)
          clear hup hst
          generalize p.al.length = qn at *
          go_wp2_with (go_at_call 30; refine HG.out.mono ?_; rintro e w5 ⟨rfl, hb5⟩)
          go_ret
          exact ⟨ret_bool HR2.out.symm, hB.out.trans (hb5.mono hB.out.size)⟩
        | false =>
          rw [Bool.false_or] at hst hup
          by_cases hb1 : 40 < p.al.length
          · have HR2 := Lib.hid (hup (by rw [decide_eq_true hb1, Bool.true_or]))
            have y2 : decide ((40 : Int) < (p.al.length : Int)) = true := decide_eq_true (by omega)
            clear hup hst hb1
            generalize p.al.length = qn at *
            go_wp2_with (go_at_call 30; refine HG.out.mono ?_; rintro e w5 ⟨rfl, hb5⟩; have q0 := cell_below hb5 _ _ q0; have q9 := cell_below hb5 _ _ q9)
            go_ret
            exact ⟨ret_bool HR2.out.symm, hB.out.trans (hb5.mono hB.out.size)⟩
          · rw [decide_eq_false hb1, Bool.false_or] at hst hup
            have y2 : decide ((40 : Int) < (p.al.length : Int)) = false := decide_eq_false (by omega)
            by_cases hb2 : 400 < p.nm.size
            · have HR2 := Lib.hid (hup (by rw [decide_eq_true hb2, Bool.true_or]))
              have y3 : decide ((400 : Int) < (p.nm.size : Int)) = true := decide_eq_true (by omega)
              clear hup hst hb1 hb2
              generalize p.al.length = qn at *
              go_wp2_with (go_at_call 30; refine HG.out.mono ?_; rintro e w5 ⟨rfl, hb5⟩; have q0 := cell_below hb5 _ _ q0; have q9 := cell_below hb5 _ _ q9)
              go_ret
              exact ⟨ret_bool HR2.out.symm, hB.out.trans (hb5.mono hB.out.size)⟩
            · rw [decide_eq_false hb2, Bool.false_or] at hst hup
              have y3 : decide ((400 : Int) < (p.nm.size : Int)) = false := decide_eq_false (by omega)
              have HST := Lib.hid hst
              have HUP := Lib.hid hup
              obtain ⟨qn, hqn⟩ : ∃ qn, p.al.length = qn := ⟨_, rfl⟩
              rw [hqn] at hca1 hoa q9 y2 HQ9
              have HQN := Lib.hid hqn
              have hq40 : qn ≤ 40 := by omega
              clear hup hst hb1 hb2 hqn
              go_wp2_with (go_at_call 30; refine HG.out.mono ?_; rintro e w5 ⟨rfl, hb5⟩; have q0 := cell_below hb5 _ _ q0; have q9 := cell_below hb5 _ _ q9)
              have HB5 := Lib.hid hb5
              have HQ95 := Lib.hid q9
              clear hb5
              go_loopw [4] (fun i wi => ∃ (k9 : Nat), k9 ≤ qn ∧ i = .int .i64 k9 ∧ Hid ((p.al.take k9).any greatB = false) ∧ Hid (Below w5.heap.size w5 wi)) (fun i _ => qn - (intOf i).toNat)
              case atStart => exact ⟨0, by omega, rfl, Lib.hid rfl, Lib.hid (Below.refl _ _)⟩
              case round =>
                obtain ⟨k9, hk9, rfl, hA2, hB2⟩ := hrel
                have hbi := HB5.out.trans (hB2.out.mono HB5.out.size)
                have q9 := cell_below hB2.out _ _ HQ95.out
                by_cases hlt2 : k9 < qn
                · have hl2 : k9 < p.al.length := by rw [HQN.out]; exact hlt2
                  obtain rfl := hoa (by omega)
                  obtain ⟨k3, b3, n3, s3, o3, m3, c3, o4, m4, c4, g0, g1, g2, g3, g4, g5, hgx⟩ := isVs_sl p.al aa k9 hl2 (isVs_keep (cell_below hbi) _ aa HVA.out)
                  have HG2 := Lib.hid (great_any p.al[k9] _ wr hgx)
                  have hst2 : (p.al.take (k9 + 1)).any greatB = greatB p.al[k9] := by
                    rw [List.take_succ_eq_append_getElem hl2, List.any_append, hA2.out]
                    simp
                  have hup2 : greatB p.al[k9] = true → r = true := fun h => HUP.out (List.any_eq_true.2 ⟨p.al[k9], List.getElem_mem hl2, h⟩)
                  have HBI := Lib.hid hbi
                  clear hgx hbi
                  obtain ⟨R2, hR2⟩ : ∃ R2, greatB p.al[k9] = R2 := ⟨_, rfl⟩
                  rw [hR2] at HG2 hst2 hup2
                  clear hR2
                  cases R2 with
                  | true =>
                    have HRX := Lib.hid (hup2 rfl)
                    clear hup2 hst2
                    go_wp2_with (go_at_call 30; refine HG2.out.mono ?_; rintro e w6 ⟨rfl, hb6⟩)
                    go_ret
                    exact ⟨ret_bool HRX.out.symm, hB.out.trans ((HBI.out.trans (hb6.mono HBI.out.size)).mono hB.out.size)⟩
                  | false =>
                    have HS2 := Lib.hid hst2
                    clear hup2 hst2
                    go_wp2_with (go_at_call 30; refine HG2.out.mono ?_; rintro e w6 ⟨rfl, hb6⟩)
                    go_roundw
                    case rel => exact ⟨k9 + 1, by omega, by go_num, HS2, Lib.hid (hB2.out.trans (hb6.mono hB2.out.size))⟩
                    case measure => simp [intOf]; omega
                · obtain rfl : k9 = qn := by omega
                  have HSX : Hid ((L.take (j + 1)).any badP = false) := Lib.hid (by
                    rw [HST.out]
                    have h := hA2.out
                    rwa [List.take_of_length_le (by rw [HQN.out]; exact Nat.le_refl _)] at h)
                  have HBI := Lib.hid hbi
                  clear hbi hA2
                  go_wp2_with fail
                  go_roundw
                  case rel => exact ⟨j + 1, by omega, by omega, by go_num, HSX, Lib.hid (hB.out.trans (HBI.out.mono hB.out.size))⟩
                  case measure => simp [intOf]; omega
      · obtain rfl : j = 41 := by omega
        have y1 : decide (((41 : Nat) : Int) ≤ 40) = false := by decide
        have HRES : Hid (r = true) := Lib.hid (by rw [← HR.out]; unfold greatP; rw [Bool.or_eq_true]; exact .inr (decide_eq_true (by omega)))
        have y3 : decide ((40 : Int) < (L.length : Int)) = true := decide_eq_true (by omega)
        clear hA
        go_wp2_with fail
        go_ret
        exact ⟨ret_bool HRES.out.symm, hB.out⟩
    · obtain rfl : j = L.length := by omega
      have hres : r = decide (40 < L.length) := by
        rw [← HR.out]
        unfold greatP
        have h := hA.out
        rw [List.take_of_length_le (Nat.le_refl _)] at h
        have h2 : (L.take 41).any badP = false := by
          rw [List.any_eq_false] at h ⊢
          exact fun x hx => h x (List.mem_of_mem_take hx)
        rw [h2, Bool.false_or]
      have HRES := Lib.hid hres
      clear hA hres
      by_cases h40 : 40 < L.length
      · have y3 : decide ((40 : Int) < (L.length : Int)) = true := decide_eq_true (by omega)
        have HQ : Hid (r = true) := Lib.hid (by rw [HRES.out]; exact decide_eq_true h40)
        clear h40 HRES
        go_wp2_with fail
        go_ret
        exact ⟨ret_bool HQ.out.symm, hB.out⟩
      · have y3 : decide ((40 : Int) < (L.length : Int)) = false := decide_eq_false (by omega)
        have HQ : Hid (r = false) := Lib.hid (by rw [HRES.out]; exact decide_eq_false h40)
        clear h40 HRES
        go_wp2_with fail
        go_ret
        exact ⟨ret_bool HQ.out.symm, hB.out⟩
set_option maxHeartbeats 2000000 in
theorem lgreat_any (L : List PR) (gs : List G) (v u : Value) (w : World) (h : isPs w L v) (h' : isGs w gs u) :
    Calls Tryz.prog 5 #[v, u] w fun e w' => e = .returned (.bool (greatP L || greatM gs)) ∧ Below w.heap.size w w' := by
  have HP := Lib.hid (greatP_any L v w h)
  have HM : Hid (∀ w1, KB w w1 → Calls Tryz.prog 13 #[u] w1 fun e w' => e = .returned (.bool (greatM gs)) ∧ Below w1.heap.size w1 w') := Lib.hid fun w1 hk => great14_any gs u w1 (isGs_below hk h')
  obtain ⟨o, c, rfl⟩ := isPs_form h
  obtain ⟨o', c', rfl⟩ := isGs_form h'
  generalize greatP L = r1 at *
  generalize greatM gs = r2 at *
  clear h h'
  generalize L.length = n at *
  generalize gs.length = n' at *
  cases r1 with
  | true =>
    rw [Bool.true_or]
    go_enter Tryz.func5, Tryz.ntmps5
    go_wp2_with (go_at_call 12; refine HP.out.mono ?_; rintro e w5 ⟨rfl, hb5⟩)
    go_ret
    exact ⟨rfl, hb5⟩
  | false =>
    rw [Bool.false_or]
    go_enter Tryz.func5, Tryz.ntmps5
    go_wp2_with (first
      | (go_at_call 12; refine HP.out.mono ?_; rintro e w5 ⟨rfl, hb5⟩)
      | (go_at_call 13; refine (HM.out _ hb5).mono ?_; rintro e w6 ⟨rfl, hb6⟩))
    go_ret
    exact ⟨rfl, hb5.trans (hb6.mono hb5.size)⟩
end Go.Proofs.YtlamkadllbgamaaGreatDoor
