/-
  SchemaParts: rows that may be are just those of which each property alone may be, and whose names rise.
-/
import Derived.Test.YtmgodamdpemmhaaGreatDoorPg
import Derived.Test.YtmgodamdpemmhaaGreatDoorPr
set_option linter.unusedVariables false
namespace Go.Proofs.YtmgodamdpemmhaaGreatDoor
open Go.RowKit Go.Maps Go.ChangeMaps Go.WideMaps

theorem step_one {K : ByteArray} {L : List G} {j : Nat} (hj : j < L.length) (hk : known K = true) :
    stepB K L j = (decide (checkL K [L[j]] = 0) && (decide (j = 0) || bl (L.getD (j - 1) ⟨⟨#[]⟩, false, zV⟩).nm L[j].nm)) := by
  have h1 : okRow K [L[j]] = (match spec K L[j].nm with | none => false | some x => mayB L[j] x.q) := by
    unfold okRow stepB
    simp only [List.length_cons, List.length_nil, Nat.zero_add, List.range_one, List.all_cons, List.all_nil, Bool.and_true, List.getD_cons_zero]
    cases spec K L[j].nm with
    | none => rfl
    | some x => simp
  have h2 : decide (checkL K [L[j]] = 0) = okRow K [L[j]] := by
    unfold checkL
    rw [if_pos hk]
    cases okRow K [L[j]] <;> rfl
  rw [h2, h1]
  unfold stepB
  rw [getD_g hj]
  cases spec K L[j].nm with
  | none => rfl
  | some x => simp only [Bool.and_comm]

set_option maxRecDepth 100000 in
set_option maxHeartbeats 8000000 in
theorem parts_main (K : ByteArray) (L : List G) (v : Value) (w : World) (hE : Env9 w) (hK : K.size ≤ 200) (hG : greatG L = false) (hkn : known K = true) (h : isGs w L v) :
    Calls Tryz.prog 7 #[.string K, v] w fun e w' => e = .returned (.bool true) ∧ Below w.heap.size w w' := by
  obtain ⟨hl, hP⟩ := greatG_no hG
  have HGR := Lib.hid (great9_any L v w h)
  rw [hG] at HGR
  have HS : Hid (∀ w1, KB w w1 → Calls Tryz.prog 10 #[.string K] w1 fun e w' => (∃ v, e = .returned (.tuple #[v, .int .i64 0])) ∧ Below w1.heap.size w1 w') := Lib.hid fun w1 hb => by
    have h := Specs_any K w1 (hE.kb hb).2 (by have := (hE.kb hb).1.1; omega) hK
    rw [hkn, if_pos rfl] at h
    exact h
  have HC : Hid (∀ w1, KB w w1 → Calls Tryz.prog 16 #[.string K, v] w1 fun e w' => e = .returned (.int .i64 (checkL K L)) ∧ Below w1.heap.size w1 w') := Lib.hid fun w1 hb => Check_any K L v w1 (hE.kb hb) hK (by omega) (fun g hg => (hP g hg).2) (isGs_below hb h)
  have HW : Hid (∀ w1, KB w w1 → Calls Tryz.prog 9 #[] w1 fun e w' => e = .returned (.bool true) ∧ Below w1.heap.size w1 w') := Lib.hid fun w1 hb => wakes9_any w1 (hE.kb hb)
  obtain ⟨a, cap, ⟨o, rfl, hc1, hc2, ho⟩, hgs⟩ := h
  have HC1 : Hid (∀ (j : Nat) (hj : j < L.length) (w1 : World), KB w w1 → Calls Tryz.prog 16 #[.string K, .slice (some (a.add (j * 8))) 1 (cap - j)] w1 fun e w' => e = .returned (.int .i64 (checkL K [L[j]])) ∧ Below w1.heap.size w1 w') := Lib.hid fun j hj w1 hb =>
    Check_any K [L[j]] _ w1 (hE.kb hb) hK (by simp) (fun g hg => by obtain rfl : g = L[j] := (by simpa using hg); exact (hP _ (List.getElem_mem hj)).2) ⟨a.add (j * 8), cap - j, ⟨_, rfl, by simp; omega, by unfold maxLen at *; omega, fun _ => rfl⟩, fun i hi => by
      obtain rfl : i = 0 := by simpa using hi
      have e0 : (a.add (j * 8)).add (0 * 8) = a.add (j * 8) := by simp [Addr.add]
      rw [e0]
      exact isGat_below hb (hgs j hj)⟩
  have HK := Lib.hid hgs
  have y1 : decide ((200 : Int) < (K.size : Int)) = false := decide_eq_false (by omega)
  unfold maxLen at hc2
  clear hgs hE hP hG
  go_enter Tryz.func7, Tryz.ntmps7
  go_wp2_with (go_at_call 8; refine HGR.out.mono ?_; rintro e w1 ⟨rfl, hb1⟩)
  refine (HS.out _ hb1).mono ?_
  rintro e w2 ⟨⟨sv, rfl⟩, hb2⟩
  have HB2 := Lib.hid (hb1.trans (hb2.mono hb1.size))
  clear hb1 hb2
  go_wp2_with fail
  go_loopw [7, 26] (fun av i wr => (∃ j : Nat, j ≤ L.length ∧ i = .int .i64 j ∧ av = .bool ((List.range j).all (stepB K L))) ∧ Hid (Below w2.heap.size w2 wr)) (fun _ i _ => L.length - (intOf i).toNat)
  case atStart => exact ⟨⟨0, by omega, rfl, rfl⟩, Lib.hid (Below.refl _ _)⟩
  case round =>
    obtain ⟨⟨j, hj, rfl, rfl⟩, hB⟩ := hrel
    have hBw := HB2.out.trans (hB.out.mono HB2.out.size)
    have hd : Below wr.heap.size wr wr.drew := drewB1 _ _
    by_cases hlt : j < L.length
    · obtain rfl := ho (by omega)
      have hrg : (List.range (j + 1)).all (stepB K L) = ((List.range j).all (stepB K L) && stepB K L j) := by rw [List.range_succ, List.all_append]; simp
      cases hA : (List.range j).all (stepB K L) with
      | false =>
        have HN : Hid ((List.range (j + 1)).all (stepB K L) = false) := Lib.hid (by rw [hrg, hA, Bool.false_and])
        clear hrg hA
        go_wp2_with fail
        go_quiet (fail)
        go_wp2_with fail
        go_roundw
        case rel => exact ⟨⟨j + 1, by omega, by go_num, by rw [HN.out]⟩, Lib.hid (hB.out.trans (drewB _ _ _))⟩
        case measure => simp [intOf]; omega
      | true =>
        rw [hA, Bool.true_and, step_one hlt hkn] at hrg
        have HCJ := Lib.hid (fun w1 hb => HC1.out j hlt w1 hb)
        have dw : IntKind.i64.wrap ((j : Int) + 1) = ((j + 1 : Nat) : Int) := by simp [IntKind.wrap, IntKind.bits, IntKind.signed]; omega
        by_cases hc : checkL K [L[j]] = 0
        · rw [hc, decide_eq_true rfl, Bool.true_and] at hrg
          rw [hc] at HCJ
          by_cases h0 : j = 0
          · have HN : Hid ((List.range (j + 1)).all (stepB K L) = true) := Lib.hid (by rw [hrg, decide_eq_true h0, Bool.true_or])
            have zj : ((j : Int) == 0) = true := by rw [h0]; rfl
            have i1 : 0 ≤ (j : Int) + 1 := by omega
            have i2 : (j : Int) + 1 ≤ (cap : Int) := by omega
            have i3 : ¬ cap = j := by omega
            clear hrg hA hc h0
            go_wp2_with fail
            refine Rn.region_any (by kernel_rfl) ?_
            refine Rn.any_seg 0 8 (by kernel_rfl) rfl ?_
            simp only [List.take_succ_cons, List.take_zero, List.drop_zero]
            repeat (refine Rn.ws_one (fun KK hKK => ?_); go_simp; refine hKK _ ?_; clear hKK KK)
            refine Rn.ws_nil ?_
            intro K0 hK0
            go_simp
            refine .inl ((HCJ.out _ (hBw.trans (hd.mono hBw.size))).mono ?_)
            rintro e w5 ⟨rfl, hb5⟩
            refine hK0 _ _ ?_
            clear hK0 K0
            refine Rn.any_end 9 (by kernel_rfl) ?_
            simp only [List.drop_succ_cons, List.drop_zero]
            repeat (refine Rn.ws_one (fun KK hKK => ?_); go_simp; refine hKK _ ?_; clear hKK KK)
            refine Rn.ws_nil ?_
            go_wp2_with fail
            go_roundw
            case rel => exact ⟨⟨j + 1, by omega, by go_num, by rw [HN.out]⟩, Lib.hid (hB.out.trans ((hd.trans (hb5.mono hd.size)).mono hB.out.size))⟩
            case measure => simp [intOf]; omega
          · have i1 : 0 ≤ (j : Int) + 1 := by omega
            have i2 : (j : Int) + 1 ≤ (cap : Int) := by omega
            have i3 : ¬ cap = j := by omega
            have zj : ((j : Int) == 0) = false := beqI (by omega)
            rw [decide_eq_false h0, Bool.false_or, getD_g (show j - 1 < L.length by omega)] at hrg
            obtain ⟨p, hpj⟩ : ∃ p, p = j - 1 := ⟨_, rfl⟩
            have dw1 : IntKind.i64.wrap ((j : Int) - 1) = (p : Int) := by simp [IntKind.wrap, IntKind.bits, IntKind.signed]; omega
            have di1 : p < L.length := by omega
            have hq0 := HK.out (j - 1) (by omega)
            have hq1 := HK.out j hlt
            obtain ⟨s1, hs1⟩ : ∃ s, L[j - 1].nm = s := ⟨_, rfl⟩
            obtain ⟨s2, hs2⟩ : ∃ s, L[j].nm = s := ⟨_, rfl⟩
            have hce : ∀ w5, Below wr.heap.size wr w5 → w5.cell? (a.add ((j - 1) * 8)) = some (.string s1) ∧ w5.cell? (a.add (j * 8)) = some (.string s2) := fun w5 h5 => by
              obtain ⟨_, _, _, _, _, _, q0, _⟩ := isGat_below (hBw.trans (h5.mono hBw.size)) hq0
              obtain ⟨_, _, _, _, _, _, q1, _⟩ := isGat_below (hBw.trans (h5.mono hBw.size)) hq1
              exact ⟨by rw [← hs1]; exact q0, by rw [← hs2]; exact q1⟩
            rw [← hpj] at hce
            have HCE := Lib.hid hce
            rw [hs1, hs2] at hrg
            obtain ⟨r, hr⟩ : ∃ r, bl s1 s2 = r := ⟨_, rfl⟩
            rw [hr] at hrg
            have hlr : Op.bytesLess s1.toList s2.toList = r := hr
            have HN : Hid ((List.range (j + 1)).all (stepB K L) = r) := Lib.hid hrg
            clear hrg hA hc h0 hce hq0 hq1 hs1 hs2 hpj hr
            go_wp2_with fail
            refine Rn.region_any (by kernel_rfl) ?_
            refine Rn.any_seg 0 8 (by kernel_rfl) rfl ?_
            simp only [List.take_succ_cons, List.take_zero, List.drop_zero]
            repeat (refine Rn.ws_one (fun KK hKK => ?_); go_simp; refine hKK _ ?_; clear hKK KK)
            refine Rn.ws_nil ?_
            intro K0 hK0
            go_simp
            refine .inl ((HCJ.out _ (hBw.trans (hd.mono hBw.size))).mono ?_)
            rintro e w5 ⟨rfl, hb5⟩
            refine hK0 _ _ ?_
            clear hK0 K0
            obtain ⟨k1, k2⟩ := HCE.out w5 (hd.trans (hb5.mono hd.size))
            refine Rn.any_end 9 (by kernel_rfl) ?_
            simp only [List.drop_succ_cons, List.drop_zero]
            repeat (refine Rn.ws_one (fun KK hKK => ?_); go_simp; refine hKK _ ?_; clear hKK KK)
            refine Rn.ws_nil ?_
            go_wp2_with fail
            go_roundw
            case rel => exact ⟨⟨j + 1, by omega, by go_num, by rw [HN.out]⟩, Lib.hid (hB.out.trans ((hd.trans (hb5.mono hd.size)).mono hB.out.size))⟩
            case measure => simp [intOf]; omega
        · rw [decide_eq_false hc, Bool.false_and] at hrg
          have HN := Lib.hid hrg
          have i1 : 0 ≤ (j : Int) + 1 := by omega
          have i2 : (j : Int) + 1 ≤ (cap : Int) := by omega
          have i3 : ¬ cap = j := by omega
          generalize checkL K [L[j]] = C at *
          have z1 : (C == 0) = false := beqI hc
          clear hrg hA hc
          go_wp2_with fail
          refine Rn.region_any (by kernel_rfl) ?_
          refine Rn.any_seg 0 8 (by kernel_rfl) rfl ?_
          simp only [List.take_succ_cons, List.take_zero, List.drop_zero]
          repeat (refine Rn.ws_one (fun KK hKK => ?_); go_simp; refine hKK _ ?_; clear hKK KK)
          refine Rn.ws_nil ?_
          intro K0 hK0
          go_simp
          refine .inl ((HCJ.out _ (hBw.trans (hd.mono hBw.size))).mono ?_)
          rintro e w5 ⟨rfl, hb5⟩
          refine hK0 _ _ ?_
          clear hK0 K0
          refine Rn.any_end 9 (by kernel_rfl) ?_
          simp only [List.drop_succ_cons, List.drop_zero]
          repeat (refine Rn.ws_one (fun KK hKK => ?_); go_simp; refine hKK _ ?_; clear hKK KK)
          refine Rn.ws_nil ?_
          go_wp2_with fail
          go_roundw
          case rel => exact ⟨⟨j + 1, by omega, by go_num, by rw [HN.out]⟩, Lib.hid (hB.out.trans ((hd.trans (hb5.mono hd.size)).mono hB.out.size))⟩
          case measure => simp [intOf]; omega
    · obtain rfl : j = L.length := by omega
      have hck : checkL K L = if (List.range L.length).all (stepB K L) = true then 0 else 91 := by
        unfold checkL
        rw [if_pos hkn]
        rfl
      rw [hck] at HC
      cases hA : (List.range L.length).all (stepB K L) with
      | true =>
        rw [hA, if_pos rfl] at HC
        clear hck hA
        go_wp2_with (go_at_call 16; refine (HC.out _ hBw).mono ?_; rintro e w5 ⟨rfl, hb5⟩; have HB5 := Lib.hid (hBw.trans (hb5.mono hBw.size)); clear hb5)
        refine (HW.out _ HB5.out).mono ?_
        rintro e w6 ⟨rfl, hb6⟩
        go_wp2_with fail
        go_ret
        exact ⟨rfl, HB5.out.trans (hb6.mono HB5.out.size)⟩
      | false =>
        rw [hA, if_neg (by simp)] at HC
        clear hck hA
        go_wp2_with (go_at_call 16; refine (HC.out _ hBw).mono ?_; rintro e w5 ⟨rfl, hb5⟩; have HB5 := Lib.hid (hBw.trans (hb5.mono hBw.size)); clear hb5)
        refine (HW.out _ HB5.out).mono ?_
        rintro e w6 ⟨rfl, hb6⟩
        go_wp2_with fail
        go_ret
        exact ⟨rfl, HB5.out.trans (hb6.mono HB5.out.size)⟩

set_option maxRecDepth 100000 in
set_option maxHeartbeats 8000000 in
theorem parts_no (K : ByteArray) (L : List G) (v : Value) (w : World) (hE : Env9 w) (hK : K.size ≤ 200) (hG : greatG L = false) (hkn : known K = false) (h : isGs w L v) :
    Calls Tryz.prog 7 #[.string K, v] w fun e w' => e = .returned (.bool true) ∧ Below w.heap.size w w' := by
  obtain ⟨hl, hP⟩ := greatG_no hG
  have HGR := Lib.hid (great9_any L v w h)
  rw [hG] at HGR
  have HS : Hid (∀ w1, KB w w1 → Calls Tryz.prog 10 #[.string K] w1 fun e w' => (∃ v, e = .returned (.tuple #[v, .int .i64 90])) ∧ Below w1.heap.size w1 w') := Lib.hid fun w1 hb => by
    have h := Specs_any K w1 (hE.kb hb).2 (by have := (hE.kb hb).1.1; omega) hK
    rw [hkn, if_neg (by simp)] at h
    exact h
  have HC : Hid (∀ w1, KB w w1 → Calls Tryz.prog 16 #[.string K, v] w1 fun e w' => e = .returned (.int .i64 90) ∧ Below w1.heap.size w1 w') := Lib.hid fun w1 hb => by
    have h := Check_any K L v w1 (hE.kb hb) hK (by omega) (fun g hg => (hP g hg).2) (isGs_below hb h)
    unfold checkL at h
    rw [hkn, if_neg (by simp)] at h
    exact h
  have HW : Hid (∀ w1, KB w w1 → Calls Tryz.prog 9 #[] w1 fun e w' => e = .returned (.bool true) ∧ Below w1.heap.size w1 w') := Lib.hid fun w1 hb => wakes9_any w1 (hE.kb hb)
  obtain ⟨a, cap, ⟨o, rfl, hc1, hc2, ho⟩, hgs⟩ := h
  have y1 : decide ((200 : Int) < (K.size : Int)) = false := decide_eq_false (by omega)
  unfold maxLen at hc2
  clear hgs hE hP hG
  generalize L.length = n at *
  go_enter Tryz.func7, Tryz.ntmps7
  go_wp2_with (go_at_call 8; refine HGR.out.mono ?_; rintro e w1 ⟨rfl, hb1⟩)
  refine (HS.out _ hb1).mono ?_
  rintro e w2 ⟨⟨sv, rfl⟩, hb2⟩
  have HB2 := Lib.hid (hb1.trans (hb2.mono hb1.size))
  clear hb1 hb2
  go_wp2_with fail
  go_loopw [7, 26] (fun av i wr => (∃ j : Nat, j ≤ n ∧ i = .int .i64 j ∧ av = .bool false) ∧ Hid (Below w2.heap.size w2 wr)) (fun _ i _ => n - (intOf i).toNat)
  case atStart => exact ⟨⟨0, by omega, rfl, rfl⟩, Lib.hid (Below.refl _ _)⟩
  case round =>
    obtain ⟨⟨j, hj, rfl, rfl⟩, hB⟩ := hrel
    have hBw := HB2.out.trans (hB.out.mono HB2.out.size)
    by_cases hlt : j < n
    · go_wp2_with fail
      go_quiet (fail)
      go_wp2_with fail
      go_roundw
      case rel => exact ⟨⟨j + 1, by omega, by go_num, rfl⟩, Lib.hid (hB.out.trans (drewB _ _ _))⟩
      case measure => simp [intOf]; omega
    · obtain rfl : j = n := by omega
      go_wp2_with (go_at_call 16; refine (HC.out _ hBw).mono ?_; rintro e w5 ⟨rfl, hb5⟩; have HB5 := Lib.hid (hBw.trans (hb5.mono hBw.size)); clear hb5)
      refine (HW.out _ HB5.out).mono ?_
      rintro e w6 ⟨rfl, hb6⟩
      go_wp2_with fail
      go_ret
      exact ⟨rfl, HB5.out.trans (hb6.mono HB5.out.size)⟩

set_option maxRecDepth 100000 in
set_option maxHeartbeats 4000000 in
/-- The call, where the type's name is too long. -/
theorem parts_long (K : ByteArray) (v : Value) (w : World) (hE : Env9 w) (hK : 200 < K.size) :
    Calls Tryz.prog 7 #[.string K, v] w fun e w' => e = .returned (.bool true) ∧ Below w.heap.size w w' := by
  have HW := Lib.hid (wakes9_any w hE)
  have y1 : decide ((200 : Int) < (K.size : Int)) = true := decide_eq_true (by omega)
  clear hE
  go_enter Tryz.func7, Tryz.ntmps7
  go_wp2_with (go_at_call 9; refine HW.out.mono ?_; rintro e w1 ⟨rfl, hb1⟩)
  go_ret
  exact ⟨rfl, hb1⟩
set_option maxRecDepth 100000 in
set_option maxHeartbeats 4000000 in
/-- The call, where the row is too great. -/
theorem parts_great (K : ByteArray) (L : List G) (v : Value) (w : World) (hE : Env9 w) (hK : K.size ≤ 200) (hG : greatG L = true) (h : isGs w L v) :
    Calls Tryz.prog 7 #[.string K, v] w fun e w' => e = .returned (.bool true) ∧ Below w.heap.size w w' := by
  have HGR := Lib.hid (great9_any L v w h)
  rw [hG] at HGR
  have HW : Hid (∀ w1, KB w w1 → Calls Tryz.prog 9 #[] w1 fun e w' => e = .returned (.bool true) ∧ Below w1.heap.size w1 w') := Lib.hid fun w1 hb => wakes9_any w1 (hE.kb hb)
  have y1 : decide ((200 : Int) < (K.size : Int)) = false := decide_eq_false (by omega)
  clear hE h
  go_enter Tryz.func7, Tryz.ntmps7
  go_wp2_with (go_at_call 8; refine HGR.out.mono ?_; rintro e w1 ⟨rfl, hb1⟩)
  refine (HW.out _ hb1).mono ?_
  rintro e w2 ⟨rfl, hb2⟩
  go_wp2_with fail
  go_ret
  exact ⟨rfl, hb1.trans (hb2.mono hb1.size)⟩
theorem parts_walk (K : ByteArray) (v : Value) (L : List G) (w : World) (hE : Env9 w) (hK : K.size ≤ maxLen) (h : isGs w L v) :
    Calls Tryz.prog 7 #[.string K, v] w fun e w' => e = .returned (.bool true) ∧ Below w.heap.size w w' := by
  by_cases h1 : 200 < K.size
  · exact parts_long K v w hE h1
  · cases hG : greatG L with
    | true => exact parts_great K L v w hE (by omega) hG h
    | false =>
      cases hk : known K with
      | true => exact parts_main K L v w hE (by omega) hG hk h
      | false => exact parts_no K L v w hE (by omega) hG hk h
end Go.Proofs.YtmgodamdpemmhaaGreatDoor
