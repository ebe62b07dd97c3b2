/-
  The law's helpers: the same things, the same numbers; what is too great.
-/
import Derived.Test.YtkigeegahepnaaaGreatDoorHD
import Derived.Test.YtkigeegahepnaaaGreatDoorGR
set_option linter.unusedVariables false
set_option linter.unusedSimpArgs false
namespace Go.Proofs.YtkigeegahepnaaaGreatDoor
open Go.RowKit Go.Maps Go.Deep

set_option maxRecDepth 100000 in
set_option maxHeartbeats 8000000 in
theorem things_same (L : List Th) (u v : Value) (w : World) (hF : ∀ t ∈ L, fineG t.ps) (hl : L.length ≤ 1000000) (h : isTs w L u) (h' : isTs w L v) :
    Calls Tryz.prog 22 #[u, v] w fun e w' => e = .returned (.bool true) ∧ Below w.heap.size w w' := by
  obtain ⟨a, cap, ⟨o, rfl, hc1, hc2, ho⟩, hat⟩ := h
  obtain ⟨a', cap', ⟨o', rfl, hc1', hc2', ho'⟩, hat'⟩ := h'
  unfold maxLen at hc2 hc2'
  have HK := Lib.hid hat
  have HK' := Lib.hid hat'
  have HF := Lib.hid hF
  have z0 : ((L.length : Int) == (L.length : Int)) = true := beq_self_eq_true _
  have z1 : ((L.length : Int) != (L.length : Int)) = false := by simp
  clear hat hat' hF
  go_enter Tryz.func22, Tryz.ntmps22
  go_wp2_with fail
  go_loopw [5] (fun i wr => ∃ (j : Nat), j ≤ L.length ∧ i = .int .i64 j ∧ Hid (Below w.heap.size w wr)) (fun i _ => L.length - (intOf i).toNat)
  case atStart => exact ⟨0, by omega, rfl, Lib.hid (Below.refl _ _)⟩
  case round =>
    obtain ⟨j, hj, rfl, hB⟩ := hrel
    by_cases hlt : j < L.length
    · obtain rfl := ho (by omega)
      obtain rfl := ho' (by omega)
      obtain ⟨o1, c1, q0, q1, q2, ht⟩ := isTat_three (isTat_below hB.out (HK.out j hlt))
      obtain ⟨o2, c2, p0, p1, p2, ht'⟩ := isTat_three (isTat_below hB.out (HK'.out j hlt))
      have hth := HF.out _ (List.getElem_mem hlt)
      obtain ⟨_, e1, hg, _⟩ := ht
      obtain ⟨_, e2, hg', _⟩ := ht'
      simp only [Value.agg.injEq, Array.mk.injEq, List.cons.injEq, true_and, and_true] at e1 e2
      subst e1 e2
      have HS : Hid (∀ w1, KB wr w1 → Calls Tryz.prog 45 #[.slice o1 L[j].ps.length c1, .slice o2 L[j].ps.length c2] w1 fun e w' => e = .returned (.bool true) ∧ Below w1.heap.size w1 w') := Lib.hid fun w1 hk => rsame9_any _ _ _ w1 hth (isGs_below hk hg) (isGs_below hk hg')
      have t1 : (L[j].ph.toList == L[j].ph.toList) = true := beq_self_eq_true _
      have t2 : (L[j].ph.toList != L[j].ph.toList) = false := by simp
      have t3 : (L[j].ty.toList == L[j].ty.toList) = true := beq_self_eq_true _
      have t4 : (L[j].ty.toList != L[j].ty.toList) = false := by simp
      clear hg hg' hth
      generalize L[j] = t at *
      go_wp2_with fail
      refine Rn.region_any (by kernel_rfl) ?_
      refine Rn.any_seg 0 35 (by kernel_rfl) rfl ?_
      simp only [List.take_succ_cons, List.take_zero, List.drop_zero]
      repeat (refine Rn.ws_one (fun KK hKK => ?_); go_simp; refine hKK _ ?_; clear hKK KK)
      refine Rn.ws_nil ?_
      intro K0 hK0
      go_simp
      refine .inl ((HS.out _ (drewB1 _ _)).mono ?_)
      rintro e w6 ⟨rfl, hb6⟩
      refine hK0 _ _ ?_
      refine Rn.any_end 36 (by kernel_rfl) ?_
      simp only [List.drop_succ_cons, List.drop_zero]
      repeat (refine Rn.ws_one (fun KK hKK => ?_); go_simp; refine hKK _ ?_; clear hKK KK)
      refine Rn.ws_nil ?_
      go_wp2_with fail
      go_roundw
      case rel => exact ⟨j + 1, by omega, by go_num, Lib.hid (hB.out.trans ((below_drew_of hb6).mono hB.out.size))⟩
      case measure => simp [intOf]; omega
    · obtain rfl : j = L.length := by omega
      go_wp2_with fail
      go_ret
      exact ⟨rfl, hB.out⟩

set_option maxRecDepth 100000 in
set_option maxHeartbeats 8000000 in
theorem ints_same (L : List Int) (u v : Value) (w : World) (hl : L.length ≤ 1000000) (h : rdI w L u) (h' : rdI w L v) :
    Calls Tryz.prog 23 #[u, v] w fun e w' => e = .returned (.bool true) ∧ Below w.heap.size w w' := by
  obtain ⟨o, a, cap, rfl, hc1, hc2, ho, hat⟩ := h
  obtain ⟨o', a', cap', rfl, hc1', hc2', ho', hat'⟩ := h'
  have HK : Hid (∀ j (hj : j < L.length) W, KB w W → W.cell? (a.add j) = some (.int .i64 L[j])) := Lib.hid fun j hj W hK => cell_below hK _ _ (hat j _ (by unfold iCells; rw [List.getElem?_map, List.getElem?_eq_getElem hj]; rfl))
  have HK' : Hid (∀ j (hj : j < L.length) W, KB w W → W.cell? (a'.add j) = some (.int .i64 L[j])) := Lib.hid fun j hj W hK => cell_below hK _ _ (hat' j _ (by unfold iCells; rw [List.getElem?_map, List.getElem?_eq_getElem hj]; rfl))
  have z0 : ((L.length : Int) == (L.length : Int)) = true := beq_self_eq_true _
  have z1 : ((L.length : Int) != (L.length : Int)) = false := by simp
  clear hat hat'
  go_enter Tryz.func23, Tryz.ntmps23
  go_wp2_with fail
  go_loopw [13] (fun i wr => ∃ (j : Nat), j ≤ L.length ∧ i = .int .i64 j ∧ Hid (Below w.heap.size w wr)) (fun i _ => L.length - (intOf i).toNat)
  case atStart => exact ⟨0, by omega, rfl, Lib.hid (Below.refl _ _)⟩
  case round =>
    obtain ⟨j, hj, rfl, hB⟩ := hrel
    by_cases hlt : j < L.length
    · obtain rfl := ho (by omega)
      obtain rfl := ho' (by omega)
      have q0 := HK.out j hlt wr hB.out
      have p0 := HK'.out j hlt wr hB.out
      have q1 := HK.out j hlt wr.drew ((show KB w wr from hB.out).drew)
      have p1 := HK'.out j hlt wr.drew ((show KB w wr from hB.out).drew)
      have t1 : (L[j] == L[j]) = true := beq_self_eq_true _
      have t2 : (L[j] != L[j]) = false := by simp
      generalize L[j] = t at *
      go_wp2_with fail
      go_region_law (fail)
      all_goals
        go_wp2_with fail
      all_goals
        go_roundw
        case rel => exact ⟨j + 1, by omega, by go_num, Lib.hid (by first | exact hB.out | exact (show KB w wr from hB.out).drew)⟩
        case measure => simp [intOf]; omega
    · obtain rfl : j = L.length := by omega
      go_wp2_with fail
      go_ret
      exact ⟨rfl, hB.out⟩
end Go.Proofs.YtkigeegahepnaaaGreatDoor
