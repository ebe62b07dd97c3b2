/-
  The reference's Same, of properties and of stores that read alike.
-/
import Derived.Test.YtdckldfekepopaaGreatDoorYB
set_option linter.unusedVariables false
set_option linter.unusedSimpArgs false
namespace Go.Proofs.YtdckldfekepopaaGreatDoor
open Go.RowKit

set_option maxRecDepth 100000 in
set_option maxHeartbeats 8000000 in
theorem rsame9_any (L : List G) (u v : Value) (w : World) (hP : fineG L) (h : isGs w L u) (h' : isGs w L v) :
    Calls Tryz.prog 21 #[u, v] w fun e w' => e = .returned (.bool true) ∧ Below w.heap.size w w' := by
  obtain ⟨a, cap, ⟨o, rfl, hc1, hc2, ho⟩, hgs⟩ := h
  obtain ⟨a', cap', ⟨o', rfl, hc1', hc2', ho'⟩, hgs'⟩ := h'
  unfold maxLen at hc2 hc2'
  have HK := Lib.hid hgs
  have HK' := Lib.hid hgs'
  have HP := Lib.hid hP.2
  have hl := hP.1
  clear hgs hgs' hP
  have z0 : ((L.length : Int) == (L.length : Int)) = true := beq_self_eq_true _
  have z1 : ((L.length : Int) != (L.length : Int)) = false := by simp
  go_enter Tryz.func21, Tryz.ntmps21
  go_wp2_with fail
  go_loopw [5] (fun i wr => ∃ (j : Nat), j ≤ L.length ∧ i = .int .i64 j ∧ Hid (Below w.heap.size w wr)) (fun i _ => L.length - (intOf i).toNat)
  case atStart => exact ⟨0, by omega, rfl, Lib.hid (Below.refl _ _)⟩
  case round =>
    obtain ⟨j, hj, rfl, hB⟩ := hrel
    by_cases hlt : j < L.length
    · obtain rfl := ho (by omega)
      obtain rfl := ho' (by omega)
      obtain ⟨k, b1, n, s, o1, m, c, o2, m2, c2, q0, q1, q2, q3, q4, q5, q6, q7, hg⟩ := isGat_eight (isGat_below hB.out (HK.out j hlt))
      obtain ⟨k', b1', n', s', o1', m', c', o2', m2', c2', p0, p1, p2, p3, p4, p5, p6, p7, hg'⟩ := isGat_eight (isGat_below hB.out (HK'.out j hlt))
      have hp := HP.out _ (List.getElem_mem hlt)
      obtain ⟨_, _, _, _, _, _, e1, hv, _⟩ := hg
      obtain ⟨_, _, _, _, _, _, e2, hv', _⟩ := hg'
      simp only [Value.agg.injEq, Array.mk.injEq, List.cons.injEq, true_and, and_true] at e1 e2
      obtain ⟨rfl, rfl, rfl, rfl, rfl, rfl⟩ := e1
      obtain ⟨rfl, rfl, rfl, rfl, rfl, rfl⟩ := e2
      have HS : Hid (∀ w1, KB wr w1 → Calls Tryz.prog 43 #[.agg #[.int .i8 k, .bool b1, .int .i64 n, .string s, .slice o1 m c, .slice o2 m2 c2], .agg #[.int .i8 k', .bool b1', .int .i64 n', .string s', .slice o1' m' c', .slice o2' m2' c2']] w1 fun e w' => e = .returned (.bool true) ∧ Below w1.heap.size w1 w') := Lib.hid fun w1 hk => by
        have := same_any 1000000 L[j].v L[j].v _ _ w1 hp.1 (isV_below hk hv) (isV_below hk hv')
        rw [sm_yes rfl] at this
        exact this
      have t1 : (L[j].nm.toList == L[j].nm.toList) = true := beq_self_eq_true _
      have t2 : (L[j].nm.toList != L[j].nm.toList) = false := by simp
      have t3 : (L[j].unk == L[j].unk) = true := beq_self_eq_true _
      have t4 : (L[j].unk != L[j].unk) = false := by simp
      clear hv hv' hp
      generalize L[j] = g at *
      go_wp2_with fail
      refine Rn.region_any (by kernel_rfl) ?_
      refine Rn.any_seg 0 35 (by kernel_rfl) rfl ?_
      simp only [List.take_succ_cons, List.take_zero, List.drop_zero]
      repeat (refine Rn.ws_one (fun KK hKK => ?_); go_simp; refine hKK _ ?_; clear hKK KK)
      refine Rn.ws_nil ?_
      intro K0 hK0
      go_simp
      refine .inl ((HS.out _ (drewB1 _ _)).mono ?_)
      rintro e w6 ⟨rfl, hb6⟩
      refine hK0 _ _ ?_
      refine Rn.any_end 36 (by kernel_rfl) ?_
      simp only [List.drop_succ_cons, List.drop_zero]
      repeat (refine Rn.ws_one (fun KK hKK => ?_); go_simp; refine hKK _ ?_; clear hKK KK)
      refine Rn.ws_nil ?_
      go_wp2_with fail
      go_roundw
      case rel => exact ⟨j + 1, by omega, by go_num, Lib.hid (hB.out.trans ((below_drew_of hb6).mono hB.out.size))⟩
      case measure => simp [intOf]; omega
    · obtain rfl : j = L.length := by omega
      go_wp2_with fail
      go_ret
      exact ⟨rfl, hB.out⟩

set_option maxRecDepth 100000 in
set_option maxHeartbeats 8000000 in
theorem rsame10_any (s : St) (u v : Value) (w : World) (hF : fineS s) (h : isS w s u) (h' : isS w s v) :
    Calls Tryz.prog 36 #[u, v] w fun e w' => e = .returned (.bool true) ∧ Below w.heap.size w w' := by
  obtain ⟨o, cap, rfl, hts, hm⟩ := isS_two h
  obtain ⟨o', cap', rfl, hts', -⟩ := isS_two h'
  have HB0 : Hid (KB w ((w.alloc (.cells #[.slice o s.l.length cap, .int .i64 s.made] 31)).alloc (.cells #[.slice o' s.l.length cap', .int .i64 s.made] 31))) := Lib.hid (by unfold KB; go_grown)
  have hn1 := (Below.heap_alloc (w.alloc (.cells #[.slice o s.l.length cap, .int .i64 s.made] 31)) (.cells #[.slice o' s.l.length cap', .int .i64 s.made] 31) w.heap.size (by simp)).trans (World.alloc_heap_new w _)
  have hn2 := World.alloc_heap_new (w.alloc (.cells #[.slice o s.l.length cap, .int .i64 s.made] 31)) (.cells #[.slice o' s.l.length cap', .int .i64 s.made] 31)
  rw [World.size_alloc] at hn2
  obtain ⟨a, c9, ⟨o9, e, hc1, hc2, ho⟩, hat⟩ := hts
  simp only [Value.slice.injEq, true_and] at e
  obtain ⟨rfl, rfl⟩ := e
  obtain ⟨a', c9, ⟨o9, e, hc1', hc2', ho'⟩, hat'⟩ := hts'
  simp only [Value.slice.injEq, true_and] at e
  obtain ⟨rfl, rfl⟩ := e
  unfold maxLen at hc2 hc2'
  have HK := Lib.hid hat
  have HK' := Lib.hid hat'
  have HF := Lib.hid hF.2
  have hl := hF.1
  have z0 : ((s.l.length : Int) == (s.l.length : Int)) = true := beq_self_eq_true _
  have z1 : ((s.l.length : Int) != (s.l.length : Int)) = false := by simp
  have z2 : (s.made == s.made) = true := beq_self_eq_true _
  have z3 : (s.made != s.made) = false := by simp
  clear h h' hat hat' hF hm
  go_enter Tryz.func36, Tryz.ntmps36
  go_wp2_with fail
  generalize hW2 : ((w.alloc (.cells #[.slice o s.l.length cap, .int .i64 s.made] 31)).alloc (.cells #[.slice o' s.l.length cap', .int .i64 s.made] 31)) = W2 at *
  clear hW2
  have HN := Lib.hid (And.intro hn1 hn2)
  clear hn1 hn2
  go_loopw [5] (fun i wr => ∃ (j : Nat), j ≤ s.l.length ∧ i = .int .i64 j ∧ Hid (Below W2.heap.size W2 wr)) (fun i _ => s.l.length - (intOf i).toNat)
  case atStart => exact ⟨0, by omega, rfl, Lib.hid (Below.refl _ _)⟩
  case round =>
    obtain ⟨j, hj, rfl, hB⟩ := hrel
    have hBw : Below w.heap.size w wr := HB0.out.trans (hB.out.mono HB0.out.size)
    obtain ⟨r0, r1⟩ := two_cells ((hB.out.block _ (Array.getElem?_eq_some_iff.1 HN.out.1).1).trans HN.out.1)
    obtain ⟨r2, r3⟩ := two_cells ((hB.out.block _ (Array.getElem?_eq_some_iff.1 HN.out.2).1).trans HN.out.2)
    by_cases hlt : j < s.l.length
    · obtain rfl := ho (by omega)
      obtain rfl := ho' (by omega)
      obtain ⟨o1, c1, q0, q1, q2, ht⟩ := isTat_three (isTat_below hBw (HK.out j hlt))
      obtain ⟨o2, c2, p0, p1, p2, ht'⟩ := isTat_three (isTat_below hBw (HK'.out j hlt))
      have hth := (HF.out _ (List.getElem_mem hlt)).2
      obtain ⟨_, e1, hg, _⟩ := ht
      obtain ⟨_, e2, hg', _⟩ := ht'
      simp only [Value.agg.injEq, Array.mk.injEq, List.cons.injEq, true_and, and_true] at e1 e2
      subst e1 e2
      have HS : Hid (∀ w1, KB wr w1 → Calls Tryz.prog 21 #[.slice o1 s.l[j].ps.length c1, .slice o2 s.l[j].ps.length c2] w1 fun e w' => e = .returned (.bool true) ∧ Below w1.heap.size w1 w') := Lib.hid fun w1 hk => rsame9_any _ _ _ w1 hth (isGs_below hk hg) (isGs_below hk hg')
      have t1 : (s.l[j].ph.toList == s.l[j].ph.toList) = true := beq_self_eq_true _
      have t2 : (s.l[j].ph.toList != s.l[j].ph.toList) = false := by simp
      have t3 : (s.l[j].ty.toList == s.l[j].ty.toList) = true := beq_self_eq_true _
      have t4 : (s.l[j].ty.toList != s.l[j].ty.toList) = false := by simp
      have HBW := Lib.hid hBw
      clear hg hg' hth hBw
      generalize s.l[j] = t at *
      go_wp2_with fail
      refine Rn.region_any (by kernel_rfl) ?_
      refine Rn.any_seg 0 41 (by kernel_rfl) rfl ?_
      simp only [List.take_succ_cons, List.take_zero, List.drop_zero]
      repeat (refine Rn.ws_one (fun KK hKK => ?_); go_simp; refine hKK _ ?_; clear hKK KK)
      refine Rn.ws_nil ?_
      intro K0 hK0
      go_simp
      refine .inl ((HS.out _ (drewB1 _ _)).mono ?_)
      rintro e w6 ⟨rfl, hb6⟩
      refine hK0 _ _ ?_
      refine Rn.any_end 42 (by kernel_rfl) ?_
      simp only [List.drop_succ_cons, List.drop_zero]
      repeat (refine Rn.ws_one (fun KK hKK => ?_); go_simp; refine hKK _ ?_; clear hKK KK)
      refine Rn.ws_nil ?_
      go_wp2_with fail
      go_roundw
      case rel => exact ⟨j + 1, by omega, by go_num, Lib.hid (hB.out.trans ((below_drew_of hb6).mono hB.out.size))⟩
      case measure => simp [intOf]; omega
    · obtain rfl : j = s.l.length := by omega
      go_wp2_with fail
      go_ret
      exact ⟨rfl, hBw⟩

/-! The law's helpers. -/
set_option maxHeartbeats 1000000 in
theorem own_any (v0 : Value) (md : Int) (w : World) (o : Option Addr) (n cap : Nat) (hv : v0 = .slice o n cap) : Calls Tryz.prog 10 #[.agg #[v0, .int .i64 md]] w fun e w' => e = .returned (.agg #[v0, .int .i64 md]) ∧ Below w.heap.size w w' := by
  subst hv
  have HB2 : Hid (KB w ((w.alloc (.cells #[.slice o n cap, .int .i64 md] 24)).alloc (.cells #[.slice o n cap, .int .i64 md] 31))) := Lib.hid (by unfold KB; go_grown)
  go_enter Tryz.func10, Tryz.ntmps10
  go_wp2_with fail
  refine bodyPost_ret (v := .agg #[.slice o n cap, .int .i64 md]) (by simp [results, Tryz.results10, go_sem]) rfl ?_
  exact ⟨rfl, HB2.out⟩
end Go.Proofs.YtdckldfekepopaaGreatDoor
