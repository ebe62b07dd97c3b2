/-
  The reference's Same, of properties and of stores that read alike. · The law's same, Great. · Plain: stores that may be; what creates, updates, deletes leave. · The law's wakes. · Acts as they read; the law's acts, Great. · What is told of a store does not lie in a box of two cells; the round of StoreOnce, plain.
-/
import Derived.Test.YtoapaflcokhohaaGreatDoorKe
import Derived.Test.YtoapaflcokhohaaGreatDoorHs
import Derived.Test.YtoapaflcokhohaaGreatDoorHr
set_option linter.unusedVariables false
namespace Go.Proofs.YtoapaflcokhohaaGreatDoor
open Go.RowKit

set_option maxRecDepth 100000 in
set_option maxHeartbeats 8000000 in
theorem rsame9_any (L : List G) (u v : Value) (w : World) (hP : fineG L) (h : isGs w L u) (h' : isGs w L v) :
    Calls Tryz.prog 21 #[u, v] w fun e w' => e = .returned (.bool true) ∧ Below w.heap.size w w' := by
  obtain ⟨a, cap, ⟨o, rfl, hc1, hc2, ho⟩, hgs⟩ := h
  obtain ⟨a', cap', ⟨o', rfl, hc1', hc2', ho'⟩, hgs'⟩ := h'
  unfold maxLen at hc2 hc2'
  have HK := Lib.hid hgs
  have HK' := Lib.hid hgs'
  have HP := Lib.hid hP.2
  have hl := hP.1
  clear hgs hgs' hP
  have z0 : ((L.length : Int) == (L.length : Int)) = true := beq_self_eq_true _
  have z1 : ((L.length : Int) != (L.length : Int)) = false := by simp
  go_enter Tryz.func21, Tryz.ntmps21
  go_wp2_with fail
  go_loopw [5] (fun i wr => ∃ (j : Nat), j ≤ L.length ∧ i = .int .i64 j ∧ Hid (Below w.heap.size w wr)) (fun i _ => L.length - (intOf i).toNat)
  case atStart => exact ⟨0, by omega, rfl, Lib.hid (Below.refl _ _)⟩
  case round =>
    obtain ⟨j, hj, rfl, hB⟩ := hrel
    by_cases hlt : j < L.length
    · obtain rfl := ho (by omega)
      obtain rfl := ho' (by omega)
      obtain ⟨k, b1, n, s, o1, m, c, o2, m2, c2, q0, q1, q2, q3, q4, q5, q6, q7, hg⟩ := isGat_eight (isGat_below hB.out (HK.out j hlt))
      obtain ⟨k', b1', n', s', o1', m', c', o2', m2', c2', p0, p1, p2, p3, p4, p5, p6, p7, hg'⟩ := isGat_eight (isGat_below hB.out (HK'.out j hlt))
      have hp := HP.out _ (List.getElem_mem hlt)
      obtain ⟨_, _, _, _, _, _, e1, hv, _⟩ := hg
      obtain ⟨_, _, _, _, _, _, e2, hv', _⟩ := hg'
      simp only [Value.agg.injEq, Array.mk.injEq, List.cons.injEq, true_and, and_true] at e1 e2
      obtain ⟨rfl, rfl, rfl, rfl, rfl, rfl⟩ := e1
      obtain ⟨rfl, rfl, rfl, rfl, rfl, rfl⟩ := e2
      have HS : Hid (∀ w1, KB wr w1 → Calls Tryz.prog 42 #[.agg #[.int .i8 k, .bool b1, .int .i64 n, .string s, .slice o1 m c, .slice o2 m2 c2], .agg #[.int .i8 k', .bool b1', .int .i64 n', .string s', .slice o1' m' c', .slice o2' m2' c2']] w1 fun e w' => e = .returned (.bool true) ∧ Below w1.heap.size w1 w') := Lib.hid fun w1 hk => by
        have := same_any 1000000 L[j].v L[j].v _ _ w1 hp.1 (isV_below hk hv) (isV_below hk hv')
        rw [sm_yes rfl] at this
        exact this
      have t1 : (L[j].nm.toList == L[j].nm.toList) = true := beq_self_eq_true _
      have t2 : (L[j].nm.toList != L[j].nm.toList) = false := by simp
      have t3 : (L[j].unk == L[j].unk) = true := beq_self_eq_true _
      have t4 : (L[j].unk != L[j].unk) = false := by simp
      clear hv hv' hp
      generalize L[j] = g at *
      go_wp2_with fail
      refine Rn.region_any (by kernel_rfl) ?_
      refine Rn.any_seg 0 35 (by kernel_rfl) rfl ?_
      simp only [List.take_succ_cons, List.take_zero, List.drop_zero]
      repeat (refine Rn.ws_one (fun KK hKK => ?_); go_simp; refine hKK _ ?_; clear hKK KK)
      refine Rn.ws_nil ?_
      intro K0 hK0
      go_simp
      refine .inl ((HS.out _ (drewB1 _ _)).mono ?_)
      rintro e w6 ⟨rfl, hb6⟩
      refine hK0 _ _ ?_
      refine Rn.any_end 36 (by kernel_rfl) ?_
      simp only [List.drop_succ_cons, List.drop_zero]
      repeat (refine Rn.ws_one (fun KK hKK => ?_); go_simp; refine hKK _ ?_; clear hKK KK)
      refine Rn.ws_nil ?_
      go_wp2_with fail
      go_roundw
      case rel => exact ⟨j + 1, by omega, by go_num, Lib.hid (hB.out.trans ((below_drew_of hb6).mono hB.out.size))⟩
      case measure => simp [intOf]; omega
    · obtain rfl : j = L.length := by omega
      go_wp2_with fail
      go_ret
      exact ⟨rfl, hB.out⟩

set_option maxRecDepth 100000 in
set_option maxHeartbeats 8000000 in
theorem rsame10_any (s : St) (u v : Value) (w : World) (hF : fineS s) (h : isS w s u) (h' : isS w s v) :
    Calls Tryz.prog 36 #[u, v] w fun e w' => e = .returned (.bool true) ∧ Below w.heap.size w w' := by
  obtain ⟨o, cap, rfl, hts, hm⟩ := isS_two h
  obtain ⟨o', cap', rfl, hts', -⟩ := isS_two h'
  have HB0 : Hid (KB w ((w.alloc (.cells #[.slice o s.l.length cap, .int .i64 s.made] 31)).alloc (.cells #[.slice o' s.l.length cap', .int .i64 s.made] 31))) := Lib.hid (by unfold KB; go_grown)
  have hn1 := (Below.heap_alloc (w.alloc (.cells #[.slice o s.l.length cap, .int .i64 s.made] 31)) (.cells #[.slice o' s.l.length cap', .int .i64 s.made] 31) w.heap.size (by simp)).trans (World.alloc_heap_new w _)
  have hn2 := World.alloc_heap_new (w.alloc (.cells #[.slice o s.l.length cap, .int .i64 s.made] 31)) (.cells #[.slice o' s.l.length cap', .int .i64 s.made] 31)
  rw [World.size_alloc] at hn2
  obtain ⟨a, c9, ⟨o9, e, hc1, hc2, ho⟩, hat⟩ := hts
  simp only [Value.slice.injEq, true_and] at e
  obtain ⟨rfl, rfl⟩ := e
  obtain ⟨a', c9, ⟨o9, e, hc1', hc2', ho'⟩, hat'⟩ := hts'
  simp only [Value.slice.injEq, true_and] at e
  obtain ⟨rfl, rfl⟩ := e
  unfold maxLen at hc2 hc2'
  have HK := Lib.hid hat
  have HK' := Lib.hid hat'
  have HF := Lib.hid hF.2
  have hl := hF.1
  have z0 : ((s.l.length : Int) == (s.l.length : Int)) = true := beq_self_eq_true _
  have z1 : ((s.l.length : Int) != (s.l.length : Int)) = false := by simp
  have z2 : (s.made == s.made) = true := beq_self_eq_true _
  have z3 : (s.made != s.made) = false := by simp
  clear h h' hat hat' hF hm
  go_enter Tryz.func36, Tryz.ntmps36
  go_wp2_with fail
  generalize hW2 : ((w.alloc (.cells #[.slice o s.l.length cap, .int .i64 s.made] 31)).alloc (.cells #[.slice o' s.l.length cap', .int .i64 s.made] 31)) = W2 at *
  clear hW2
  have HN := Lib.hid (And.intro hn1 hn2)
  clear hn1 hn2
  go_loopw [5] (fun i wr => ∃ (j : Nat), j ≤ s.l.length ∧ i = .int .i64 j ∧ Hid (Below W2.heap.size W2 wr)) (fun i _ => s.l.length - (intOf i).toNat)
  case atStart => exact ⟨0, by omega, rfl, Lib.hid (Below.refl _ _)⟩
  case round =>
    obtain ⟨j, hj, rfl, hB⟩ := hrel
    have hBw : Below w.heap.size w wr := HB0.out.trans (hB.out.mono HB0.out.size)
    obtain ⟨r0, r1⟩ := two_cells ((hB.out.block _ (Array.getElem?_eq_some_iff.1 HN.out.1).1).trans HN.out.1)
    obtain ⟨r2, r3⟩ := two_cells ((hB.out.block _ (Array.getElem?_eq_some_iff.1 HN.out.2).1).trans HN.out.2)
    by_cases hlt : j < s.l.length
    · obtain rfl := ho (by omega)
      obtain rfl := ho' (by omega)
      obtain ⟨o1, c1, q0, q1, q2, ht⟩ := isTat_three (isTat_below hBw (HK.out j hlt))
      obtain ⟨o2, c2, p0, p1, p2, ht'⟩ := isTat_three (isTat_below hBw (HK'.out j hlt))
      have hth := (HF.out _ (List.getElem_mem hlt)).2
      obtain ⟨_, e1, hg, _⟩ := ht
      obtain ⟨_, e2, hg', _⟩ := ht'
      simp only [Value.agg.injEq, Array.mk.injEq, List.cons.injEq, true_and, and_true] at e1 e2
      subst e1 e2
      have HS : Hid (∀ w1, KB wr w1 → Calls Tryz.prog 21 #[.slice o1 s.l[j].ps.length c1, .slice o2 s.l[j].ps.length c2] w1 fun e w' => e = .returned (.bool true) ∧ Below w1.heap.size w1 w') := Lib.hid fun w1 hk => rsame9_any _ _ _ w1 hth (isGs_below hk hg) (isGs_below hk hg')
      have t1 : (s.l[j].ph.toList == s.l[j].ph.toList) = true := beq_self_eq_true _
      have t2 : (s.l[j].ph.toList != s.l[j].ph.toList) = false := by simp
      have t3 : (s.l[j].ty.toList == s.l[j].ty.toList) = true := beq_self_eq_true _
      have t4 : (s.l[j].ty.toList != s.l[j].ty.toList) = false := by simp
      have HBW := Lib.hid hBw
      clear hg hg' hth hBw
      generalize s.l[j] = t at *
      go_wp2_with fail
      refine Rn.region_any (by kernel_rfl) ?_
      refine Rn.any_seg 0 41 (by kernel_rfl) rfl ?_
      simp only [List.take_succ_cons, List.take_zero, List.drop_zero]
      repeat (refine Rn.ws_one (fun KK hKK => ?_); go_simp; refine hKK _ ?_; clear hKK KK)
      refine Rn.ws_nil ?_
      intro K0 hK0
      go_simp
      refine .inl ((HS.out _ (drewB1 _ _)).mono ?_)
      rintro e w6 ⟨rfl, hb6⟩
      refine hK0 _ _ ?_
      refine Rn.any_end 42 (by kernel_rfl) ?_
      simp only [List.drop_succ_cons, List.drop_zero]
      repeat (refine Rn.ws_one (fun KK hKK => ?_); go_simp; refine hKK _ ?_; clear hKK KK)
      refine Rn.ws_nil ?_
      go_wp2_with fail
      go_roundw
      case rel => exact ⟨j + 1, by omega, by go_num, Lib.hid (hB.out.trans ((below_drew_of hb6).mono hB.out.size))⟩
      case measure => simp [intOf]; omega
    · obtain rfl : j = s.l.length := by omega
      go_wp2_with fail
      go_ret
      exact ⟨rfl, hBw⟩

/-! The law's helpers. -/
set_option maxHeartbeats 1000000 in
theorem own_any (v0 : Value) (md : Int) (w : World) (o : Option Addr) (n cap : Nat) (hv : v0 = .slice o n cap) : Calls Tryz.prog 10 #[.agg #[v0, .int .i64 md]] w fun e w' => e = .returned (.agg #[v0, .int .i64 md]) ∧ Below w.heap.size w w' := by
  subst hv
  have HB2 : Hid (KB w ((w.alloc (.cells #[.slice o n cap, .int .i64 md] 24)).alloc (.cells #[.slice o n cap, .int .i64 md] 31))) := Lib.hid (by unfold KB; go_grown)
  go_enter Tryz.func10, Tryz.ntmps10
  go_wp2_with fail
  refine bodyPost_ret (v := .agg #[.slice o n cap, .int .i64 md]) (by simp [results, Tryz.results10, go_sem]) rfl ?_
  exact ⟨rfl, HB2.out⟩
end Go.Proofs.YtoapaflcokhohaaGreatDoor

set_option linter.unusedVariables false
namespace Go.Proofs.YtoapaflcokhohaaGreatDoor
open Go.RowKit

set_option maxRecDepth 100000 in
set_option maxHeartbeats 4000000 in
theorem lsame_any (s : St) (u v : Value) (w : World) (hF : fineS s) (h : isS w s u) (h' : isS w s v) :
    Calls Tryz.prog 15 #[u, v] w fun e w' => e = .returned (.bool true) ∧ Below w.heap.size w w' := by
  have HS : Hid (∀ w1, KB w w1 → Calls Tryz.prog 36 #[u, v] w1 fun e w' => e = .returned (.bool true) ∧ Below w1.heap.size w1 w') := Lib.hid fun w1 hk => rsame10_any s u v w1 hF (isS_below hk h) (isS_below hk h')
  obtain ⟨o, cap, rfl, -, -⟩ := isS_two h
  obtain ⟨o', cap', rfl, -, -⟩ := isS_two h'
  have HO : Hid (∀ w1, Calls Tryz.prog 10 #[.agg #[.slice o s.l.length cap, .int .i64 s.made]] w1 fun e w' => e = .returned (.agg #[.slice o s.l.length cap, .int .i64 s.made]) ∧ Below w1.heap.size w1 w') := Lib.hid fun w1 => own_any _ _ w1 _ _ _ rfl
  have HB0 : Hid (KB w ((w.alloc (.cells #[.slice o s.l.length cap, .int .i64 s.made] 24)).alloc (.cells #[.slice o' s.l.length cap', .int .i64 s.made] 31))) := Lib.hid (by unfold KB; go_grown)
  have hn1 := (Below.heap_alloc (w.alloc (.cells #[.slice o s.l.length cap, .int .i64 s.made] 24)) (.cells #[.slice o' s.l.length cap', .int .i64 s.made] 31) w.heap.size (by simp)).trans (World.alloc_heap_new w _)
  have hn2 := World.alloc_heap_new (w.alloc (.cells #[.slice o s.l.length cap, .int .i64 s.made] 24)) (.cells #[.slice o' s.l.length cap', .int .i64 s.made] 31)
  rw [World.size_alloc] at hn2
  clear h h' hF
  go_enter Tryz.func15, Tryz.ntmps15
  go_wp2_with fail
  generalize hW2 : ((w.alloc (.cells #[.slice o s.l.length cap, .int .i64 s.made] 24)).alloc (.cells #[.slice o' s.l.length cap', .int .i64 s.made] 31)) = W2 at *
  clear hW2
  obtain ⟨r0, r1⟩ := two_cells hn1
  obtain ⟨r2, r3⟩ := two_cells hn2
  go_region_with (first
    | (go_at_call 10; refine (HO.out _).mono ?_; rintro e w5 ⟨rfl, hb5⟩; have r2 := cell_below (below_drew_of hb5) _ _ r2; have r3 := cell_below (below_drew_of hb5) _ _ r3)
    | (go_at_call 36; refine (HS.out _ (HB0.out.trans ((below_drew_of hb5).mono HB0.out.size))).mono ?_; rintro e w6 ⟨rfl, hb6⟩))
  all_goals
    have HX := Lib.hid (HB0.out.trans (((below_drew_of hb5).trans (hb6.mono (below_drew_of hb5).size)).mono HB0.out.size))
    clear hb5 hb6
    go_wp2_with fail
    go_ret
    exact ⟨rfl, HX.out⟩

def badT (t : Th) : Bool := greatG t.ps || (decide (200 < t.ty.size) || decide (200 < t.ph.size))
def greatS (s : St) : Bool := (s.l.take 41).any badT || decide (40 < s.l.length)
theorem greatS_no {s : St} (h : greatS s = false) : s.l.length ≤ 40 ∧ ∀ t ∈ s.l, greatG t.ps = false ∧ t.ty.size ≤ 200 ∧ t.ph.size ≤ 200 := by
  unfold greatS at h
  rw [Bool.or_eq_false_iff] at h
  have h2 := of_decide_eq_false h.2
  refine ⟨by omega, fun t ht => ?_⟩
  rw [List.take_of_length_le (by omega)] at h
  have h3 := List.any_eq_false.1 h.1 t ht
  have h4 : badT t = false := by simpa using h3
  unfold badT at h4
  rw [Bool.or_eq_false_iff, Bool.or_eq_false_iff] at h4
  have := of_decide_eq_false h4.2.1
  have := of_decide_eq_false h4.2.2
  exact ⟨h4.1, by omega, by omega⟩
theorem fineG_of {L : List G} (h : greatG L = false) : fineG L := ⟨by have := (greatG_no h).1; omega, fun g hg => ⟨((greatG_no h).2 g hg).2.1, ((greatG_no h).2 g hg).2.2⟩⟩
theorem fineS_of {s : St} (h : greatS s = false) : fineS s := ⟨by have := (greatS_no h).1; omega, fun t ht => ⟨by have := ((greatS_no h).2 t ht).2.1; omega, fineG_of ((greatS_no h).2 t ht).1⟩⟩

set_option maxRecDepth 100000 in
set_option maxHeartbeats 8000000 in
theorem great10_any (s : St) (v : Value) (w : World) (h : isS w s v) :
    Calls Tryz.prog 23 #[v] w fun e w' => e = .returned (.bool (greatS s)) ∧ Below w.heap.size w w' := by
  obtain ⟨o, cap, rfl, ⟨a, c9, ⟨o9, e, hc1, hc2, ho⟩, hat⟩, hm⟩ := isS_two h
  simp only [Value.slice.injEq, true_and] at e
  obtain ⟨rfl, rfl⟩ := e
  unfold maxLen at hc2
  have HK := Lib.hid hat
  have HB0 : Hid (KB w (w.alloc (.cells #[.slice o s.l.length cap, .int .i64 s.made] 31))) := Lib.hid kbA
  have hn1 := World.alloc_heap_new w (.cells #[.slice o s.l.length cap, .int .i64 s.made] 31)
  obtain ⟨r, hr⟩ : ∃ r, greatS s = r := ⟨_, rfl⟩
  rw [hr]
  have HR := Lib.hid hr
  clear h hat hr
  go_enter Tryz.func23, Tryz.ntmps23
  go_wp2_with fail
  generalize hW2 : (w.alloc (.cells #[.slice o s.l.length cap, .int .i64 s.made] 31)) = W2 at *
  clear hW2
  have HN := Lib.hid hn1
  clear hn1
  go_loopw [3] (fun i wr => ∃ (j : Nat), j ≤ s.l.length ∧ j ≤ 41 ∧ i = .int .i64 j ∧ Hid ((s.l.take j).any badT = false) ∧ Hid (Below W2.heap.size W2 wr)) (fun i _ => s.l.length - (intOf i).toNat)
  case atStart => exact ⟨0, by omega, by omega, rfl, Lib.hid rfl, Lib.hid (Below.refl _ _)⟩
  case round =>
    obtain ⟨j, hj, hj41, rfl, hA, hB⟩ := hrel
    have hBw : Below w.heap.size w wr := HB0.out.trans (hB.out.mono HB0.out.size)
    obtain ⟨r0, r1⟩ := two_cells ((hB.out.block _ (Array.getElem?_eq_some_iff.1 HN.out).1).trans HN.out)
    by_cases hlt : j < s.l.length
    · by_cases h40 : j ≤ 40
      · have y1 : decide ((j : Int) ≤ 40) = true := decide_eq_true (by omega)
        obtain rfl := ho (by omega)
        obtain ⟨o1, c1, q0, q1, q2, ht⟩ := isTat_three (isTat_below hBw (HK.out j hlt))
        obtain ⟨_, e1, hg, hp1, hp2⟩ := ht
        simp only [Value.agg.injEq, Array.mk.injEq, List.cons.injEq, true_and, and_true] at e1
        subst e1
        have HG := Lib.hid (great9_any s.l[j].ps _ wr hg)
        have hst : (s.l.take (j + 1)).any badT = badT s.l[j] := by
          rw [List.take_succ_eq_append_getElem hlt, List.any_append, hA.out]
          simp
        have hup : badT s.l[j] = true → r = true := fun h => by
          rw [← HR.out]
          unfold greatS
          rw [Bool.or_eq_true, List.any_eq_true]
          exact .inl ⟨s.l[j], List.mem_take_iff_getElem.2 ⟨j, by omega, rfl⟩, h⟩
        have HBW := Lib.hid hBw
        clear hg hBw
        by_cases hb1 : greatG s.l[j].ps = true
        · have HR2 := Lib.hid (hup (by unfold badT; rw [hb1]; rfl))
          rw [hb1] at HG
          clear hup hst hb1
          generalize s.l[j] = t at *
          go_wp2_with (go_at_call 24; refine HG.out.mono ?_; rintro e w5 ⟨rfl, hb5⟩)
          go_ret
          exact ⟨ret_bool HR2.out.symm, HBW.out.trans (hb5.mono HBW.out.size)⟩
        · have hb1' : greatG s.l[j].ps = false := by simpa using hb1
          rw [hb1'] at HG
          have HR0 := Lib.hid (And.intro (cell_below (W' := wr) (Below.refl _ _) _ _ r0) (And.intro q0 q1))
          by_cases hb2 : 200 < s.l[j].ty.size
          · have HR2 := Lib.hid (hup (by unfold badT; rw [decide_eq_true hb2, Bool.true_or, Bool.or_true]))
            have y2 : decide ((200 : Int) < (s.l[j].ty.size : Int)) = true := decide_eq_true (by omega)
            clear hup hst hb1 hb1' hb2
            generalize s.l[j] = t at *
            go_wp2_with (go_at_call 24; refine HG.out.mono ?_; rintro e w5 ⟨rfl, hb5⟩; have r0 := cell_below hb5 _ _ r0; have q0 := cell_below hb5 _ _ q0; have q1 := cell_below hb5 _ _ q1)
            go_ret
            exact ⟨ret_bool HR2.out.symm, HBW.out.trans (hb5.mono HBW.out.size)⟩
          · have y2 : decide ((200 : Int) < (s.l[j].ty.size : Int)) = false := decide_eq_false (by omega)
            by_cases hb3 : 200 < s.l[j].ph.size
            · have HR2 := Lib.hid (hup (by unfold badT; rw [decide_eq_true hb3, Bool.or_true, Bool.or_true]))
              have y3 : decide ((200 : Int) < (s.l[j].ph.size : Int)) = true := decide_eq_true (by omega)
              clear hup hst hb1 hb1' hb2 hb3
              generalize s.l[j] = t at *
              go_wp2_with (go_at_call 24; refine HG.out.mono ?_; rintro e w5 ⟨rfl, hb5⟩; have r0 := cell_below hb5 _ _ r0; have q0 := cell_below hb5 _ _ q0; have q1 := cell_below hb5 _ _ q1)
              go_ret
              exact ⟨ret_bool HR2.out.symm, HBW.out.trans (hb5.mono HBW.out.size)⟩
            · have y3 : decide ((200 : Int) < (s.l[j].ph.size : Int)) = false := decide_eq_false (by omega)
              have HA2 : Hid ((s.l.take (j + 1)).any badT = false) := Lib.hid (by rw [hst]; unfold badT; rw [hb1', decide_eq_false hb2, decide_eq_false hb3]; rfl)
              clear hup hst hb1 hb1' hb2 hb3
              generalize s.l[j] = t at *
              go_wp2_with (go_at_call 24; refine HG.out.mono ?_; rintro e w5 ⟨rfl, hb5⟩; have r0 := cell_below hb5 _ _ r0; have q0 := cell_below hb5 _ _ q0; have q1 := cell_below hb5 _ _ q1)
              go_roundw
              case rel => exact ⟨j + 1, by omega, by omega, by go_num, HA2, Lib.hid (hB.out.trans (hb5.mono hB.out.size))⟩
              case measure => simp [intOf]; omega
      · obtain rfl : j = 41 := by omega
        have y1 : decide (((41 : Nat) : Int) ≤ 40) = false := by decide
        have y2 : decide ((40 : Int) < (s.l.length : Int)) = true := decide_eq_true (by omega)
        have HRES : Hid (r = true) := Lib.hid (by
          rw [← HR.out]
          unfold greatS
          rw [decide_eq_true (show 40 < s.l.length by omega), Bool.or_true])
        clear h40
        go_wp2_with fail
        go_ret
        exact ⟨ret_bool HRES.out.symm, hBw⟩
    · obtain rfl : j = s.l.length := by omega
      have HRES : Hid (r = decide ((40 : Int) < (s.l.length : Int))) := Lib.hid (by
        have := hA.out
        rw [List.take_of_length_le (Nat.le_refl _)] at this
        rw [← HR.out]
        unfold greatS
        rw [List.take_of_length_le (by omega), this, Bool.false_or]
        exact decide_eq_decide.2 (by omega))
      go_wp2_with fail
      go_ret
      exact ⟨ret_bool HRES.out.symm, hBw⟩
end Go.Proofs.YtoapaflcokhohaaGreatDoor

set_option linter.unusedVariables false
namespace Go.Proofs.YtoapaflcokhohaaGreatDoor
open Go.RowKit

def Nt (t : Th) : Int := (numL t.ph).1
def okTh (made : Int) (t : Th) : Prop := (numL t.ph).2 = true ∧ Nt t ≤ made ∧ wrongL t.ty t.ps = 0
def okS (s : St) : Prop := (0 ≤ s.made ∧ s.made ≤ 1099511627776) ∧ (∀ t ∈ s.l, okTh s.made t) ∧ s.l.Pairwise (fun a b => Nt a < Nt b)
theorem num_true {s : ByteArray} (h : (numL s).2 = true) : s = physS (numL s).1 ∧ 1 ≤ (numL s).1 := by
  have e : numL s = ((numL s).1, true) := by rw [← h]
  obtain ⟨h1, h2, _⟩ := num_form e
  exact ⟨h1, h2⟩
theorem okS_iff (s : St) : checkS s = 0 ↔ okS s := by
  rw [checkS_ok]
  constructor
  · rintro ⟨h1, h2, h3⟩
    have hst : ∀ i (hi : i < s.l.length), (numL s.l[i].ph).2 = true ∧ lastN s.l i < Nt s.l[i] ∧ Nt s.l[i] ≤ s.made ∧ wrongL s.l[i].ty s.l[i].ps = 0 := fun i hi => by
      have := h3 i hi
      unfold stepT at this
      rw [getD_t hi] at this
      simp only [Bool.and_eq_true, decide_eq_true_eq] at this
      exact ⟨this.1, this.2.1, this.2.2.1, this.2.2.2⟩
    refine ⟨⟨h1, h2⟩, fun t ht => ?_, ?_⟩
    · obtain ⟨i, hi, rfl⟩ := List.getElem_of_mem ht
      obtain ⟨q1, _, q3, q4⟩ := hst i hi
      exact ⟨q1, q3, q4⟩
    · rw [List.pairwise_iff_getElem]
      have step : ∀ d i (hi : i + d + 1 < s.l.length), Nt (s.l[i]'(by omega)) < Nt (s.l[i + d + 1]'hi) := by
        intro d
        induction d with
        | zero =>
          intro i hi
          have := (hst (i + 1) hi).2.1
          have e : lastN s.l (i + 1) = Nt (s.l[i]'(by omega)) := by
            show (numL (s.l.getD i zTh).ph).1 = _
            rw [getD_t (by omega)]; rfl
          rw [e] at this
          exact this
        | succ d ih =>
          intro i hi
          have h4 := ih i (by omega)
          have := (hst (i + d + 1 + 1) (by omega)).2.1
          have e : lastN s.l (i + d + 1 + 1) = Nt (s.l[i + d + 1]'(by omega)) := by
            show (numL (s.l.getD (i + d + 1) zTh).ph).1 = _
            rw [getD_t (by omega)]; rfl
          rw [e] at this
          exact Int.lt_trans h4 this
      intro i j hi hj hij
      obtain ⟨d, rfl⟩ : ∃ d, j = i + d + 1 := ⟨j - i - 1, by omega⟩
      exact step d i hj
  · rintro ⟨⟨h1, h2⟩, h3, h4⟩
    refine ⟨h1, h2, fun i hi => ?_⟩
    obtain ⟨q1, q2, q3⟩ := h3 _ (List.getElem_mem hi)
    unfold stepT
    rw [getD_t hi]
    simp only [Bool.and_eq_true, decide_eq_true_eq]
    refine ⟨q1, ?_, q2, q3⟩
    rcases i with _ | i
    · have := (num_true q1).2
      show (0 : Int) < _
      omega
    · show (numL (s.l.getD i zTh).ph).1 < _
      rw [getD_t (by omega)]
      exact (List.pairwise_iff_getElem.1 h4) i (i + 1) (by omega) hi (by omega)
theorem okS_uniq {s : St} (h : okS s) {i j : Nat} (hi : i < s.l.length) (hj : j < s.l.length) (e : s.l[i].ph = s.l[j].ph) : i = j := by
  have hp := List.pairwise_iff_getElem.1 h.2.2
  have en : Nt s.l[i] = Nt s.l[j] := by unfold Nt; rw [e]
  rcases Nat.lt_trichotomy i j with hl | hl | hl
  · have := hp i j hi hj hl; omega
  · exact hl
  · have := hp j i hj hi hl; omega
theorem idx_at {s : St} (h : okS s) {i : Nat} (hi : i < s.l.length) : idxT s.l s.l[i].ph = some i :=
  idxT_some hi rfl (fun k hk e => by have := okS_uniq h (by omega) hi e; omega)
theorem get_mem {s : St} (h : okS s) {t : Th} (ht : t ∈ s.l) : getT s t.ph = (t, true) := by
  obtain ⟨i, hi, rfl⟩ := List.getElem_of_mem ht
  unfold getT
  rw [idx_at h hi]
  show (s.l.getD i zTh, true) = _
  rw [getD_t hi]
theorem get_none {s : St} {p : ByteArray} (h : ∀ t ∈ s.l, t.ph ≠ p) : getT s p = (zTh, false) := by
  unfold getT
  rw [idxT_none (fun i hi => h _ (List.getElem_mem hi))]

/-! Create. -/
theorem create_ok {s : St} {K : ByteArray} {ps : List G} (h : (createL s K ps).2.2 = 0) :
    okS s ∧ wrongL K ps = 0 ∧ s.made < 1099511627776 ∧ createL s K ps = (⟨s.l ++ [⟨physS (s.made + 1), K, ps⟩], s.made + 1⟩, physS (s.made + 1), 0) ∧ okS ⟨s.l ++ [⟨physS (s.made + 1), K, ps⟩], s.made + 1⟩ := by
  unfold createL at h ⊢
  by_cases hC : checkS s = 0
  · rw [if_pos hC] at h ⊢
    by_cases hX : wrongL K ps = 0
    · rw [if_pos hX] at h ⊢
      by_cases hM : s.made = 1099511627776
      · rw [if_pos hM] at h
        exact absurd h (by decide)
      · rw [if_neg hM] at h ⊢
        have hs := (okS_iff s).1 hC
        have hn : numL (physS (s.made + 1)) = (s.made + 1, true) := num_phys (by have := hs.1.1; omega) (by have := hs.1.2; omega)
        refine ⟨hs, hX, by have := hs.1.2; omega, rfl, ⟨by have := hs.1.1; show 0 ≤ s.made + 1; omega, by have := hs.1.2; show s.made + 1 ≤ _; omega⟩, fun t ht => ?_, ?_⟩
        · rcases List.mem_append.1 ht with ht | ht
          · obtain ⟨q1, q2, q3⟩ := hs.2.1 t ht
            exact ⟨q1, by show Nt t ≤ s.made + 1; omega, q3⟩
          · rw [List.mem_singleton.1 ht]
            exact ⟨by show (numL (physS (s.made + 1))).2 = true; rw [hn], by show (numL (physS (s.made + 1))).1 ≤ s.made + 1; rw [hn]; exact Int.le_refl _, hX⟩
        · show (s.l ++ [_]).Pairwise _
          rw [List.pairwise_append]
          refine ⟨hs.2.2, List.pairwise_singleton _ _, fun a ha b hb => ?_⟩
          rw [List.mem_singleton.1 hb]
          show Nt a < (numL (physS (s.made + 1))).1
          rw [hn]
          have := (hs.2.1 a ha).2.1
          show Nt a < s.made + 1
          omega
    · rw [if_neg hX] at h
      exact absurd h hX
  · rw [if_neg hC] at h
    exact absurd h hC
/-! Delete. -/
theorem delete_ok {s : St} {p : ByteArray} (h : (deleteL s p).2 = 0) : okS s ∧ ∃ j, idxT s.l p = some j ∧ ∃ hj : j < s.l.length, s.l[j].ph = p ∧ deleteL s p = (⟨s.l.take j ++ s.l.drop (j + 1), s.made⟩, 0) ∧ okS ⟨s.l.take j ++ s.l.drop (j + 1), s.made⟩ ∧ (∀ t ∈ s.l.take j ++ s.l.drop (j + 1), t.ph ≠ p) ∧ (∀ t ∈ s.l, t.ph ≠ p → t ∈ s.l.take j ++ s.l.drop (j + 1)) := by
  unfold deleteL at h ⊢
  by_cases hC : checkS s = 0
  · rw [if_pos hC] at h ⊢
    have hs := (okS_iff s).1 hC
    cases hI : idxT s.l p with
    | none =>
      rw [hI] at h
      exact absurd (show (4 : Int) = 0 from h) (by decide)
    | some j =>
      obtain ⟨hj, hp, _⟩ := idxT_at hI
      have hsub : (s.l.take j ++ s.l.drop (j + 1)).Sublist s.l := by
        have h1 : s.l = s.l.take j ++ s.l.drop j := (List.take_append_drop j s.l).symm
        have h2 : (s.l.drop (j + 1)).Sublist (s.l.drop j) := by
          rw [← List.drop_drop]
          exact List.drop_sublist _ _
        have h3 := List.Sublist.append (List.Sublist.refl (s.l.take j)) h2
        rw [List.take_append_drop] at h3
        exact h3
      have hmem : ∀ t ∈ s.l.take j ++ s.l.drop (j + 1), ∃ i, ∃ hi : i < s.l.length, s.l[i] = t ∧ i ≠ j := fun t ht => by
        rcases List.mem_append.1 ht with ht | ht
        · obtain ⟨i, hi, rfl⟩ := List.mem_take_iff_getElem.1 ht
          exact ⟨i, by omega, rfl, by omega⟩
        · obtain ⟨i, hi, rfl⟩ := List.getElem_of_mem ht
          rw [List.length_drop] at hi
          exact ⟨j + 1 + i, by omega, by rw [List.getElem_drop], by omega⟩
      refine ⟨hs, j, rfl, hj, hp, rfl, ⟨hs.1, fun t ht => hs.2.1 t (hsub.mem ht), hs.2.2.sublist hsub⟩, fun t ht e => ?_, fun t ht hne => ?_⟩
      · obtain ⟨i, hi, rfl, hij⟩ := hmem t ht
        exact hij (okS_uniq hs hi hj (by rw [e, hp]))
      · obtain ⟨i, hi, rfl⟩ := List.getElem_of_mem ht
        have hij : i ≠ j := fun e => by subst e; exact hne hp
        rw [List.mem_append]
        rcases Nat.lt_or_gt_of_ne hij with hl | hl
        · exact .inl (List.mem_take_iff_getElem.2 ⟨i, by omega, rfl⟩)
        · refine .inr ?_
          have : s.l[i] = (s.l.drop (j + 1))[i - (j + 1)]'(by rw [List.length_drop]; omega) := by
            rw [List.getElem_drop]
            congr 1
            omega
          rw [this]
          exact List.getElem_mem _
  · rw [if_neg hC] at h
    exact absurd h hC
/-! Update. -/
theorem set_ok {s : St} (hs : okS s) {j : Nat} (hj : j < s.l.length) {ps : List G} (hX : wrongL s.l[j].ty ps = 0) : okS ⟨s.l.set j ⟨s.l[j].ph, s.l[j].ty, ps⟩, s.made⟩ := by
  refine ⟨hs.1, fun t ht => ?_, ?_⟩
  · rcases List.mem_or_eq_of_mem_set ht with ht | rfl
    · exact hs.2.1 t ht
    · obtain ⟨q1, q2, _⟩ := hs.2.1 _ (List.getElem_mem hj)
      exact ⟨q1, q2, hX⟩
  · rw [List.pairwise_iff_getElem]
    have hp := List.pairwise_iff_getElem.1 hs.2.2
    have hN : ∀ k (hk : k < (s.l.set j ⟨s.l[j].ph, s.l[j].ty, ps⟩).length), Nt (s.l.set j ⟨s.l[j].ph, s.l[j].ty, ps⟩)[k] = Nt (s.l[k]'(by simpa using hk)) := fun k hk => by
      rw [List.getElem_set]
      split
      · rename_i e; subst e; rfl
      · rfl
    intro a b ha hb hab
    rw [hN, hN]
    exact hp a b (by simpa using ha) (by simpa using hb) hab
theorem update_ok {s : St} {p : ByteArray} {ps : List G} (h : (updateL s p ps).2 = 0) : okS s ∧ ∃ j, idxT s.l p = some j ∧ ∃ hj : j < s.l.length, s.l[j].ph = p ∧ wrongL s.l[j].ty ps = 0 ∧ (differL s.l[j].ty s.l[j].ps ps).2 = 0 ∧ (differL s.l[j].ty s.l[j].ps ps).1 ≠ 3 ∧
    updateL s p ps = (⟨s.l.set j ⟨s.l[j].ph, s.l[j].ty, ps⟩, s.made⟩, 0) ∧ okS ⟨s.l.set j ⟨s.l[j].ph, s.l[j].ty, ps⟩, s.made⟩ := by
  unfold updateL at h ⊢
  by_cases hC : checkS s = 0
  · rw [if_pos hC] at h ⊢
    have hs := (okS_iff s).1 hC
    cases hI : idxT s.l p with
    | none =>
      rw [hI] at h
      exact absurd (show (4 : Int) = 0 from h) (by decide)
    | some j =>
      obtain ⟨hj, hp, _⟩ := idxT_at hI
      rw [hI] at h
      dsimp only at h ⊢
      rw [getD_t hj] at h ⊢
      by_cases hX : wrongL s.l[j].ty ps = 0
      · rw [if_pos hX] at h ⊢
        by_cases h2 : (differL s.l[j].ty s.l[j].ps ps).2 = 0
        · rw [if_pos h2] at h ⊢
          by_cases h1 : (differL s.l[j].ty s.l[j].ps ps).1 = 3
          · rw [if_pos h1] at h; exact absurd h (by decide)
          · rw [if_neg h1]
            exact ⟨hs, j, rfl, hj, hp, hX, h2, h1, rfl, set_ok hs hj hX⟩
        · rw [if_neg h2] at h; exact absurd h (by decide)
      · rw [if_neg hX] at h; exact absurd h hX
  · rw [if_neg hC] at h
    exact absurd h hC
theorem wrong_zero {K : ByteArray} {L : List G} (h : wrongL K L = 0) : checkL K L = 0 ∧ L.any (·.unk) = false := by
  unfold wrongL at h
  split at h
  · rename_i hc
    refine ⟨hc, ?_⟩
    cases hu : L.any (·.unk) with
    | false => rfl
    | true => rw [hu] at h; exact absurd h (by decide)
  · rename_i hc; exact absurd h hc
/-- What turns into b by a change in place turns back by one. -/
theorem differ_back {K : ByteArray} {A B : List G} (hA : wrongL K A = 0) (hB : wrongL K B = 0) (h1 : (differL K A B).1 ≠ 3) : (differL K B A).2 = 0 ∧ (differL K B A).1 ≠ 3 := by
  obtain ⟨a1, a2⟩ := wrong_zero hA
  obtain ⟨b1, b2⟩ := wrong_zero hB
  have e1 : differL K A B = (chg K A B, 0) := by
    unfold differL
    rw [if_neg (by rw [a1]; simp), if_neg (by rw [b1]; simp), a2]; rfl
  have e2 : differL K B A = (chg K B A, 0) := by
    unfold differL
    rw [if_neg (by rw [b1]; simp), if_neg (by rw [a1]; simp), b2]; rfl
  rw [e2]
  rw [e1] at h1
  exact ⟨rfl, by rw [chg_sym a1 b1 a2 b2]; exact h1⟩
end Go.Proofs.YtoapaflcokhohaaGreatDoor

set_option linter.unusedVariables false
namespace Go.Proofs.YtoapaflcokhohaaGreatDoor
open Go.RowKit

theorem phys1 : physS 1 = ⟨#[112, 49]⟩ := by
  unfold physS
  have h : Nu.txt 1 = [49] := by
    rw [Nu.txt_pos (Nu.fitB_iff.2 ⟨by omega, by omega⟩) (by omega)]
    show Nu.digs 1 = _
    rw [Nu.digs_lt (by omega)]
    rfl
  rw [h]
theorem phys2 : physS 2 = ⟨#[112, 50]⟩ := by
  unfold physS
  have h : Nu.txt 2 = [50] := by
    rw [Nu.txt_pos (Nu.fitB_iff.2 ⟨by omega, by omega⟩) (by omega)]
    show Nu.digs 2 = _
    rw [Nu.digs_lt (by omega)]
    rfl
  rw [h]
def tw1 : Th := ⟨⟨#[112, 49]⟩, sDisk, [g1]⟩
def tw2 : Th := ⟨⟨#[112, 50]⟩, sNet, []⟩
theorem wrong_w1 : wrongL sDisk [g1] = 0 := by
  have h : checkL sDisk [g1] = 0 := check_one 1 (by omega)
  unfold wrongL
  rw [if_pos h]
  rfl
theorem wrong_w2 : wrongL sNet [] = 0 := by
  have h : checkL sNet [] = 0 := by
    unfold checkL
    rw [if_pos (by decide), if_pos (by rfl)]
  unfold wrongL
  rw [if_pos h]
  rfl
theorem ok_zS : okS zS := by
  refine ⟨⟨by decide, by decide⟩, fun t ht => ?_, List.Pairwise.nil⟩
  exact absurd (show t ∈ ([] : List Th) from ht) List.not_mem_nil
theorem ok_z1 : okS ⟨[], 1⟩ := by
  refine ⟨⟨by decide, by decide⟩, fun t ht => ?_, List.Pairwise.nil⟩
  exact absurd (show t ∈ ([] : List Th) from ht) List.not_mem_nil
theorem wake_c1 : createL zS sDisk [g1] = (⟨[tw1], 1⟩, ⟨#[112, 49]⟩, 0) := by
  unfold createL
  rw [if_pos ((okS_iff _).2 ok_zS), if_pos wrong_w1, if_neg (by decide)]
  show ((⟨[⟨physS 1, sDisk, [g1]⟩], 1⟩, physS 1, 0) : St × ByteArray × Int) = _
  rw [phys1]; rfl
theorem ok_w1 : okS ⟨[tw1], 1⟩ := by
  have h : (createL zS sDisk [g1]).2.2 = 0 := by rw [wake_c1]
  have := (create_ok h).2.2.2.2
  have e : physS (zS.made + 1) = ⟨#[112, 49]⟩ := phys1
  rw [e] at this
  exact this
theorem wake_d1 : deleteL ⟨[tw1], 1⟩ ⟨#[112, 49]⟩ = (⟨[], 1⟩, 0) := by
  unfold deleteL
  have h : idxT [tw1] ⟨#[112, 49]⟩ = some 0 := idx_at ok_w1 (i := 0) (by simp)
  rw [if_pos ((okS_iff _).2 ok_w1), h]; rfl
theorem wake_c2 : createL ⟨[], 1⟩ sNet [] = (⟨[tw2], 2⟩, ⟨#[112, 50]⟩, 0) := by
  unfold createL
  rw [if_pos ((okS_iff _).2 ok_z1), if_pos wrong_w2, if_neg (by decide)]
  show ((⟨[⟨physS 2, sNet, []⟩], 2⟩, physS 2, 0) : St × ByteArray × Int) = _
  rw [phys2]; rfl
theorem fine_z : fineS zS := ⟨by decide, fun t ht => by cases ht⟩
theorem fine_z1 : fineS ⟨[], 1⟩ := ⟨by decide, fun t ht => by cases ht⟩
theorem fine_g1 : fineG [g1] := ⟨by decide, fun g hg => by rw [List.mem_singleton.1 hg]; exact fine_n 1⟩
theorem fine_w1 : fineS ⟨[tw1], 1⟩ := ⟨by decide, fun t ht => by rw [List.mem_singleton.1 ht]; exact ⟨by decide, fine_g1⟩⟩
theorem isGs_none (W : World) : isGs W [] (.slice none 0 0) := ⟨⟨0, 0, none⟩, 0, ⟨none, rfl, Nat.le_refl _, by unfold maxLen; omega, fun h => absurd h (by decide)⟩, fun i h => absurd h (by simp)⟩

set_option maxRecDepth 100000 in
set_option maxHeartbeats 8000000 in
theorem wakes10_any (w : World) (hE : Env9 w) : Calls Tryz.prog 7 #[] w fun e w' => e = .returned (.bool true) ∧ Below w.heap.size w w' := by
  have HB1 : KB w (w.alloc (.cells #[.string ⟨#[83, 105, 122, 101]⟩, .bool false, .int .i8 2, .bool false, .int .i64 1, .string ⟨#[]⟩, .slice none 0 0, .slice none 0 0] 66)) := kbA
  have hn := World.alloc_heap_new w (.cells #[.string ⟨#[83, 105, 122, 101]⟩, .bool false, .int .i8 2, .bool false, .int .i64 1, .string ⟨#[]⟩, .slice none 0 0, .slice none 0 0] 66)
  have hg : isGs (w.alloc (.cells #[.string ⟨#[83, 105, 122, 101]⟩, .bool false, .int .i8 2, .bool false, .int .i64 1, .string ⟨#[]⟩, .slice none 0 0, .slice none 0 0] 66)) [g1] (.slice (some ⟨w.heap.size, 0, none⟩) 1 1) := isGs_one 1 (by omega) hn
  have C1 := Create_any zS sDisk [g1] _ _ _ (hE.kb HB1) fine_z (by decide) fine_g1 (isS_zero _) hg
  rw [wake_c1] at C1
  have C1 := Lib.hid C1
  have HE := Lib.hid hE
  clear hE hn hg
  go_enter Tryz.func7, Tryz.ntmps7
  go_wp2_with fail
  refine C1.out.mono ?_
  rintro e1 w1 ⟨⟨v1, rfl, hs1⟩, hb1⟩
  have H1 : KB w w1 := HB1.trans (hb1.mono HB1.size)
  clear C1 hb1 HB1
  obtain ⟨o1, c1, rfl, -, -⟩ := isS_two hs1
  change isS w1 ⟨[tw1], 1⟩ (.agg #[.slice o1 1 c1, .int .i64 1]) at hs1
  have HD : Hid (∀ w2, KB w1 w2 → Calls Tryz.prog 13 #[.agg #[.slice o1 1 c1, .int .i64 1], .string ⟨#[112, 49]⟩] w2 fun e w' => (∃ v', e = .returned (.tuple #[v', .int .i64 0]) ∧ isS w' ⟨[], 1⟩ v') ∧ Below w2.heap.size w2 w') := Lib.hid fun w2 hk => by
    have := Delete_any ⟨[tw1], 1⟩ ⟨#[112, 49]⟩ _ w2 (HE.out.kb (H1.trans (hk.mono H1.size))) fine_w1 (isS_below hk hs1)
    rwa [wake_d1] at this
  have H1 := Lib.hid H1
  clear hs1
  show _
  dsimp only [List.length]
  go_wp2_with fail
  have A2 : KB w1 (w1.alloc (.cells #[.slice o1 1 c1, .int .i64 1] 24)) := kbA
  refine (HD.out _ A2).mono ?_
  rintro e2 w2 ⟨⟨v2, rfl, hs2⟩, hb2⟩
  have H2 : KB w w2 := H1.out.trans ((A2.trans (hb2.mono A2.size)).mono H1.out.size)
  clear HD hb2 A2
  obtain ⟨o2, c2, rfl, -, -⟩ := isS_two hs2
  change isS w2 ⟨[], 1⟩ (.agg #[.slice o2 0 c2, .int .i64 1]) at hs2
  have HC : Hid (∀ w3, KB w2 w3 → Calls Tryz.prog 8 #[.agg #[.slice o2 0 c2, .int .i64 1], .string ⟨#[78, 101, 116]⟩, .slice none 0 0] w3 fun e w' => (∃ v', e = .returned (.tuple #[v', .string ⟨#[112, 50]⟩, .int .i64 0]) ∧ isS w' ⟨[tw2], 2⟩ v') ∧ Below w3.heap.size w3 w') := Lib.hid fun w3 hk => by
    have := Create_any ⟨[], 1⟩ sNet [] _ _ w3 (HE.out.kb (H2.trans (hk.mono H2.size))) fine_z1 (by decide) ⟨by decide, fun g hg => absurd hg List.not_mem_nil⟩ (isS_below hk hs2) (isGs_none w3)
    rwa [wake_c2] at this
  have H2 := Lib.hid H2
  clear hs2 H1
  show _
  dsimp only [List.length]
  go_wp2_with fail
  have A3 : KB w2 (w2.alloc (.cells #[.slice o2 0 c2, .int .i64 1] 24)) := kbA
  refine (HC.out _ A3).mono ?_
  rintro e3 w3 ⟨⟨v3, rfl, hs3⟩, hb3⟩
  have H3 : KB w w3 := H2.out.trans ((A3.trans (hb3.mono A3.size)).mono H2.out.size)
  clear HC hb3 A3 H2 HE
  obtain ⟨lv, rfl, ⟨a, c3, ⟨o3, rfl, q1, q2, ho⟩, hat⟩, -⟩ := hs3
  obtain rfl := ho (by decide)
  obtain ⟨ob, cb, g0, g1', g2, -⟩ := isTat_three (hat 0 (by decide))
  change w3.cell? ⟨a.block, a.off + 1, none⟩ = some (.string ⟨#[78, 101, 116]⟩) at g1'
  have H3 := Lib.hid H3
  clear hat ho q1 q2 g0 g2
  show _
  dsimp only [List.length]
  have A4 : KB w3 (w3.alloc (.cells #[.slice (some a) 1 c3, .int .i64 2] 24)) := kbA
  have k1 := cell_below A4 _ _ g1'
  have H4 := Lib.hid (H3.out.trans (A4.mono H3.out.size))
  clear g1' A4 H3
  go_wp2_with fail
  go_returns
  exact ⟨rfl, H4.out⟩
end Go.Proofs.YtoapaflcokhohaaGreatDoor

set_option linter.unusedVariables false
namespace Go.Proofs.YtoapaflcokhohaaGreatDoor
open Go.RowKit

/-- A deed. -/
structure Ac where
  dO : Int
  kd : ByteArray
  ps : List G
  n : Int
def isAat (W : World) (x : Ac) (a : Addr) : Prop := ∃ pv, W.cell? a = some (.int .i64 x.dO) ∧ W.cell? ⟨a.block, a.off + 1, none⟩ = some (.string x.kd) ∧ W.cell? ⟨a.block, a.off + 2, none⟩ = some pv ∧ W.cell? ⟨a.block, a.off + 3, none⟩ = some (.int .i64 x.n) ∧ isGs W x.ps pv ∧ x.kd.size ≤ maxLen ∧ (-9223372036854775808 ≤ x.dO ∧ x.dO ≤ 9223372036854775807) ∧ (-9223372036854775808 ≤ x.n ∧ x.n ≤ 9223372036854775807)
def isAs (W : World) (L : List Ac) (v : Value) : Prop := ∃ a cap, slv v L.length a cap ∧ ∀ i (h : i < L.length), isAat W L[i] (a.add (i * 4))
theorem isAat_below {W W' : World} (hb : Below W.heap.size W W') {x : Ac} {a : Addr} (h : isAat W x a) : isAat W' x a := by
  obtain ⟨pv, g0, g1, g2, g3, h2, h3⟩ := h
  have k := cell_below hb
  exact ⟨pv, k _ _ g0, k _ _ g1, k _ _ g2, k _ _ g3, isGs_below hb h2, h3⟩
theorem isAs_below {W W' : World} (hb : Below W.heap.size W W') {L : List Ac} {v : Value} (h : isAs W L v) : isAs W' L v := by
  obtain ⟨a, cap, h1, h2⟩ := h
  exact ⟨a, cap, h1, fun i hi => isAat_below hb (h2 i hi)⟩
theorem isAat_four {W : World} {x : Ac} {a : Addr} (h : isAat W x a) : ∃ (o : Option Addr) (cap : Nat), W.cell? a = some (.int .i64 x.dO) ∧ W.cell? ⟨a.block, a.off + 1, none⟩ = some (.string x.kd) ∧ W.cell? ⟨a.block, a.off + 2, none⟩ = some (.slice o x.ps.length cap) ∧ W.cell? ⟨a.block, a.off + 3, none⟩ = some (.int .i64 x.n) ∧ isGs W x.ps (.slice o x.ps.length cap) ∧ x.kd.size ≤ maxLen ∧ (-9223372036854775808 ≤ x.dO ∧ x.dO ≤ 9223372036854775807) ∧ (-9223372036854775808 ≤ x.n ∧ x.n ≤ 9223372036854775807) := by
  obtain ⟨pv, g0, g1, g2, g3, hg, h3⟩ := h
  have hg' := hg
  obtain ⟨a, cap, ⟨o, rfl, _⟩, _⟩ := hg
  exact ⟨o, cap, g0, g1, g2, g3, hg', h3⟩
def badA (x : Ac) : Bool := decide (400 < x.kd.size) || greatG x.ps
def actsL (L : List Ac) : Bool := (L.take 41).any badA || decide (40 < L.length)
theorem actsL_no {L : List Ac} (h : actsL L = false) : L.length ≤ 40 ∧ ∀ x ∈ L, x.kd.size ≤ 400 ∧ greatG x.ps = false := by
  unfold actsL at h
  rw [Bool.or_eq_false_iff] at h
  have h2 := of_decide_eq_false h.2
  refine ⟨by omega, fun x hx => ?_⟩
  rw [List.take_of_length_le (by omega)] at h
  have h3 := List.any_eq_false.1 h.1 x hx
  have h4 : badA x = false := by simpa using h3
  unfold badA at h4
  rw [Bool.or_eq_false_iff] at h4
  have := of_decide_eq_false h4.1
  exact ⟨by omega, h4.2⟩

set_option maxRecDepth 100000 in
set_option maxHeartbeats 8000000 in
theorem acts_any (L : List Ac) (v : Value) (w : World) (h : isAs w L v) :
    Calls Tryz.prog 16 #[v] w fun e w' => e = .returned (.bool (actsL L)) ∧ Below w.heap.size w w' := by
  obtain ⟨a, cap, ⟨o, rfl, hc1, hc2, ho⟩, hat⟩ := h
  unfold maxLen at hc2
  have HK := Lib.hid hat
  obtain ⟨r, hr⟩ : ∃ r, actsL L = r := ⟨_, rfl⟩
  rw [hr]
  have HR := Lib.hid hr
  clear hat hr
  go_enter Tryz.func16, Tryz.ntmps16
  go_wp2_with fail
  go_loopw [3] (fun i wr => ∃ (j : Nat), j ≤ L.length ∧ j ≤ 41 ∧ i = .int .i64 j ∧ Hid ((L.take j).any badA = false) ∧ Hid (Below w.heap.size w wr)) (fun i _ => L.length - (intOf i).toNat)
  case atStart => exact ⟨0, by omega, by omega, rfl, Lib.hid rfl, Lib.hid (Below.refl _ _)⟩
  case round =>
    obtain ⟨j, hj, hj41, rfl, hA, hB⟩ := hrel
    by_cases hlt : j < L.length
    · by_cases h40 : j ≤ 40
      · have y1 : decide ((j : Int) ≤ 40) = true := decide_eq_true (by omega)
        obtain rfl := ho (by omega)
        obtain ⟨o1, c1, q0, q1, q2, q3, hg, hp1, -⟩ := isAat_four (isAat_below hB.out (HK.out j hlt))
        have HG := Lib.hid (great9_any L[j].ps _ wr hg)
        have hst : (L.take (j + 1)).any badA = badA L[j] := by
          rw [List.take_succ_eq_append_getElem hlt, List.any_append, hA.out]
          simp
        have hup : badA L[j] = true → r = true := fun h => by
          rw [← HR.out]
          unfold actsL
          rw [Bool.or_eq_true, List.any_eq_true]
          exact .inl ⟨L[j], List.mem_take_iff_getElem.2 ⟨j, by omega, rfl⟩, h⟩
        clear hg q0 q3
        by_cases hb1 : 400 < L[j].kd.size
        · have HR2 := Lib.hid (hup (by unfold badA; rw [decide_eq_true hb1]; rfl))
          have y2 : decide ((400 : Int) < (L[j].kd.size : Int)) = true := decide_eq_true (by omega)
          clear hup hst hb1
          generalize L[j] = t at *
          go_wp2_with fail
          go_ret
          exact ⟨ret_bool HR2.out.symm, hB.out⟩
        · have y2 : decide ((400 : Int) < (L[j].kd.size : Int)) = false := decide_eq_false (by omega)
          by_cases hb2 : greatG L[j].ps = true
          · have HR2 := Lib.hid (hup (by unfold badA; rw [hb2, Bool.or_true]))
            rw [hb2] at HG
            clear hup hst hb1 hb2
            generalize L[j] = t at *
            go_wp2_with (go_at_call 24; refine HG.out.mono ?_; rintro e w5 ⟨rfl, hb5⟩)
            go_ret
            exact ⟨ret_bool HR2.out.symm, hB.out.trans (hb5.mono hB.out.size)⟩
          · have hb2' : greatG L[j].ps = false := by simpa using hb2
            rw [hb2'] at HG
            have HA2 : Hid ((L.take (j + 1)).any badA = false) := Lib.hid (by rw [hst]; unfold badA; rw [hb2', decide_eq_false hb1]; rfl)
            clear hup hst hb1 hb2 hb2'
            generalize L[j] = t at *
            go_wp2_with (go_at_call 24; refine HG.out.mono ?_; rintro e w5 ⟨rfl, hb5⟩)
            go_roundw
            case rel => exact ⟨j + 1, by omega, by omega, by go_num, HA2, Lib.hid (hB.out.trans (hb5.mono hB.out.size))⟩
            case measure => simp [intOf]; omega
      · obtain rfl : j = 41 := by omega
        have y1 : decide (((41 : Nat) : Int) ≤ 40) = false := by decide
        have y2 : decide ((40 : Int) < (L.length : Int)) = true := decide_eq_true (by omega)
        have HRES : Hid (r = true) := Lib.hid (by
          rw [← HR.out]
          unfold actsL
          rw [decide_eq_true (show 40 < L.length by omega), Bool.or_true])
        clear h40
        go_wp2_with fail
        go_ret
        exact ⟨ret_bool HRES.out.symm, hB.out⟩
    · obtain rfl : j = L.length := by omega
      have HRES : Hid (r = decide ((40 : Int) < (L.length : Int))) := Lib.hid (by
        have := hA.out
        rw [List.take_of_length_le (Nat.le_refl _)] at this
        rw [← HR.out]
        unfold actsL
        rw [List.take_of_length_le (by omega), this, Bool.false_or]
        exact decide_eq_decide.2 (by omega))
      go_wp2_with fail
      go_ret
      exact ⟨ret_bool HRES.out.symm, hB.out⟩
end Go.Proofs.YtoapaflcokhohaaGreatDoor

set_option linter.unusedVariables false
namespace Go.Proofs.YtoapaflcokhohaaGreatDoor
open Go.RowKit

/-- Two cells, none a text. -/
def Box (W : World) (b : Nat) : Prop := ∃ c0 c1 t, W.heap[b]? = some (.cells #[c0, c1] t (0, 0)) ∧ (∀ s, c0 ≠ .string s) ∧ (∀ s, c1 ≠ .string s)
theorem box_cell {W : World} {b : Nat} (h : Box W b) {a : Addr} {c : Value} (hb : a.block = b) (hc : W.cell? a = some c) : a.off < 2 ∧ ∀ s, c ≠ .string s := by
  obtain ⟨c0, c1, t, h1, h2, h3⟩ := h
  unfold World.cell? at hc
  rw [hb, h1] at hc
  dsimp only at hc
  split at hc
  · cases hc
  · obtain ⟨blk, off, sp⟩ := a
    dsimp only at hc ⊢
    match off, hc with
    | 0, hc => 
      have : c0 = c := by simpa using hc
      subst this; exact ⟨by omega, h2⟩
    | 1, hc => 
      have : c1 = c := by simpa using hc
      subst this; exact ⟨by omega, h3⟩
    | k + 2, hc => simp at hc
theorem box_far {W : World} {b : Nat} (h : Box W b) {a : Addr} {k : Nat} {c : Value} (hk : 2 ≤ k) (hc : W.cell? (a.add k) = some c) : a.block ≠ b := fun e => by
  have := (box_cell h (by rw [add_block]; exact e) hc).1
  unfold Addr.add at this
  rw [if_neg (by omega)] at this
  dsimp only at this
  omega
theorem box_text {W : World} {b : Nat} (h : Box W b) {a : Addr} {s : ByteArray} (hc : W.cell? a = some (.string s)) : a.block ≠ b := fun e => (box_cell h e hc).2 s rfl
mutual
theorem isVa_off {W : World} {b : Nat} (hB : Box W b) : ∀ (x : V) (v : Value), isV W x v → isVa W (fun q => q ≠ b) x v
  | .mk k bb n s l ks, v, h => by
    unfold isV at h
    unfold isVa
    obtain ⟨lv, kv, h1, h2, h3, h4, ⟨a, cap, h5, h7⟩, ⟨a2, cap2, k1, k3⟩⟩ := h
    refine ⟨lv, kv, h1, h2, h3, h4, ⟨a, cap, h5, fun h0 => ?_, isVas_off hB l a h7⟩, ⟨a2, cap2, k1, fun h0 => ?_, k3⟩⟩
    · match l, h0, h7 with
      | x :: t, _, h7 =>
        unfold isVs at h7
        obtain ⟨⟨c0, c1, c2, c3, c4, c5, g0, g1, g2, g3, g4, g5, hx⟩, ht⟩ := h7
        exact box_far hB (by omega) g5
    · have := box_text hB (k3 0 h0).1
      rwa [add_block] at this
theorem isVas_off {W : World} {b : Nat} (hB : Box W b) : ∀ (l : List V) (a : Addr), isVs W l a → isVas W (fun q => q ≠ b) l a
  | [], _, _ => by unfold isVas; trivial
  | x :: t, a, h => by
    unfold isVs at h
    unfold isVas
    obtain ⟨⟨c0, c1, c2, c3, c4, c5, g0, g1, g2, g3, g4, g5, hx⟩, ht⟩ := h
    exact ⟨⟨c0, c1, c2, c3, c4, c5, g0, g1, g2, g3, g4, g5, isVa_off hB x _ hx⟩, isVas_off hB t _ ht⟩
end
theorem isGsa_off {W : World} {b : Nat} (hB : Box W b) {L : List G} {v : Value} (h : isGs W L v) : isGsa W (fun q => q ≠ b) L v := by
  obtain ⟨a, cap, h1, h2⟩ := h
  refine ⟨a, cap, h1, fun h0 => ?_, fun i hi => ?_⟩
  · obtain ⟨_, _, _, _, _, _, g0, _⟩ := h2 0 h0
    have := box_text hB g0
    rwa [add_block] at this
  · obtain ⟨c0, c1, c2, c3, c4, c5, g0, g1, g2, g3, g4, g5, g6, g7, hv, hn⟩ := h2 i hi
    exact ⟨c0, c1, c2, c3, c4, c5, g0, g1, g2, g3, g4, g5, g6, g7, isVa_off hB _ _ hv, hn⟩
theorem isTsa_off {W : World} {b : Nat} (hB : Box W b) {L : List Th} {v : Value} (h : isTs W L v) : isTsa W (fun q => q ≠ b) L v := by
  obtain ⟨a, cap, h1, h2⟩ := h
  refine ⟨a, cap, h1, fun h0 => ?_, fun i hi => ?_⟩
  · obtain ⟨_, g0, _⟩ := h2 0 h0
    have := box_text hB g0
    rwa [add_block] at this
  · obtain ⟨pv, g0, g1, g2, hg, hn⟩ := h2 i hi
    exact ⟨pv, g0, g1, g2, isGsa_off hB hg, hn⟩
theorem isS_box {W W' : World} {b : Nat} {s : St} {v : Value} (hB : Box W b) (hg : W.grownBy W' (some b)) (h : isS W s v) : isS W' s v := by
  obtain ⟨lv, e, hts, hm⟩ := h
  exact ⟨lv, e, isTs_of_a (isTsa_keep (fun a c hq hc => hg.cell hc (fun e => hq (Option.some.inj e))) (isTsa_off hB hts)), hm⟩
theorem isGs_box {W W' : World} {b : Nat} {L : List G} {v : Value} (hB : Box W b) (hg : W.grownBy W' (some b)) (h : isGs W L v) : isGs W' L v :=
  isGs_of_a (isGsa_keep (fun a c hq hc => hg.cell hc (fun e => hq (Option.some.inj e))) (isGsa_off hB h))

/-! The round. -/
/-- What is left of a deed that went well: the new store. -/
structure Went (s t : St) (p : ByteArray) : Prop where
  ok : okS t
  len : t.l.length ≤ s.l.length + 1
  mem : ∀ y ∈ t.l, y ∈ s.l ∨ (y.ty.size ≤ 400 ∧ fineG y.ps)
  get : ∀ y ∈ s.l, y.ph ≠ p → getT t y.ph = (y, true)
theorem Went.fine {s t : St} {p : ByteArray} {j : Nat} (h : Went s t p) (hs : fineS s) (hl : s.l.length ≤ j) (hj : j < 1000) : fineS t :=
  ⟨by have := h.len; omega, fun y hy => (h.mem y hy).elim (hs.2 y) id⟩
theorem went_create {s : St} {K : ByteArray} {ps : List G} (hs : fineS s) (hK : K.size ≤ 400) (hP : fineG ps) (h : (createL s K ps).2.2 = 0) :
    Went s (createL s K ps).1 (createL s K ps).2.1 ∧ (createL s K ps).1.made = s.made + 1 ∧ (createL s K ps).1.l.length = s.l.length + 1 ∧ (createL s K ps).2.1 = physS (s.made + 1) ∧ (0 ≤ s.made ∧ s.made < 1099511627776) := by
  obtain ⟨h1, h2, h3, h4, h5⟩ := create_ok h
  rw [h4]
  refine ⟨⟨h5, by simp, fun y hy => ?_, fun y hy hne => ?_⟩, rfl, by simp, rfl, h1.1.1, h3⟩
  · rcases List.mem_append.1 hy with hy | hy
    · exact .inl hy
    · rw [List.mem_singleton.1 hy]; exact .inr ⟨hK, hP⟩
  · exact get_mem h5 (List.mem_append_left _ hy)
theorem went_delete {s : St} {p : ByteArray} (h : (deleteL s p).2 = 0) :
    Went s (deleteL s p).1 p ∧ (deleteL s p).1.made = s.made ∧ (deleteL s p).1.l.length + 1 = s.l.length ∧ (getT (deleteL s p).1 p).2 = false := by
  obtain ⟨h1, j, h2, hj, h3, h4, h5, h6, h7⟩ := delete_ok h
  rw [h4]
  have hlen : (s.l.take j ++ s.l.drop (j + 1)).length + 1 = s.l.length := by simp; omega
  refine ⟨⟨h5, by show (s.l.take j ++ s.l.drop (j + 1)).length ≤ _; omega, fun y hy => .inl ?_, fun y hy hne => get_mem h5 (h7 y hy hne)⟩, rfl, hlen, ?_⟩
  · rcases List.mem_append.1 hy with hy | hy
    · exact List.mem_of_mem_take hy
    · exact List.mem_of_mem_drop hy
  · show (getT ⟨s.l.take j ++ s.l.drop (j + 1), s.made⟩ p).2 = false
    rw [get_none h6]
theorem went_update {s : St} {p : ByteArray} {ps : List G} (hs : fineS s) (hP : fineG ps) (h : (updateL s p ps).2 = 0) :
    Went s (updateL s p ps).1 p ∧ (updateL s p ps).1.made = s.made ∧ (updateL s p ps).1.l.length = s.l.length := by
  obtain ⟨h1, j, h2, hj, h3, h4, h5, h6, h7, h8⟩ := update_ok h
  rw [h7]
  refine ⟨⟨h8, by simp, fun y hy => ?_, fun y hy hne => get_mem h8 ?_⟩, rfl, by simp⟩
  · rcases List.mem_or_eq_of_mem_set hy with hy | rfl
    · exact .inl hy
    · exact .inr ⟨(hs.2 _ (List.getElem_mem hj)).1, hP⟩
  · obtain ⟨i, hi, rfl⟩ := List.getElem_of_mem hy
    have hij : j ≠ i := fun e => by subst e; exact hne h3
    have : (s.l.set j ⟨s.l[j].ph, s.l[j].ty, ps⟩)[i]'(by simpa using hi) = s.l[i] := List.getElem_set_ne hij _
    show s.l[i] ∈ s.l.set j ⟨s.l[j].ph, s.l[j].ty, ps⟩
    rw [← this]
    exact List.getElem_mem _
end Go.Proofs.YtoapaflcokhohaaGreatDoor
