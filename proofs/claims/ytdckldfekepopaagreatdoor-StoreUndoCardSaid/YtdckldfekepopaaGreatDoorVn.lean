/-
  The program's Same of what reads the same.
-/
import Derived.Test.YtdckldfekepopaaGreatDoorVt
set_option linter.unusedVariables false
set_option linter.unusedSimpArgs false
namespace Go.Proofs.YtdckldfekepopaaGreatDoor
open Go.RowKit

theorem eight_cells {W : World} {B : Nat} {c0 c1 c2 c3 c4 c5 c6 c7 : Value} {t : TypeId} (h : W.heap[B]? = some (.cells #[c0, c1, c2, c3, c4, c5, c6, c7] t (0, 0))) : W.cell? ⟨B, 0, none⟩ = some c0 ∧ W.cell? ⟨B, 1, none⟩ = some c1 ∧ W.cell? ⟨B, 2, none⟩ = some c2 ∧ W.cell? ⟨B, 3, none⟩ = some c3 ∧ W.cell? ⟨B, 4, none⟩ = some c4 ∧ W.cell? ⟨B, 5, none⟩ = some c5 ∧ W.cell? ⟨B, 6, none⟩ = some c6 ∧ W.cell? ⟨B, 7, none⟩ = some c7 := by
  simp [World.cell?, h]
set_option maxRecDepth 100000 in
set_option maxHeartbeats 4000000 in
theorem sameGiven_any (g : G) (v u : Value) (w : World) (hP : sizeV g.v ≤ 1000000 ∧ fineV g.v) (h : isG w g v) (h' : isG w g u) (hz : uG w g u) :
    Calls Tryz.prog 94 #[v, u] w fun e w' => e = .returned (.bool true) ∧ Below w.heap.size w w' := by
  obtain ⟨k, b, n, s, o, m, c, o2, m2, c2, rfl, hv⟩ := isG_eight h
  obtain ⟨k', b', n', s', o', m', c', o2', m2', c2', rfl, hu⟩ := isG_eight h'
  have hzv := uG_v hz
  have HA : Hid (∀ w1, KB w w1 → Calls Tryz.prog 95 #[.agg #[.int .i8 k, .bool b, .int .i64 n, .string s, .slice o m c, .slice o2 m2 c2], .agg #[.int .i8 k', .bool b', .int .i64 n', .string s', .slice o' m' c', .slice o2' m2' c2']] w1 fun e w' => e = .returned (.bool true) ∧ Below w1.heap.size w1 w') := Lib.hid fun w1 hk => alike_same g.v _ _ w1 hP.1 hP.2 (isV_below hk hv) (isV_below hk hu) (uV_below hk _ _ hzv)
  have HB0 : Hid (KB w ((w.alloc (.cells #[.string g.nm, .bool g.unk, .int .i8 k, .bool b, .int .i64 n, .string s, .slice o m c, .slice o2 m2 c2] 66)).alloc (.cells #[.string g.nm, .bool g.unk, .int .i8 k', .bool b', .int .i64 n', .string s', .slice o' m' c', .slice o2' m2' c2'] 66))) := Lib.hid (by unfold KB; go_grown)
  have hn1 := (Below.heap_alloc (w.alloc (.cells #[.string g.nm, .bool g.unk, .int .i8 k, .bool b, .int .i64 n, .string s, .slice o m c, .slice o2 m2 c2] 66)) (.cells #[.string g.nm, .bool g.unk, .int .i8 k', .bool b', .int .i64 n', .string s', .slice o' m' c', .slice o2' m2' c2'] 66) w.heap.size (by simp)).trans (World.alloc_heap_new w _)
  have hn2 := World.alloc_heap_new (w.alloc (.cells #[.string g.nm, .bool g.unk, .int .i8 k, .bool b, .int .i64 n, .string s, .slice o m c, .slice o2 m2 c2] 66)) (.cells #[.string g.nm, .bool g.unk, .int .i8 k', .bool b', .int .i64 n', .string s', .slice o' m' c', .slice o2' m2' c2'] 66)
  rw [World.size_alloc] at hn2
  clear h h' hv hu hP hz hzv
  go_enter Tryz.func94, Tryz.ntmps94
  go_wp2_with fail
  generalize hW2 : ((w.alloc (.cells #[.string g.nm, .bool g.unk, .int .i8 k, .bool b, .int .i64 n, .string s, .slice o m c, .slice o2 m2 c2] 66)).alloc (.cells #[.string g.nm, .bool g.unk, .int .i8 k', .bool b', .int .i64 n', .string s', .slice o' m' c', .slice o2' m2' c2'] 66)) = W2 at *
  clear hW2
  obtain ⟨a0, a1, a2, a3, a4, a5, a6, a7⟩ := eight_cells hn1
  obtain ⟨d0, d1, d2, d3, d4, d5, d6, d7⟩ := eight_cells hn2
  clear hn1 hn2
  go_wp2_with fail
  refine (HA.out _ HB0.out).mono ?_
  rintro e w5 ⟨rfl, hb5⟩
  have HX := Lib.hid (HB0.out.trans (hb5.mono HB0.out.size))
  clear hb5
  go_wp2_with fail
  go_ret
  exact ⟨rfl, HX.out⟩

set_option maxRecDepth 100000 in
set_option maxHeartbeats 8000000 in
theorem eqGivens_any (L : List G) (v u : Value) (w : World) (hP : fineG L) (h : isGs w L v) (h' : isGs w L u) (hz : uGs w L u) :
    Calls Tryz.prog 93 #[v, u, .func (.func 94) #[] #[]] w fun e w' => e = .returned (.bool true) ∧ Below w.heap.size w w' := by
  obtain ⟨a, cap, ⟨o, rfl, hc1, hc2, ho⟩, hgs⟩ := h
  obtain ⟨a', cap', ⟨o', rfl, hc1', hc2', ho'⟩, hgs'⟩ := h'
  unfold maxLen at hc2 hc2'
  have HK := Lib.hid hgs
  have HK' := Lib.hid hgs'
  have HP := Lib.hid hP
  have HZ := Lib.hid hz
  have ef : ∀ args w, (callFunc 94 args).run Tryz.prog w = .ok (.enter 94 args) w := enters_of Tryz.func94 (by kernel_rfl) rfl
  clear hgs hgs' hP hz
  go_enter Tryz.func93, Tryz.ntmps93
  go_wp2_with fail
  go_loopw [7, 8, 9, 17] (fun y7 y8 y9 i wr => ∃ (j : Nat), j ≤ L.length ∧ i = .int .i64 j ∧ Hid (Below w.heap.size w wr)) (fun _ _ _ i _ => L.length - (intOf i).toNat)
  case atStart => exact ⟨0, by omega, rfl, Lib.hid (Below.refl _ _)⟩
  case round =>
    obtain ⟨j, hj, rfl, hB⟩ := hrel
    by_cases hlt : j < L.length
    · obtain rfl := ho (by omega)
      obtain rfl := ho' (by omega)
      obtain ⟨k, b, n, s, o1, m, c, o2, m2, c2, q0, q1, q2, q3, q4, q5, q6, q7, hg⟩ := isGat_eight (isGat_below hB.out (HK.out j hlt))
      obtain ⟨k', b', n', s', o1', m', c', o2', m2', c2', p0, p1, p2, p3, p4, p5, p6, p7, hg'⟩ := isGat_eight (isGat_below hB.out (HK'.out j hlt))
      have hfx := HP.out.2 _ (List.getElem_mem hlt)
      have huz := uG_at (n := .string L[j].nm) (u := .bool L[j].unk) (uGat_below hB.out (uGs_el HZ.out j hlt)) p2 p3 p4 p5 p6 p7
      have HN : Hid (∀ w1, KB wr w1 → Calls Tryz.prog 94 #[.agg #[.string L[j].nm, .bool L[j].unk, .int .i8 k, .bool b, .int .i64 n, .string s, .slice o1 m c, .slice o2 m2 c2], .agg #[.string L[j].nm, .bool L[j].unk, .int .i8 k', .bool b', .int .i64 n', .string s', .slice o1' m' c', .slice o2' m2' c2']] w1 fun e w' => e = .returned (.bool true) ∧ Below w1.heap.size w1 w') := Lib.hid fun w1 hK => sameGiven_any L[j] _ _ w1 hfx (isG_below hK hg) (isG_below hK hg') (uG_below hK huz)
      have A1 : KB wr (wr.alloc (.cells #[.string L[j].nm, .bool L[j].unk, .int .i8 k, .bool b, .int .i64 n, .string s, .slice o1 m c, .slice o2 m2 c2] 66)) := kbA
      have A2 : KB wr ((wr.alloc (.cells #[.string L[j].nm, .bool L[j].unk, .int .i8 k, .bool b, .int .i64 n, .string s, .slice o1 m c, .slice o2 m2 c2] 66)).alloc (.cells #[.string L[j].nm, .bool L[j].unk, .int .i8 k', .bool b', .int .i64 n', .string s', .slice o1' m' c', .slice o2' m2' c2'] 66)) := by unfold KB; go_grown
      have p0 := cell_below A1 _ _ p0
      have p1 := cell_below A1 _ _ p1
      have p2 := cell_below A1 _ _ p2
      have p3 := cell_below A1 _ _ p3
      have p4 := cell_below A1 _ _ p4
      have p5 := cell_below A1 _ _ p5
      have p6 := cell_below A1 _ _ p6
      have p7 := cell_below A1 _ _ p7
      have hn1 := (Below.heap_alloc (wr.alloc (.cells #[.string L[j].nm, .bool L[j].unk, .int .i8 k, .bool b, .int .i64 n, .string s, .slice o1 m c, .slice o2 m2 c2] 66)) (.cells #[.string L[j].nm, .bool L[j].unk, .int .i8 k', .bool b', .int .i64 n', .string s', .slice o1' m' c', .slice o2' m2' c2'] 66) wr.heap.size (by simp)).trans (World.alloc_heap_new wr _)
      obtain ⟨z0, z1, z2, z3, z4, z5, z6, z7⟩ := eight_cells hn1
      have HA2 := Lib.hid A2
      clear hfx hg hg' huz A1 A2 hn1
      generalize L[j] = g at *
      go_wp2_with (go_at_fn 94; refine (HN.out _ HA2.out).mono ?_; rintro e w5 ⟨rfl, hb5⟩; have HX := Lib.hid (hB.out.trans ((HA2.out.trans (hb5.mono HA2.out.size)).mono hB.out.size)))
      go_roundw
      case rel => exact ⟨j + 1, by omega, by go_num, HX⟩
      case measure => simp [intOf]; omega
    · obtain rfl : j = L.length := by omega
      go_wp2_with fail
      go_ret
      exact ⟨rfl, hB.out⟩

set_option maxHeartbeats 1000000 in
theorem Same9p_any (L : List G) (v u : Value) (w : World) (hP : fineG L) (h : isGs w L v) (h' : isGs w L u) (hz : uGs w L u) :
    Calls Tryz.prog 74 #[v, u] w fun e w' => e = .returned (.bool true) ∧ Below w.heap.size w w' := by
  have HC := Lib.hid (eqGivens_any L v u w hP h h' hz)
  obtain ⟨a, cap, ⟨o, rfl, -⟩, -⟩ := h
  obtain ⟨a', cap', ⟨o', rfl, -⟩, -⟩ := h'
  clear hP hz
  go_enter Tryz.func74, Tryz.ntmps74
  go_wp2_with fail
  refine HC.out.mono ?_
  rintro e w5 ⟨rfl, hb5⟩
  have HX := Lib.hid hb5
  clear hb5
  go_wp2_with fail
  go_ret
  exact ⟨rfl, HX.out⟩
set_option maxRecDepth 100000 in
set_option maxHeartbeats 4000000 in
theorem sameThing_any (t : Th) (v u : Value) (w : World) (hP : fineG t.ps) (h : isTh w t v) (h' : isTh w t u) (hz : uTh w t u) :
    Calls Tryz.prog 46 #[v, u] w fun e w' => e = .returned (.bool true) ∧ Below w.heap.size w w' := by
  obtain ⟨pv, rfl, hg, -⟩ := h
  obtain ⟨pu, rfl, hg', -⟩ := h'
  have hzg := uTh_v hz
  have HA : Hid (∀ w1, KB w w1 → Calls Tryz.prog 74 #[pv, pu] w1 fun e w' => e = .returned (.bool true) ∧ Below w1.heap.size w1 w') := Lib.hid fun w1 hk => Same9p_any t.ps _ _ w1 hP (isGs_below hk hg) (isGs_below hk hg') (uGs_below hk hzg)
  obtain ⟨a, cap, ⟨o, rfl, -⟩, -⟩ := hg
  obtain ⟨a', cap', ⟨o', rfl, -⟩, -⟩ := hg'
  have HB0 : Hid (KB w ((w.alloc (.cells #[.string t.ph, .string t.ty, .slice o t.ps.length cap] 52)).alloc (.cells #[.string t.ph, .string t.ty, .slice o' t.ps.length cap'] 52))) := Lib.hid (by unfold KB; go_grown)
  have hn1 := (Below.heap_alloc (w.alloc (.cells #[.string t.ph, .string t.ty, .slice o t.ps.length cap] 52)) (.cells #[.string t.ph, .string t.ty, .slice o' t.ps.length cap'] 52) w.heap.size (by simp)).trans (World.alloc_heap_new w _)
  have hn2 := World.alloc_heap_new (w.alloc (.cells #[.string t.ph, .string t.ty, .slice o t.ps.length cap] 52)) (.cells #[.string t.ph, .string t.ty, .slice o' t.ps.length cap'] 52)
  rw [World.size_alloc] at hn2
  clear hP hz hzg
  go_enter Tryz.func46, Tryz.ntmps46
  go_wp2_with fail
  generalize hW2 : ((w.alloc (.cells #[.string t.ph, .string t.ty, .slice o t.ps.length cap] 52)).alloc (.cells #[.string t.ph, .string t.ty, .slice o' t.ps.length cap'] 52)) = W2 at *
  clear hW2
  obtain ⟨a0, a1, a2⟩ := three_cells hn1
  obtain ⟨d0, d1, d2⟩ := three_cells hn2
  clear hn1 hn2
  go_wp2_with fail
  refine (HA.out _ HB0.out).mono ?_
  rintro e w5 ⟨rfl, hb5⟩
  have HX := Lib.hid (HB0.out.trans (hb5.mono HB0.out.size))
  clear hb5
  go_wp2_with fail
  go_ret
  exact ⟨rfl, HX.out⟩
set_option maxRecDepth 100000 in
set_option maxHeartbeats 8000000 in
theorem eqThings_any (L : List Th) (v u : Value) (w : World) (hP : ∀ t ∈ L, fineG t.ps) (h : isTs w L v) (h' : isTs w L u) (hz : uTs w L u) :
    Calls Tryz.prog 45 #[v, u, .func (.func 46) #[] #[]] w fun e w' => e = .returned (.bool true) ∧ Below w.heap.size w w' := by
  obtain ⟨a, cap, ⟨o, rfl, hc1, hc2, ho⟩, hgs⟩ := h
  obtain ⟨a', cap', ⟨o', rfl, hc1', hc2', ho'⟩, hgs'⟩ := h'
  unfold maxLen at hc2 hc2'
  have HK := Lib.hid hgs
  have HK' := Lib.hid hgs'
  have HP := Lib.hid hP
  have HZ := Lib.hid hz
  have ef : ∀ args w, (callFunc 46 args).run Tryz.prog w = .ok (.enter 46 args) w := enters_of Tryz.func46 (by kernel_rfl) rfl
  clear hgs hgs' hP hz
  go_enter Tryz.func45, Tryz.ntmps45
  go_wp2_with fail
  go_loopw [7, 8, 9, 17] (fun y7 y8 y9 i wr => ∃ (j : Nat), j ≤ L.length ∧ i = .int .i64 j ∧ Hid (Below w.heap.size w wr)) (fun _ _ _ i _ => L.length - (intOf i).toNat)
  case atStart => exact ⟨0, by omega, rfl, Lib.hid (Below.refl _ _)⟩
  case round =>
    obtain ⟨j, hj, rfl, hB⟩ := hrel
    by_cases hlt : j < L.length
    · obtain rfl := ho (by omega)
      obtain rfl := ho' (by omega)
      obtain ⟨o1, c1, q0, q1, q2, hg⟩ := isTat_three (isTat_below hB.out (HK.out j hlt))
      obtain ⟨o2, c2, p0, p1, p2, hg'⟩ := isTat_three (isTat_below hB.out (HK'.out j hlt))
      have hfx := HP.out _ (List.getElem_mem hlt)
      have huz := uTh_at (p := .string L[j].ph) (q := .string L[j].ty) (uTat_below hB.out (uTs_el HZ.out j hlt)) p2
      have HN : Hid (∀ w1, KB wr w1 → Calls Tryz.prog 46 #[.agg #[.string L[j].ph, .string L[j].ty, .slice o1 L[j].ps.length c1], .agg #[.string L[j].ph, .string L[j].ty, .slice o2 L[j].ps.length c2]] w1 fun e w' => e = .returned (.bool true) ∧ Below w1.heap.size w1 w') := Lib.hid fun w1 hK => sameThing_any L[j] _ _ w1 hfx (isTh_below hK hg) (isTh_below hK hg') (uTh_below hK huz)
      have A1 : KB wr (wr.alloc (.cells #[.string L[j].ph, .string L[j].ty, .slice o1 L[j].ps.length c1] 52)) := kbA
      have A2 : KB wr ((wr.alloc (.cells #[.string L[j].ph, .string L[j].ty, .slice o1 L[j].ps.length c1] 52)).alloc (.cells #[.string L[j].ph, .string L[j].ty, .slice o2 L[j].ps.length c2] 52)) := by unfold KB; go_grown
      have p0 := cell_below A1 _ _ p0
      have p1 := cell_below A1 _ _ p1
      have p2 := cell_below A1 _ _ p2
      have hn1 := (Below.heap_alloc (wr.alloc (.cells #[.string L[j].ph, .string L[j].ty, .slice o1 L[j].ps.length c1] 52)) (.cells #[.string L[j].ph, .string L[j].ty, .slice o2 L[j].ps.length c2] 52) wr.heap.size (by simp)).trans (World.alloc_heap_new wr _)
      obtain ⟨z0, z1, z2⟩ := three_cells hn1
      have HA2 := Lib.hid A2
      clear hfx hg hg' huz A1 A2 hn1
      generalize L[j] = g at *
      go_wp2_with (go_at_fn 46; refine (HN.out _ HA2.out).mono ?_; rintro e w5 ⟨rfl, hb5⟩; have HX := Lib.hid (hB.out.trans ((HA2.out.trans (hb5.mono HA2.out.size)).mono hB.out.size)))
      go_roundw
      case rel => exact ⟨j + 1, by omega, by go_num, HX⟩
      case measure => simp [intOf]; omega
    · obtain rfl : j = L.length := by omega
      go_wp2_with fail
      go_ret
      exact ⟨rfl, hB.out⟩
set_option maxRecDepth 100000 in
set_option maxHeartbeats 4000000 in
theorem Same10p_any (s : St) (v u : Value) (w : World) (hF : fineS s) (h : isS w s v) (h' : isS w s u) (hz : uS w s u) :
    Calls Tryz.prog 22 #[v, u] w fun e w' => e = .returned (.bool true) ∧ Below w.heap.size w w' := by
  obtain ⟨o, cap, rfl, hts, -⟩ := isS_two h
  obtain ⟨o', cap', rfl, hts', -⟩ := isS_two h'
  have hzt := uS_v hz
  have HA : Hid (∀ w1, KB w w1 → Calls Tryz.prog 45 #[.slice o s.l.length cap, .slice o' s.l.length cap', .func (.func 46) #[] #[]] w1 fun e w' => e = .returned (.bool true) ∧ Below w1.heap.size w1 w') := Lib.hid fun w1 hk => eqThings_any s.l _ _ w1 (fun t ht => (hF.2 t ht).2) (isTs_below hk hts) (isTs_below hk hts') (uTs_below hk hzt)
  have HB0 : Hid (KB w ((w.alloc (.cells #[.slice o s.l.length cap, .int .i64 s.made] 24)).alloc (.cells #[.slice o' s.l.length cap', .int .i64 s.made] 24))) := Lib.hid (by unfold KB; go_grown)
  have hn1 := (Below.heap_alloc (w.alloc (.cells #[.slice o s.l.length cap, .int .i64 s.made] 24)) (.cells #[.slice o' s.l.length cap', .int .i64 s.made] 24) w.heap.size (by simp)).trans (World.alloc_heap_new w _)
  have hn2 := World.alloc_heap_new (w.alloc (.cells #[.slice o s.l.length cap, .int .i64 s.made] 24)) (.cells #[.slice o' s.l.length cap', .int .i64 s.made] 24)
  rw [World.size_alloc] at hn2
  clear h h' hts hts' hF hz hzt
  go_enter Tryz.func22, Tryz.ntmps22
  go_wp2_with fail
  generalize hW2 : ((w.alloc (.cells #[.slice o s.l.length cap, .int .i64 s.made] 24)).alloc (.cells #[.slice o' s.l.length cap', .int .i64 s.made] 24)) = W2 at *
  clear hW2
  obtain ⟨r0, r1⟩ := two_cells hn1
  obtain ⟨r2, r3⟩ := two_cells hn2
  clear hn1 hn2
  go_wp2_with fail
  refine (HA.out _ HB0.out).mono ?_
  rintro e w5 ⟨rfl, hb5⟩
  have HX := Lib.hid (HB0.out.trans (hb5.mono HB0.out.size))
  clear hb5
  go_wp2_with fail
  go_ret
  exact ⟨rfl, HX.out⟩
end Go.Proofs.YtdckldfekepopaaGreatDoor
