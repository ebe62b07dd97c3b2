/-
  The program's mayDefault, mayAllow, mayBe, May.
-/
import Derived.Test.YtlamkadllbgamaaGreatDoorE3
import Derived.Test.YtlamkadllbgamaaGreatDoorRn
set_option linter.unusedVariables false
set_option linter.unusedSimpArgs false
namespace Go.Proofs.YtlamkadllbgamaaGreatDoor
open Go.RowKit

theorem isVs_take {W : World} : ∀ (l : List V) (a : Addr) (i : Nat), isVs W l a → isVs W (l.take i) a
  | [], a, i, h => by rw [List.take_nil]; exact h
  | x :: t, a, 0, h => by rw [List.take_zero]; unfold isVs; trivial
  | x :: t, a, i + 1, h => by
    rw [List.take_succ_cons]
    unfold isVs at h ⊢
    exact ⟨h.1, isVs_take t _ i h.2⟩
theorem fine_take {l : List V} (h : fineL l) (i : Nat) : fineL (l.take i) := ⟨Nat.le_trans (by rw [List.length_take]; exact Nat.min_le_right _ _) h.1, fun x hx => h.2 x (List.mem_of_mem_take hx)⟩

set_option maxRecDepth 100000 in
set_option maxHeartbeats 4000000 in
theorem mayDef_any (p : PR) (v : Value) (w : World) (hE : Env w) (hP : fineP p) (h : isP w p v) :
    Calls Tryz.prog 47 #[v] w fun e w' => e = .returned (.bool (mayDef p)) ∧ Below w.heap.size w w' := by
  obtain ⟨k, b, n, s, o, m, c, o2, m2, c2, oa, ca, rfl, hd, ha⟩ := isP_ten h
  have HB0 : Hid (KB w (w.alloc (.cells #[.string p.nm, .bool p.num, .bool p.has, .int .i8 k, .bool b, .int .i64 n, .string s, .slice o m c, .slice o2 m2 c2, .slice oa p.al.length ca] 37))) := Lib.hid kbA
  have hn := World.alloc_heap_new w (.cells #[.string p.nm, .bool p.num, .bool p.has, .int .i8 k, .bool b, .int .i64 n, .string s, .slice o m c, .slice o2 m2 c2, .slice oa p.al.length ca] 37)
  have HZ : Hid (∀ w1, KB w w1 → Calls Tryz.prog 19 #[.agg #[.int .i8 k, .bool b, .int .i64 n, .string s, .slice o m c, .slice o2 m2 c2]] w1 fun e w' => e = .returned (.bool (sm p.d zV)) ∧ Below w1.heap.size w1 w') := Lib.hid fun w1 hk => zero_any p.d _ w1 (hE.kb hk) hP.1 hP.2.1 (isV_below hk hd)
  have HO : Hid (∀ w1, KB w w1 → Calls Tryz.prog 20 #[.agg #[.int .i8 k, .bool b, .int .i64 n, .string s, .slice o m c, .slice o2 m2 c2], .bool p.num] w1 fun e w' => e = .returned (.bool (kindB p.num p.d)) ∧ Below w1.heap.size w1 w') := Lib.hid fun w1 hk => ofKind_any p.d p.num _ w1 (hE.kb hk) hP.1 hP.2.1 (isV_below hk hd)
  have HA : Hid (∀ w1, KB w w1 → Calls Tryz.prog 21 #[.agg #[.string p.nm, .bool p.num, .bool p.has, .int .i8 k, .bool b, .int .i64 n, .string s, .slice o m c, .slice o2 m2 c2, .slice oa p.al.length ca], .agg #[.int .i8 k, .bool b, .int .i64 n, .string s, .slice o m c, .slice o2 m2 c2]] w1 fun e w' => e = .returned (.bool (allowedB p p.d)) ∧ Below w1.heap.size w1 w') := Lib.hid fun w1 hk => allowed_any p p.d _ _ w1 (hE.kb hk) hP.2.2 hP.1 hP.2.1 (isP_below hk h) (isV_below hk hd)
  unfold mayDef
  generalize sm p.d zV = r1 at *
  generalize kindB p.num p.d = r2 at *
  generalize allowedB p p.d = r3 at *
  have hfl := hP.2.2.1
  clear h hd ha hE hP
  obtain ⟨nm, num, has, d, al⟩ := p
  dsimp only at *
  generalize al.length = q at *
  have HN := Lib.hid hn
  clear hn
  cases has with
  | false =>
    rw [if_neg Bool.false_ne_true]
    go_enter Tryz.func47, Tryz.ntmps47
    go_wp2_with (go_at_call 19; refine (HZ.out _ HB0.out).mono ?_; rintro e w5 ⟨rfl, hb5⟩)
    go_ret
    exact ⟨rfl, HB0.out.trans (hb5.mono HB0.out.size)⟩
  | true =>
    rw [if_pos rfl]
    cases r2 with
    | false =>
      rw [Bool.false_and]
      go_enter Tryz.func47, Tryz.ntmps47
      go_wp2_with (go_at_call 20; refine (HO.out _ HB0.out).mono ?_; rintro e w5 ⟨rfl, hb5⟩)
      go_ret
      exact ⟨rfl, HB0.out.trans (hb5.mono HB0.out.size)⟩
    | true =>
      rw [Bool.true_and]
      go_enter Tryz.func47, Tryz.ntmps47
      go_wp2_with (first
        | (go_at_call 20; refine (HO.out _ HB0.out).mono ?_; rintro e w5 ⟨rfl, hb5⟩; obtain ⟨x0, x1, x2, x3, x4, x5, x6, x7, x8, x9⟩ := ten_cells ((hb5.block w.heap.size (by simp)).trans HN.out); have HK5 := Lib.hid (HB0.out.trans (hb5.mono HB0.out.size)))
        | (go_at_call 21; refine (HA.out _ HK5.out).mono ?_; rintro e w6 ⟨rfl, hb6⟩))
      go_ret
      exact ⟨rfl, HK5.out.trans (hb6.mono HK5.out.size)⟩

theorem mayAl_no {p : PR} {i : Nat} (hi : i < p.al.length) (h : stepAl p i = false) : mayAl p = false := by
  unfold mayAl
  rw [Bool.eq_false_iff]
  intro e
  have := List.all_eq_true.1 e i (List.mem_range.2 hi)
  rw [h] at this; cases this
theorem mayAl_yes {p : PR} (h : ∀ i, i < p.al.length → stepAl p i = true) : mayAl p = true := by
  unfold mayAl
  rw [List.all_eq_true]
  exact fun i hi => h i (List.mem_range.1 hi)
set_option maxRecDepth 100000 in
set_option maxHeartbeats 8000000 in
theorem mayAl_any (p : PR) (v : Value) (w : World) (hE : Env w) (hP : fineP p) (h : isP w p v) :
    Calls Tryz.prog 46 #[v] w fun e w' => e = .returned (.bool (mayAl p)) ∧ Below w.heap.size w w' := by
  obtain ⟨k, b, n, s, o, m, c, o2, m2, c2, oa, ca, rfl, hd, ⟨a, ca', ⟨o9, e9, hc1, hc2, ho⟩, hvs⟩⟩ := isP_ten h
  simp only [Value.slice.injEq, true_and] at e9
  obtain ⟨rfl, rfl⟩ := e9
  have HB0 : Hid (KB w (w.alloc (.cells #[.string p.nm, .bool p.num, .bool p.has, .int .i8 k, .bool b, .int .i64 n, .string s, .slice o m c, .slice o2 m2 c2, .slice oa p.al.length ca] 37))) := Lib.hid kbA
  have HN := Lib.hid (World.alloc_heap_new w (.cells #[.string p.nm, .bool p.num, .bool p.has, .int .i8 k, .bool b, .int .i64 n, .string s, .slice o m c, .slice o2 m2 c2, .slice oa p.al.length ca] 37))
  have HVS := Lib.hid hvs
  have HE := Lib.hid hE
  have HP := Lib.hid hP
  have hfl := hP.2.2.1
  unfold maxLen at hc2
  obtain ⟨r, hr⟩ : ∃ r, mayAl p = r := ⟨_, rfl⟩
  have HR := Lib.hid hr
  rw [hr]
  generalize hq : p.al.length = q at *
  have HQ := Lib.hid hq.symm
  clear h hd hvs hE hP hr hq
  go_enter Tryz.func46, Tryz.ntmps46
  go_wp2_with fail
  generalize hW1 : (w.alloc (.cells #[.string p.nm, .bool p.num, .bool p.has, .int .i8 k, .bool b, .int .i64 n, .string s, .slice o m c, .slice o2 m2 c2, .slice oa q ca] 37)) = W1 at *
  clear hW1
  go_loopw [8] (fun i wr => ∃ j : Nat, j ≤ q ∧ i = .int .i64 j ∧ Hid (Below W1.heap.size W1 wr) ∧ Hid (∀ i, i < j → stepAl p i = true)) (fun i _ => q - (intOf i).toNat)
  case atStart => exact ⟨0, by omega, rfl, Lib.hid (Below.refl _ _), Lib.hid (fun _ h => absurd h (by omega))⟩
  case round =>
    obtain ⟨j, hj, rfl, hB, hno⟩ := hrel
    have hB1 : Hid (Below w.heap.size w wr) := Lib.hid (HB0.out.trans (hB.out.mono HB0.out.size))
    have hX := (hB.out.block _ (Array.getElem?_eq_some_iff.1 HN.out).1).trans HN.out
    by_cases hlt : j < q
    · have hlt1 : j < p.al.length := by rw [← HQ.out]; exact hlt
      obtain rfl := ho (by omega)
      obtain ⟨k3, b3, n3, s3, o3, m3, c3, o4, m4, c4, g0, g1, g2, g3, g4, g5, hgg⟩ := isVs_sl p.al a j hlt1 (isVs_keep (cell_below hB1.out) _ a HVS.out)
      have HA1 : Hid (KB wr (wr.alloc (.cells #[.int .i8 k3, .bool b3, .int .i64 n3, .string s3, .slice o3 m3 c3, .slice o4 m4 c4] 33))) := Lib.hid kbA
      have HY := Lib.hid (World.alloc_heap_new wr (.cells #[.int .i8 k3, .bool b3, .int .i64 n3, .string s3, .slice o3 m3 c3, .slice o4 m4 c4] 33))
      have HXX := Lib.hid ((HA1.out.block w.heap.size (Array.getElem?_eq_some_iff.1 hX).1).trans hX)
      have HLT : Hid (w.heap.size < wr.heap.size) := Lib.hid (Array.getElem?_eq_some_iff.1 hX).1
      have hfx := HP.out.2.2.2 _ (List.getElem_mem hlt1)
      have HO : Hid (∀ w1, KB wr w1 → Calls Tryz.prog 20 #[.agg #[.int .i8 k3, .bool b3, .int .i64 n3, .string s3, .slice o3 m3 c3, .slice o4 m4 c4], .bool p.num] w1 fun e w' => e = .returned (.bool (kindB p.num p.al[j])) ∧ Below w1.heap.size w1 w') := Lib.hid fun w1 hk => ofKind_any p.al[j] p.num _ w1 (HE.out.kb (hB1.out.trans (hk.mono hB1.out.size))) hfx.1 hfx.2 (isV_below hk hgg)
      have HAM : Hid (∀ w1, KB wr w1 → Calls Tryz.prog 50 #[.slice (some a) j ca, .agg #[.int .i8 k3, .bool b3, .int .i64 n3, .string s3, .slice o3 m3 c3, .slice o4 m4 c4]] w1 fun e w' => e = .returned (.bool (amongB (p.al.take j) p.al[j])) ∧ Below w1.heap.size w1 w') := Lib.hid fun w1 hk => among_any (p.al.take j) p.al[j] _ _ w1 (HE.out.kb (hB1.out.trans (hk.mono hB1.out.size))) (fine_take HP.out.2.2 j) hfx.1 hfx.2 ⟨a, ca, ⟨_, by rw [List.length_take, Nat.min_eq_left (by omega)], by rw [List.length_take, Nat.min_eq_left (by omega)]; omega, by unfold maxLen; omega, fun _ => rfl⟩, isVs_take _ _ j (isVs_keep (cell_below (hB1.out.trans (hk.mono hB1.out.size))) _ a HVS.out)⟩ (isV_below hk hgg)
      have hst : stepAl p j = (kindB p.num p.al[j] && !amongB (p.al.take j) p.al[j]) := by unfold stepAl; rw [getD_lt _ _ _ hlt1]
      obtain ⟨r1, hr1⟩ : ∃ r1, kindB p.num p.al[j] = r1 := ⟨_, rfl⟩
      obtain ⟨r2, hr2⟩ : ∃ r2, amongB (p.al.take j) p.al[j] = r2 := ⟨_, rfl⟩
      rw [hr1] at HO hst
      rw [hr2] at HAM hst
      have HST := Lib.hid hst
      have HNO : (r1 && !r2) = true → Hid (∀ i, i < j + 1 → stepAl p i = true) := fun e => Lib.hid fun i hi => by
        by_cases e2 : i = j
        · subst e2; rw [HST.out, e]
        · exact hno.out i (by omega)
      have HBD : (r1 && !r2) = false → Hid (r = false) := fun e => Lib.hid (by rw [← HR.out]; exact mayAl_no hlt1 (by rw [HST.out, e]))
      have i1 : (0 : Int) ≤ (j : Int) := by omega
      have i2 : (j : Int) ≤ (ca : Int) := by omega
      have i3 : ¬ ca = 0 := by omega
      clear hgg hX hfx hst hr1 hr2 hno
      go_wp2_with fail
      generalize hW2 : (wr.alloc (.cells #[.int .i8 k3, .bool b3, .int .i64 n3, .string s3, .slice o3 m3 c3, .slice o4 m4 c4] 33)) = W2 at *
      clear hW2
      obtain ⟨x0, x1, x2, x3, x4, x5, x6, x7, x8, x9⟩ := ten_cells HXX.out
      obtain ⟨z0, z1, z2, z3, z4, z5⟩ := six_cells' HY.out
      have HO2 : Hid (∀ w1, KB W2 w1 → Calls Tryz.prog 20 #[.agg #[.int .i8 k3, .bool b3, .int .i64 n3, .string s3, .slice o3 m3 c3, .slice o4 m4 c4], .bool p.num] w1 fun e w' => e = .returned (.bool r1) ∧ Below w1.heap.size w1 w') := Lib.hid fun w1 hk => HO.out w1 (HA1.out.trans (hk.mono HA1.out.size))
      have HS2 : Hid (w.heap.size < W2.heap.size ∧ wr.heap.size < W2.heap.size) := Lib.hid ⟨(Array.getElem?_eq_some_iff.1 HXX.out).1, (Array.getElem?_eq_some_iff.1 HY.out).1⟩
      cases r1 with
      | false =>
        have HRES := HBD rfl
        clear HBD HNO HAM
        refine Rn.region_any (by kernel_rfl) ?_
        refine Rn.any_seg 0 3 (by kernel_rfl) rfl ?_
        simp only [List.take_succ_cons, List.take_zero, List.drop_zero, List.drop_succ_cons]
        repeat (refine Rn.ws_one (fun KK hKK => ?_); go_simp; refine hKK _ ?_; clear hKK KK)
        refine Rn.ws_nil ?_
        intro K0 hK0
        go_simp
        refine .inl ((HO2.out _ (drewB1 _ _)).mono ?_)
        rintro e w5 ⟨rfl, hb5⟩
        refine hK0 _ _ ?_
        clear hK0 K0
        have HK5 := Lib.hid (HA1.out.trans ((below_drew_of hb5).mono HA1.out.size))
        clear hb5
        refine Rn.any_end 4 (by kernel_rfl) ?_
        simp only [List.drop_succ_cons, List.drop_zero]
        repeat (refine Rn.ws_one (fun KK hKK => ?_); go_simp; refine hKK _ ?_; clear hKK KK)
        refine Rn.ws_nil ?_
        go_wp2_with fail
        go_ret
        exact ⟨by rw [HRES.out]; rfl, hB1.out.trans (HK5.out.mono hB1.out.size)⟩
      | true =>
        cases r2 with
        | true =>
          have HRES := HBD rfl
          clear HBD HNO
          refine Rn.region_any (by kernel_rfl) ?_
          refine Rn.any_seg 0 3 (by kernel_rfl) rfl ?_
          simp only [List.take_succ_cons, List.take_zero, List.drop_zero, List.drop_succ_cons]
          repeat (refine Rn.ws_one (fun KK hKK => ?_); go_simp; refine hKK _ ?_; clear hKK KK)
          refine Rn.ws_nil ?_
          intro K0 hK0
          go_simp
          refine .inl ((HO2.out _ (drewB1 _ _)).mono ?_)
          rintro e w5 ⟨rfl, hb5⟩
          refine hK0 _ _ ?_
          clear hK0 K0
          obtain ⟨x0, x1, x2, x3, x4, x5, x6, x7, x8, x9⟩ := ten_cells (((below_drew_of hb5).block w.heap.size HS2.out.1).trans HXX.out)
          obtain ⟨z0, z1, z2, z3, z4, z5⟩ := six_cells' (((below_drew_of hb5).block wr.heap.size HS2.out.2).trans HY.out)
          have HK5 := Lib.hid (HA1.out.trans ((below_drew_of hb5).mono HA1.out.size))
          clear hb5
          refine Rn.any_seg 4 11 (by kernel_rfl) rfl ?_
          simp only [List.take_succ_cons, List.take_zero, List.drop_zero, List.drop_succ_cons]
          repeat (refine Rn.ws_one (fun KK hKK => ?_); go_simp; refine hKK _ ?_; clear hKK KK)
          refine Rn.ws_nil ?_
          intro K0 hK0
          go_simp
          refine .inl ((HAM.out _ HK5.out).mono ?_)
          rintro e w6 ⟨rfl, hb6⟩
          refine hK0 _ _ ?_
          clear hK0 K0
          have HK6 := Lib.hid (HK5.out.trans (hb6.mono HK5.out.size))
          clear hb6
          refine Rn.any_end 12 (by kernel_rfl) ?_
          simp only [List.drop_succ_cons, List.drop_zero]
          repeat (refine Rn.ws_one (fun KK hKK => ?_); go_simp; refine hKK _ ?_; clear hKK KK)
          refine Rn.ws_nil ?_
          go_wp2_with fail
          go_ret
          exact ⟨by rw [HRES.out]; rfl, hB1.out.trans (HK6.out.mono hB1.out.size)⟩
        | false =>
          have HNN := HNO rfl
          clear HBD HNO
          refine Rn.region_any (by kernel_rfl) ?_
          refine Rn.any_seg 0 3 (by kernel_rfl) rfl ?_
          simp only [List.take_succ_cons, List.take_zero, List.drop_zero, List.drop_succ_cons]
          repeat (refine Rn.ws_one (fun KK hKK => ?_); go_simp; refine hKK _ ?_; clear hKK KK)
          refine Rn.ws_nil ?_
          intro K0 hK0
          go_simp
          refine .inl ((HO2.out _ (drewB1 _ _)).mono ?_)
          rintro e w5 ⟨rfl, hb5⟩
          refine hK0 _ _ ?_
          clear hK0 K0
          obtain ⟨x0, x1, x2, x3, x4, x5, x6, x7, x8, x9⟩ := ten_cells (((below_drew_of hb5).block w.heap.size HS2.out.1).trans HXX.out)
          obtain ⟨z0, z1, z2, z3, z4, z5⟩ := six_cells' (((below_drew_of hb5).block wr.heap.size HS2.out.2).trans HY.out)
          have HK5 := Lib.hid (HA1.out.trans ((below_drew_of hb5).mono HA1.out.size))
          clear hb5
          refine Rn.any_seg 4 11 (by kernel_rfl) rfl ?_
          simp only [List.take_succ_cons, List.take_zero, List.drop_zero, List.drop_succ_cons]
          repeat (refine Rn.ws_one (fun KK hKK => ?_); go_simp; refine hKK _ ?_; clear hKK KK)
          refine Rn.ws_nil ?_
          intro K0 hK0
          go_simp
          refine .inl ((HAM.out _ HK5.out).mono ?_)
          rintro e w6 ⟨rfl, hb6⟩
          refine hK0 _ _ ?_
          clear hK0 K0
          have HK6 := Lib.hid (HK5.out.trans (hb6.mono HK5.out.size))
          clear hb6
          refine Rn.any_end 12 (by kernel_rfl) ?_
          simp only [List.drop_succ_cons, List.drop_zero]
          repeat (refine Rn.ws_one (fun KK hKK => ?_); go_simp; refine hKK _ ?_; clear hKK KK)
          refine Rn.ws_nil ?_
          go_wp2_with fail
          go_roundw
          case rel => exact ⟨j + 1, by omega, by go_num, Lib.hid (hB.out.trans (HK6.out.mono hB.out.size)), HNN⟩
          case measure => simp [intOf]; omega
    · obtain rfl : j = q := by omega
      have HRES : Hid (r = true) := Lib.hid (by rw [← HR.out]; exact mayAl_yes (fun i hi => hno.out i (by rw [HQ.out]; exact hi)))
      clear hX
      go_wp2_with fail
      go_ret
      exact ⟨by rw [HRES.out]; rfl, hB1.out⟩

set_option maxRecDepth 100000 in
set_option maxHeartbeats 4000000 in
theorem mayBe_any (p : PR) (v : Value) (w : World) (hE : Env w) (hP : fineP p) (h : isP w p v) :
    Calls Tryz.prog 18 #[v] w fun e w' => e = .returned (.bool (mayBe p)) ∧ Below w.heap.size w w' := by
  have hnm : p.nm.size ≤ maxLen := by obtain ⟨_, _, _, _, _, _, _, _, _, _, _, _, _, _, _, _, _, h⟩ := h; exact h
  obtain ⟨k, b, n, s, o, m, c, o2, m2, c2, oa, ca, rfl, hd, ha⟩ := isP_ten h
  have HB0 : Hid (KB w (w.alloc (.cells #[.string p.nm, .bool p.num, .bool p.has, .int .i8 k, .bool b, .int .i64 n, .string s, .slice o m c, .slice o2 m2 c2, .slice oa p.al.length ca] 37))) := Lib.hid kbA
  have HN := Lib.hid (World.alloc_heap_new w (.cells #[.string p.nm, .bool p.num, .bool p.has, .int .i8 k, .bool b, .int .i64 n, .string s, .slice o m c, .slice o2 m2 c2, .slice oa p.al.length ca] 37))
  have HNM : Hid (∀ w1, Calls Tryz.prog 45 #[.string p.nm] w1 fun e w' => e = .returned (.bool (nameB p.nm.data.toList)) ∧ w1 = w') := Lib.hid fun w1 => name_any p.nm w1 hnm
  have HA : Hid (∀ w1, KB w w1 → Calls Tryz.prog 46 #[.agg #[.string p.nm, .bool p.num, .bool p.has, .int .i8 k, .bool b, .int .i64 n, .string s, .slice o m c, .slice o2 m2 c2, .slice oa p.al.length ca]] w1 fun e w' => e = .returned (.bool (mayAl p)) ∧ Below w1.heap.size w1 w') := Lib.hid fun w1 hk => mayAl_any p _ w1 (hE.kb hk) hP (isP_below hk h)
  have HD : Hid (∀ w1, KB w w1 → Calls Tryz.prog 47 #[.agg #[.string p.nm, .bool p.num, .bool p.has, .int .i8 k, .bool b, .int .i64 n, .string s, .slice o m c, .slice o2 m2 c2, .slice oa p.al.length ca]] w1 fun e w' => e = .returned (.bool (mayDef p)) ∧ Below w1.heap.size w1 w') := Lib.hid fun w1 hk => mayDef_any p _ w1 (hE.kb hk) hP (isP_below hk h)
  unfold mayBe
  generalize nameB p.nm.data.toList = r1 at *
  generalize mayAl p = r2 at *
  generalize mayDef p = r3 at *
  have hfl := hP.2.2.1
  clear h hd ha hE hP hnm
  obtain ⟨nm, num, has, d, al⟩ := p
  dsimp only at *
  generalize al.length = q at *
  cases r1 with
  | false =>
    rw [Bool.false_and]
    go_enter Tryz.func18, Tryz.ntmps18
    go_wp2_with (go_at_call 45; refine (HNM.out _).mono ?_; rintro e w5 ⟨rfl, rfl⟩)
    go_ret
    exact ⟨rfl, HB0.out⟩
  | true =>
    rw [Bool.true_and]
    by_cases hq : q ≤ 8
    · rw [decide_eq_true hq, Bool.true_and]
      have z1 : decide ((q : Int) ≤ 8) = true := decide_eq_true (by omega)
      have z2 : decide (q ≤ 8) = true := decide_eq_true hq
      clear hq
      cases r2 with
      | false =>
        rw [Bool.false_and]
        go_enter Tryz.func18, Tryz.ntmps18
        go_wp2_with (first
          | (go_at_call 45; refine (HNM.out _).mono ?_; rintro e w5 ⟨rfl, rfl⟩)
          | (go_at_call 46; refine (HA.out _ HB0.out).mono ?_; rintro e w5 ⟨rfl, hb5⟩))
        go_ret
        exact ⟨rfl, HB0.out.trans (hb5.mono HB0.out.size)⟩
      | true =>
        rw [Bool.true_and]
        go_enter Tryz.func18, Tryz.ntmps18
        go_wp2_with (first
          | (go_at_call 45; refine (HNM.out _).mono ?_; rintro e w5 ⟨rfl, rfl⟩)
          | (go_at_call 46; refine (HA.out _ HB0.out).mono ?_; rintro e w5 ⟨rfl, hb5⟩; obtain ⟨x0, x1, x2, x3, x4, x5, x6, x7, x8, x9⟩ := ten_cells ((hb5.block w.heap.size (by simp)).trans HN.out); have HK5 := Lib.hid (HB0.out.trans (hb5.mono HB0.out.size)))
          | (go_at_call 47; refine (HD.out _ HK5.out).mono ?_; rintro e w6 ⟨rfl, hb6⟩))
        go_ret
        exact ⟨rfl, HK5.out.trans (hb6.mono HK5.out.size)⟩
    · rw [decide_eq_false hq, Bool.false_and]
      have z1 : decide ((q : Int) ≤ 8) = false := decide_eq_false (by omega)
      have z2 : decide (q ≤ 8) = false := decide_eq_false hq
      clear hq
      go_enter Tryz.func18, Tryz.ntmps18
      go_wp2_with (go_at_call 45; refine (HNM.out _).mono ?_; rintro e w5 ⟨rfl, rfl⟩)
      go_ret
      exact ⟨rfl, HB0.out⟩
end Go.Proofs.YtlamkadllbgamaaGreatDoor
