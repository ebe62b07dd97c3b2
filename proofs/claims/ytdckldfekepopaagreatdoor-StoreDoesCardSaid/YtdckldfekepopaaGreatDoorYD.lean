/-
  The law's same, Great.
-/
import Derived.Test.YtdckldfekepopaaGreatDoorYC
import Derived.Test.YtdckldfekepopaaGreatDoorZW
set_option linter.unusedVariables false
set_option linter.unusedSimpArgs false
namespace Go.Proofs.YtdckldfekepopaaGreatDoor
open Go.RowKit

set_option maxRecDepth 100000 in
set_option maxHeartbeats 4000000 in
theorem lsame_any (s : St) (u v : Value) (w : World) (hF : fineS s) (h : isS w s u) (h' : isS w s v) :
    Calls Tryz.prog 15 #[u, v] w fun e w' => e = .returned (.bool true) ∧ Below w.heap.size w w' := by
  have HS : Hid (∀ w1, KB w w1 → Calls Tryz.prog 36 #[u, v] w1 fun e w' => e = .returned (.bool true) ∧ Below w1.heap.size w1 w') := Lib.hid fun w1 hk => rsame10_any s u v w1 hF (isS_below hk h) (isS_below hk h')
  obtain ⟨o, cap, rfl, -, -⟩ := isS_two h
  obtain ⟨o', cap', rfl, -, -⟩ := isS_two h'
  have HO : Hid (∀ w1, Calls Tryz.prog 10 #[.agg #[.slice o s.l.length cap, .int .i64 s.made]] w1 fun e w' => e = .returned (.agg #[.slice o s.l.length cap, .int .i64 s.made]) ∧ Below w1.heap.size w1 w') := Lib.hid fun w1 => own_any _ _ w1 _ _ _ rfl
  have HB0 : Hid (KB w ((w.alloc (.cells #[.slice o s.l.length cap, .int .i64 s.made] 24)).alloc (.cells #[.slice o' s.l.length cap', .int .i64 s.made] 31))) := Lib.hid (by unfold KB; go_grown)
  have hn1 := (Below.heap_alloc (w.alloc (.cells #[.slice o s.l.length cap, .int .i64 s.made] 24)) (.cells #[.slice o' s.l.length cap', .int .i64 s.made] 31) w.heap.size (by simp)).trans (World.alloc_heap_new w _)
  have hn2 := World.alloc_heap_new (w.alloc (.cells #[.slice o s.l.length cap, .int .i64 s.made] 24)) (.cells #[.slice o' s.l.length cap', .int .i64 s.made] 31)
  rw [World.size_alloc] at hn2
  clear h h' hF
  go_enter Tryz.func15, Tryz.ntmps15
  go_wp2_with fail
  generalize hW2 : ((w.alloc (.cells #[.slice o s.l.length cap, .int .i64 s.made] 24)).alloc (.cells #[.slice o' s.l.length cap', .int .i64 s.made] 31)) = W2 at *
  clear hW2
  obtain ⟨r0, r1⟩ := two_cells hn1
  obtain ⟨r2, r3⟩ := two_cells hn2
  go_region_with (first
    | (go_at_call 10; refine (HO.out _).mono ?_; rintro e w5 ⟨rfl, hb5⟩; have r2 := cell_below (below_drew_of hb5) _ _ r2; have r3 := cell_below (below_drew_of hb5) _ _ r3)
    | (go_at_call 36; refine (HS.out _ (HB0.out.trans ((below_drew_of hb5).mono HB0.out.size))).mono ?_; rintro e w6 ⟨rfl, hb6⟩))
  all_goals
    have HX := Lib.hid (HB0.out.trans (((below_drew_of hb5).trans (hb6.mono (below_drew_of hb5).size)).mono HB0.out.size))
    clear hb5 hb6
    go_wp2_with fail
    go_ret
    exact ⟨rfl, HX.out⟩

def badT (t : Th) : Bool := greatG t.ps || (decide (200 < t.ty.size) || decide (200 < t.ph.size))
def greatS (s : St) : Bool := (s.l.take 41).any badT || decide (40 < s.l.length)
theorem greatS_no {s : St} (h : greatS s = false) : s.l.length ≤ 40 ∧ ∀ t ∈ s.l, greatG t.ps = false ∧ t.ty.size ≤ 200 ∧ t.ph.size ≤ 200 := by
  unfold greatS at h
  rw [Bool.or_eq_false_iff] at h
  have h2 := of_decide_eq_false h.2
  refine ⟨by omega, fun t ht => ?_⟩
  rw [List.take_of_length_le (by omega)] at h
  have h3 := List.any_eq_false.1 h.1 t ht
  have h4 : badT t = false := by simpa using h3
  unfold badT at h4
  rw [Bool.or_eq_false_iff, Bool.or_eq_false_iff] at h4
  have := of_decide_eq_false h4.2.1
  have := of_decide_eq_false h4.2.2
  exact ⟨h4.1, by omega, by omega⟩
theorem fineG_of {L : List G} (h : greatG L = false) : fineG L := ⟨by have := (greatG_no h).1; omega, fun g hg => ⟨((greatG_no h).2 g hg).2.1, ((greatG_no h).2 g hg).2.2⟩⟩
theorem fineS_of {s : St} (h : greatS s = false) : fineS s := ⟨by have := (greatS_no h).1; omega, fun t ht => ⟨by have := ((greatS_no h).2 t ht).2.1; omega, fineG_of ((greatS_no h).2 t ht).1⟩⟩

set_option maxRecDepth 100000 in
set_option maxHeartbeats 8000000 in
theorem great10_any (s : St) (v : Value) (w : World) (h : isS w s v) :
    Calls Tryz.prog 23 #[v] w fun e w' => e = .returned (.bool (greatS s)) ∧ Below w.heap.size w w' := by
  obtain ⟨o, cap, rfl, ⟨a, c9, ⟨o9, e, hc1, hc2, ho⟩, hat⟩, hm⟩ := isS_two h
  simp only [Value.slice.injEq, true_and] at e
  obtain ⟨rfl, rfl⟩ := e
  unfold maxLen at hc2
  have HK := Lib.hid hat
  have HB0 : Hid (KB w (w.alloc (.cells #[.slice o s.l.length cap, .int .i64 s.made] 31))) := Lib.hid kbA
  have hn1 := World.alloc_heap_new w (.cells #[.slice o s.l.length cap, .int .i64 s.made] 31)
  obtain ⟨r, hr⟩ : ∃ r, greatS s = r := ⟨_, rfl⟩
  rw [hr]
  have HR := Lib.hid hr
  clear h hat hr
  go_enter Tryz.func23, Tryz.ntmps23
  go_wp2_with fail
  generalize hW2 : (w.alloc (.cells #[.slice o s.l.length cap, .int .i64 s.made] 31)) = W2 at *
  clear hW2
  have HN := Lib.hid hn1
  clear hn1
  go_loopw [3] (fun i wr => ∃ (j : Nat), j ≤ s.l.length ∧ j ≤ 41 ∧ i = .int .i64 j ∧ Hid ((s.l.take j).any badT = false) ∧ Hid (Below W2.heap.size W2 wr)) (fun i _ => s.l.length - (intOf i).toNat)
  case atStart => exact ⟨0, by omega, by omega, rfl, Lib.hid rfl, Lib.hid (Below.refl _ _)⟩
  case round =>
    obtain ⟨j, hj, hj41, rfl, hA, hB⟩ := hrel
    have hBw : Below w.heap.size w wr := HB0.out.trans (hB.out.mono HB0.out.size)
    obtain ⟨r0, r1⟩ := two_cells ((hB.out.block _ (Array.getElem?_eq_some_iff.1 HN.out).1).trans HN.out)
    by_cases hlt : j < s.l.length
    · by_cases h40 : j ≤ 40
      · have y1 : decide ((j : Int) ≤ 40) = true := decide_eq_true (by omega)
        obtain rfl := ho (by omega)
        obtain ⟨o1, c1, q0, q1, q2, ht⟩ := isTat_three (isTat_below hBw (HK.out j hlt))
        obtain ⟨_, e1, hg, hp1, hp2⟩ := ht
        simp only [Value.agg.injEq, Array.mk.injEq, List.cons.injEq, true_and, and_true] at e1
        subst e1
        have HG := Lib.hid (great9_any s.l[j].ps _ wr hg)
        have hst : (s.l.take (j + 1)).any badT = badT s.l[j] := by
          rw [List.take_succ_eq_append_getElem hlt, List.any_append, hA.out]
          simp
        have hup : badT s.l[j] = true → r = true := fun h => by
          rw [← HR.out]
          unfold greatS
          rw [Bool.or_eq_true, List.any_eq_true]
          exact .inl ⟨s.l[j], List.mem_take_iff_getElem.2 ⟨j, by omega, rfl⟩, h⟩
        have HBW := Lib.hid hBw
        clear hg hBw
        by_cases hb1 : greatG s.l[j].ps = true
        · have HR2 := Lib.hid (hup (by unfold badT; rw [hb1]; rfl))
          rw [hb1] at HG
          clear hup hst hb1
          generalize s.l[j] = t at *
          go_wp2_with (go_at_call 24; refine HG.out.mono ?_; rintro e w5 ⟨rfl, hb5⟩)
          go_ret
          exact ⟨ret_bool HR2.out.symm, HBW.out.trans (hb5.mono HBW.out.size)⟩
        · have hb1' : greatG s.l[j].ps = false := by simpa using hb1
          rw [hb1'] at HG
          have HR0 := Lib.hid (And.intro (cell_below (W' := wr) (Below.refl _ _) _ _ r0) (And.intro q0 q1))
          by_cases hb2 : 200 < s.l[j].ty.size
          · have HR2 := Lib.hid (hup (by unfold badT; rw [decide_eq_true hb2, Bool.true_or, Bool.or_true]))
            have y2 : decide ((200 : Int) < (s.l[j].ty.size : Int)) = true := decide_eq_true (by omega)
            clear hup hst hb1 hb1' hb2
            generalize s.l[j] = t at *
            go_wp2_with (go_at_call 24; refine HG.out.mono ?_; rintro e w5 ⟨rfl, hb5⟩; have r0 := cell_below hb5 _ _ r0; have q0 := cell_below hb5 _ _ q0; have q1 := cell_below hb5 _ _ q1)
            go_ret
            exact ⟨ret_bool HR2.out.symm, HBW.out.trans (hb5.mono HBW.out.size)⟩
          · have y2 : decide ((200 : Int) < (s.l[j].ty.size : Int)) = false := decide_eq_false (by omega)
            by_cases hb3 : 200 < s.l[j].ph.size
            · have HR2 := Lib.hid (hup (by unfold badT; rw [decide_eq_true hb3, Bool.or_true, Bool.or_true]))
              have y3 : decide ((200 : Int) < (s.l[j].ph.size : Int)) = true := decide_eq_true (by omega)
              clear hup hst hb1 hb1' hb2 hb3
              generalize s.l[j] = t at *
              go_wp2_with (go_at_call 24; refine HG.out.mono ?_; rintro e w5 ⟨rfl, hb5⟩; have r0 := cell_below hb5 _ _ r0; have q0 := cell_below hb5 _ _ q0; have q1 := cell_below hb5 _ _ q1)
              go_ret
              exact ⟨ret_bool HR2.out.symm, HBW.out.trans (hb5.mono HBW.out.size)⟩
            · have y3 : decide ((200 : Int) < (s.l[j].ph.size : Int)) = false := decide_eq_false (by omega)
              have HA2 : Hid ((s.l.take (j + 1)).any badT = false) := Lib.hid (by rw [hst]; unfold badT; rw [hb1', decide_eq_false hb2, decide_eq_false hb3]; rfl)
              clear hup hst hb1 hb1' hb2 hb3
              generalize s.l[j] = t at *
              go_wp2_with (go_at_call 24; refine HG.out.mono ?_; rintro e w5 ⟨rfl, hb5⟩; have r0 := cell_below hb5 _ _ r0; have q0 := cell_below hb5 _ _ q0; have q1 := cell_below hb5 _ _ q1)
              go_roundw
              case rel => exact ⟨j + 1, by omega, by omega, by go_num, HA2, Lib.hid (hB.out.trans (hb5.mono hB.out.size))⟩
              case measure => simp [intOf]; omega
      · obtain rfl : j = 41 := by omega
        have y1 : decide (((41 : Nat) : Int) ≤ 40) = false := by decide
        have y2 : decide ((40 : Int) < (s.l.length : Int)) = true := decide_eq_true (by omega)
        have HRES : Hid (r = true) := Lib.hid (by
          rw [← HR.out]
          unfold greatS
          rw [decide_eq_true (show 40 < s.l.length by omega), Bool.or_true])
        clear h40
        go_wp2_with fail
        go_ret
        exact ⟨ret_bool HRES.out.symm, hBw⟩
    · obtain rfl : j = s.l.length := by omega
      have HRES : Hid (r = decide ((40 : Int) < (s.l.length : Int))) := Lib.hid (by
        have := hA.out
        rw [List.take_of_length_le (Nat.le_refl _)] at this
        rw [← HR.out]
        unfold greatS
        rw [List.take_of_length_le (by omega), this, Bool.false_or]
        exact decide_eq_decide.2 (by omega))
      go_wp2_with fail
      go_ret
      exact ⟨ret_bool HRES.out.symm, hBw⟩
end Go.Proofs.YtdckldfekepopaaGreatDoor
