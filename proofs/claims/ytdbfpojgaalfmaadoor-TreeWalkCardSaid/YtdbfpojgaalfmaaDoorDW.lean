/-
  The program's wrong: why a value may not be.
-/
import Derived.Test.YtdbfpojgaalfmaaDoorDF
import Derived.Test.YtdbfpojgaalfmaaDoorDC
import Derived.Test.YtdbfpojgaalfmaaDoorDD
set_option linter.unusedVariables false
namespace Go.Proofs.YtdbfpojgaalfmaaDoor
open Go.RowKit Go.Shelf
attribute [local go_sem] Oper.semAt_some

/-- The first that is not 0. -/
def firstNZ : List Int → Int | [] => 0 | e :: t => if e = 0 then firstNZ t else e
theorem firstNZ_app : ∀ (a b : List Int), firstNZ (a ++ b) = if firstNZ a = 0 then firstNZ b else firstNZ a
  | [], b => by simp [firstNZ]
  | e :: t, b => by
    have ih := firstNZ_app t b
    by_cases h : e = 0
    · simp [firstNZ, h, ih]
    · simp [firstNZ, h]
mutual
theorem firstNZ_walk : ∀ x : V, firstNZ ((walkV x).map ownW) = wrongV x
  | .mk k b n s l ks => by
    rw [walkV, List.map_cons, firstNZ, firstNZ_walks l, wrongV]
theorem firstNZ_walks : ∀ l : List V, firstNZ ((walkVs l).map ownW) = wrongVs l
  | [] => by simp [walkVs, firstNZ, wrongVs]
  | x :: t => by
    rw [walkVs, List.map_append, firstNZ_app, firstNZ_walk x, firstNZ_walks t, wrongVs]
end
/-- Why a value may not be; 0: it may. -/
noncomputable def pwrongV (x : V) : Int := if 24 < depthV x then 30 else wrongV x
/-- No row of keys is too long. -/
def fineV (x : V) : Prop := ∀ y ∈ walkV x, y.keys.length ≤ 3000

set_option maxRecDepth 100000 in
set_option maxHeartbeats 8000000 in
theorem pwrong_any (x : V) (v : Value) (w : World) (hE : Env w) (hM : sizeV x ≤ 1000000) (hF : fineV x) (h : isV w x v) :
    Calls Tryd.prog 45 #[v] w fun e w' => e = .returned (.int .i64 (pwrongV x)) ∧ Below w.heap.size w w' := by
  have hwl := walk_le x
  have HX := Lib.hid h
  have HM : Hid ((walkV x).length ≤ 1000000) := Lib.hid (by omega)
  have HF := Lib.hid hF
  have HE := Lib.hid hE
  have HW := Lib.hid (firstNZ_walk x)
  obtain ⟨k, b, n, s, o, m, c, o2, m2, c2, rfl⟩ := isV_six h
  obtain ⟨z, hz⟩ : ∃ z, min (depthV x) 25 = z := ⟨_, rfl⟩
  have HI : Hid (∀ w1, KB w w1 → Calls Tryd.prog 48 #[.agg #[.int .i8 k, .bool b, .int .i64 n, .string s, .slice o m c, .slice o2 m2 c2], .int .i64 24] w1 fun e w' => e = .returned (.int .i64 z) ∧ Below w1.heap.size w1 w') := Lib.hid fun w1 hK => by
    have := pdepth_any 24 x _ w1 (by omega) hM (isV_below hK h)
    rw [show min (depthV x) (24 + 1) = z from hz] at this
    exact this
  obtain ⟨r, hr⟩ : ∃ r, pwrongV x = r := ⟨_, rfl⟩
  rw [hr]
  by_cases hd : 24 < depthV x
  · have hzz : (24 : Int) < (z : Int) := by omega
    have HR : Hid (r = 30) := Lib.hid (by rw [← hr, pwrongV, if_pos hd])
    have HB0 : Hid (KB w ((w.alloc (.cells #[.int .i8 k, .bool b, .int .i64 n, .string s, .slice o m c, .slice o2 m2 c2] 26)).alloc (.cells #[.int .i64 0] 32))) := Lib.hid (by unfold KB; go_grown)
    have bR := Boxed.new (w.alloc (.cells #[.int .i8 k, .bool b, .int .i64 n, .string s, .slice o m c, .slice o2 m2 c2] 26)) 32 (.int .i64 0)
    rw [World.size_alloc] at bR
    clear h hE hM hF hz hr hd hwl
    go_enter Tryd.func45, Tryd.ntmps45
    go_wp2_with fail
    generalize hW1 : (w.alloc (.cells #[.int .i8 k, .bool b, .int .i64 n, .string s, .slice o m c, .slice o2 m2 c2] 26)).alloc (.cells #[.int .i64 0] 32) = W1 at *
    clear hW1
    refine (HI.out W1 HB0.out).mono ?_
    rintro e w5 ⟨rfl, hb5⟩
    have b5 := bR.kept (grown_bel hb5) (by simp)
    have f5 := b5.frozen
    have e5 := b5.cell
    have d5 := (b5.set (.int .i64 30)).cell
    have HB5 := Lib.hid (HB0.out.trans (hb5.mono HB0.out.size))
    clear hb5 b5 bR
    go_wp2_with fail
    refine bodyPost_ret (v := .int .i64 30) (by simp [results, Tryd.results45, go_sem, d5]) rfl ⟨ret_int HR.out.symm, ?_⟩
    exact HB5.out.setCell (p := ⟨w.heap.size + 1, 0, none⟩) (by simp) _
  · have hzz : decide ((24 : Int) < (z : Int)) = false := decide_eq_false (by omega)
    have hzz2 : decide (24 < z) = false := decide_eq_false (by omega)
    have HR : Hid (r = wrongV x) := Lib.hid (by rw [← hr, pwrongV, if_neg hd])
    have hB0 : KB w ((w.alloc (.cells #[.int .i8 k, .bool b, .int .i64 n, .string s, .slice o m c, .slice o2 m2 c2] 26)).alloc (.cells #[.int .i64 0] 32)) := by unfold KB; go_grown
    have bR := Boxed.new (w.alloc (.cells #[.int .i8 k, .bool b, .int .i64 n, .string s, .slice o m c, .slice o2 m2 c2] 26)) 32 (.int .i64 0)
    have bX : ((w.alloc (.cells #[.int .i8 k, .bool b, .int .i64 n, .string s, .slice o m c, .slice o2 m2 c2] 26)).alloc (.cells #[.int .i64 0] 32)).heap[w.heap.size]? = some (.cells #[.int .i8 k, .bool b, .int .i64 n, .string s, .slice o m c, .slice o2 m2 c2] 26 (0, 0)) := (Below.heap_alloc _ _ _ (by simp)).trans (World.alloc_heap_new w _)
    have hs2 : ((w.alloc (.cells #[.int .i8 k, .bool b, .int .i64 n, .string s, .slice o m c, .slice o2 m2 c2] 26)).alloc (.cells #[.int .i64 0] 32)).heap.size = w.heap.size + 2 := by simp
    rw [World.size_alloc] at bR
    clear h hE hM hF hz hr hd hwl
    refine (callsIn_wide (n := 9)).1 ?_
    refine callsIn_of_wp_marks Tryd.func45 rfl trivial ?_ rfl
    simp only [Tryd.ntmps45, List.size_toArray, List.length_cons, List.length_nil, Nat.reduceAdd, Nat.reduceSub, Array.replicate_succ, Array.replicate_zero, List.push_toArray, List.append_toArray, List.nil_append, List.cons_append]
    gi_wp2_with fail
    generalize hW1 : (w.alloc (.cells #[.int .i8 k, .bool b, .int .i64 n, .string s, .slice o m c, .slice o2 m2 c2] 26)).alloc (.cells #[.int .i64 0] 32) = W1 at *
    clear hW1
    refine ⟨trivial, ?_⟩
    refine (callsIn_wide.2 (HI.out W1 hB0)).mono ?_
    rintro e w5 ⟨rfl, hb5⟩
    have b5 := bR.kept (grown_bel hb5) (by simp)
    have x5 := (hb5.block w.heap.size (by omega)).trans bX
    have hz5 := hb5.size
    have hB5 : Below w.heap.size w w5 := hB0.trans (hb5.mono hB0.size)
    obtain ⟨r0, r1, r2, r3, r4, r5⟩ := six_cells x5
    have X5 := Lib.hid b5
    have HB5 := Lib.hid hB5
    clear hb5 bR bX hB0 x5 b5 hB5
    gi_wp2_with fail
    refine ⟨trivial, ?_⟩
    refine (all_in _ _ _ _ _ _ _ _ _ _ _ _ rfl _).mono ?_
    rintro e w' ⟨rfl, rfl⟩
    gi_wp2_with fail
    have hz5' := HB5.out.size
    have hB6 : Below w.heap.size w (w5.alloc (.cells #[.int .i8 k, .bool b, .int .i64 n, .string s, .slice o m c, .slice o2 m2 c2] 26)) := HB5.out.alloc hz5' _
    have x6 := World.alloc_heap_new w5 (.cells #[.int .i8 k, .bool b, .int .i64 n, .string s, .slice o m c, .slice o2 m2 c2] 26)
    have b6 := X5.out.alloc (.cells #[.int .i8 k, .bool b, .int .i64 n, .string s, .slice o m c, .slice o2 m2 c2] 26)
    have hs6 : (w5.alloc (.cells #[.int .i8 k, .bool b, .int .i64 n, .string s, .slice o m c, .slice o2 m2 c2] 26)).heap.size = w5.heap.size + 1 := by simp
    clear r0 r1 r2 r3 r4 r5 hzz hzz2
    generalize hW6 : w5.alloc (.cells #[.int .i8 k, .bool b, .int .i64 n, .string s, .slice o m c, .slice o2 m2 c2] 26) = W6 at *
    clear hW6
    refine range_own (by omega) (gf := 69) (lb := #[.pointer (some ⟨w5.heap.size, 0, none⟩)]) rfl (enters_of Tryd.func69 (by kernel_rfl) rfl)
      (all_seq (9 - 1) (by omega) w (w.heap.size + 2) (fun y => y.keys.length ≤ 3000) x _ HX.out HF.out HM.out w5.heap.size W6 hB6 (by omega) (by omega) _ rfl x6) kc_t (kc_b (by omega)) (Below.refl _ _) (fun _ => rfl)
      (fun pre W => Boxed W (w.heap.size + 1) 32 (.int .i64 0) ∧ (Below w.heap.size w W ∧ firstNZ (pre.map fun y => ownW y.1.1) = 0))
      (fun c pre W => c = .ret ∧ (Boxed W (w.heap.size + 1) 32 (.int .i64 (firstNZ (pre.map fun y => ownW y.1.1))) ∧ (Below w.heap.size w W ∧ firstNZ (pre.map fun y => ownW y.1.1) ≠ 0)))
      ?hI ?hIx ?h0
      (fun x a' W => ∃ (Bx : Nat) (k' : Int) (b' : Bool) (n' : Int) (s' : ByteArray) (o1 : Option Addr) (m1 p1 : Nat) (o3 : Option Addr) (m3 p3 : Nat), x.1.2 = .agg #[.int .i8 k', .bool b', .int .i64 n', .string s', .slice o1 m1 p1, .slice o3 m3 p3] ∧ W.heap[Bx]? = some (.cells #[.int .i8 k', .bool b', .int .i64 n', .string s', .slice o1 m1 p1, .slice o3 m3 p3] 26 (0, 0)) ∧ a' = {
        tmps := #[.agg #[.int .i8 k, .bool b, .int .i64 n, .string s, .slice o m c, .slice o2 m2 c2], .pointer (some ⟨w.heap.size, 0, none⟩), .pointer (some ⟨w.heap.size + 1, 0, none⟩), .pointer (some ⟨Bx, 0, none⟩), undef, .agg #[.int .i8 k, .bool b, .int .i64 n, .string s, .slice o m c, .slice o2 m2 c2], .int .i64 z, .bool false, .agg #[.int .i8 k, .bool b, .int .i64 n, .string s, .slice o m c, .slice o2 m2 c2],
          .func (.func 69) #[] #[.pointer (some ⟨w5.heap.size, 0, none⟩)], .agg #[.int .i8 k', .bool b', .int .i64 n', .string s', .slice o1 m1 p1, .slice o3 m3 p3], undef, undef, undef, undef, undef],
        defers := [] })
      ?hAx ?assign ?body ?done ?stop
    case hI => exact Free.and (free_boxed (by omega) _ _) (Free.and (free_below (by omega) (Nat.le_refl _)) (free_pure _ _))
    case hIx =>
      intro c
      exact Free.and (free_pure _ _) (Free.and (free_boxed (by omega) _ _) (Free.and (free_below (by omega) (Nat.le_refl _)) (free_pure _ _)))
    case h0 => exact ⟨b6, hB6, rfl⟩
    case hAx =>
      rintro x a' W l r o' hl hr ⟨Bx, k', b', n', s', o1, m1, p1, o3, m3, p3, h1, h2, h3⟩
      refine ⟨Bx, k', b', n', s', o1, m1, p1, o3, m3, p3, h1, ?_, h3⟩
      exact (World.putObj_heap_other (fun e => by subst e; rw [hr] at h2; cases h2)).trans h2
    case assign =>
      rintro l' pre x W K ⟨b1, hB1, hd⟩ hK
      obtain ⟨k', b', n', s', o1, m1, p1, o3, m3, p3, hx⟩ := isV_six x.2.1
      have hen : encEl x = #[.agg #[.int .i8 k', .bool b', .int .i64 n', .string s', .slice o1 m1 p1, .slice o3 m3 p3]] := by unfold encEl; rw [hx]
      rw [hen]
      have HK := Lib.hid hK
      have HD := Lib.hid hd
      clear hK hd
      gi_wp2_with fail
      refine HK.out _ _ ?_ ?_ ?_ ⟨W.heap.size, k', b', n', s', o1, m1, p1, o3, m3, p3, hx, ?_, rfl⟩
      · exact (KeepsOthers.alloc _ _).from _
      · exact kc_below (by go_grown) hB1.size
      · exact ⟨b1.alloc _, hB1.alloc hB1.size _, HD.out⟩
      · exact World.alloc_heap_new W _
    case body =>
      rintro l' pre x a' W hl _ ⟨b1, hB1, hd⟩ ⟨Bx, k', b', n', s', o1, m1, p1, o3, m3, p3, hx, hbx, rfl⟩ hlen
      obtain ⟨r0, r1, r2, r3, r4, r5⟩ := six_cells hbx
      have hv5 := x.2.1
      rw [hx] at hv5
      have HC := Lib.hid (fault_any x.1.1 _ W (HE.out.below hB1 HE.out.1) (by have := x.2.2; omega) (isV_below hB1 hv5))
      have hN : firstNZ ((pre ++ [x]).map fun y => ownW y.1.1) = ownW x.1.1 := by
        rw [List.map_append, firstNZ_app, if_pos hd]
        simp only [List.map_cons, List.map_nil, firstNZ]
        split
        · rename_i h; rw [h]
        · rfl
      generalize ownW x.1.1 = q at *
      have HN := Lib.hid hN
      have B1 := Lib.hid b1
      have HB := Lib.hid hB1
      clear hbx hv5 hN hx hd b1 hB1
      gi_wp2_with fail
      refine ⟨trivial, ?_⟩
      refine (CallsIn.inRound l' (callsIn_wide.2 HC.out)).mono ?_
      clear r0 r1 r2 r3 r4 r5 HC
      rintro e w7 ⟨rfl, hb7⟩
      have b7 := B1.out.kept (grown_bel hb7) (by simp)
      have hz7 := hb7.size
      have hzW := HB.out.size
      have HB7 := Lib.hid hb7
      by_cases hq : q = 0
      · subst hq
        clear hb7
        have BB := Lib.hid b7
        clear b7
        gi_wp2_with fail
        exact ⟨(keeps_below HB7.out).from _, kc_below HB7.out hzW, BB.out, HB.out.trans (HB7.out.mono hzW), HN.out⟩
      · have hqb : (q != 0) = true := bne_iff_ne.2 hq
        have hqb2 : (q == 0) = false := beqI hq
        have f7 := b7.frozen
        have e7 := b7.cell
        have BB := Lib.hid (b7.set (.int .i64 q))
        have HQ := Lib.hid hq
        clear hb7 b7 hq
        gi_wp2_with fail
        exact ⟨((keeps_below HB7.out).trans (KeepsOthers.setCell _ _ _)).from _, rfl, by rw [HN.out]; exact BB.out, (HB.out.trans (HB7.out.mono hzW)).setCell (p := ⟨w.heap.size + 1, 0, none⟩) (by simp) _, by rw [HN.out]; exact HQ.out⟩
    case done =>
      rintro D xs W hD hS ⟨b1, hB1, hd⟩ hK
      have hr0 : r = 0 := by
        rw [HR.out, ← HW.out, ← hS, List.map_map]; exact hd
      have HR0 := Lib.hid hr0
      have f1 := b1.frozen
      have e1 := b1.cell
      have d1 := (b1.set (.int .i64 0)).cell
      have HB := Lib.hid hB1
      have HK := Lib.hid hK
      have hKs : (W.setCell ⟨w.heap.size + 1, 0, none⟩ (.int .i64 0)).heap[D]? = some (.deferred (some [])) := (KeepsOthers.setCell _ _ _).same D _ hK rfl
      have HKS := Lib.hid hKs
      have d2 := cell_kept (a := ⟨w.heap.size + 1, 0, none⟩) d1 (grownBy_putObj' _ D (.deferred none)) (fun r e => by cases e; exact ⟨_, hKs, rfl⟩)
      clear hS hr0 b1 hB1 hK hd b6 x6 hB6 hKs
      gi_wp2_with fail
      refine ⟨by simp, .inl ⟨_, _, rfl, run_takeDeferred HKS.out, ?_⟩⟩
      refine ⟨.int .i64 0, by simp [results, Tryd.results45, go_sem, d2], ret_int HR0.out.symm, ?_⟩
      have hzz := HB.out.size
      exact (HB.out.setCell (p := ⟨w.heap.size + 1, 0, none⟩) (by simp) _).trans (belowK_b (w := w) (Nat.le_refl _) _ D _ _ (by omega) HKS.out rfl rfl)
    case stop =>
      rintro D c pre W hD hS ⟨rfl, b1, hB1, hd⟩ hK
      have hr0 : r = firstNZ (pre.map fun y => ownW y.1.1) := by
        obtain ⟨t, ht⟩ := hS
        rw [HR.out, ← HW.out, ← ht, List.map_append, firstNZ_app, List.map_map]
        exact if_neg hd
      rw [← hr0] at b1
      have d1 := b1.cell
      have HB := Lib.hid hB1
      have HK := Lib.hid hK
      have d2 := cell_kept (a := ⟨w.heap.size + 1, 0, none⟩) d1 (grownBy_putObj' _ D (.deferred none)) (fun r e => by cases e; exact ⟨_, hK, rfl⟩)
      clear hS hr0 b1 hB1 hK hd b6 x6 hB6
      gi_wp2_with fail
      refine ⟨by simp, .inl ⟨_, _, rfl, run_takeDeferred HK.out, ?_⟩⟩
      refine ⟨.int .i64 r, by simp [results, Tryd.results45, go_sem, d2], rfl, ?_⟩
      have hzz := HB.out.size
      exact HB.out.trans (belowK_b (w := w) (Nat.le_refl _) _ D _ _ (by omega) HK.out rfl rfl)
end Go.Proofs.YtdbfpojgaalfmaaDoor
