/-
  The program's depth.
-/
import Derived.Test.YtdbfpojgaalfmaaDoorDV
set_option linter.unusedVariables false
namespace Go.Proofs.YtdbfpojgaalfmaaDoor
open Go.RowKit Go.Shelf
attribute [local go_sem] Oper.semAt_some

theorem boxed_drew {W w5 : World} {B : Nat} {t : TypeId} {v : Value} (h : Boxed W B t v) (hb : Below W.drew.heap.size W.drew w5) : Boxed w5 B t v :=
  Boxed.kept (W := W.drew) h (grown_bel hb) (by simp)
theorem below_drew_of {W w5 : World} (h : Below W.drew.heap.size W.drew w5) : Below W.heap.size W w5 := Below.trans (⟨rfl, rfl, rfl, Nat.le_refl _, fun _ _ => rfl⟩ : Below W.heap.size W W.drew) h
/-- How deep the parts that have come are, at most 'most'. -/
def depP (most : Nat) {w0 : World} {Q : V → Prop} (pre : List (El w0 Q)) : Nat := min (depthVs (pre.map (·.1.1))) most

set_option maxRecDepth 100000 in
set_option maxHeartbeats 4000000 in
theorem pdepth_any : ∀ (most : Nat) (x : V) (v : Value) (w : World), most ≤ 1000 → sizeV x ≤ 1000000 → isV w x v →
    Calls Tryd.prog 48 #[v, .int .i64 most] w fun e w' => e = .returned (.int .i64 (min (depthV x) (most + 1) : Nat)) ∧ Below w.heap.size w w'
  | 0, x, v, w, _, hM, h => by
    have hp := depthV_pos x
    rw [show min (depthV x) (0 + 1) = 1 by omega]
    obtain ⟨k, b, n, s, l, ks⟩ := x
    unfold isV at h
    obtain ⟨lv, kv, rfl, _⟩ := h
    go_enter Tryd.func48, Tryd.ntmps48
    go_wp2
    go_ret
    exact ⟨rfl, by go_grown⟩
  | most + 1, x, v, w, hm, hM, h => by
    have HI : Hid (∀ (y : V) (u : Value) (w1 : World), sizeV y ≤ 1000000 → isV w1 y u → Calls Tryd.prog 48 #[u, .int .i64 most] w1 fun e w' => e = .returned (.int .i64 (min (depthV y) (most + 1) : Nat)) ∧ Below w1.heap.size w1 w') := Lib.hid fun y u w1 h1 h2 => pdepth_any most y u w1 (by omega) h1 h2
    obtain ⟨k, b, n, s, l, ks⟩ := x
    unfold isV at h
    obtain ⟨lv, kv, rfl, hk, hn, hs, ⟨a, cap, ⟨o, rfl, hc1, hc2, ho⟩, hvs⟩, ⟨a2, cap2, ⟨o2, rfl, hc3, hc4, ho2⟩, hks⟩⟩ := h
    unfold maxLen at hs hc2 hc4
    have HD : Hid (depthV (.mk k b n s l ks) = 1 + depthVs l) := Lib.hid (by rw [depthV])
    have hls := sizeVs_len l
    obtain ⟨r, hr⟩ : ∃ r : Nat, min (depthV (.mk k b n s l ks)) (most + 1 + 1) = r := ⟨_, rfl⟩
    rw [hr]
    have HR := Lib.hid hr
    clear hr
    have HS : Hid (l.length ≤ 1000000 ∧ ∀ i (h : i < l.length), sizeV l[i] ≤ 1000000) := Lib.hid (by
      have hsz : sizeV (.mk k b n s l ks) = 1 + s.size + keysS ks + sizeVs l := by rw [sizeV]
      exact ⟨by omega, fun i h => by have := sizeVs_get l i h; omega⟩)
    have HV : Hid (isVs w l a) := Lib.hid hvs
    have hl0 : ((most : Int) + 1 == 0) = false := by rw [beq_eq_false_iff_ne]; omega
    clear hvs hks hk hn ho2 hls hM
    refine (callsIn_wide (n := 9)).1 ?_
    refine callsIn_of_wp_marks Tryd.func48 rfl trivial ?_ rfl
    simp only [Tryd.ntmps48, List.size_toArray, List.length_cons, List.length_nil, Nat.reduceAdd, Nat.reduceSub, Array.replicate_succ, Array.replicate_zero, List.push_toArray, List.append_toArray, List.nil_append, List.cons_append]
    rw [show ((most + 1 : Nat) : Int) = (most : Int) + 1 by omega]
    gi_wp2_with fail
    refine ⟨trivial, ?_⟩
    refine (values_in _ _ _ _ _).mono ?_
    rintro e w' ⟨rfl, rfl⟩
    gi_wp2_with fail
    obtain ⟨W0, hW0, hB0, hsz, bM, bB, bS⟩ := boxes4 w (.cells #[.int .i8 k, .bool b, .int .i64 n, .string s, .slice o l.length cap, .slice o2 ks.length cap2] 26) 3 (.int .i64 ((most : Int) + 1)) 3 (.int .i64 0) 23 (.slice o l.length cap)
    rw [hW0]
    clear hW0
    refine wpIn_rangeFunc_ownH rfl (by omega) (gf := 92) (lb := #[.pointer (some ⟨w.heap.size + 1 + 1 + 1, 0, none⟩)]) rfl trivial (enters_of Tryd.func92 (by kernel_rfl) rfl)
      (values_stops (9 - 1) (by omega) w (w.heap.size + 1 + 1 + 1 + 1) (fun y => sizeV y ≤ 1000000) l ?hQ HS.out.1 o a cap ho HV.out (w.heap.size + 1 + 1 + 1) W0 hB0 (by omega) bS.cell) kc_t (kc_b (by omega)) (Below.refl _ _) (fun _ => rfl)
      (fun pre W => (Boxed W (w.heap.size + 1) 3 (.int .i64 ((most : Int) + 1)) ∧ Boxed W (w.heap.size + 1 + 1) 3 (.int .i64 (depP (most + 1) pre : Nat))) ∧ (Below w.heap.size w W ∧ depP (most + 1) pre ≤ most))
      (fun c pre W => c = .exit 0 ∧ Boxed W (w.heap.size + 1 + 1) 3 (.int .i64 (most + 1 : Nat)) ∧ (Below w.heap.size w W ∧ depP (most + 1) pre = most + 1))
      ?hI ?hIx ?h0
      (fun x a' W => ∃ (Bx : Nat) (k' : Int) (b' : Bool) (n' : Int) (s' : ByteArray) (o1 : Option Addr) (m1 p1 : Nat) (o3 : Option Addr) (m3 p3 : Nat), x.1.2 = .agg #[.int .i8 k', .bool b', .int .i64 n', .string s', .slice o1 m1 p1, .slice o3 m3 p3] ∧ W.heap[Bx]? = some (.cells #[.int .i8 k', .bool b', .int .i64 n', .string s', .slice o1 m1 p1, .slice o3 m3 p3] 26 (0, 0)) ∧ a' = {
      tmps :=
        #[Value.agg
            #[Value.int IntKind.i8 k, Value.bool b, Value.int IntKind.i64 n, Value.string s, Value.slice o l.length cap,
              Value.slice o2 ks.length cap2],
          Value.int IntKind.i64 (↑most + 1), Value.pointer (some { block := w.heap.size, off := 0 }),
          Value.pointer (some { block := w.heap.size + 1, off := 0 }), Value.int IntKind.i64 0,
          Value.pointer (some { block := w.heap.size + 1 + 1, off := 0 }), .pointer (some ⟨Bx, 0, none⟩), Value.int IntKind.i64 (↑most + 1),
          Value.bool false, Value.pointer (some { block := w.heap.size, off := 4 }), Value.slice o l.length cap,
          Value.func (Fn.func 92) #[] #[Value.pointer (some { block := w.heap.size + 1 + 1 + 1, off := 0 })], .agg #[.int .i8 k', .bool b', .int .i64 n', .string s', .slice o1 m1 p1, .slice o3 m3 p3],
          undef, undef, undef, undef, undef, undef, undef, undef, undef, undef, undef],
      defers := [] })
      ?hAx ?assign ?body ?done ?stop
    case hQ => 
      intro y hy
      obtain ⟨i, hi, rfl⟩ := List.getElem_of_mem hy
      exact HS.out.2 i hi
    case hI => exact OwnFrom.and (OwnFrom.and (Own.from (boxed_own _ _ _) _) (Own.from (boxed_own _ _ _) _)) (OwnFrom.and (ownFrom_below (Nat.le_refl _) (by omega)) (ownFrom_pure _ _))
    case hIx =>
      intro c
      exact OwnFrom.and (ownFrom_pure _ _) (OwnFrom.and (Own.from (boxed_own _ _ _) _) (OwnFrom.and (ownFrom_below (Nat.le_refl _) (by omega)) (ownFrom_pure _ _)))
    case h0 =>
      have e : depP (most + 1) ([] : List (El w (fun y => sizeV y ≤ 1000000))) = 0 := by unfold depP; simp [depthVs]
      exact ⟨⟨bM, by rw [e]; exact bB⟩, hB0, by rw [e]; omega⟩
    case hAx =>
      rintro x a' _ X Y row ⟨Bx, k', b', n', s', o1, m1, p1, o3, m3, p3, h1, h2, h3⟩ hg hr
      exact ⟨Bx, k', b', n', s', o1, m1, p1, o3, m3, p3, h1, block_own Bx _ _ () X Y row h2 hg (fun r e => (hr r e).2), h3⟩
    case assign =>
      rintro l' pre x W K ⟨⟨b1, b2⟩, hB1, hd⟩ hK
      obtain ⟨k', b', n', s', o1, m1, p1, o3, m3, p3, hx⟩ := isV_six x.2.1
      have hen : encEl x = #[.agg #[.int .i8 k', .bool b', .int .i64 n', .string s', .slice o1 m1 p1, .slice o3 m3 p3]] := by unfold encEl; rw [hx]
      rw [hen]
      have HK := Lib.hid hK
      clear hK
      gi_wp2_with fail
      refine HK.out _ _ ?_ ?_ ?_ ⟨W.heap.size, k', b', n', s', o1, m1, p1, o3, m3, p3, hx, ?_, rfl⟩
      · exact (KeepsOthers.alloc _ _).from _
      · exact kc_below (by go_grown) hB1.size
      · exact ⟨⟨b1.alloc _, b2.alloc _⟩, hB1.alloc hB1.size _, hd⟩
      · exact World.alloc_heap_new W _
    case body =>
      rintro l' pre x a' W hl _ ⟨⟨b1, b2⟩, hB1, hd⟩ ⟨Bx, k', b', n', s', o1, m1, p1, o3, m3, p3, hx, hbx, rfl⟩ hlen
      obtain ⟨r0, r1, r2, r3, r4, r5⟩ := six_cells hbx
      have hv5 := x.2.1
      rw [hx] at hv5
      have HC : Hid (∀ W1, Below w.heap.size w W1 → Calls Tryd.prog 48 #[.agg #[.int .i8 k', .bool b', .int .i64 n', .string s', .slice o1 m1 p1, .slice o3 m3 p3], .int .i64 most] W1 fun e w' => e = .returned (.int .i64 (min (depthV x.1.1) (most + 1) : Nat)) ∧ Below W1.heap.size W1 w') := Lib.hid fun W1 h1 => HI.out _ _ W1 x.2.2 (isV_below h1 hv5)
      have hN : depP (most + 1) (pre ++ [x]) = max (depP (most + 1) pre) (min (depthV x.1.1) (most + 1)) := by
        unfold depP
        rw [List.map_append, depthVs_app]
        simp only [List.map_cons, List.map_nil, depthVs]
        omega
      have c1 := b1.cell
      have c2 := b2.cell
      have f2 := b2.frozen
      have B1 := Lib.hid b1
      have B2 := Lib.hid b2
      have HB := Lib.hid hB1
      obtain ⟨y, hy⟩ : ∃ y, depP (most + 1) pre = y := ⟨_, rfl⟩
      obtain ⟨z, hz⟩ : ∃ z, min (depthV x.1.1) (most + 1) = z := ⟨_, rfl⟩
      rw [hz] at HC hN
      rw [hy] at c2 hN hd B2
      obtain ⟨q, hq⟩ : ∃ q : Nat, q = max y z := ⟨_, rfl⟩
      have hqi : (if y < z then (z : Int) else (y : Int)) = (q : Int) := by split <;> omega
      have hzm : z ≤ most + 1 := by omega
      have hq2 : q ≤ most + 1 := by omega
      have HN : Hid (depP (most + 1) (pre ++ [x]) = q) := Lib.hid (by rw [hN, hq])
      clear hbx hv5 hN hx hz hy b1 b2 hB1 hq
      have hwr : IntKind.i64.wrap (most : Int) = (most : Int) := by rw [IntKind.wrap_i64]; omega
      have hmx : Tryd.prog.follows .mixedOrders = true := by kernel_rfl
      gi_wp2_with fail
      gi_region_with_o (refine ⟨trivial, ?_⟩; refine (CallsIn.inRound l' (callsIn_wide.2 (HC.out _ (by first | exact HB.out | exact HB.out.drew)))).mono ?_; rintro e w5 ⟨rfl, hb5⟩; have k2 := boxed_drew B2.out hb5; have k1 := boxed_drew B1.out hb5; have cc2 := k2.cell; have ff2 := k2.frozen; have K2 := Lib.hid k2; have K1 := Lib.hid k1; have HB5 := Lib.hid hb5; clear k1 k2 hb5)
      all_goals
        clear cc2 ff2 hqi hwr hmx r0 r1 r2 r3 r4 r5 c1 c2 f2
        have m2 := K2.out.set (.int .i64 q)
        have m1 := K1.out.other (B' := w.heap.size + 1 + 1) (by omega) (.int .i64 q)
        have c3 := m2.cell
        have c4 := m1.cell
        have M2 := Lib.hid m2
        have M1 := Lib.hid m1
        clear m1 m2
        by_cases hqm : q = most + 1
        · have hqb : ((q : Int) == (most : Int) + 1) = true := by rw [beq_iff_eq]; omega
          have HQ := Lib.hid hqm
          clear hqm
          gi_wp2_with fail
          have hW5 : Below W.heap.size W w5 := below_drew_of HB5.out
          have hz5 := HB.out.size
          exact ⟨((keeps_below hW5).trans (KeepsOthers.setCell _ _ _)).from _, rfl, by rw [← HQ.out]; exact M2.out, (HB.out.trans (hW5.mono hz5)).setCell (p := ⟨w.heap.size + 1 + 1, 0, none⟩) (by simp; omega) _, by rw [HN.out, HQ.out]⟩
        · have hqb : ((q : Int) == (most : Int) + 1) = false := by rw [beq_eq_false_iff_ne]; omega
          gi_wp2_with fail
          have hW5 : Below W.heap.size W w5 := below_drew_of HB5.out
          have hz5 := HB.out.size
          have hz6 := hW5.size
          exact ⟨((keeps_below hW5).trans (KeepsOthers.setCell _ _ _)).from _, kc_t (kc_below hW5 hz5) (kc_set _ (by omega) (by omega) (by omega)), ⟨M1.out, by rw [HN.out]; exact M2.out⟩, (HB.out.trans (hW5.mono hz5)).setCell (p := ⟨w.heap.size + 1 + 1, 0, none⟩) (by simp; omega) _, by rw [HN.out]; omega⟩
    case done =>
      rintro D xs W hD hS ⟨⟨b1, b2⟩, hB1, hd⟩ hK
      have hR : min (depthV (.mk k b n s l ks)) (most + 1 + 1) = depP (most + 1) xs + 1 := by
        rw [HD.out]; unfold depP at *; rw [hS] at *; omega
      obtain ⟨y, hy⟩ : ∃ y, depP (most + 1) xs = y := ⟨_, rfl⟩
      rw [hy, HR.out] at hR
      rw [hy] at b2 hd
      have HRR := Lib.hid hR
      have c2 := b2.cell
      have HB := Lib.hid hB1
      have HK := Lib.hid hK
      clear hS hR hy b1 b2 hB1 hK hl0 ho hB0 bM bB bS
      gi_wp2_with fail
      refine ⟨by simp, .inl ⟨_, _, rfl, run_takeDeferred HK.out, ?_⟩⟩
      refine ⟨_, results_tmp rfl _ _ _, ?_, HB.out.trans (belowK_b (w := w) (Nat.le_refl _) W D _ _ (by omega) HK.out rfl rfl)⟩
      show Ending.returned (.int .i64 ((y : Int) + 1)) = _
      exact ret_int (by have := HRR.out; omega)
    case stop =>
      rintro D c pre W hD hS ⟨rfl, b2, hB1, hd⟩ hK
      have hR : min (depthV (.mk k b n s l ks)) (most + 1 + 1) = most + 1 + 1 := by
        obtain ⟨t, ht⟩ := hS
        rw [HD.out, ← ht, depthVs_app]; unfold depP at hd; omega
      rw [HR.out] at hR
      have HRR := Lib.hid hR
      have c2 := b2.cell
      have HB := Lib.hid hB1
      have HK := Lib.hid hK
      clear hS hR hd b2 hB1 hK hl0 ho hB0 bM bB bS
      gi_wp2_with fail
      refine ⟨by simp, .inl ⟨_, _, rfl, run_takeDeferred HK.out, ?_⟩⟩
      refine ⟨_, results_tmp rfl _ _ _, ?_, HB.out.trans (belowK_b (w := w) (Nat.le_refl _) W D _ _ (by omega) HK.out rfl rfl)⟩
      show Ending.returned (.int .i64 ((most : Int) + 1 + 1)) = _
      exact ret_int (by have := HRR.out; omega)

set_option maxHeartbeats 1000000 in
/-- Depth. -/
theorem pDepth_any (x : V) (v : Value) (w : World) (hM : sizeV x ≤ 1000000) (h : isV w x v) :
    Calls Tryd.prog 19 #[v] w fun e w' => e = .returned (.int .i64 (min (depthV x) 1001 : Nat)) ∧ Below w.heap.size w w' := by
  obtain ⟨z, hz⟩ : ∃ z, min (depthV x) 1001 = z := ⟨_, rfl⟩
  have HI : Hid (∀ w1, KB w w1 → Calls Tryd.prog 48 #[v, .int .i64 1000] w1 fun e w' => e = .returned (.int .i64 z) ∧ KB w w') := Lib.hid fun w1 hK => Calls.kb hK (by have := pdepth_any 1000 x v w1 (Nat.le_refl _) hM (isV_below hK h); rw [show min (depthV x) (1000 + 1) = z from hz] at this; exact this)
  rw [hz]
  obtain ⟨k, b, n, s, o, m, c, o2, m2, c2, rfl⟩ := isV_six h
  clear hz h hM
  go_enter Tryd.func19, Tryd.ntmps19
  go_wp2_with (go_at_call 48; refine (HI.out _ kbA).mono ?_; rintro e w5 ⟨rfl, hb5⟩)
  go_ret
  exact ⟨rfl, hb5⟩
end Go.Proofs.YtdbfpojgaalfmaaDoor
