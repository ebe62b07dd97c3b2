/-
  The statement RunesWalk: the call returns true, and writes nothing that was there.
-/
import Derived.Test.YtcbinbhohohaoaaDoorRWalkP
set_option linter.unusedVariables false
namespace Go.Proofs.YtcbinbhohohaoaaDoor
open Go.RowKit Go.Shelf
attribute [local go_sem] Oper.semAt_some

theorem walk_nil (b : Array Value) (w : World) : (Go.binOp .eql 32 (.func (.func 37) #[] b) .nilFunc).run Tryd.prog w = .ok (.bool false) w := by kernel_rfl

theorem one_le (s : ByteArray) (a : Nat) (ha : a ≤ s.size) (hs : s.size ≤ 4611686018427387904) (w : World) :
    Calls Tryd.prog 21 #[.string s, .int .i64 a] w fun e w' => e = .returned (pairV (oneL (s.data.toList.drop a))) ∧ w = w' := by
  by_cases h : a < s.size
  · exact one_at s a h hs w
  · have e : oneL (s.data.toList.drop a) = (0, 0) := by
      rw [List.drop_eq_nil_of_le (by rw [toList_length]; omega)]; rfl
    rw [e]
    exact one_out s a (.inr (by omega)) (by unfold maxLen; omega) w

set_option maxHeartbeats 4000000 in
set_option maxRecDepth 100000 in
theorem walk_long (s : ByteArray) (stop : Int) (w : World) (hE : Env w) (hs : s.size ≤ maxLen) (h : 2000 < s.size) :
    Calls Tryd.prog 5 #[.string s, .int .i64 stop] w fun e w' => e = .returned (.bool true) ∧ Below w.heap.size w w' := by
  have h7 := hE.1
  have hs9 : s.size ≤ 9223372036854775807 := by unfold maxLen at hs; omega
  have HW : Hid (∀ w1, Env w1 → Calls Tryd.prog 9 #[] w1 fun e w' => e = .returned (.bool true) ∧ Below w1.heap.size w1 w') := Lib.hid fun w1 h1 => wakes_any w1 h1
  have HE := Lib.hid hE
  have b0 := ((Boxed.new w 9 (.string s)).alloc (.cells #[.int .i64 stop] 3)).alloc (.cells #[.bool false] 4)
  have c0 := b0.cell
  have bR := Boxed.new ((w.alloc (.cells #[.string s] 9)).alloc (.cells #[.int .i64 stop] 3)) 4 (.bool false)
  simp only [World.size_alloc] at bR
  clear hs hE
  refine (callsIn_wide (n := 9)).1 ?_
  refine callsIn_of_wp_marks Tryd.func5 rfl trivial ?_ rfl
  simp only [Tryd.ntmps5, List.size_toArray, List.length_cons, List.length_nil, Nat.reduceAdd, Nat.reduceSub, Array.replicate_succ, Array.replicate_zero, List.push_toArray, List.append_toArray, List.nil_append, List.cons_append]
  gi_wp2_with fail
  refine ⟨trivial, ?_⟩
  refine (callsIn_wide.2 (HW.out _ ?_)).mono ?_
  · exact HE.out.below (n := w.heap.size) (by go_grown) h7
  rintro e w1 ⟨rfl, hb1⟩
  have bR1 := bR.kept (grown_of_below hb1) (by simp)
  have f1 := bR1.frozen
  have e1 := bR1.cell
  have d1 := (bR1.set (.bool true)).cell
  have z1 := hb1.size
  simp only [World.size_alloc] at z1
  have bel : Below w.heap.size w (w1.setCell ⟨w.heap.size + 1 + 1, 0, none⟩ (.bool true)) := Below.setCell (p := ⟨w.heap.size + 1 + 1, 0, none⟩) (Below.trans (by go_grown) (hb1.mono (by simp; omega))) (by simp; omega) _
  gi_wp2_with fail
  exact ⟨.bool true, by simp [results, Tryd.results5, go_sem, d1], rfl, bel⟩

/-- Behind the loop: what lies there, and the deferred calls' block. -/
def WU (w : World) (s : ByteArray) (stop : Int) (st : Nat × Nat) (D : Nat) (W : World) : Prop := WI w s stop st W ∧ W.heap[D]? = some (.deferred (some []))
theorem WU.below {w : World} {s : ByteArray} {stop : Int} {st : Nat × Nat} {D : Nat} {W W' : World} (h : WU w s stop st D W) (hb : Below W.heap.size W W') : WU w s stop st D W' :=
  ⟨h.1.below hb, (hb.block D (Array.getElem?_eq_some_iff.1 h.2).1).trans h.2⟩
theorem WU.drew {w : World} {s : ByteArray} {stop : Int} {st : Nat × Nat} {D : Nat} {W : World} (h : WU w s stop st D W) : WU w s stop st D W.drew :=
  h.below ⟨rfl, rfl, rfl, Nat.le_refl _, fun _ _ => rfl⟩

set_option maxRecDepth 100000 in
set_option maxHeartbeats 8000000 in
theorem walk_short (s : ByteArray) (stop : Int) (w : World) (hE : Env w) (hs : s.size ≤ 2000) :
    Calls Tryd.prog 5 #[.string s, .int .i64 stop] w fun e w' => e = .returned (.bool true) ∧ Below w.heap.size w w' := by
  have h7 := hE.1
  have hS := Lib.hid (show s.size ≤ maxLen by unfold maxLen; omega)
  have HW : Hid (∀ w1, Env w1 → Calls Tryd.prog 9 #[] w1 fun e w' => e = .returned (.bool true) ∧ Below w1.heap.size w1 w') := Lib.hid fun w1 h1 => wakes_any w1 h1
  have hsl := steps_length s.data.toList
  rw [toList_length] at hsl
  have HE := Lib.hid hE
  have hall := Lib.hid (foldW_all s.data.toList stop s.data.toList.length 0 0 (Nat.zero_le _) (by omega))
  clear hE
  refine (callsIn_wide (n := 9)).1 ?_
  refine callsIn_of_wp_marks Tryd.func5 rfl trivial ?_ rfl
  simp only [Tryd.ntmps5, List.size_toArray, List.length_cons, List.length_nil, Nat.reduceAdd, Nat.reduceSub, Array.replicate_succ, Array.replicate_zero, List.push_toArray, List.append_toArray, List.nil_append, List.cons_append]
  obtain ⟨w3, hw3⟩ : ∃ w3, (((w.alloc (.cells #[.string s] 9)).alloc (.cells #[.int .i64 stop] 3)).alloc (.cells #[.bool false] 4)) = w3 := ⟨_, rfl⟩
  have z3 : w3.heap.size = w.heap.size + 1 + 1 + 1 := by rw [← hw3]; simp
  have bel3 : Below w.heap.size w w3 := by rw [← hw3]; go_grown
  have b0 := ((Boxed.new w 9 (.string s)).alloc (.cells #[.int .i64 stop] 3)).alloc (.cells #[.bool false] 4)
  have b1 := (Boxed.new (w.alloc (.cells #[.string s] 9)) 3 (.int .i64 stop)).alloc (.cells #[.bool false] 4)
  have b2 := Boxed.new ((w.alloc (.cells #[.string s] 9)).alloc (.cells #[.int .i64 stop] 3)) 4 (.bool false)
  have b3 := Boxed.new w3 9 (.string s)
  have b4 := Boxed.new (w3.alloc (.cells #[.string s] 9)) 3 (.int .i64 0)
  have b5 := Boxed.new ((w3.alloc (.cells #[.string s] 9)).alloc (.cells #[.int .i64 0] 3)) 3 (.int .i64 0)
  rw [hw3] at b0 b1 b2
  simp only [World.size_alloc, z3] at b1 b2 b3 b4 b5
  have c0 := b0.cell
  have f4 := (b4.alloc (.cells #[.int .i64 0] 3)).frozen
  have f5 := b5.frozen
  have g4 := (b4.alloc (.cells #[.int .i64 0] 3)).cell
  have g5 := b5.cell
  have hWI : WI w s stop (0, 0) (((w3.alloc (.cells #[.string s] 9)).alloc (.cells #[.int .i64 0] 3)).alloc (.cells #[.int .i64 0] 3)) :=
    ⟨⟨((b0.alloc _).alloc _).alloc _, ((b1.alloc _).alloc _).alloc _, ((b2.alloc _).alloc _).alloc _, (b3.alloc _).alloc _, b4.alloc _, b5⟩, bel3.trans (by go_grown), Nat.zero_le _⟩
  have HWI := Lib.hid hWI
  clear hWI b0 b1 b2 b3 b4 b5
  have hnil := walk_nil
  gi_wp2_with fail
  refine ⟨trivial, ?_⟩
  refine (all_in _ _ _).mono ?_
  rintro e w' ⟨rfl, rfl⟩
  rw [z3]
  gi_wp2_with fail
  clear hnil
  refine wpIn_rangeFunc_ownG rfl (by omega) (gf := 37) (lb := #[.pointer (some ⟨w.heap.size + 1 + 1 + 1, 0, none⟩)]) rfl trivial (enters_of Tryd.func37 (by kernel_rfl) rfl)
    (all_stops 8 (by omega) s hS.out (w.heap.size + 1 + 1 + 1) w.heap.size _ ?cB (by omega) ?cm HWI.out.1.2.2.2.1.cell ?cT) kpB_t (kpB_b ?d1 ?d2) (Below.refl _ _) (fun _ => rfl)
    (fun pre W => WIo w s stop (foldW s.data.toList stop (0, 0) (pre.map (·.1))) W)
    (fun c pre W => c = .ret ∧ WAo w (foldW s.data.toList stop (0, 0) (pre.map (·.1))) W) ?hI ?hIx ?h0
    (fun x => { tmps := #[.string s, .int .i64 stop, .pointer (some ⟨w.heap.size, 0, none⟩), .pointer (some ⟨w.heap.size + 1, 0, none⟩), .pointer (some ⟨w.heap.size + 1 + 1, 0, none⟩), .func (.func 37) #[] #[.pointer (some ⟨w.heap.size + 1 + 1 + 1, 0, none⟩)], .pointer (some ⟨w.heap.size + 1 + 1 + 1 + 1, 0, none⟩), .pointer (some ⟨w.heap.size + 1 + 1 + 1 + 1 + 1, 0, none⟩), .int .i64 x.1.1, .int .i64 x.1.2, undef, undef, undef, undef, .string s, .int .i64 s.size, .bool (decide (2000 < (s.size : Int))), undef, .string s, .func (.func 37) #[] #[.pointer (some ⟨w.heap.size + 1 + 1 + 1, 0, none⟩)], .func (.func 37) #[] #[.pointer (some ⟨w.heap.size + 1 + 1 + 1, 0, none⟩)], .bool false, .func (.func 37) #[] #[.pointer (some ⟨w.heap.size + 1 + 1 + 1, 0, none⟩)], .int .i64 x.1.1, .int .i64 x.1.2, undef, undef, undef, undef, undef, undef, undef, undef, undef, undef, undef, undef, undef, undef, undef, undef, undef, undef, undef, undef, undef, undef, undef, undef, undef, undef, undef, undef, undef, undef, undef, undef, undef, undef, undef, undef, undef, undef, undef, undef, undef, undef, undef, undef, undef, undef, undef], defers := [] }) ?assign ?body ?done ?stop
  case cB => simp [z3]
  case cm => simp [z3]; omega
  case cT => exact (HE.out.below HWI.out.2.1 h7).2.1
  case d1 => simp [z3]; omega
  case d2 => simp [z3]
  case hI =>
    refine WIo_own (fun pre : List (Stp _) => foldW s.data.toList stop (0, 0) (pre.map (·.1))) ?_
    simp only [World.size_alloc, z3]; omega
  case hIx =>
    intro c
    refine WAo_own (fun pre : List (Stp _) => foldW s.data.toList stop (0, 0) (pre.map (·.1))) ?_ (c = .ret)
    simp only [World.size_alloc, z3]; omega
  case h0 => exact HWI.out
  case assign =>
    intro l x W K hK
    unfold encStp
    gi_wp2_with fail
    simpa using hK
  case body =>
    rintro l pre x W hI hlen
    cases hfo : foldW s.data.toList stop (0, 0) (pre.map (·.1)) with
    | inr a =>
      rw [hfo] at hI
      exact hI.elim
    | inl st =>
      obtain ⟨a, n⟩ := st
      have hU : WI w s stop (a, n) W := by rw [hfo] at hI; exact hI
      have hsn : foldW s.data.toList stop (0, 0) ((pre ++ [x]).map (·.1)) = stepW s.data.toList stop (a, n) x.1 := by
        rw [List.map_append, List.map_cons, List.map_nil, foldW_snoc _ _ _ _ _ _ hfo]
      have hn := foldW_count _ _ _ _ _ hfo
      rw [List.length_map] at hn
      simp only [Nat.zero_add] at hn
      have hn2 : n < 2000 := by omega
      obtain ⟨hx1, hx2, hx3, hx4⟩ := steps_mem x.2
      rw [toList_length] at hx1
      have ha : a ≤ s.size := hU.2.2
      have hO := one_le s a ha (by omega) W
      have HSN := Lib.hid hsn
      clear hI hfo hsn hn
      have hc0 := hU.1.1.cell
      have hc1 := hU.1.2.1.cell
      have hc2 := hU.1.2.2.1.cell
      have hf2 := hU.1.2.2.1.frozen
      have hc4 := hU.1.2.2.2.2.1.cell
      have hf4 := hU.1.2.2.2.2.1.frozen
      have hc5 := hU.1.2.2.2.2.2.cell
      have hf5 := hU.1.2.2.2.2.2.frozen
      dsimp only at hc4 hc5
      by_cases hxa : x.1.1 = a
      · subst hxa
        rw [oneL_good (drop_ne s x.1.1 hx1) hx4] at hO
        have hw := Lib.decodeL_width (s.data.toList.drop x.1.1)
        have hl := Lib.decodeL_le (s.data.toList.drop x.1.1) (drop_ne s x.1.1 hx1)
        rw [drop_len] at hl
        have hst : stepW s.data.toList stop (x.1.1, n) x.1 = if ((n + 1 : Nat) : Int) = stop then .inr true else .inl (x.1.1 + (Lib.decodeL (s.data.toList.drop x.1.1)).2, n + 1) := by
          unfold stepW
          rw [if_neg (by simp)]
        generalize Lib.decodeL (s.data.toList.drop x.1.1) = d at *
        obtain ⟨r, K⟩ := d
        dsimp only at hw hl hx3 hst hO
        unfold pairV at hO
        dsimp only at hO
        rw [← hx3] at hO
        have hk0 : ((K : Int) == 0) = false := by rw [beq_eq_false_iff_ne]; omega
        have hkl : x.1.1 + K ≤ s.size := by omega
        have HO := Lib.hid hO
        have HST := Lib.hid hst
        clear hO hst hx3 hx4 hw hl
        obtain ⟨hS2, ko2, kb2⟩ := hU.set (x.1.1 + K) (n + 1) hkl
        have e1 : ((x.1.1 + K : Nat) : Int) = (x.1.1 : Int) + (K : Int) := by omega
        have e2 : ((n + 1 : Nat) : Int) = (n : Int) + 1 := by omega
        rw [e1, e2] at hS2 ko2 kb2
        have m5 := (hU.1.2.2.2.2.2.other (B' := w.heap.size + 1 + 1 + 1 + 1) (by omega) (.int .i64 ((x.1.1 : Int) + (K : Int))))
        have mc5 := m5.cell
        have mf5 := m5.frozen
        dsimp only at mc5
        have nc5 := hS2.1.2.2.2.2.2.cell
        have nc1 := hS2.1.2.1.cell
        have nc2 := hS2.1.2.2.1.cell
        have nf2 := hS2.1.2.2.1.frozen
        dsimp only at nc5
        rw [e2] at nc5
        by_cases hstop : ((n + 1 : Nat) : Int) = stop
        · have hst2 := HST.out
          rw [if_pos hstop] at hst2
          have HS2 := Lib.hid hst2
          have hq : ((n : Int) + 1 == stop) = true := by rw [beq_iff_eq]; omega
          clear hst2 hstop HST e1 e2
          gi_wp2_with fail
          refine ⟨trivial, ?_⟩
          refine (CallsIn.inRound l (callsIn_wide.2 HO.out)).mono ?_
          rintro e w5 ⟨rfl, rfl⟩
          gi_wp2_with fail
          refine ⟨trivial, ?_⟩
          refine (CallsIn.inRound l (callsIn_wide.2 (HW.out _ (HE.out.below hS2.2.1 h7)))).mono ?_
          rintro e w5 ⟨rfl, hb5⟩
          have hU5 := hS2.below hb5
          have ko5 := keeps_below hb5
          have qc := hU5.1.2.2.1.cell
          have qf := hU5.1.2.2.1.frozen
          gi_wp2_with fail
          refine ⟨((ko2.trans ko5).trans (KeepsOthers.setCell _ _ _)).from _, rfl, ?_⟩
          show WAo _ (foldW _ _ _ _) _
          rw [HSN.out, HS2.out]
          exact WI.ret hU5 true
        · have hst2 := HST.out
          rw [if_neg hstop] at hst2
          have HS2 := Lib.hid hst2
          have hq : ((n : Int) + 1 == stop) = false := by rw [beq_eq_false_iff_ne]; omega
          clear hst2 hstop HST e1 e2
          gi_wp2_with fail
          refine ⟨trivial, ?_⟩
          refine (CallsIn.inRound l (callsIn_wide.2 HO.out)).mono ?_
          rintro e w5 ⟨rfl, rfl⟩
          gi_wp2_with fail
          refine ⟨ko2.from _, kb2, ?_⟩
          show WIo _ _ _ (foldW _ _ _ _) _
          rw [HSN.out, HS2.out]
          exact hS2
      · have hst := Lib.hid (show stepW s.data.toList stop (a, n) x.1 = .inr false by unfold stepW; rw [if_pos hxa])
        have hne : ((x.1.1 : Int) != (a : Int)) = true := by rw [bne_iff_ne]; omega
        generalize oneL (s.data.toList.drop a) = d at hO
        unfold pairV at hO
        have HO := Lib.hid hO
        clear hO hxa hx3 hx4
        gi_wp2_with fail
        refine ⟨trivial, ?_⟩
        refine (CallsIn.inRound l (callsIn_wide.2 HO.out)).mono ?_
        rintro e w5 ⟨rfl, rfl⟩
        gi_wp2_with fail
        refine ⟨(KeepsOthers.setCell _ _ _).from _, rfl, ?_⟩
        show WAo _ (foldW _ _ _ _) _
        rw [HSN.out, hst.out]
        exact WI.ret hU false
  case stop =>
    rintro D' c pre W hD' hpre ⟨rfl, hA⟩ hK
    have hans : ∃ b, foldW s.data.toList stop (0, 0) (pre.map (·.1)) = .inr b ∧ WA w b W := by
      unfold WAo at hA
      split at hA
      · exact hA.elim
      · rename_i a ha
        exact ⟨a, ha, hA⟩
    obtain ⟨b, hfa, u2, uB⟩ := hans
    have hb : b = true := by
      obtain ⟨ys, hys⟩ := hpre
      have h1 := foldW_app _ _ _ ys _ _ hfa
      rw [hys] at h1
      have h2 := hall.out
      rw [List.drop_zero] at h2
      change foldW _ _ _ (steps _) = _ ∨ (∃ q k, foldW _ _ _ (steps _) = _ ∧ _) at h2
      rcases h2 with h2 | ⟨q, k, h2, _⟩
      · rw [h1] at h2
        exact Sum.inr.inj h2
      · rw [h1] at h2; cases h2
    subst hb
    have grow := grownBy_putObj' W D' (.deferred none)
    have c2 := (u2.kept grow (fun e => by cases e; rw [show W.heap[_]? = _ from u2] at hK; cases hK)).cell
    clear hA hfa hpre u2
    gi_wp2_with fail
    refine ⟨by simp, .inl ⟨_, _, rfl, run_takeDeferred hK, ?_⟩⟩
    exact ⟨.bool true, by simp [results, Tryd.results5, go_sem, c2], rfl, uB.trans (belowK_b (w := w) (Nat.le_refl _) W D' _ _ (by simp only [World.size_alloc, z3] at hD'; omega) hK rfl rfl)⟩
  case done =>
    rintro D' xs W hD' hxs hI hK
    have h2 := hall.out
    rw [List.drop_zero] at h2
    change foldW _ _ _ (steps _) = _ ∨ (∃ q k, foldW _ _ _ (steps _) = _ ∧ _) at h2
    rw [hxs] at hI
    rcases h2 with h2 | ⟨q, k, h2, hql, h3, h4⟩
    · rw [h2] at hI
      exact hI.elim
    rw [h2] at hI
    have hU : WI w s stop (q, k) W := hI
    rw [toList_length] at hql h4
    have hO := one_le s q hql (by omega) W
    rw [h3] at hO
    have HO := Lib.hid hO
    have hEW := HE.out.below hU.2.1 h7
    have HV := Lib.hid (valid_any s W hS.out hEW.2.1)
    have hc0 := hU.1.1.cell
    have hc2 := hU.1.2.2.1.cell
    have hf2 := hU.1.2.2.1.frozen
    have hc4 := hU.1.2.2.2.2.1.cell
    dsimp only at hc4
    have hd : ∃ V, Lib.validD s.data.toList = V ∧ ((q : Int) == (s.size : Int)) = V := by
      refine ⟨_, rfl, ?_⟩
      cases hv : Lib.validD s.data.toList with
      | true => rw [beq_iff_eq]; have := h4.2 hv; omega
      | false =>
        rw [beq_eq_false_iff_ne]
        intro e
        have := h4.1 (by omega)
        rw [hv] at this; cases this
    obtain ⟨V, hV1, hV2⟩ := hd
    have HV : Hid (∀ W1, WU w s stop (q, k) D' W1 → Calls Tryd.prog 12 #[.string s] W1 fun e w' => e = .returned (.bool V) ∧ WU w s stop (q, k) D' w') := Lib.hid fun W1 h1 => by
      have := valid_any s W1 hS.out (HE.out.below h1.1.2.1 h7).2.1
      rw [hV1] at this
      exact this.mono fun e w' hh => ⟨hh.1, h1.below hh.2⟩
    have HW2 : Hid (∀ W1, WU w s stop (q, k) D' W1 → Calls Tryd.prog 9 #[] W1 fun e w' => e = .returned (.bool true) ∧ WU w s stop (q, k) D' w') := Lib.hid fun W1 h1 =>
      (HW.out W1 (HE.out.below h1.1.2.1 h7)).mono fun e w' hh => ⟨hh.1, h1.below hh.2⟩
    have hWU : WU w s stop (q, k) D' W := ⟨hU, hK⟩
    have HF : Hid (∀ W1, WU w s stop (q, k) D' W1 → (W1.setCell ⟨w.heap.size + 1 + 1, 0, none⟩ (.bool true)).heap[D']? = some (.deferred (some [])) ∧ ((W1.setCell ⟨w.heap.size + 1 + 1, 0, none⟩ (.bool true)).putObj D' (.deferred none)).cell? ⟨w.heap.size + 1 + 1, 0, none⟩ = some (.bool true) ∧
        Below w.heap.size w ((W1.setCell ⟨w.heap.size + 1 + 1, 0, none⟩ (.bool true)).putObj D' (.deferred none))) := Lib.hid fun W1 h1 => by
      obtain ⟨u2, uB⟩ := h1.1.ret true
      have vK := (KeepsOthers.setCell W1 ⟨w.heap.size + 1 + 1, 0, none⟩ (.bool true)).same D' _ h1.2 rfl
      have grow := grownBy_putObj' (W1.setCell ⟨w.heap.size + 1 + 1, 0, none⟩ (.bool true)) D' (.deferred none)
      have c2 := (u2.kept grow (fun e => by cases e; rw [show (W1.setCell ⟨w.heap.size + 1 + 1, 0, none⟩ (.bool true)).heap[w.heap.size + 1 + 1]? = _ from u2] at vK; cases vK)).cell
      exact ⟨vK, c2, uB.trans (belowK_b (w := w) (Nat.le_refl _) _ D' _ _ (by simp only [World.size_alloc, z3] at hD'; omega) vK rfl rfl)⟩
    clear hO h3 h4 h2 hI hxs hV1 hEW
    have hvv : (V == V) = true := by cases V <;> rfl
    gi_wp2_with fail
    refine ⟨trivial, ?_⟩
    refine (callsIn_wide.2 HO.out).mono ?_
    rintro e w5 ⟨rfl, rfl⟩
    unfold pairV
    gi_wp2_with fail
    first
    | gi_region_with (first
        | (refine ⟨trivial, ?_⟩; (with_reducible refine (callsIn_wide.2 (HV.out _ (by first | assumption | exact WU.drew (by assumption)))).mono ?_); rintro e w' ⟨rfl, hK⟩; have hd0 := hK.1.1.1.cell; have hd2 := hK.1.1.2.2.1.cell; have hg2 := hK.1.1.2.2.1.frozen; have hd4 := hK.1.1.2.2.2.2.1.cell; dsimp only at hd4)
        | (refine ⟨trivial, ?_⟩; (with_reducible refine (callsIn_wide.2 (HW2.out _ (by first | assumption | exact WU.drew (by assumption)))).mono ?_); rintro e w' ⟨rfl, hK⟩; have hd2 := hK.1.1.2.2.1.cell; have hg2 := hK.1.1.2.2.1.frozen))
    | fail
    all_goals gi_wp2_with fail
    all_goals obtain ⟨vK, c2, uB⟩ := HF.out _ hK
    all_goals refine ⟨by simp, .inl ⟨_, _, rfl, run_takeDeferred vK, ?_⟩⟩
    all_goals exact ⟨.bool true, by simp [results, Tryd.results5, go_sem, c2], rfl, uB⟩
end Go.Proofs.YtcbinbhohohaoaaDoor
