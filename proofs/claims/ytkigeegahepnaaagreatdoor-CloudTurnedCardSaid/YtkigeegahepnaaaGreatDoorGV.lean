/-
  The cloud's copies of properties, of a call. · The cloud's copy of its things.
-/
import Derived.Test.YtkigeegahepnaaaGreatDoorGU
import Derived.Test.YtkigeegahepnaaaGreatDoorGT
set_option linter.unusedVariables false
set_option linter.unusedSimpArgs false
namespace Go.Proofs.YtkigeegahepnaaaGreatDoor
open Go.RowKit Go.Shelf

set_option maxRecDepth 100000 in
set_option maxHeartbeats 8000000 in
theorem ccG_any (L : List G) (v : Value) (w : World) (P : Nat → Prop) (hL : fineG L) (hP : ∀ q, w.heap.size ≤ q → P q) (h : isGsa w (fun q => P q ∧ q < w.heap.size) L v) :
    Calls Tryz.prog 51 #[v] w fun e w' => ∃ v', e = .returned v' ∧ isGsa w' P L v' ∧ Below w.heap.size w w' := by
  obtain ⟨hL1, hL2⟩ := hL
  obtain ⟨a, cap, ⟨o, rfl, hc1, hc2, ho⟩, hBa, hga⟩ := h
  obtain ⟨news, hn1, hn2⟩ := isGLa_of L a hga
  have hnl := isGLa_len _ _ hn1
  have CL := Lib.hid (cloneG_any o a L.length cap ho hL1 news w hnl hn2 (isGLa_one _ _ hn1))
  have HN := Lib.hid hn1
  have HL2 := Lib.hid hL2
  have HPP := Lib.hid hP
  clear hga hn1 hn2 hnl hL2 hP hBa ho
  go_enter Tryz.func51, Tryz.ntmps51
  go_wp2_with (go_at_call 70; refine CL.out.mono ?_; rintro e w3 ⟨v3, rfl, hol, hb3⟩; obtain ⟨ol, g, capL, rfl, cl1, cl2, hrow⟩ := clone_row hol)
  have HB3 := Lib.hid hb3
  have HM : Hid (capL ≤ maxLen) := Lib.hid cl2
  unfold maxLen at cl2
  have hs3 := hb3.size
  have hstart : 0 < L.length → ol = some ⟨g, 0, none⟩ ∧ w.heap.size ≤ g ∧ g < w3.heap.size ∧ Gro w3 (fun q => P q ∧ q ≠ g) L g capL := fun h0 => by
    obtain ⟨h1, h2, h3, f, h4, h5⟩ := hrow h0
    refine ⟨h1, h2, h3, f, h4, fun i hi => ?_⟩
    obtain ⟨q1, q2, q3, q4⟩ := isGLa_get L news f HN.out h5 i hi
    exact ⟨q1, q2, isVa_mono (fun q hq => ⟨hq.1, by have := hq.2; omega⟩) _ _ (isVa_keep (fun a c _ hc => cell_below hb3 _ _ hc) _ _ q3), q4⟩
  have HST := Lib.hid hstart
  clear hstart hrow hol hb3 CL
  go_loopw [9] (fun i wr => ∃ j : Nat, j ≤ L.length ∧ i = .int .i64 j ∧ Hid (Below w.heap.size w wr ∧ w3.heap.size ≤ wr.heap.size) ∧ Hid (0 < L.length → Gro wr (fun q => P q ∧ q ≠ g) L g capL)) (fun i _ => L.length - (intOf i).toNat)
  case atStart => exact ⟨0, by omega, rfl, Lib.hid ⟨HB3.out, Nat.le_refl _⟩, Lib.hid (fun h0 => (HST.out h0).2.2.2)⟩
  case round =>
    obtain ⟨j, hj, rfl, hB, hG⟩ := hrel
    by_cases hlt : j < L.length
    · obtain ⟨rfl, hg1, hg2, _⟩ := HST.out (by omega)
      obtain ⟨f, hf1, hf2⟩ := hG.out (by omega)
      obtain ⟨h0, h1, hv, hn⟩ := hf2 j hlt
      have e0 := hf1.cell (show j * 8 < capL * 8 by omega)
      have e1 := hf1.cell (show j * 8 + 1 < capL * 8 by omega)
      have e2 := hf1.cell (show j * 8 + 2 < capL * 8 by omega)
      have e3 := hf1.cell (show j * 8 + 3 < capL * 8 by omega)
      have e4 := hf1.cell (show j * 8 + 4 < capL * 8 by omega)
      have e5 := hf1.cell (show j * 8 + 5 < capL * 8 by omega)
      have e6 := hf1.cell (show j * 8 + 6 < capL * 8 by omega)
      have e7 := hf1.cell (show j * 8 + 7 < capL * 8 by omega)
      obtain ⟨k', b', n', s', o1, m1, p1, o3, m3, p3, hag⟩ := isV_six (isV_of_a _ _ hv)
      rw [hag] at hv
      simp only [Value.agg.injEq, Array.mk.injEq, List.cons.injEq, and_true] at hag
      obtain ⟨a0, a1, a2, a3, a4, a5⟩ := hag
      rw [h0] at e0
      rw [h1] at e1
      rw [a0] at e2
      rw [a1] at e3
      rw [a2] at e4
      rw [a3] at e5
      rw [a4] at e6
      rw [a5] at e7
      have hlg := HL2.out _ (List.getElem_mem hlt)
      have CV : Hid (∀ w1, KB wr w1 → Calls Tryz.prog 71 #[.agg #[.int .i8 k', .bool b', .int .i64 n', .string s', .slice o1 m1 p1, .slice o3 m3 p3]] w1 fun e w' => ∃ v', e = .returned v' ∧ isVa w' (fun q => P q ∧ q ≠ g) L[j].v v' ∧ KB wr w') := Lib.hid fun w1 hK => (ccV_any 1000000 L[j].v _ w1 (fun q => P q ∧ q ≠ g) hlg.1 (Nat.le_refl _) hlg.2 (fun q hq => ⟨HPP.out q (by have := hB.out.1.size; have := hK.size; omega), by have := hB.out.2; have := hK.size; omega⟩) (isVa_mono (fun q hq => ⟨hq.1, by have := hq.2; have := hK.size; omega⟩) _ _ (isVa_keep (fun a c _ hc => cell_below hK _ _ hc) _ _ (isVa_lt _ _ hv)))).mono fun e w' ⟨v', he, hv', hb'⟩ => ⟨v', he, hv', hK.trans (hb'.mono hK.size)⟩
      have HA1 : Hid (KB wr (wr.alloc (.cells #[.string L[j].nm, .bool L[j].unk, .int .i8 k', .bool b', .int .i64 n', .string s', .slice o1 m1 p1, .slice o3 m3 p3] 99))) := Lib.hid kbA
      have HF1 := Lib.hid hf1
      have HF2 := Lib.hid hf2
      have HNM := Lib.hid hn
      clear hf1 hf2 h0 h1 hv hn a0 a1 a2 a3 a4 a5 hG hlg
      generalize hGj : L[j] = G0 at *
      have HGJ := Lib.hid hGj
      clear hGj
      go_wp2_with (go_at_call 71; refine (CV.out _ HA1.out).mono ?_; rintro e w6 ⟨v6, rfl, hva, hb6⟩; obtain ⟨k6, b6, n6, s6, o6, m6, p6, o7, m7, p7, rfl⟩ := isV_six (isV_of_a _ _ hva); obtain ⟨x1, x2, x3, x4, x5, x6, f', ⟨⟨_, q1⟩, q1', q1''⟩, ⟨⟨_, q2⟩, q2', q2''⟩, ⟨⟨_, q3⟩, q3', q3''⟩, ⟨⟨_, q4⟩, q4', q4''⟩, ⟨⟨_, q5⟩, q5', q5''⟩, ⟨⟨_, q6⟩, q6', q6''⟩, hf7, hg7, u0, u1, u2, u3, u4, u5, hold⟩ := store_six3 (rowIs_grown HF1.out (grown_bel hb6) (by simp)) (j * 8 + 2) (by omega) (.int .i8 k6) (.bool b6) (.int .i64 n6) (.string s6) (.slice o6 m6 p6) (.slice o7 m7 p7))
      have HX6 := Lib.hid (And.intro hf7 (And.intro hg7 (And.intro u0 (And.intro u1 (And.intro u2 (And.intro u3 (And.intro u4 (And.intro u5 hold))))))))
      have HVA := Lib.hid hva
      have HB6 := Lib.hid hb6
      clear hf7 hg7 u0 u1 u2 u3 u4 u5 hold hva hb6
      go_roundw
      case rel =>
        obtain ⟨hf7, hg7, u0, u1, u2, u3, u4, u5, hold⟩ := HX6.out
        refine ⟨j + 1, by omega, by go_num, Lib.hid ⟨(hB.out.1.trans (HB6.out.mono hB.out.1.size)).grown hg7 (by have := hB.out.1.size; have := HB6.out.size; omega) (fun r e => by cases e; exact hg1), by have := hB.out.2; have := HB6.out.size; have := hg7.size; omega⟩, Lib.hid (fun _ => ⟨f', hf7, fun i hi => ?_⟩)⟩
        by_cases e : i = j
        · subst e
          obtain ⟨h0, h1, _, hn⟩ := HF2.out i hi
          refine ⟨(hold _ (.inl (by omega))).trans h0, (hold _ (.inl (by omega))).trans h1, ?_, hn⟩
          show isVa x6 _ L[i].v (.agg #[f' (i * 8 + 2), f' (i * 8 + 2 + 1), f' (i * 8 + 2 + 2), f' (i * 8 + 2 + 3), f' (i * 8 + 2 + 4), f' (i * 8 + 2 + 5)])
          rw [u0, u1, u2, u3, u4, u5, HGJ.out]
          exact isVa_keep (fun a c hq hc => hg7.cell hc (fun e => hq.2 (Option.some.inj e))) _ _ HVA.out
        · refine (HF2.out i hi).keep (fun a c hq hc => hg7.cell (cell_below HB6.out _ _ hc) (fun e => hq.2 (Option.some.inj e))) (fun k hk => hold _ ?_)
          by_cases e2 : i < j
          · exact .inl (by omega)
          · exact .inr (by omega)
      case measure => simp [intOf]; omega
    · obtain rfl : j = L.length := by omega
      go_wp2_with fail
      go_ret
      refine ⟨_, rfl, ?_, hB.out.1⟩
      rcases Nat.eq_zero_or_pos L.length with h0 | h0
      · obtain rfl := List.eq_nil_of_length_eq_zero h0
        exact isGsa_nil _ _ _ _ HM.out
      · obtain ⟨rfl, hg1, hg2, _⟩ := HST.out h0
        obtain ⟨f, hf1, hf2⟩ := hG.out h0
        exact Gro.gs ⟨f, hf1, fun i hi => by
          obtain ⟨r1, r2, r3, r4⟩ := hf2 i hi
          exact ⟨r1, r2, isVa_mono (fun q hq => hq.1) _ _ r3, r4⟩⟩ cl1 HM.out (HPP.out _ hg1)


/-- .. of all that is read. -/
theorem ccG_all (L : List G) (v : Value) (w : World) (hL : fineG L) (h : isGs w L v) :
    Calls Tryz.prog 51 #[v] w fun e w' => ∃ o cap, e = .returned (.slice o L.length cap) ∧ isGs w' L (.slice o L.length cap) ∧ Below w.heap.size w w' :=
  (ccG_any L v w (fun _ => True) hL (fun _ _ => trivial) (isGsa_mono (fun q hq => ⟨trivial, hq⟩) (isGsa_of h))).mono fun e w' ⟨v', he, hg, hb⟩ => by
    obtain ⟨o, cap, rfl⟩ := isGsa_form hg
    exact ⟨o, cap, he, isGs_of_a hg, hb⟩
set_option maxRecDepth 100000 in
set_option maxHeartbeats 4000000 in
theorem ccX_any (x : Cl) (v : Value) (w : World) (hL : fineG x.ps) (h : isX w x v) :
    Calls Tryz.prog 36 #[v] w fun e w' => ∃ o cap, e = .returned (.agg #[.int .i64 x.tok, .int .i8 x.kd, .string x.ph, .string x.ty, .slice o x.ps.length cap]) ∧ isGs w' x.ps (.slice o x.ps.length cap) ∧ Below w.heap.size w w' := by
  obtain ⟨o, cap, rfl, hg, -⟩ := isX_form h
  have HB2 : Hid (KB w ((w.alloc (.cells #[.int .i64 x.tok, .int .i8 x.kd, .string x.ph, .string x.ty, .slice o x.ps.length cap] 32)).alloc (.cells #[.int .i64 0, .int .i8 0, .string ⟨#[]⟩, .string ⟨#[]⟩, .slice none 0 0] 32))) := Lib.hid (by unfold KB; go_grown)
  have n1 := (Below.heap_alloc (w.alloc (.cells #[.int .i64 x.tok, .int .i8 x.kd, .string x.ph, .string x.ty, .slice o x.ps.length cap] 32)) (.cells #[.int .i64 0, .int .i8 0, .string ⟨#[]⟩, .string ⟨#[]⟩, .slice none 0 0] 32) w.heap.size (by simp)).trans (World.alloc_heap_new w _)
  have n2 := World.alloc_heap_new (w.alloc (.cells #[.int .i64 x.tok, .int .i8 x.kd, .string x.ph, .string x.ty, .slice o x.ps.length cap] 32)) (.cells #[.int .i64 0, .int .i8 0, .string ⟨#[]⟩, .string ⟨#[]⟩, .slice none 0 0] 32)
  rw [World.size_alloc] at n2
  have CP := Lib.hid (ccG_any x.ps _ _ (fun q => q ≠ w.heap.size ∧ q ≠ w.heap.size + 1) hL (fun q hq => ⟨by simp at hq; omega, by simp at hq; omega⟩) (isGsa_mono (fun q hq => ⟨⟨by omega, by omega⟩, by have := HB2.out.size; omega⟩) (isGsa_keep (fun a c _ hc => cell_below HB2.out _ _ hc) (isGsa_of hg))))
  have HN1 := Lib.hid n1
  have HN2 := Lib.hid n2
  clear n1 n2 hg hL h
  go_enter Tryz.func36, Tryz.ntmps36
  go_wp2_with (go_at_call 51; refine CP.out.mono ?_; rintro e w6 ⟨v6, rfl, hg6, hb6⟩; obtain ⟨o6, cap6, rfl⟩ := isGsa_form hg6; have hm1 := (hb6.block w.heap.size (by simp; omega)).trans HN1.out; have hm2 := (hb6.block (w.heap.size + 1) (by simp)).trans HN2.out; obtain ⟨y0, ⟨⟨_, s1⟩, s1', s1''⟩, hy0, hgy0⟩ := box_five4 (.slice o6 x.ps.length cap6) hm1; obtain ⟨m0, m1, m2, m3, m4⟩ := five_cells hy0; have hm2y := (hgy0.block (w.heap.size + 1) (Array.getElem?_eq_some_iff.1 hm2).1 (fun e => by have := Option.some.inj e; omega)).trans hm2; obtain ⟨x1, x2, x3, x4, x5, f', ⟨⟨_, q1⟩, q1', q1''⟩, ⟨⟨_, q2⟩, q2', q2''⟩, ⟨⟨_, q3⟩, q3', q3''⟩, ⟨⟨_, q4⟩, q4', q4''⟩, ⟨⟨_, q5⟩, q5', q5''⟩, hf7, hg7, u0, u1, u2, u3, u4, -⟩ := store_five (rowIs_five hm2y) 0 (by decide) (.int .i64 x.tok) (.int .i8 x.kd) (.string x.ph) (.string x.ty) (.slice o6 x.ps.length cap6); simp only [Nat.zero_add] at q2 q2' q2'' q3 q3' q3'' q4 q4' q4'' q5 q5' q5'' u1 u2 u3 u4)
  have d0 := hf7.cell (show 0 < 5 by decide)
  have d1 := hf7.cell (show 1 < 5 by decide)
  have d2 := hf7.cell (show 2 < 5 by decide)
  have d3 := hf7.cell (show 3 < 5 by decide)
  have d4 := hf7.cell (show 4 < 5 by decide)
  rw [u0] at d0
  rw [u1] at d1
  rw [u2] at d2
  rw [u3] at d3
  rw [u4] at d4
  refine bodyPost_ret (v := .agg #[.int .i64 x.tok, .int .i8 x.kd, .string x.ph, .string x.ty, .slice o6 x.ps.length cap6]) (by simp [results, Tryz.results36, go_sem, d0, d1, d2, d3, d4]) rfl ?_
  have hb7 : Below w.heap.size w x5 := ((HB2.out.trans (hb6.mono HB2.out.size)).grown hgy0 (by have := HB2.out.size; have := hb6.size; omega) (fun r e => by cases e; omega)).grown hg7 (by have := HB2.out.size; have := hb6.size; have := hgy0.size; omega) (fun r e => by cases e; omega)
  exact ⟨_, _, rfl, isGs_of_a (isGsa_keep (fun a c hq hc => hg7.cell (hgy0.cell hc (fun e => hq.1 (Option.some.inj e))) (fun e => hq.2 (Option.some.inj e))) hg6), hb7⟩
end Go.Proofs.YtkigeegahepnaaaGreatDoor

namespace Go.Proofs.YtkigeegahepnaaaGreatDoor
open Go.RowKit Go.Shelf

/-- A cell of a row is set. -/
theorem store_one {w : World} {b n : Nat} {t : TypeId} {f : Nat → Value} (h : w.rowIs b t n f) (p : Nat) (hp : p < n) (c0 : Value) :
    ∃ w1 f', ((∃ u, w.cell? ⟨b, p, none⟩ = some u) ∧ w.frozen? ⟨b, p, none⟩ = false ∧ w.setCell ⟨b, p, none⟩ c0 = w1) ∧ w1.rowIs b t n f' ∧ w.grownBy w1 (some b) ∧ f' p = c0 ∧ ∀ i, i ≠ p → f' i = f i := by
  have h1 := h.set p c0
  refine ⟨_, _, ⟨⟨_, h.cell hp⟩, h.frozen _, rfl⟩, h1, grown_set _ _ _ _, by simp, fun i hi => by simp [hi]⟩

set_option maxRecDepth 100000 in
set_option maxHeartbeats 8000000 in
theorem ccTs_any (L : List Th) (v : Value) (w : World) (P : Nat → Prop) (hl : L.length ≤ 1000000) (hL : ∀ t ∈ L, fineG t.ps) (hP : ∀ q, w.heap.size ≤ q → P q) (h : isTsa w (fun q => P q ∧ q < w.heap.size) L v) :
    Calls Tryz.prog 47 #[v] w fun e w' => ∃ v', e = .returned v' ∧ Trow w w' P L v' ∧ Below w.heap.size w w' := by
  obtain ⟨a, cap, ⟨o, rfl, hc1, hc2, ho⟩, hBa, hat⟩ := h
  obtain ⟨news, hn1, hn2⟩ := isTLa_of L a hat
  have HPP := Lib.hid hP
  have hnl := isTLa_len _ _ hn1
  have CL := Lib.hid (cloneT_any o a L.length cap ho hl news w hnl hn2 (isTLa_one _ _ hn1))
  have HN := Lib.hid hn1
  have HL := Lib.hid hL
  clear hn1 hn2 hnl hL hBa ho hat hP
  go_enter Tryz.func47, Tryz.ntmps47
  go_wp2_with (go_at_call 62; refine CL.out.mono ?_; rintro e w3 ⟨v3, rfl, hol, hb3⟩; obtain ⟨ol, g, capL, rfl, cl1, cl2, hrow⟩ := clone_row hol)
  have HB3 := Lib.hid hb3
  have HM : Hid (capL ≤ maxLen) := Lib.hid cl2
  unfold maxLen at cl2
  have hs3 := hb3.size
  have hstart : 0 < L.length → ol = some ⟨g, 0, none⟩ ∧ w.heap.size ≤ g ∧ g < w3.heap.size ∧ Tro w3 (fun q => P q ∧ q ≠ g) L g capL := fun h0 => by
    obtain ⟨h1, h2, h3, f, h4, h5⟩ := hrow h0
    refine ⟨h1, h2, h3, f, h4, fun i hi => ?_⟩
    obtain ⟨q1, q2, q3, q4, q5⟩ := isTLa_get L news f HN.out h5 i hi
    exact ⟨q1, q2, isGsa_mono (fun q hq => ⟨hq.1, by have := hq.2; omega⟩) (isGsa_keep (fun a c _ hc => cell_below hb3 _ _ hc) q3), q4, q5⟩
  have HST := Lib.hid hstart
  clear hstart hrow hol hb3 CL
  go_loopw [9] (fun i wr => ∃ j : Nat, j ≤ L.length ∧ i = .int .i64 j ∧ Hid (Below w.heap.size w wr ∧ w3.heap.size ≤ wr.heap.size) ∧ Hid (0 < L.length → Tro wr (fun q => P q ∧ q ≠ g) L g capL)) (fun i _ => L.length - (intOf i).toNat)
  case atStart => exact ⟨0, by omega, rfl, Lib.hid ⟨HB3.out, Nat.le_refl _⟩, Lib.hid (fun h0 => (HST.out h0).2.2.2)⟩
  case round =>
    obtain ⟨j, hj, rfl, hB, hG⟩ := hrel
    by_cases hlt : j < L.length
    · obtain ⟨rfl, hg1, hg2, _⟩ := HST.out (by omega)
      obtain ⟨f, hf1, hf2⟩ := hG.out (by omega)
      obtain ⟨h0, h1, hv, hn, hm⟩ := hf2 j hlt
      have e0 := hf1.cell (show j * 3 < capL * 3 by omega)
      have e1 := hf1.cell (show j * 3 + 1 < capL * 3 by omega)
      have e2 := hf1.cell (show j * 3 + 2 < capL * 3 by omega)
      obtain ⟨o1, p1, hag⟩ := isGsa_form hv
      rw [hag] at hv
      rw [h0] at e0
      rw [h1] at e1
      rw [hag] at e2
      have hlg := HL.out _ (List.getElem_mem hlt)
      have CV : Hid (∀ w1, KB wr w1 → Calls Tryz.prog 51 #[.slice o1 L[j].ps.length p1] w1 fun e w' => ∃ v', e = .returned v' ∧ isGsa w' (fun q => P q ∧ q ≠ g) L[j].ps v' ∧ KB wr w') := Lib.hid fun w1 hK => (ccG_any L[j].ps _ w1 (fun q => P q ∧ q ≠ g) hlg (fun q hq => ⟨HPP.out q (by have := hB.out.1.size; have := hK.size; omega), by have := hB.out.2; have := hK.size; omega⟩) (isGsa_mono (fun q hq => ⟨hq.1, by have := hq.2; have := hK.size; omega⟩) (isGsa_keep (fun a c _ hc => cell_below hK _ _ hc) (isGsa_lt hv)))).mono fun e w' ⟨v', he, hv', hb'⟩ => ⟨v', he, hv', hK.trans (hb'.mono hK.size)⟩
      have HA1 : Hid (KB wr (wr.alloc (.cells #[.string L[j].ph, .string L[j].ty, .slice o1 L[j].ps.length p1] 44))) := Lib.hid kbA
      have HF1 := Lib.hid hf1
      have HF2 := Lib.hid hf2
      have HN2 := Lib.hid (And.intro hn hm)
      have H01 := Lib.hid (And.intro h0 h1)
      clear hf1 hf2 h0 h1 hv hn hm hag hG hlg
      generalize hGj : L[j] = T0 at *
      have HGJ := Lib.hid hGj
      clear hGj
      go_wp2_with (go_at_call 51; refine (CV.out _ HA1.out).mono ?_; rintro e w6 ⟨v6, rfl, hva, hb6⟩; obtain ⟨o6, cap6, rfl⟩ := isGsa_form hva; obtain ⟨x3, f', ⟨⟨_, q1⟩, q1', q1''⟩, hf7, hg7, u2, hold⟩ := store_one (rowIs_grown HF1.out (grown_bel hb6) (by simp)) (j * 3 + 2) (by omega) (.slice o6 T0.ps.length cap6))
      have HX6 := Lib.hid (And.intro hf7 (And.intro hg7 (And.intro u2 hold)))
      have HVA := Lib.hid hva
      have HB6 := Lib.hid hb6
      clear hf7 hg7 u2 hold hva hb6
      go_roundw
      case rel =>
        obtain ⟨hf7, hg7, u2, hold⟩ := HX6.out
        refine ⟨j + 1, by omega, by go_num, Lib.hid ⟨(hB.out.1.trans (HB6.out.mono hB.out.1.size)).grown hg7 (by have := hB.out.1.size; have := HB6.out.size; omega) (fun r e => by cases e; exact hg1), by have := hB.out.2; have := HB6.out.size; have := hg7.size; omega⟩, Lib.hid (fun _ => ⟨f', hf7, fun i hi => ?_⟩)⟩
        by_cases e : i = j
        · subst e
          rw [HGJ.out]
          refine ⟨(hold _ (by omega)).trans H01.out.1, (hold _ (by omega)).trans H01.out.2, ?_, HN2.out.1, HN2.out.2⟩
          rw [u2]
          exact isGsa_keep (fun a c hq hc => hg7.cell hc (fun e => hq.2 (Option.some.inj e))) HVA.out
        · refine (HF2.out i hi).keep (fun a c hq hc => hg7.cell (cell_below HB6.out _ _ hc) (fun e => hq.2 (Option.some.inj e))) (fun k hk => hold _ (by omega))
      case measure => simp [intOf]; omega
    · obtain rfl : j = L.length := by omega
      go_wp2_with fail
      go_ret
      exact ⟨_, rfl, ⟨ol, g, capL, rfl, cl1, HM.out, fun h0 => by
        obtain ⟨h1, h2, h3, _⟩ := HST.out h0
        exact ⟨h1, h2, by have := hB.out.2; omega, hG.out h0⟩⟩, hB.out.1⟩

/-- .. of all that is read. -/
theorem ccTs_all (L : List Th) (v : Value) (w : World) (hl : L.length ≤ 1000000) (hL : ∀ t ∈ L, fineG t.ps) (h : isTs w L v) :
    Calls Tryz.prog 47 #[v] w fun e w' => (∃ o cap, e = .returned (.slice o L.length cap) ∧ isTs w' L (.slice o L.length cap)) ∧ Below w.heap.size w w' :=
  (ccTs_any L v w (fun _ => True) hl hL (fun _ _ => trivial) (isTsa_mono (fun q hq => ⟨trivial, hq⟩) (isTsa_of h))).mono fun e w' ⟨v', he, ht, hb⟩ => by
    have ht' := ht.ts
    obtain ⟨ol, g, cap, rfl, -⟩ := ht
    exact ⟨⟨ol, cap, he, ht'⟩, hb⟩
set_option maxHeartbeats 1000000 in
theorem things_any {w : World} {N b : Nat} {s : St} {L : List (Cl × An)} {tk fl : List Int} {lv mv tv fv : Value} (h : isC w N b s L tk fl lv mv tv fv) (hF : fineS s) : Calls Tryz.prog 28 #[.pointer (some ⟨b, 0, none⟩)] w fun e w' => (∃ o cap, e = .returned (.slice o s.l.length cap) ∧ isTs w' s.l (.slice o s.l.length cap)) ∧ Below w.heap.size w w' := by
  obtain ⟨r0, r1, r2, r3, r4⟩ := five_cells h.box
  obtain ⟨lv', e, hts, -⟩ := h.st
  simp only [Value.agg.injEq, Array.mk.injEq, List.cons.injEq, and_true] at e
  subst e
  have HC := Lib.hid (ccTs_all s.l lv w (by have := hF.1; omega) (fun t ht => (hF.2 t ht).2) hts)
  obtain ⟨o, cap, ot, ct, of, cf, m, rfl, rfl, rfl, rfl⟩ := h.forms
  clear h hts
  go_enter Tryz.func28, Tryz.ntmps28
  go_wp2_with (go_at_call 47; refine HC.out.mono ?_; rintro e w5 ⟨⟨o', c', rfl, hr⟩, hb⟩)
  go_ret
  exact ⟨⟨_, _, rfl, hr⟩, hb⟩
end Go.Proofs.YtkigeegahepnaaaGreatDoor
