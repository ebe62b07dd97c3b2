/-
  The program's Delete.
-/
import Derived.Test.YtdckldfekepopaaGreatDoorZ9
import Derived.Test.YtdckldfekepopaaGreatDoorZX
set_option linter.unusedVariables false
set_option linter.unusedSimpArgs false
namespace Go.Proofs.YtdckldfekepopaaGreatDoor
open Go.RowKit

noncomputable def deleteL (s : St) (p : ByteArray) : St × Int :=
  if checkS s = 0 then (match idxT s.l p with | some j => (⟨s.l.take j ++ s.l.drop (j + 1), s.made⟩, 0) | none => (zS, 4)) else (zS, checkS s)
theorem isTLa_cut {W : World} {B : Nat → Prop} : ∀ (l : List Th) (xs : List Value) (k : Nat), isTLa W B l xs → isTLa W B (l.take k) (xs.take (k * 3)) ∧ isTLa W B (l.drop k) (xs.drop (k * 3))
  | l, xs, 0, h => by
    rw [Nat.zero_mul, List.take_zero, List.take_zero, List.drop_zero, List.drop_zero]
    exact ⟨rfl, h⟩
  | [], xs, k + 1, h => by
    unfold isTLa at h
    subst h
    simp only [List.take_nil, List.drop_nil]
    exact ⟨rfl, rfl⟩
  | x :: t, xs, k + 1, h => by
    unfold isTLa at h
    obtain ⟨pv, rest, rfl, hx, hn, hm, ht⟩ := h
    obtain ⟨h1, h2⟩ := isTLa_cut t rest k ht
    rw [show (k + 1) * 3 = k * 3 + 3 by omega]
    simp only [List.take_succ_cons, List.drop_succ_cons]
    refine ⟨?_, h2⟩
    unfold isTLa
    exact ⟨pv, _, rfl, hx, hn, hm, h1⟩

set_option maxRecDepth 100000 in
set_option maxHeartbeats 8000000 in
theorem Delete_any (s : St) (p : ByteArray) (v : Value) (w : World) (hE : Env9 w) (hF : fineS s) (h : isS w s v) :
    Calls Tryz.prog 13 #[v, .string p] w fun e w' => (∃ v', e = .returned (.tuple #[v', .int .i64 (deleteL s p).2]) ∧ isS w' (deleteL s p).1 v') ∧ Below w.heap.size w w' := by
  obtain ⟨o, cap, rfl, hts, hm⟩ := isS_two h
  have HB0 := CrW.start w o s.l.length cap s.made
  have HNM := named_any s p _ _ (hE.kb HB0.bel) hF (isS_below HB0.bel h)
  have HTS := Lib.hid hts
  have HFF := Lib.hid hF
  have HMM := Lib.hid hm
  clear h hts hE hF hm
  have key : ∀ e : Int, e ≠ 0 → (namedL s p).2 = e → Calls Tryz.prog 13 #[.agg #[.slice o s.l.length cap, .int .i64 s.made], .string p] w fun e' w' => (∃ v', e' = .returned (.tuple #[v', .int .i64 e]) ∧ isS w' zS v') ∧ Below w.heap.size w w' := by
    intro e he hN
    rw [hN] at HNM
    have HNM := Lib.hid HNM
    generalize (namedL s p).1 = n1 at *
    have z1 : (e == 0) = false := beqI he
    have z2 : (e != 0) = true := bne_iff_ne.2 he
    clear hN HTS HFF HMM he
    generalize s.l.length = n at *
    generalize s.made = md at *
    go_enter Tryz.func13, Tryz.ntmps13
    go_wp2_with fail
    generalize ((w.alloc (.cells #[.slice o n cap, .int .i64 md] 24)).alloc (.cells #[.slice none 0 0, .int .i64 0] 24)) = W2 at *
    refine HNM.out.mono ?_
    rintro e5 w5 ⟨rfl, hb5⟩
    have H6 := Lib.hid (HB0.below hb5)
    obtain ⟨x1, x2, ⟨⟨_, q1⟩, q1', q1''⟩, ⟨⟨_, q2⟩, q2', q2''⟩, d0, d1, hg8, -⟩ := store_two H6.out.res (.slice none 0 0) (.int .i64 0)
    have HF8 := Lib.hid (H6.out.fin hg8)
    clear HB0 hb5 HNM H6 hg8
    go_wp2_with fail
    refine bodyPost_ret (v := .tuple #[.agg #[.slice none 0 0, .int .i64 0], .int .i64 e]) (by simp [results, Tryz.results13, go_sem, d0, d1]) rfl ?_
    exact ⟨⟨_, rfl, isS_zero _⟩, HF8.out⟩
  unfold deleteL
  by_cases hC : checkS s = 0
  · rw [if_pos hC]
    cases hI : idxT s.l p with
    | none => exact key 4 (by decide) (by unfold namedL; rw [if_pos hC, hI])
    | some j =>
      have hN : namedL s p = ((j : Int), 0) := by unfold namedL; rw [if_pos hC, hI]
      rw [hN] at HNM
      have HNM := Lib.hid HNM
      obtain ⟨hj, -⟩ := idxT_at hI
      obtain ⟨i0, hi, hz0, hz1, hz2⟩ := info_parts infoT10
      obtain ⟨a, cap', ⟨o', e', hc1, hc2, ho⟩, hBa, hat⟩ := isTsa_of HTS.out
      simp only [Value.slice.injEq, true_and] at e'
      obtain ⟨rfl, rfl⟩ := e'
      obtain rfl := ho (by omega)
      obtain ⟨xs, hx1, hx2⟩ := isTLa_of s.l a hat
      have HX := Lib.hid (And.intro hx1 hx2)
      have HBA := Lib.hid (hBa (by omega))
      have hl1000 := HFF.out.1
      unfold maxLen at hc2
      clear key hC hI hN hat hx1 hx2 hBa ho
      go_enter Tryz.func13, Tryz.ntmps13
      go_wp2_with fail
      generalize ((w.alloc (.cells #[.slice (some a) s.l.length cap, .int .i64 s.made] 24)).alloc (.cells #[.slice none 0 0, .int .i64 0] 24)) = W2 at *
      refine HNM.out.mono ?_
      rintro e5 w5 ⟨rfl, hb5⟩
      have H5 := Lib.hid (HB0.below hb5)
      obtain ⟨r0, r1⟩ := two_cells H5.out.box
      have v1 : IntKind.i64.wrap ((j : Int) + 1) = (j : Int) + 1 := IntWalk.i64_in _ (by omega)
      have v2 : (0 : Int) ≤ (j : Int) + 1 := by omega
      have v3 : (j : Int) + 1 ≤ (s.l.length : Int) := by omega
      have v4 : j + 1 ≤ cap := by omega
      have v5 : j ≤ cap := by omega
      have v6 : ¬ cap = j := by omega
      clear HB0 hb5 HNM
      go_wp2_with fail
      refine Rn.region_any (by kernel_rfl) ?_
      refine Rn.any_seg 0 10 (by kernel_rfl) rfl ?_
      simp only [List.take_succ_cons, List.take_zero, List.drop_zero]
      repeat (refine Rn.ws_one (fun KK hKK => ?_); go_simp; refine hKK _ ?_; clear hKK KK)
      refine Rn.ws_nil ?_
      intro K0 hK0
      rw [if_pos (by simp [Region.wanted])]
      have hxl := isTLa_len _ _ HX.out.1
      have hb5 := H5.out.bel
      have hLL : (s.l.take j ++ s.l.drop (j + 1)).length = j + (s.l.length - (j + 1)) := by simp; omega
      have hlt : ∀ i u, (xs.take (j * 3))[i]? = some u → w5.drew.cell? (a.add i) = some u := fun i u hu => by
        rw [List.getElem?_take] at hu
        split at hu
        · exact cell_below hb5 _ _ (HX.out.2 i u hu)
        · cases hu
      have hld : ∀ i u, (xs.drop ((j + 1) * 3))[i]? = some u → w5.drew.cell? ((a.add ((j + 1) * 3)).add i) = some u := fun i u hu => by
        rw [List.getElem?_drop] at hu
        rw [add_add]
        exact cell_below hb5 _ _ (HX.out.2 _ u hu)
      refine .inl (wp_append_full _ _ 22 rfl 52 i0 _ 3 56 Tryz.underlying22 hi hz0 hz1 hz2 rfl _ a j rfl (fun _ => rfl) (xs.take (j * 3)) (by rw [List.length_take, hxl]; omega) hlt _ (a.add ((j + 1) * 3)) (s.l.length - (j + 1)) _ rfl (fun h0 => by rw [if_neg (by omega)]) (xs.drop ((j + 1) * 3)) (by rw [List.length_drop, hxl]; omega) hld (by unfold maxLen; omega) (by omega) ?_)
      intro o8 a8 c8 w8 h81 h82 h83 h84 h85 h86 h87
      refine hK0 _ _ ?_
      clear hK0 K0 hlt hld
      have h85' : Below w5.heap.size w5 w8 := below_drew_of h85
      have H8 := Lib.hid (H5.out.below h85')
      have hbw8 := H8.out.bel
      have h5s := H5.out.sz
      have hts8 : isTsa w8 (fun q => q ≠ w.heap.size + 1 ∧ q < w8.heap.size) (s.l.take j ++ s.l.drop (j + 1)) (.slice o8 (s.l.take j ++ s.l.drop (j + 1)).length c8) := by
        obtain ⟨hc1, hc2⟩ := isTLa_cut s.l xs j HX.out.1
        obtain ⟨_, hc4⟩ := isTLa_cut s.l xs (j + 1) HX.out.1
        refine isTsa_cells (by rw [hLL]; exact h81) h82 (fun h0 => h83 (by rw [hLL] at h0; exact h0)) (fun h0 => ?_) (isTLa_app _ _ _ _ (isTLa_mono (fun q (hq : q < w.heap.size) => ⟨by omega, by have := hbw8.size; omega⟩) _ _ (isTLa_keep (fun a c _ hc => cell_below hbw8 _ _ hc) _ _ hc1)) (isTLa_mono (fun q (hq : q < w.heap.size) => ⟨by omega, by have := hbw8.size; omega⟩) _ _ (isTLa_keep (fun a c _ hc => cell_below hbw8 _ _ hc) _ _ hc4))) h84
        rcases Nat.eq_zero_or_pos (s.l.length - (j + 1)) with hm | hm
        · rw [h87 hm]
          have := HBA.out
          have := hbw8.size
          exact ⟨by omega, by omega⟩
        · rw [h86 hm]
          refine ⟨by show w5.heap.size ≠ _; omega, ?_⟩
          have hx0 : (xs.take (j * 3) ++ xs.drop ((j + 1) * 3)).length = (j + (s.l.length - (j + 1))) * 3 := by rw [List.length_append, List.length_take, List.length_drop, hxl]; omega
          have h0' : (xs.take (j * 3) ++ xs.drop ((j + 1) * 3))[0]? = some _ := List.getElem?_eq_getElem (by rw [hx0]; omega)
          have := World.block_lt_of_cell? _ _ (h84 0 _ h0')
          rw [h86 hm, add_block] at this
          exact this
      rw [hLL] at hts8
      have CT : Hid (∀ w1, KB w8 w1 → Calls Tryz.prog 26 #[.slice o8 (j + (s.l.length - (j + 1))) c8] w1 fun e w' => ∃ v', e = .returned v' ∧ Trow w1 w' (fun q => q ≠ w.heap.size + 1) (s.l.take j ++ s.l.drop (j + 1)) v' ∧ Below w1.heap.size w1 w') := Lib.hid fun w1 hk => copiedTs_any _ _ w1 _ (by rw [hLL]; omega) (fun t ht => by
        rcases List.mem_append.1 ht with ht | ht
        · exact (HFF.out.2 t (List.mem_of_mem_take ht)).2
        · exact (HFF.out.2 t (List.mem_of_mem_drop ht)).2) (fun q hq => by have := hk.size; have := hbw8.size; have := h85'.size; omega) (isTsa_mono (fun q hq => ⟨hq.1, by have := hq.2; have := hk.size; omega⟩) (isTsa_keep (fun a c _ hc => cell_below hk _ _ hc) hts8))
      have HS8 : Hid (w.heap.size + 1 < w8.heap.size) := Lib.hid (by have := h85'.size; omega)
      have HL1 := Lib.hid hLL
      obtain ⟨r0, r1⟩ := two_cells H8.out.box
      clear h81 h82 h83 h84 h85 h85' h86 h87 hLL hts8 H5 hbw8 h5s hxl hb5 HX
      generalize hm : j + (s.l.length - (j + 1)) = nn at *
      refine Rn.any_end 11 (by kernel_rfl) ?_
      simp only [List.drop_succ_cons, List.drop_zero]
      repeat (refine Rn.ws_one (fun KK hKK => ?_); go_simp; refine hKK _ ?_; clear hKK KK)
      refine Rn.ws_nil ?_
      go_wp2_with fail
      all_goals go_region_with (go_at_call 26; refine (CT.out _ ?_).mono ?_; exact drewB1 _ _; rintro e w9 ⟨v9, rfl, hts9, hb9⟩; obtain ⟨o9, g9, c9, e9, -⟩ := id hts9; rw [HL1.out] at e9; subst e9; have r1 := cell_below (below_drew_of hb9) _ _ r1; obtain ⟨x1, x2, ⟨⟨_, q1⟩, q1', q1''⟩, ⟨⟨_, q2⟩, q2', q2''⟩, d0, d1, hg8, -⟩ := store_two (H8.out.below (below_drew_of hb9)).res (.slice o9 nn c9) (.int .i64 s.made))
      all_goals
        have hfin := (H8.out.below (below_drew_of hb9)).fin hg8
        have hx9 := hts9.grown hg8 (fun q hq => hq) (by show w.heap.size + 1 < w8.heap.size; exact HS8.out)
        have HX := Lib.hid (And.intro hfin hx9.ts)
        clear hfin hx9 hg8 hts9 hb9 CT
        go_wp2_with fail
        refine bodyPost_ret (v := .tuple #[.agg #[.slice o9 nn c9, .int .i64 s.made], .int .i64 0]) (by simp [results, Tryz.results13, go_sem, d0, d1]) rfl ?_
        exact ⟨⟨_, rfl, _, rfl, HX.out.2, HMM.out⟩, HX.out.1⟩
  · rw [if_neg hC]
    exact key (checkS s) hC (by unfold namedL; rw [if_neg hC])
end Go.Proofs.YtdckldfekepopaaGreatDoor
