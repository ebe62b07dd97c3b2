/-
  The program's Update.
-/
import Derived.Test.YtdckldfekepopaaGreatDoorYA
set_option linter.unusedVariables false
set_option linter.unusedSimpArgs false
namespace Go.Proofs.YtdckldfekepopaaGreatDoor
open Go.RowKit

noncomputable def updateL (s : St) (p : ByteArray) (ps : List G) : St × Int :=
  if checkS s = 0 then (match idxT s.l p with
    | some j => if wrongL (s.l.getD j zTh).ty ps = 0 then (if (differL (s.l.getD j zTh).ty (s.l.getD j zTh).ps ps).2 = 0 then (if (differL (s.l.getD j zTh).ty (s.l.getD j zTh).ps ps).1 = 3 then (zS, 91) else (⟨s.l.set j ⟨(s.l.getD j zTh).ph, (s.l.getD j zTh).ty, ps⟩, s.made⟩, 0)) else (zS, 91)) else (zS, wrongL (s.l.getD j zTh).ty ps)
    | none => (zS, 4)) else (zS, checkS s)
/-- The properties of one thing of a row are set. -/
theorem Tro.set {W : World} {P : Nat → Prop} {L : List Th} {g cap j : Nat} {ps : List G} {o : Option Addr} {c : Nat} (h : Tro W (fun q => P q ∧ q ≠ g) L g cap) (hj : j < L.length) (hcap : L.length ≤ cap) (hg : isGsa W (fun q => P q ∧ q ≠ g) ps (.slice o ps.length c)) :
    ∃ y, ((∃ u, W.cell? ⟨g, j * 3 + 2, none⟩ = some u) ∧ W.frozen? ⟨g, j * 3 + 2, none⟩ = false ∧ W.setCell ⟨g, j * 3 + 2, none⟩ (.slice o ps.length c) = y) ∧ W.grownBy y (some g) ∧ Tro y (fun q => P q ∧ q ≠ g) (L.set j ⟨L[j].ph, L[j].ty, ps⟩) g cap := by
  obtain ⟨f, h1, h2⟩ := h
  have hs := h1.set (j * 3 + 2) (.slice o ps.length c)
  have hgr := grown_set W g (j * 3 + 2) (.slice o ps.length c)
  have hcc : ∀ (a : Addr) (d : Value), (P a.block ∧ a.block ≠ g) → W.cell? a = some d → (W.setCell ⟨g, j * 3 + 2, none⟩ (.slice o ps.length c)).cell? a = some d := fun a d hq hd => hgr.cell hd (fun e => hq.2 (Option.some.inj e))
  refine ⟨_, ⟨⟨_, h1.cell (show j * 3 + 2 < cap * 3 by omega)⟩, h1.frozen _, rfl⟩, hgr, _, hs, fun i hi => ?_⟩
  have hi' : i < L.length := by simpa using hi
  by_cases e : i = j
  · subst e
    obtain ⟨q0, q1, _, q3, q4⟩ := h2 i hi'
    rw [List.getElem_set_self]
    refine ⟨?_, ?_, ?_, q3, q4⟩
    · show (if _ then _ else _) = _
      rw [if_neg (by omega)]; exact q0
    · show (if _ then _ else _) = _
      rw [if_neg (by omega)]; exact q1
    · show isGsa _ _ ps (if _ then _ else _)
      rw [if_pos rfl]
      exact isGsa_keep hcc hg
  · rw [List.getElem_set_ne (fun h => e h.symm)]
    refine (h2 i hi').keep hcc (fun k hk => ?_)
    show (if _ then _ else _) = _
    rw [if_neg (by omega)]

set_option maxRecDepth 100000 in
set_option maxHeartbeats 8000000 in
theorem Update_any (s : St) (p : ByteArray) (ps : List G) (v u : Value) (w : World) (hE : Env9 w) (hF : fineS s) (hP : fineG ps) (h : isS w s v) (hg : isGs w ps u) :
    Calls Tryz.prog 11 #[v, .string p, u] w fun e w' => (∃ v', e = .returned (.tuple #[v', .int .i64 (updateL s p ps).2]) ∧ isS w' (updateL s p ps).1 v') ∧ Below w.heap.size w w' := by
  obtain ⟨o, cap, rfl, hts, hm⟩ := isS_two h
  obtain ⟨ou, cu, rfl⟩ : ∃ ou cu, u = .slice ou ps.length cu := by obtain ⟨a, cap, ⟨o, rfl, _⟩, _⟩ := hg; exact ⟨_, _, rfl⟩
  have HB0 := CrW.start w o s.l.length cap s.made
  have HNM := named_any s p _ _ (hE.kb HB0.bel) hF (isS_below HB0.bel h)
  have HTS := Lib.hid hts
  have HGS := Lib.hid hg
  have HEE := Lib.hid hE
  have HFF := Lib.hid (And.intro hF hP)
  have HMM := Lib.hid hm
  clear h hts hE hF hm hP hg
  have key : ∀ e : Int, e ≠ 0 → (namedL s p).2 = e → Calls Tryz.prog 11 #[.agg #[.slice o s.l.length cap, .int .i64 s.made], .string p, .slice ou ps.length cu] w fun e' w' => (∃ v', e' = .returned (.tuple #[v', .int .i64 e]) ∧ isS w' zS v') ∧ Below w.heap.size w w' := by
    intro e he hN
    rw [hN] at HNM
    have HNM := Lib.hid HNM
    generalize (namedL s p).1 = n1 at *
    have z1 : (e == 0) = false := beqI he
    have z2 : (e != 0) = true := bne_iff_ne.2 he
    clear hN HTS HFF HMM he HGS HEE
    generalize s.l.length = n at *
    generalize s.made = md at *
    generalize ps.length = pn at *
    go_enter Tryz.func11, Tryz.ntmps11
    go_wp2_with fail
    generalize ((w.alloc (.cells #[.slice o n cap, .int .i64 md] 24)).alloc (.cells #[.slice none 0 0, .int .i64 0] 24)) = W2 at *
    refine HNM.out.mono ?_
    rintro e5 w5 ⟨rfl, hb5⟩
    have H6 := Lib.hid (HB0.below hb5)
    obtain ⟨x1, x2, ⟨⟨_, q1⟩, q1', q1''⟩, ⟨⟨_, q2⟩, q2', q2''⟩, d0, d1, hg8, -⟩ := store_two H6.out.res (.slice none 0 0) (.int .i64 0)
    have HF8 := Lib.hid (H6.out.fin hg8)
    clear HB0 hb5 HNM H6 hg8
    go_wp2_with fail
    refine bodyPost_ret (v := .tuple #[.agg #[.slice none 0 0, .int .i64 0], .int .i64 e]) (by simp [results, Tryz.results11, go_sem, d0, d1]) rfl ?_
    exact ⟨⟨_, rfl, isS_zero _⟩, HF8.out⟩
  unfold updateL
  by_cases hC : checkS s = 0
  · rw [if_pos hC]
    cases hI : idxT s.l p with
    | none => exact key 4 (by decide) (by unfold namedL; rw [if_pos hC, hI])
    | some j =>
      have hN : namedL s p = ((j : Int), 0) := by unfold namedL; rw [if_pos hC, hI]
      rw [hN] at HNM
      have HNM := Lib.hid HNM
      obtain ⟨hj, -⟩ := idxT_at hI
      obtain ⟨a, cap', ⟨o', e', hc1, hc2, ho⟩, hat⟩ := HTS.out
      simp only [Value.slice.injEq, true_and] at e'
      obtain ⟨rfl, rfl⟩ := e'
      obtain rfl := ho (by omega)
      have hl1000 := HFF.out.1.1
      unfold maxLen at hc2
      have htj := HFF.out.1.2 _ (List.getElem_mem hj)
      obtain ⟨o1, c1, q0, q1, q2, ht⟩ := isTat_three (hat j hj)
      obtain ⟨pv, e1, hgt, hp1, hp2⟩ := ht
      simp only [Value.agg.injEq, Array.mk.injEq, List.cons.injEq, true_and, and_true] at e1
      subst e1
      have HW : Hid (∀ w1, KB w w1 → Calls Tryz.prog 25 #[.string s.l[j].ty, .slice ou ps.length cu] w1 fun e w' => e = .returned (.int .i64 (wrongL s.l[j].ty ps)) ∧ Below w1.heap.size w1 w') := Lib.hid fun w1 hk => wrong10_any _ ps _ w1 (HEE.out.kb hk) htj.1 HFF.out.2 (isGs_below hk HGS.out)
      have HD : Hid (∀ w1, KB w w1 → Calls Tryz.prog 32 #[.string s.l[j].ty, .slice o1 s.l[j].ps.length c1, .slice ou ps.length cu] w1 fun e w' => e = .returned (.tuple #[.int .i8 (differL s.l[j].ty s.l[j].ps ps).1, .int .i64 (differL s.l[j].ty s.l[j].ps ps).2]) ∧ Below w1.heap.size w1 w') := Lib.hid fun w1 hk => Differ_any _ _ _ _ _ w1 (HEE.out.kb hk) htj.1 htj.2.1 HFF.out.2.1 htj.2.2 HFF.out.2.2 (isGs_below hk hgt) (isGs_below hk HGS.out)
      have HQ := Lib.hid (And.intro q0 (And.intro q1 q2))
      simp only [getD_t hj]
      have hTl := hj
      generalize hX : wrongL s.l[j].ty ps = X at *
      obtain ⟨D1, hD1⟩ : ∃ D, (differL s.l[j].ty s.l[j].ps ps).1 = D := ⟨_, rfl⟩
      obtain ⟨D2, hD2⟩ : ∃ D, (differL s.l[j].ty s.l[j].ps ps).2 = D := ⟨_, rfl⟩
      rw [hD1, hD2] at HD ⊢
      obtain ⟨R, hR⟩ : ∃ R : St × Int, (if X = 0 then if D2 = 0 then if D1 = 3 then (zS, 91) else (⟨s.l.set j ⟨s.l[j].ph, s.l[j].ty, ps⟩, s.made⟩, 0) else (zS, 91) else (zS, X)) = R := ⟨_, rfl⟩
      rw [hR]
      have HR := Lib.hid hR
      clear hR
      clear key hC hI hN hat ho hX hD1 hD2 q0 q1 q2 hgt hp1 hp2 htj
      go_enter Tryz.func11, Tryz.ntmps11
      go_wp2_with fail
      generalize ((w.alloc (.cells #[.slice (some a) s.l.length cap, .int .i64 s.made] 24)).alloc (.cells #[.slice none 0 0, .int .i64 0] 24)) = W2 at *
      refine HNM.out.mono ?_
      rintro e5 w5 ⟨rfl, hb5⟩
      have H5 := Lib.hid (HB0.below hb5)
      obtain ⟨r0, r1⟩ := two_cells H5.out.box
      have q0 := cell_below H5.out.bel _ _ HQ.out.1
      have q1 := cell_below H5.out.bel _ _ HQ.out.2.1
      have q2 := cell_below H5.out.bel _ _ HQ.out.2.2
      clear HB0 hb5 HNM
      go_wp2_with fail
      have hH6 := H5.out.below (kbA (o := .cells #[.string s.l[j].ph, .string s.l[j].ty, .slice o1 s.l[j].ps.length c1] 52))
      have hbt := World.alloc_heap_new w5 (.cells #[.string s.l[j].ph, .string s.l[j].ty, .slice o1 s.l[j].ps.length c1] 52)
      have hsz6 : (w5.alloc (.cells #[.string s.l[j].ph, .string s.l[j].ty, .slice o1 s.l[j].ps.length c1] 52)).heap.size = w5.heap.size + 1 := by simp
      have h5s := H5.out.sz
      generalize hW6 : (w5.alloc (.cells #[.string s.l[j].ph, .string s.l[j].ty, .slice o1 s.l[j].ps.length c1] 52)) = W6 at *
      clear hW6
      have H6 := Lib.hid hH6
      have HQ5 := Lib.hid (And.intro q0 (And.intro q1 q2))
      clear hH6 H5 q0 q1 q2 r0 r1
      refine (HW.out _ H6.out.bel).mono ?_
      rintro e7 w7 ⟨rfl, hb7⟩
      have H7 := Lib.hid (H6.out.below hb7)
      have hbt7 := (hb7.block w5.heap.size (by omega)).trans hbt
      obtain ⟨m0, m1, m2⟩ := three_cells hbt7
      have hz7 : w5.heap.size < w7.heap.size := by have := hb7.size; omega
      clear HW H6 hb7 hbt hsz6
      by_cases hX : X = 0
      · subst hX
        go_wp2_with fail
        refine (HD.out _ H7.out.bel).mono ?_
        rintro e8 w8 ⟨rfl, hb8⟩
        have H8 := Lib.hid (H7.out.below hb8)
        clear HD H7 hb8 m0 m1 m2 hbt7
        by_cases hD2 : D2 = 0
        · subst hD2
          by_cases hD1 : D1 = 3
          · subst hD1
            obtain ⟨x1, x2, ⟨⟨_, q1⟩, q1', q1''⟩, ⟨⟨_, q2⟩, q2', q2''⟩, d0, d1, hg8, -⟩ := store_two H8.out.res (.slice none 0 0) (.int .i64 0)
            have HF8 := Lib.hid (H8.out.fin hg8)
            clear H8 hg8
            go_wp2_with fail
            refine bodyPost_ret (v := .tuple #[.agg #[.slice none 0 0, .int .i64 0], .int .i64 91]) (by simp [results, Tryz.results11, go_sem, d0, d1]) rfl ?_
            rw [← HR.out]
            simp only [if_true]
            exact ⟨⟨_, rfl, isS_zero _⟩, HF8.out⟩
          · have z1 : (D1 == 3) = false := beqI hD1
            have z2 : (D1 != 3) = true := bne_iff_ne.2 hD1
            obtain ⟨r0, r1⟩ := two_cells H8.out.box
            go_wp2_with fail
            have CT : Hid (∀ w1, KB w8 w1 → Calls Tryz.prog 26 #[.slice (some a) s.l.length cap] w1 fun e w' => ∃ v', e = .returned v' ∧ Trow w1 w' (fun q => q ≠ w.heap.size + 1) s.l v' ∧ Below w1.heap.size w1 w') := Lib.hid fun w1 hk => copiedTs_any _ _ w1 _ (by omega) (fun t ht => (HFF.out.1.2 t ht).2) (fun q hq => by have := hk.size; have := H8.out.sz; omega) (isTsa_mono (fun q (hq : q < w.heap.size) => ⟨by omega, by have := hk.size; have := H8.out.sz; omega⟩) (isTsa_keep (fun a c _ hc => cell_below (H8.out.bel.trans (hk.mono H8.out.bel.size)) _ _ hc) (isTsa_of HTS.out)))
            refine (CT.out _ (Below.refl _ _)).mono ?_
            rintro e9 w9 ⟨v9, rfl, ⟨ol, g, capL, rfl, cl1, cl2, hrow⟩, hb9⟩
            obtain ⟨rfl, hg1, hg2, htro⟩ := hrow (by omega)
            have H9 := Lib.hid (H8.out.below hb9)
            obtain ⟨r0, r1⟩ := two_cells H9.out.box
            have HTR := Lib.hid htro
            have HCL2 : Hid (capL ≤ maxLen) := Lib.hid cl2
            unfold maxLen at cl2
            have h8s := H8.out.sz
            have h9s := hb9.size
            have CP : Hid (∀ w1, KB w9 w1 → Calls Tryz.prog 33 #[.slice ou ps.length cu] w1 fun e w' => ∃ v', e = .returned v' ∧ isGsa w' (fun q => q ≠ w.heap.size + 1 ∧ q ≠ g) ps v' ∧ Below w1.heap.size w1 w') := Lib.hid fun w1 hk => copiedG_any _ _ w1 _ HFF.out.2 (fun q hq => ⟨by have := hk.size; omega, by have := hk.size; omega⟩) (isGsa_mono (fun q (hq : q < w.heap.size) => ⟨⟨by omega, by omega⟩, by have := hk.size; omega⟩) (isGsa_keep (fun a c _ hc => cell_below (H9.out.bel.trans (hk.mono H9.out.bel.size)) _ _ hc) (isGsa_of HGS.out)))
            clear CT htro hrow
            go_wp2_with fail
            refine (CP.out _ (Below.refl _ _)).mono ?_
            rintro e10 w10 ⟨v10, rfl, hg10, hb10⟩
            obtain ⟨o10, c10, rfl⟩ := isGsa_form hg10
            obtain ⟨y, ⟨⟨_, s1⟩, s1', s1''⟩, hgy, htro2⟩ := Tro.set (HTR.out.keep (fun a c _ hc => cell_below hb10 _ _ hc) (hb10.block g hg2)) hTl cl1 hg10
            have H10 := Lib.hid (H9.out.below hb10)
            have hresy := (hgy.block (w.heap.size + 1) (by have := hb10.size; omega) (fun e => by have := Option.some.inj e; omega)).trans H10.out.res
            have hboxy := (hgy.block w.heap.size (by have := hb10.size; omega) (fun e => by have := Option.some.inj e; omega)).trans H10.out.box
            obtain ⟨r0, r1⟩ := two_cells hboxy
            obtain ⟨x1, x2, ⟨⟨_, q1⟩, q1', q1''⟩, ⟨⟨_, q2⟩, q2', q2''⟩, d0, d1, hg8, -⟩ := store_two hresy (.slice (some ⟨g, 0, none⟩) s.l.length capL) (.int .i64 s.made)
            have hglt : g < y.heap.size := by have := hgy.size; have := hb10.size; omega
            have hfin : Below w.heap.size w x2 := (H10.out.bel.grown hgy H10.out.bel.size (fun r e => by cases e; omega)).grown hg8 (by have := H10.out.bel.size; have := hgy.size; omega) (fun r e => by cases e; omega)
            have hts : isTs x2 (s.l.set j ⟨s.l[j].ph, s.l[j].ty, ps⟩) (.slice (some ⟨g, 0, none⟩) s.l.length capL) := by
              have h1 := htro2.keep (W' := x2) (fun a c hq hc => hg8.cell hc (fun e => hq.1 (Option.some.inj e))) (hg8.block g hglt (fun e => by have := Option.some.inj e; omega))
              have := h1.ts (by rw [List.length_set]; exact cl1) HCL2.out
              rwa [List.length_set] at this
            have HX := Lib.hid (And.intro hfin hts)
            clear hfin hts hg8 htro2 hgy hg10 hb10 hb9 H8 H9 H10 CP HTR hresy hboxy
            go_wp2_with fail
            refine bodyPost_ret (v := .tuple #[.agg #[.slice (some ⟨g, 0, none⟩) s.l.length capL, .int .i64 s.made], .int .i64 0]) (by simp [results, Tryz.results11, go_sem, d0, d1]) rfl ?_
            rw [← HR.out]
            simp only [if_true, if_neg hD1]
            exact ⟨⟨_, rfl, _, rfl, HX.out.2, HMM.out⟩, HX.out.1⟩
        · have z1 : (D2 == 0) = false := beqI hD2
          have z2 : (D2 != 0) = true := bne_iff_ne.2 hD2
          obtain ⟨x1, x2, ⟨⟨_, q1⟩, q1', q1''⟩, ⟨⟨_, q2⟩, q2', q2''⟩, d0, d1, hg8, -⟩ := store_two H8.out.res (.slice none 0 0) (.int .i64 0)
          have HF8 := Lib.hid (H8.out.fin hg8)
          clear H8 hg8
          go_wp2_with fail
          refine bodyPost_ret (v := .tuple #[.agg #[.slice none 0 0, .int .i64 0], .int .i64 91]) (by simp [results, Tryz.results11, go_sem, d0, d1]) rfl ?_
          rw [← HR.out]
          simp only [if_true, if_neg hD2]
          exact ⟨⟨_, rfl, isS_zero _⟩, HF8.out⟩
      · have z1 : (X == 0) = false := beqI hX
        have z2 : (X != 0) = true := bne_iff_ne.2 hX
        obtain ⟨x1, x2, ⟨⟨_, q1⟩, q1', q1''⟩, ⟨⟨_, q2⟩, q2', q2''⟩, d0, d1, hg8, -⟩ := store_two H7.out.res (.slice none 0 0) (.int .i64 0)
        have HF8 := Lib.hid (H7.out.fin hg8)
        clear H7 hg8 HD
        go_wp2_with fail
        refine bodyPost_ret (v := .tuple #[.agg #[.slice none 0 0, .int .i64 0], .int .i64 X]) (by simp [results, Tryz.results11, go_sem, d0, d1]) rfl ?_
        rw [← HR.out, if_neg hX]
        exact ⟨⟨_, rfl, isS_zero _⟩, HF8.out⟩
  · rw [if_neg hC]
    exact key (checkS s) hC (by unfold namedL; rw [if_neg hC])
end Go.Proofs.YtdckldfekepopaaGreatDoor
