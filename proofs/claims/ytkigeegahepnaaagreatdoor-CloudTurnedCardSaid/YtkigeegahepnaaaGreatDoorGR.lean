/-
  The program's Update. · The reference's Same, of properties and of stores that read alike. · The law's same, Great. · Plain: stores that may be; what creates, updates, deletes leave. · The law's wakes. · What is told of a store does not lie in a box of two cells; the round of StoreOnce, plain.
-/
import Derived.Test.YtkigeegahepnaaaGreatDoorGQ
import Derived.Test.YtkigeegahepnaaaGreatDoorHG
set_option linter.unusedVariables false
set_option linter.unusedSimpArgs false
namespace Go.Proofs.YtkigeegahepnaaaGreatDoor
open Go.RowKit

noncomputable def updateL (s : St) (p : ByteArray) (ps : List G) : St × Int :=
  if checkS s = 0 then (match idxT s.l p with
    | some j => if wrongL (s.l.getD j zTh).ty ps = 0 then (if (differL (s.l.getD j zTh).ty (s.l.getD j zTh).ps ps).2 = 0 then (if (differL (s.l.getD j zTh).ty (s.l.getD j zTh).ps ps).1 = 3 then (zS, 91) else (⟨s.l.set j ⟨(s.l.getD j zTh).ph, (s.l.getD j zTh).ty, ps⟩, s.made⟩, 0)) else (zS, 91)) else (zS, wrongL (s.l.getD j zTh).ty ps)
    | none => (zS, 4)) else (zS, checkS s)
/-- The properties of one thing of a row are set. -/
theorem Tro.set {W : World} {P : Nat → Prop} {L : List Th} {g cap j : Nat} {ps : List G} {o : Option Addr} {c : Nat} (h : Tro W (fun q => P q ∧ q ≠ g) L g cap) (hj : j < L.length) (hcap : L.length ≤ cap) (hg : isGsa W (fun q => P q ∧ q ≠ g) ps (.slice o ps.length c)) :
    ∃ y, ((∃ u, W.cell? ⟨g, j * 3 + 2, none⟩ = some u) ∧ W.frozen? ⟨g, j * 3 + 2, none⟩ = false ∧ W.setCell ⟨g, j * 3 + 2, none⟩ (.slice o ps.length c) = y) ∧ W.grownBy y (some g) ∧ Tro y (fun q => P q ∧ q ≠ g) (L.set j ⟨L[j].ph, L[j].ty, ps⟩) g cap := by
  obtain ⟨f, h1, h2⟩ := h
  have hs := h1.set (j * 3 + 2) (.slice o ps.length c)
  have hgr := grown_set W g (j * 3 + 2) (.slice o ps.length c)
  have hcc : ∀ (a : Addr) (d : Value), (P a.block ∧ a.block ≠ g) → W.cell? a = some d → (W.setCell ⟨g, j * 3 + 2, none⟩ (.slice o ps.length c)).cell? a = some d := fun a d hq hd => hgr.cell hd (fun e => hq.2 (Option.some.inj e))
  refine ⟨_, ⟨⟨_, h1.cell (show j * 3 + 2 < cap * 3 by omega)⟩, h1.frozen _, rfl⟩, hgr, _, hs, fun i hi => ?_⟩
  have hi' : i < L.length := by simpa using hi
  by_cases e : i = j
  · subst e
    obtain ⟨q0, q1, _, q3, q4⟩ := h2 i hi'
    rw [List.getElem_set_self]
    refine ⟨?_, ?_, ?_, q3, q4⟩
    · show (if _ then _ else _) = _
      rw [if_neg (by omega)]; exact q0
    · show (if _ then _ else _) = _
      rw [if_neg (by omega)]; exact q1
    · show isGsa _ _ ps (if _ then _ else _)
      rw [if_pos rfl]
      exact isGsa_keep hcc hg
  · rw [List.getElem_set_ne (fun h => e h.symm)]
    refine (h2 i hi').keep hcc (fun k hk => ?_)
    show (if _ then _ else _) = _
    rw [if_neg (by omega)]

set_option maxRecDepth 100000 in
set_option maxHeartbeats 8000000 in
theorem Update_any (s : St) (p : ByteArray) (ps : List G) (v u : Value) (w : World) (hE : Env9 w) (hF : fineS s) (hP : fineG ps) (h : isS w s v) (hg : isGs w ps u) :
    Calls Tryz.prog 76 #[v, .string p, u] w fun e w' => (∃ v', e = .returned (.tuple #[v', .int .i64 (updateL s p ps).2]) ∧ isS w' (updateL s p ps).1 v') ∧ Below w.heap.size w w' := by
  obtain ⟨o, cap, rfl, hts, hm⟩ := isS_two h
  obtain ⟨ou, cu, rfl⟩ : ∃ ou cu, u = .slice ou ps.length cu := by obtain ⟨a, cap, ⟨o, rfl, _⟩, _⟩ := hg; exact ⟨_, _, rfl⟩
  have HB0 := CrW.start w o s.l.length cap s.made
  have HNM := named_any s p _ _ (hE.kb HB0.bel) hF (isS_below HB0.bel h)
  have HTS := Lib.hid hts
  have HGS := Lib.hid hg
  have HEE := Lib.hid hE
  have HFF := Lib.hid (And.intro hF hP)
  have HMM := Lib.hid hm
  clear h hts hE hF hm hP hg
  have key : ∀ e : Int, e ≠ 0 → (namedL s p).2 = e → Calls Tryz.prog 76 #[.agg #[.slice o s.l.length cap, .int .i64 s.made], .string p, .slice ou ps.length cu] w fun e' w' => (∃ v', e' = .returned (.tuple #[v', .int .i64 e]) ∧ isS w' zS v') ∧ Below w.heap.size w w' := by
    intro e he hN
    rw [hN] at HNM
    have HNM := Lib.hid HNM
    generalize (namedL s p).1 = n1 at *
    have z1 : (e == 0) = false := beqI he
    have z2 : (e != 0) = true := bne_iff_ne.2 he
    clear hN HTS HFF HMM he HGS HEE
    generalize s.l.length = n at *
    generalize s.made = md at *
    generalize ps.length = pn at *
    go_enter Tryz.func76, Tryz.ntmps76
    go_wp2_with fail
    generalize ((w.alloc (.cells #[.slice o n cap, .int .i64 md] 69)).alloc (.cells #[.slice none 0 0, .int .i64 0] 69)) = W2 at *
    refine HNM.out.mono ?_
    rintro e5 w5 ⟨rfl, hb5⟩
    have H6 := Lib.hid (HB0.below hb5)
    obtain ⟨x1, x2, ⟨⟨_, q1⟩, q1', q1''⟩, ⟨⟨_, q2⟩, q2', q2''⟩, d0, d1, hg8, -⟩ := store_two H6.out.res (.slice none 0 0) (.int .i64 0)
    have HF8 := Lib.hid (H6.out.fin hg8)
    clear HB0 hb5 HNM H6 hg8
    go_wp2_with fail
    refine bodyPost_ret (v := .tuple #[.agg #[.slice none 0 0, .int .i64 0], .int .i64 e]) (by simp [results, Tryz.results76, go_sem, d0, d1]) rfl ?_
    exact ⟨⟨_, rfl, isS_zero _⟩, HF8.out⟩
  unfold updateL
  by_cases hC : checkS s = 0
  · rw [if_pos hC]
    cases hI : idxT s.l p with
    | none => exact key 4 (by decide) (by unfold namedL; rw [if_pos hC, hI])
    | some j =>
      have hN : namedL s p = ((j : Int), 0) := by unfold namedL; rw [if_pos hC, hI]
      rw [hN] at HNM
      have HNM := Lib.hid HNM
      obtain ⟨hj, -⟩ := idxT_at hI
      obtain ⟨a, cap', ⟨o', e', hc1, hc2, ho⟩, hat⟩ := HTS.out
      simp only [Value.slice.injEq, true_and] at e'
      obtain ⟨rfl, rfl⟩ := e'
      obtain rfl := ho (by omega)
      have hl1000 := HFF.out.1.1
      unfold maxLen at hc2
      have htj := HFF.out.1.2 _ (List.getElem_mem hj)
      obtain ⟨o1, c1, q0, q1, q2, ht⟩ := isTat_three (hat j hj)
      obtain ⟨pv, e1, hgt, hp1, hp2⟩ := ht
      simp only [Value.agg.injEq, Array.mk.injEq, List.cons.injEq, true_and, and_true] at e1
      subst e1
      have HW : Hid (∀ w1, KB w w1 → Calls Tryz.prog 95 #[.string s.l[j].ty, .slice ou ps.length cu] w1 fun e w' => e = .returned (.int .i64 (wrongL s.l[j].ty ps)) ∧ Below w1.heap.size w1 w') := Lib.hid fun w1 hk => wrong10_any _ ps _ w1 (HEE.out.kb hk) htj.1 HFF.out.2 (isGs_below hk HGS.out)
      have HD : Hid (∀ w1, KB w w1 → Calls Tryz.prog 99 #[.string s.l[j].ty, .slice o1 s.l[j].ps.length c1, .slice ou ps.length cu] w1 fun e w' => e = .returned (.tuple #[.int .i8 (differL s.l[j].ty s.l[j].ps ps).1, .int .i64 (differL s.l[j].ty s.l[j].ps ps).2]) ∧ Below w1.heap.size w1 w') := Lib.hid fun w1 hk => Differ_any _ _ _ _ _ w1 (HEE.out.kb hk) htj.1 htj.2.1 HFF.out.2.1 htj.2.2 HFF.out.2.2 (isGs_below hk hgt) (isGs_below hk HGS.out)
      have HQ := Lib.hid (And.intro q0 (And.intro q1 q2))
      simp only [getD_t hj]
      have hTl := hj
      generalize hX : wrongL s.l[j].ty ps = X at *
      obtain ⟨D1, hD1⟩ : ∃ D, (differL s.l[j].ty s.l[j].ps ps).1 = D := ⟨_, rfl⟩
      obtain ⟨D2, hD2⟩ : ∃ D, (differL s.l[j].ty s.l[j].ps ps).2 = D := ⟨_, rfl⟩
      rw [hD1, hD2] at HD ⊢
      obtain ⟨R, hR⟩ : ∃ R : St × Int, (if X = 0 then if D2 = 0 then if D1 = 3 then (zS, 91) else (⟨s.l.set j ⟨s.l[j].ph, s.l[j].ty, ps⟩, s.made⟩, 0) else (zS, 91) else (zS, X)) = R := ⟨_, rfl⟩
      rw [hR]
      have HR := Lib.hid hR
      clear hR
      clear key hC hI hN hat ho hX hD1 hD2 q0 q1 q2 hgt hp1 hp2 htj
      go_enter Tryz.func76, Tryz.ntmps76
      go_wp2_with fail
      generalize ((w.alloc (.cells #[.slice (some a) s.l.length cap, .int .i64 s.made] 69)).alloc (.cells #[.slice none 0 0, .int .i64 0] 69)) = W2 at *
      refine HNM.out.mono ?_
      rintro e5 w5 ⟨rfl, hb5⟩
      have H5 := Lib.hid (HB0.below hb5)
      obtain ⟨r0, r1⟩ := two_cells H5.out.box
      have q0 := cell_below H5.out.bel _ _ HQ.out.1
      have q1 := cell_below H5.out.bel _ _ HQ.out.2.1
      have q2 := cell_below H5.out.bel _ _ HQ.out.2.2
      clear HB0 hb5 HNM
      go_wp2_with fail
      have hH6 := H5.out.below (kbA (o := .cells #[.string s.l[j].ph, .string s.l[j].ty, .slice o1 s.l[j].ps.length c1] 44))
      have hbt := World.alloc_heap_new w5 (.cells #[.string s.l[j].ph, .string s.l[j].ty, .slice o1 s.l[j].ps.length c1] 44)
      have hsz6 : (w5.alloc (.cells #[.string s.l[j].ph, .string s.l[j].ty, .slice o1 s.l[j].ps.length c1] 44)).heap.size = w5.heap.size + 1 := by simp
      have h5s := H5.out.sz
      generalize hW6 : (w5.alloc (.cells #[.string s.l[j].ph, .string s.l[j].ty, .slice o1 s.l[j].ps.length c1] 44)) = W6 at *
      clear hW6
      have H6 := Lib.hid hH6
      have HQ5 := Lib.hid (And.intro q0 (And.intro q1 q2))
      clear hH6 H5 q0 q1 q2 r0 r1
      refine (HW.out _ H6.out.bel).mono ?_
      rintro e7 w7 ⟨rfl, hb7⟩
      have H7 := Lib.hid (H6.out.below hb7)
      have hbt7 := (hb7.block w5.heap.size (by omega)).trans hbt
      obtain ⟨m0, m1, m2⟩ := three_cells hbt7
      have hz7 : w5.heap.size < w7.heap.size := by have := hb7.size; omega
      clear HW H6 hb7 hbt hsz6
      by_cases hX : X = 0
      · subst hX
        go_wp2_with fail
        refine (HD.out _ H7.out.bel).mono ?_
        rintro e8 w8 ⟨rfl, hb8⟩
        have H8 := Lib.hid (H7.out.below hb8)
        clear HD H7 hb8 m0 m1 m2 hbt7
        by_cases hD2 : D2 = 0
        · subst hD2
          by_cases hD1 : D1 = 3
          · subst hD1
            obtain ⟨x1, x2, ⟨⟨_, q1⟩, q1', q1''⟩, ⟨⟨_, q2⟩, q2', q2''⟩, d0, d1, hg8, -⟩ := store_two H8.out.res (.slice none 0 0) (.int .i64 0)
            have HF8 := Lib.hid (H8.out.fin hg8)
            clear H8 hg8
            go_wp2_with fail
            refine bodyPost_ret (v := .tuple #[.agg #[.slice none 0 0, .int .i64 0], .int .i64 91]) (by simp [results, Tryz.results76, go_sem, d0, d1]) rfl ?_
            rw [← HR.out]
            simp only [if_true]
            exact ⟨⟨_, rfl, isS_zero _⟩, HF8.out⟩
          · have z1 : (D1 == 3) = false := beqI hD1
            have z2 : (D1 != 3) = true := bne_iff_ne.2 hD1
            obtain ⟨r0, r1⟩ := two_cells H8.out.box
            go_wp2_with fail
            have CT : Hid (∀ w1, KB w8 w1 → Calls Tryz.prog 97 #[.slice (some a) s.l.length cap] w1 fun e w' => ∃ v', e = .returned v' ∧ Trow w1 w' (fun q => q ≠ w.heap.size + 1) s.l v' ∧ Below w1.heap.size w1 w') := Lib.hid fun w1 hk => copiedTs_any _ _ w1 _ (by omega) (fun t ht => (HFF.out.1.2 t ht).2) (fun q hq => by have := hk.size; have := H8.out.sz; omega) (isTsa_mono (fun q (hq : q < w.heap.size) => ⟨by omega, by have := hk.size; have := H8.out.sz; omega⟩) (isTsa_keep (fun a c _ hc => cell_below (H8.out.bel.trans (hk.mono H8.out.bel.size)) _ _ hc) (isTsa_of HTS.out)))
            refine (CT.out _ (Below.refl _ _)).mono ?_
            rintro e9 w9 ⟨v9, rfl, ⟨ol, g, capL, rfl, cl1, cl2, hrow⟩, hb9⟩
            obtain ⟨rfl, hg1, hg2, htro⟩ := hrow (by omega)
            have H9 := Lib.hid (H8.out.below hb9)
            obtain ⟨r0, r1⟩ := two_cells H9.out.box
            have HTR := Lib.hid htro
            have HCL2 : Hid (capL ≤ maxLen) := Lib.hid cl2
            unfold maxLen at cl2
            have h8s := H8.out.sz
            have h9s := hb9.size
            have CP : Hid (∀ w1, KB w9 w1 → Calls Tryz.prog 83 #[.slice ou ps.length cu] w1 fun e w' => ∃ v', e = .returned v' ∧ isGsa w' (fun q => q ≠ w.heap.size + 1 ∧ q ≠ g) ps v' ∧ Below w1.heap.size w1 w') := Lib.hid fun w1 hk => copiedG_any _ _ w1 _ HFF.out.2 (fun q hq => ⟨by have := hk.size; omega, by have := hk.size; omega⟩) (isGsa_mono (fun q (hq : q < w.heap.size) => ⟨⟨by omega, by omega⟩, by have := hk.size; omega⟩) (isGsa_keep (fun a c _ hc => cell_below (H9.out.bel.trans (hk.mono H9.out.bel.size)) _ _ hc) (isGsa_of HGS.out)))
            clear CT htro hrow
            go_wp2_with fail
            refine (CP.out _ (Below.refl _ _)).mono ?_
            rintro e10 w10 ⟨v10, rfl, hg10, hb10⟩
            obtain ⟨o10, c10, rfl⟩ := isGsa_form hg10
            obtain ⟨y, ⟨⟨_, s1⟩, s1', s1''⟩, hgy, htro2⟩ := Tro.set (HTR.out.keep (fun a c _ hc => cell_below hb10 _ _ hc) (hb10.block g hg2)) hTl cl1 hg10
            have H10 := Lib.hid (H9.out.below hb10)
            have hresy := (hgy.block (w.heap.size + 1) (by have := hb10.size; omega) (fun e => by have := Option.some.inj e; omega)).trans H10.out.res
            have hboxy := (hgy.block w.heap.size (by have := hb10.size; omega) (fun e => by have := Option.some.inj e; omega)).trans H10.out.box
            obtain ⟨r0, r1⟩ := two_cells hboxy
            obtain ⟨x1, x2, ⟨⟨_, q1⟩, q1', q1''⟩, ⟨⟨_, q2⟩, q2', q2''⟩, d0, d1, hg8, -⟩ := store_two hresy (.slice (some ⟨g, 0, none⟩) s.l.length capL) (.int .i64 s.made)
            have hglt : g < y.heap.size := by have := hgy.size; have := hb10.size; omega
            have hfin : Below w.heap.size w x2 := (H10.out.bel.grown hgy H10.out.bel.size (fun r e => by cases e; omega)).grown hg8 (by have := H10.out.bel.size; have := hgy.size; omega) (fun r e => by cases e; omega)
            have hts : isTs x2 (s.l.set j ⟨s.l[j].ph, s.l[j].ty, ps⟩) (.slice (some ⟨g, 0, none⟩) s.l.length capL) := by
              have h1 := htro2.keep (W' := x2) (fun a c hq hc => hg8.cell hc (fun e => hq.1 (Option.some.inj e))) (hg8.block g hglt (fun e => by have := Option.some.inj e; omega))
              have := h1.ts (by rw [List.length_set]; exact cl1) HCL2.out
              rwa [List.length_set] at this
            have HX := Lib.hid (And.intro hfin hts)
            clear hfin hts hg8 htro2 hgy hg10 hb10 hb9 H8 H9 H10 CP HTR hresy hboxy
            go_wp2_with fail
            refine bodyPost_ret (v := .tuple #[.agg #[.slice (some ⟨g, 0, none⟩) s.l.length capL, .int .i64 s.made], .int .i64 0]) (by simp [results, Tryz.results76, go_sem, d0, d1]) rfl ?_
            rw [← HR.out]
            simp only [if_true, if_neg hD1]
            exact ⟨⟨_, rfl, _, rfl, HX.out.2, HMM.out⟩, HX.out.1⟩
        · have z1 : (D2 == 0) = false := beqI hD2
          have z2 : (D2 != 0) = true := bne_iff_ne.2 hD2
          obtain ⟨x1, x2, ⟨⟨_, q1⟩, q1', q1''⟩, ⟨⟨_, q2⟩, q2', q2''⟩, d0, d1, hg8, -⟩ := store_two H8.out.res (.slice none 0 0) (.int .i64 0)
          have HF8 := Lib.hid (H8.out.fin hg8)
          clear H8 hg8
          go_wp2_with fail
          refine bodyPost_ret (v := .tuple #[.agg #[.slice none 0 0, .int .i64 0], .int .i64 91]) (by simp [results, Tryz.results76, go_sem, d0, d1]) rfl ?_
          rw [← HR.out]
          simp only [if_true, if_neg hD2]
          exact ⟨⟨_, rfl, isS_zero _⟩, HF8.out⟩
      · have z1 : (X == 0) = false := beqI hX
        have z2 : (X != 0) = true := bne_iff_ne.2 hX
        obtain ⟨x1, x2, ⟨⟨_, q1⟩, q1', q1''⟩, ⟨⟨_, q2⟩, q2', q2''⟩, d0, d1, hg8, -⟩ := store_two H7.out.res (.slice none 0 0) (.int .i64 0)
        have HF8 := Lib.hid (H7.out.fin hg8)
        clear H7 hg8 HD
        go_wp2_with fail
        refine bodyPost_ret (v := .tuple #[.agg #[.slice none 0 0, .int .i64 0], .int .i64 X]) (by simp [results, Tryz.results76, go_sem, d0, d1]) rfl ?_
        rw [← HR.out, if_neg hX]
        exact ⟨⟨_, rfl, isS_zero _⟩, HF8.out⟩
  · rw [if_neg hC]
    exact key (checkS s) hC (by unfold namedL; rw [if_neg hC])
end Go.Proofs.YtkigeegahepnaaaGreatDoor

namespace Go.Proofs.YtkigeegahepnaaaGreatDoor
open Go.RowKit

set_option maxRecDepth 100000 in
set_option maxHeartbeats 8000000 in
theorem rsame9_any (L : List G) (u v : Value) (w : World) (hP : fineG L) (h : isGs w L u) (h' : isGs w L v) :
    Calls Tryz.prog 45 #[u, v] w fun e w' => e = .returned (.bool true) ∧ Below w.heap.size w w' := by
  obtain ⟨a, cap, ⟨o, rfl, hc1, hc2, ho⟩, hgs⟩ := h
  obtain ⟨a', cap', ⟨o', rfl, hc1', hc2', ho'⟩, hgs'⟩ := h'
  unfold maxLen at hc2 hc2'
  have HK := Lib.hid hgs
  have HK' := Lib.hid hgs'
  have HP := Lib.hid hP.2
  have hl := hP.1
  clear hgs hgs' hP
  have z0 : ((L.length : Int) == (L.length : Int)) = true := beq_self_eq_true _
  have z1 : ((L.length : Int) != (L.length : Int)) = false := by simp
  go_enter Tryz.func45, Tryz.ntmps45
  go_wp2_with fail
  go_loopw [5] (fun i wr => ∃ (j : Nat), j ≤ L.length ∧ i = .int .i64 j ∧ Hid (Below w.heap.size w wr)) (fun i _ => L.length - (intOf i).toNat)
  case atStart => exact ⟨0, by omega, rfl, Lib.hid (Below.refl _ _)⟩
  case round =>
    obtain ⟨j, hj, rfl, hB⟩ := hrel
    by_cases hlt : j < L.length
    · obtain rfl := ho (by omega)
      obtain rfl := ho' (by omega)
      obtain ⟨k, b1, n, s, o1, m, c, o2, m2, c2, q0, q1, q2, q3, q4, q5, q6, q7, hg⟩ := isGat_eight (isGat_below hB.out (HK.out j hlt))
      obtain ⟨k', b1', n', s', o1', m', c', o2', m2', c2', p0, p1, p2, p3, p4, p5, p6, p7, hg'⟩ := isGat_eight (isGat_below hB.out (HK'.out j hlt))
      have hp := HP.out _ (List.getElem_mem hlt)
      obtain ⟨_, _, _, _, _, _, e1, hv, _⟩ := hg
      obtain ⟨_, _, _, _, _, _, e2, hv', _⟩ := hg'
      simp only [Value.agg.injEq, Array.mk.injEq, List.cons.injEq, true_and, and_true] at e1 e2
      obtain ⟨rfl, rfl, rfl, rfl, rfl, rfl⟩ := e1
      obtain ⟨rfl, rfl, rfl, rfl, rfl, rfl⟩ := e2
      have HS : Hid (∀ w1, KB wr w1 → Calls Tryz.prog 60 #[.agg #[.int .i8 k, .bool b1, .int .i64 n, .string s, .slice o1 m c, .slice o2 m2 c2], .agg #[.int .i8 k', .bool b1', .int .i64 n', .string s', .slice o1' m' c', .slice o2' m2' c2']] w1 fun e w' => e = .returned (.bool true) ∧ Below w1.heap.size w1 w') := Lib.hid fun w1 hk => by
        have := same_any 1000000 L[j].v L[j].v _ _ w1 hp.1 (isV_below hk hv) (isV_below hk hv')
        rw [sm_yes rfl] at this
        exact this
      have t1 : (L[j].nm.toList == L[j].nm.toList) = true := beq_self_eq_true _
      have t2 : (L[j].nm.toList != L[j].nm.toList) = false := by simp
      have t3 : (L[j].unk == L[j].unk) = true := beq_self_eq_true _
      have t4 : (L[j].unk != L[j].unk) = false := by simp
      clear hv hv' hp
      generalize L[j] = g at *
      go_wp2_with fail
      refine Rn.region_any (by kernel_rfl) ?_
      refine Rn.any_seg 0 35 (by kernel_rfl) rfl ?_
      simp only [List.take_succ_cons, List.take_zero, List.drop_zero]
      repeat (refine Rn.ws_one (fun KK hKK => ?_); go_simp; refine hKK _ ?_; clear hKK KK)
      refine Rn.ws_nil ?_
      intro K0 hK0
      go_simp
      refine .inl ((HS.out _ (drewB1 _ _)).mono ?_)
      rintro e w6 ⟨rfl, hb6⟩
      refine hK0 _ _ ?_
      refine Rn.any_end 36 (by kernel_rfl) ?_
      simp only [List.drop_succ_cons, List.drop_zero]
      repeat (refine Rn.ws_one (fun KK hKK => ?_); go_simp; refine hKK _ ?_; clear hKK KK)
      refine Rn.ws_nil ?_
      go_wp2_with fail
      go_roundw
      case rel => exact ⟨j + 1, by omega, by go_num, Lib.hid (hB.out.trans ((below_drew_of hb6).mono hB.out.size))⟩
      case measure => simp [intOf]; omega
    · obtain rfl : j = L.length := by omega
      go_wp2_with fail
      go_ret
      exact ⟨rfl, hB.out⟩

/-! The law's helpers. -/
end Go.Proofs.YtkigeegahepnaaaGreatDoor

namespace Go.Proofs.YtkigeegahepnaaaGreatDoor
open Go.RowKit

def badT (t : Th) : Bool := greatG t.ps || (decide (200 < t.ty.size) || decide (200 < t.ph.size))
def greatS (s : St) : Bool := (s.l.take 41).any badT || decide (40 < s.l.length)
theorem greatS_no {s : St} (h : greatS s = false) : s.l.length ≤ 40 ∧ ∀ t ∈ s.l, greatG t.ps = false ∧ t.ty.size ≤ 200 ∧ t.ph.size ≤ 200 := by
  unfold greatS at h
  rw [Bool.or_eq_false_iff] at h
  have h2 := of_decide_eq_false h.2
  refine ⟨by omega, fun t ht => ?_⟩
  rw [List.take_of_length_le (by omega)] at h
  have h3 := List.any_eq_false.1 h.1 t ht
  have h4 : badT t = false := by simpa using h3
  unfold badT at h4
  rw [Bool.or_eq_false_iff, Bool.or_eq_false_iff] at h4
  have := of_decide_eq_false h4.2.1
  have := of_decide_eq_false h4.2.2
  exact ⟨h4.1, by omega, by omega⟩
theorem fineG_of {L : List G} (h : greatG L = false) : fineG L := ⟨by have := (greatG_no h).1; omega, fun g hg => ⟨((greatG_no h).2 g hg).2.1, ((greatG_no h).2 g hg).2.2⟩⟩
theorem fineS_of {s : St} (h : greatS s = false) : fineS s := ⟨by have := (greatS_no h).1; omega, fun t ht => ⟨by have := ((greatS_no h).2 t ht).2.1; omega, fineG_of ((greatS_no h).2 t ht).1⟩⟩

end Go.Proofs.YtkigeegahepnaaaGreatDoor

namespace Go.Proofs.YtkigeegahepnaaaGreatDoor
open Go.RowKit

def Nt (t : Th) : Int := (numL t.ph).1
def okTh (made : Int) (t : Th) : Prop := (numL t.ph).2 = true ∧ Nt t ≤ made ∧ wrongL t.ty t.ps = 0
def okS (s : St) : Prop := (0 ≤ s.made ∧ s.made ≤ 1099511627776) ∧ (∀ t ∈ s.l, okTh s.made t) ∧ s.l.Pairwise (fun a b => Nt a < Nt b)
theorem num_true {s : ByteArray} (h : (numL s).2 = true) : s = physS (numL s).1 ∧ 1 ≤ (numL s).1 := by
  have e : numL s = ((numL s).1, true) := by rw [← h]
  obtain ⟨h1, h2, _⟩ := num_form e
  exact ⟨h1, h2⟩
theorem okS_iff (s : St) : checkS s = 0 ↔ okS s := by
  rw [checkS_ok]
  constructor
  · rintro ⟨h1, h2, h3⟩
    have hst : ∀ i (hi : i < s.l.length), (numL s.l[i].ph).2 = true ∧ lastN s.l i < Nt s.l[i] ∧ Nt s.l[i] ≤ s.made ∧ wrongL s.l[i].ty s.l[i].ps = 0 := fun i hi => by
      have := h3 i hi
      unfold stepT at this
      rw [getD_t hi] at this
      simp only [Bool.and_eq_true, decide_eq_true_eq] at this
      exact ⟨this.1, this.2.1, this.2.2.1, this.2.2.2⟩
    refine ⟨⟨h1, h2⟩, fun t ht => ?_, ?_⟩
    · obtain ⟨i, hi, rfl⟩ := List.getElem_of_mem ht
      obtain ⟨q1, _, q3, q4⟩ := hst i hi
      exact ⟨q1, q3, q4⟩
    · rw [List.pairwise_iff_getElem]
      have step : ∀ d i (hi : i + d + 1 < s.l.length), Nt (s.l[i]'(by omega)) < Nt (s.l[i + d + 1]'hi) := by
        intro d
        induction d with
        | zero =>
          intro i hi
          have := (hst (i + 1) hi).2.1
          have e : lastN s.l (i + 1) = Nt (s.l[i]'(by omega)) := by
            show (numL (s.l.getD i zTh).ph).1 = _
            rw [getD_t (by omega)]; rfl
          rw [e] at this
          exact this
        | succ d ih =>
          intro i hi
          have h4 := ih i (by omega)
          have := (hst (i + d + 1 + 1) (by omega)).2.1
          have e : lastN s.l (i + d + 1 + 1) = Nt (s.l[i + d + 1]'(by omega)) := by
            show (numL (s.l.getD (i + d + 1) zTh).ph).1 = _
            rw [getD_t (by omega)]; rfl
          rw [e] at this
          exact Int.lt_trans h4 this
      intro i j hi hj hij
      obtain ⟨d, rfl⟩ : ∃ d, j = i + d + 1 := ⟨j - i - 1, by omega⟩
      exact step d i hj
  · rintro ⟨⟨h1, h2⟩, h3, h4⟩
    refine ⟨h1, h2, fun i hi => ?_⟩
    obtain ⟨q1, q2, q3⟩ := h3 _ (List.getElem_mem hi)
    unfold stepT
    rw [getD_t hi]
    simp only [Bool.and_eq_true, decide_eq_true_eq]
    refine ⟨q1, ?_, q2, q3⟩
    rcases i with _ | i
    · have := (num_true q1).2
      show (0 : Int) < _
      omega
    · show (numL (s.l.getD i zTh).ph).1 < _
      rw [getD_t (by omega)]
      exact (List.pairwise_iff_getElem.1 h4) i (i + 1) (by omega) hi (by omega)
theorem okS_uniq {s : St} (h : okS s) {i j : Nat} (hi : i < s.l.length) (hj : j < s.l.length) (e : s.l[i].ph = s.l[j].ph) : i = j := by
  have hp := List.pairwise_iff_getElem.1 h.2.2
  have en : Nt s.l[i] = Nt s.l[j] := by unfold Nt; rw [e]
  rcases Nat.lt_trichotomy i j with hl | hl | hl
  · have := hp i j hi hj hl; omega
  · exact hl
  · have := hp j i hj hi hl; omega
theorem idx_at {s : St} (h : okS s) {i : Nat} (hi : i < s.l.length) : idxT s.l s.l[i].ph = some i :=
  idxT_some hi rfl (fun k hk e => by have := okS_uniq h (by omega) hi e; omega)
theorem get_mem {s : St} (h : okS s) {t : Th} (ht : t ∈ s.l) : getT s t.ph = (t, true) := by
  obtain ⟨i, hi, rfl⟩ := List.getElem_of_mem ht
  unfold getT
  rw [idx_at h hi]
  show (s.l.getD i zTh, true) = _
  rw [getD_t hi]
theorem get_none {s : St} {p : ByteArray} (h : ∀ t ∈ s.l, t.ph ≠ p) : getT s p = (zTh, false) := by
  unfold getT
  rw [idxT_none (fun i hi => h _ (List.getElem_mem hi))]

/-! Create. -/
theorem create_ok {s : St} {K : ByteArray} {ps : List G} (h : (createL s K ps).2.2 = 0) :
    okS s ∧ wrongL K ps = 0 ∧ s.made < 1099511627776 ∧ createL s K ps = (⟨s.l ++ [⟨physS (s.made + 1), K, ps⟩], s.made + 1⟩, physS (s.made + 1), 0) ∧ okS ⟨s.l ++ [⟨physS (s.made + 1), K, ps⟩], s.made + 1⟩ := by
  unfold createL at h ⊢
  by_cases hC : checkS s = 0
  · rw [if_pos hC] at h ⊢
    by_cases hX : wrongL K ps = 0
    · rw [if_pos hX] at h ⊢
      by_cases hM : s.made = 1099511627776
      · rw [if_pos hM] at h
        exact absurd h (by decide)
      · rw [if_neg hM] at h ⊢
        have hs := (okS_iff s).1 hC
        have hn : numL (physS (s.made + 1)) = (s.made + 1, true) := num_phys (by have := hs.1.1; omega) (by have := hs.1.2; omega)
        refine ⟨hs, hX, by have := hs.1.2; omega, rfl, ⟨by have := hs.1.1; show 0 ≤ s.made + 1; omega, by have := hs.1.2; show s.made + 1 ≤ _; omega⟩, fun t ht => ?_, ?_⟩
        · rcases List.mem_append.1 ht with ht | ht
          · obtain ⟨q1, q2, q3⟩ := hs.2.1 t ht
            exact ⟨q1, by show Nt t ≤ s.made + 1; omega, q3⟩
          · rw [List.mem_singleton.1 ht]
            exact ⟨by show (numL (physS (s.made + 1))).2 = true; rw [hn], by show (numL (physS (s.made + 1))).1 ≤ s.made + 1; rw [hn]; exact Int.le_refl _, hX⟩
        · show (s.l ++ [_]).Pairwise _
          rw [List.pairwise_append]
          refine ⟨hs.2.2, List.pairwise_singleton _ _, fun a ha b hb => ?_⟩
          rw [List.mem_singleton.1 hb]
          show Nt a < (numL (physS (s.made + 1))).1
          rw [hn]
          have := (hs.2.1 a ha).2.1
          show Nt a < s.made + 1
          omega
    · rw [if_neg hX] at h
      exact absurd h hX
  · rw [if_neg hC] at h
    exact absurd h hC
/-! Delete. -/
theorem delete_ok {s : St} {p : ByteArray} (h : (deleteL s p).2 = 0) : okS s ∧ ∃ j, idxT s.l p = some j ∧ ∃ hj : j < s.l.length, s.l[j].ph = p ∧ deleteL s p = (⟨s.l.take j ++ s.l.drop (j + 1), s.made⟩, 0) ∧ okS ⟨s.l.take j ++ s.l.drop (j + 1), s.made⟩ ∧ (∀ t ∈ s.l.take j ++ s.l.drop (j + 1), t.ph ≠ p) ∧ (∀ t ∈ s.l, t.ph ≠ p → t ∈ s.l.take j ++ s.l.drop (j + 1)) := by
  unfold deleteL at h ⊢
  by_cases hC : checkS s = 0
  · rw [if_pos hC] at h ⊢
    have hs := (okS_iff s).1 hC
    cases hI : idxT s.l p with
    | none =>
      rw [hI] at h
      exact absurd (show (4 : Int) = 0 from h) (by decide)
    | some j =>
      obtain ⟨hj, hp, _⟩ := idxT_at hI
      have hsub : (s.l.take j ++ s.l.drop (j + 1)).Sublist s.l := by
        have h1 : s.l = s.l.take j ++ s.l.drop j := (List.take_append_drop j s.l).symm
        have h2 : (s.l.drop (j + 1)).Sublist (s.l.drop j) := by
          rw [← List.drop_drop]
          exact List.drop_sublist _ _
        have h3 := List.Sublist.append (List.Sublist.refl (s.l.take j)) h2
        rw [List.take_append_drop] at h3
        exact h3
      have hmem : ∀ t ∈ s.l.take j ++ s.l.drop (j + 1), ∃ i, ∃ hi : i < s.l.length, s.l[i] = t ∧ i ≠ j := fun t ht => by
        rcases List.mem_append.1 ht with ht | ht
        · obtain ⟨i, hi, rfl⟩ := List.mem_take_iff_getElem.1 ht
          exact ⟨i, by omega, rfl, by omega⟩
        · obtain ⟨i, hi, rfl⟩ := List.getElem_of_mem ht
          rw [List.length_drop] at hi
          exact ⟨j + 1 + i, by omega, by rw [List.getElem_drop], by omega⟩
      refine ⟨hs, j, rfl, hj, hp, rfl, ⟨hs.1, fun t ht => hs.2.1 t (hsub.mem ht), hs.2.2.sublist hsub⟩, fun t ht e => ?_, fun t ht hne => ?_⟩
      · obtain ⟨i, hi, rfl, hij⟩ := hmem t ht
        exact hij (okS_uniq hs hi hj (by rw [e, hp]))
      · obtain ⟨i, hi, rfl⟩ := List.getElem_of_mem ht
        have hij : i ≠ j := fun e => by subst e; exact hne hp
        rw [List.mem_append]
        rcases Nat.lt_or_gt_of_ne hij with hl | hl
        · exact .inl (List.mem_take_iff_getElem.2 ⟨i, by omega, rfl⟩)
        · refine .inr ?_
          have : s.l[i] = (s.l.drop (j + 1))[i - (j + 1)]'(by rw [List.length_drop]; omega) := by
            rw [List.getElem_drop]
            congr 1
            omega
          rw [this]
          exact List.getElem_mem _
  · rw [if_neg hC] at h
    exact absurd h hC
/-! Update. -/
theorem set_ok {s : St} (hs : okS s) {j : Nat} (hj : j < s.l.length) {ps : List G} (hX : wrongL s.l[j].ty ps = 0) : okS ⟨s.l.set j ⟨s.l[j].ph, s.l[j].ty, ps⟩, s.made⟩ := by
  refine ⟨hs.1, fun t ht => ?_, ?_⟩
  · rcases List.mem_or_eq_of_mem_set ht with ht | rfl
    · exact hs.2.1 t ht
    · obtain ⟨q1, q2, _⟩ := hs.2.1 _ (List.getElem_mem hj)
      exact ⟨q1, q2, hX⟩
  · rw [List.pairwise_iff_getElem]
    have hp := List.pairwise_iff_getElem.1 hs.2.2
    have hN : ∀ k (hk : k < (s.l.set j ⟨s.l[j].ph, s.l[j].ty, ps⟩).length), Nt (s.l.set j ⟨s.l[j].ph, s.l[j].ty, ps⟩)[k] = Nt (s.l[k]'(by simpa using hk)) := fun k hk => by
      rw [List.getElem_set]
      split
      · rename_i e; subst e; rfl
      · rfl
    intro a b ha hb hab
    rw [hN, hN]
    exact hp a b (by simpa using ha) (by simpa using hb) hab
theorem update_ok {s : St} {p : ByteArray} {ps : List G} (h : (updateL s p ps).2 = 0) : okS s ∧ ∃ j, idxT s.l p = some j ∧ ∃ hj : j < s.l.length, s.l[j].ph = p ∧ wrongL s.l[j].ty ps = 0 ∧ (differL s.l[j].ty s.l[j].ps ps).2 = 0 ∧ (differL s.l[j].ty s.l[j].ps ps).1 ≠ 3 ∧
    updateL s p ps = (⟨s.l.set j ⟨s.l[j].ph, s.l[j].ty, ps⟩, s.made⟩, 0) ∧ okS ⟨s.l.set j ⟨s.l[j].ph, s.l[j].ty, ps⟩, s.made⟩ := by
  unfold updateL at h ⊢
  by_cases hC : checkS s = 0
  · rw [if_pos hC] at h ⊢
    have hs := (okS_iff s).1 hC
    cases hI : idxT s.l p with
    | none =>
      rw [hI] at h
      exact absurd (show (4 : Int) = 0 from h) (by decide)
    | some j =>
      obtain ⟨hj, hp, _⟩ := idxT_at hI
      rw [hI] at h
      dsimp only at h ⊢
      rw [getD_t hj] at h ⊢
      by_cases hX : wrongL s.l[j].ty ps = 0
      · rw [if_pos hX] at h ⊢
        by_cases h2 : (differL s.l[j].ty s.l[j].ps ps).2 = 0
        · rw [if_pos h2] at h ⊢
          by_cases h1 : (differL s.l[j].ty s.l[j].ps ps).1 = 3
          · rw [if_pos h1] at h; exact absurd h (by decide)
          · rw [if_neg h1]
            exact ⟨hs, j, rfl, hj, hp, hX, h2, h1, rfl, set_ok hs hj hX⟩
        · rw [if_neg h2] at h; exact absurd h (by decide)
      · rw [if_neg hX] at h; exact absurd h hX
  · rw [if_neg hC] at h
    exact absurd h hC
theorem wrong_zero {K : ByteArray} {L : List G} (h : wrongL K L = 0) : checkL K L = 0 ∧ L.any (·.unk) = false := by
  unfold wrongL at h
  split at h
  · rename_i hc
    refine ⟨hc, ?_⟩
    cases hu : L.any (·.unk) with
    | false => rfl
    | true => rw [hu] at h; exact absurd h (by decide)
  · rename_i hc; exact absurd h hc
/-- What turns into b by a change in place turns back by one. -/
theorem differ_back {K : ByteArray} {A B : List G} (hA : wrongL K A = 0) (hB : wrongL K B = 0) (h1 : (differL K A B).1 ≠ 3) : (differL K B A).2 = 0 ∧ (differL K B A).1 ≠ 3 := by
  obtain ⟨a1, a2⟩ := wrong_zero hA
  obtain ⟨b1, b2⟩ := wrong_zero hB
  have e1 : differL K A B = (chg K A B, 0) := by
    unfold differL
    rw [if_neg (by rw [a1]; simp), if_neg (by rw [b1]; simp), a2]; rfl
  have e2 : differL K B A = (chg K B A, 0) := by
    unfold differL
    rw [if_neg (by rw [b1]; simp), if_neg (by rw [a1]; simp), b2]; rfl
  rw [e2]
  rw [e1] at h1
  exact ⟨rfl, by rw [chg_sym a1 b1 a2 b2]; exact h1⟩
end Go.Proofs.YtkigeegahepnaaaGreatDoor

namespace Go.Proofs.YtkigeegahepnaaaGreatDoor
open Go.RowKit

theorem phys1 : physS 1 = ⟨#[112, 49]⟩ := by
  unfold physS
  have h : Nu.txt 1 = [49] := by
    rw [Nu.txt_pos (Nu.fitB_iff.2 ⟨by omega, by omega⟩) (by omega)]
    show Nu.digs 1 = _
    rw [Nu.digs_lt (by omega)]
    rfl
  rw [h]
theorem phys2 : physS 2 = ⟨#[112, 50]⟩ := by
  unfold physS
  have h : Nu.txt 2 = [50] := by
    rw [Nu.txt_pos (Nu.fitB_iff.2 ⟨by omega, by omega⟩) (by omega)]
    show Nu.digs 2 = _
    rw [Nu.digs_lt (by omega)]
    rfl
  rw [h]
def tw1 : Th := ⟨⟨#[112, 49]⟩, sDisk, [g1]⟩
def tw2 : Th := ⟨⟨#[112, 50]⟩, sNet, []⟩
theorem wrong_w1 : wrongL sDisk [g1] = 0 := by
  have h : checkL sDisk [g1] = 0 := check_one 1 (by omega)
  unfold wrongL
  rw [if_pos h]
  rfl
theorem wrong_w2 : wrongL sNet [] = 0 := by
  have h : checkL sNet [] = 0 := by
    unfold checkL
    rw [if_pos (by decide), if_pos (by rfl)]
  unfold wrongL
  rw [if_pos h]
  rfl
theorem ok_zS : okS zS := by
  refine ⟨⟨by decide, by decide⟩, fun t ht => ?_, List.Pairwise.nil⟩
  exact absurd (show t ∈ ([] : List Th) from ht) List.not_mem_nil
theorem ok_z1 : okS ⟨[], 1⟩ := by
  refine ⟨⟨by decide, by decide⟩, fun t ht => ?_, List.Pairwise.nil⟩
  exact absurd (show t ∈ ([] : List Th) from ht) List.not_mem_nil
theorem wake_c1 : createL zS sDisk [g1] = (⟨[tw1], 1⟩, ⟨#[112, 49]⟩, 0) := by
  unfold createL
  rw [if_pos ((okS_iff _).2 ok_zS), if_pos wrong_w1, if_neg (by decide)]
  show ((⟨[⟨physS 1, sDisk, [g1]⟩], 1⟩, physS 1, 0) : St × ByteArray × Int) = _
  rw [phys1]; rfl
theorem ok_w1 : okS ⟨[tw1], 1⟩ := by
  have h : (createL zS sDisk [g1]).2.2 = 0 := by rw [wake_c1]
  have := (create_ok h).2.2.2.2
  have e : physS (zS.made + 1) = ⟨#[112, 49]⟩ := phys1
  rw [e] at this
  exact this
theorem wake_d1 : deleteL ⟨[tw1], 1⟩ ⟨#[112, 49]⟩ = (⟨[], 1⟩, 0) := by
  unfold deleteL
  have h : idxT [tw1] ⟨#[112, 49]⟩ = some 0 := idx_at ok_w1 (i := 0) (by simp)
  rw [if_pos ((okS_iff _).2 ok_w1), h]; rfl
theorem wake_c2 : createL ⟨[], 1⟩ sNet [] = (⟨[tw2], 2⟩, ⟨#[112, 50]⟩, 0) := by
  unfold createL
  rw [if_pos ((okS_iff _).2 ok_z1), if_pos wrong_w2, if_neg (by decide)]
  show ((⟨[⟨physS 2, sNet, []⟩], 2⟩, physS 2, 0) : St × ByteArray × Int) = _
  rw [phys2]; rfl
theorem fine_z : fineS zS := ⟨by decide, fun t ht => by cases ht⟩
theorem fine_z1 : fineS ⟨[], 1⟩ := ⟨by decide, fun t ht => by cases ht⟩
theorem fine_g1 : fineG [g1] := ⟨by decide, fun g hg => by rw [List.mem_singleton.1 hg]; exact fine_n 1⟩
theorem fine_w1 : fineS ⟨[tw1], 1⟩ := ⟨by decide, fun t ht => by rw [List.mem_singleton.1 ht]; exact ⟨by decide, fine_g1⟩⟩
theorem isGs_none (W : World) : isGs W [] (.slice none 0 0) := ⟨⟨0, 0, none⟩, 0, ⟨none, rfl, Nat.le_refl _, by unfold maxLen; omega, fun h => absurd h (by decide)⟩, fun i h => absurd h (by simp)⟩

end Go.Proofs.YtkigeegahepnaaaGreatDoor

namespace Go.Proofs.YtkigeegahepnaaaGreatDoor
open Go.RowKit

/-- Two cells, none a text. -/
def Box (W : World) (b : Nat) : Prop := ∃ c0 c1 t, W.heap[b]? = some (.cells #[c0, c1] t (0, 0)) ∧ (∀ s, c0 ≠ .string s) ∧ (∀ s, c1 ≠ .string s)
theorem box_cell {W : World} {b : Nat} (h : Box W b) {a : Addr} {c : Value} (hb : a.block = b) (hc : W.cell? a = some c) : a.off < 2 ∧ ∀ s, c ≠ .string s := by
  obtain ⟨c0, c1, t, h1, h2, h3⟩ := h
  unfold World.cell? at hc
  rw [hb, h1] at hc
  dsimp only at hc
  split at hc
  · cases hc
  · obtain ⟨blk, off, sp⟩ := a
    dsimp only at hc ⊢
    match off, hc with
    | 0, hc => 
      have : c0 = c := by simpa using hc
      subst this; exact ⟨by omega, h2⟩
    | 1, hc => 
      have : c1 = c := by simpa using hc
      subst this; exact ⟨by omega, h3⟩
    | k + 2, hc => simp at hc
theorem box_far {W : World} {b : Nat} (h : Box W b) {a : Addr} {k : Nat} {c : Value} (hk : 2 ≤ k) (hc : W.cell? (a.add k) = some c) : a.block ≠ b := fun e => by
  have := (box_cell h (by rw [add_block]; exact e) hc).1
  unfold Addr.add at this
  rw [if_neg (by omega)] at this
  dsimp only at this
  omega
theorem box_text {W : World} {b : Nat} (h : Box W b) {a : Addr} {s : ByteArray} (hc : W.cell? a = some (.string s)) : a.block ≠ b := fun e => (box_cell h e hc).2 s rfl
mutual
theorem isVa_off {W : World} {b : Nat} (hB : Box W b) : ∀ (x : V) (v : Value), isV W x v → isVa W (fun q => q ≠ b) x v
  | .mk k bb n s l ks, v, h => by
    unfold isV at h
    unfold isVa
    obtain ⟨lv, kv, h1, h2, h3, h4, ⟨a, cap, h5, h7⟩, ⟨a2, cap2, k1, k3⟩⟩ := h
    refine ⟨lv, kv, h1, h2, h3, h4, ⟨a, cap, h5, fun h0 => ?_, isVas_off hB l a h7⟩, ⟨a2, cap2, k1, fun h0 => ?_, k3⟩⟩
    · match l, h0, h7 with
      | x :: t, _, h7 =>
        unfold isVs at h7
        obtain ⟨⟨c0, c1, c2, c3, c4, c5, g0, g1, g2, g3, g4, g5, hx⟩, ht⟩ := h7
        exact box_far hB (by omega) g5
    · have := box_text hB (k3 0 h0).1
      rwa [add_block] at this
theorem isVas_off {W : World} {b : Nat} (hB : Box W b) : ∀ (l : List V) (a : Addr), isVs W l a → isVas W (fun q => q ≠ b) l a
  | [], _, _ => by unfold isVas; trivial
  | x :: t, a, h => by
    unfold isVs at h
    unfold isVas
    obtain ⟨⟨c0, c1, c2, c3, c4, c5, g0, g1, g2, g3, g4, g5, hx⟩, ht⟩ := h
    exact ⟨⟨c0, c1, c2, c3, c4, c5, g0, g1, g2, g3, g4, g5, isVa_off hB x _ hx⟩, isVas_off hB t _ ht⟩
end
theorem isGsa_off {W : World} {b : Nat} (hB : Box W b) {L : List G} {v : Value} (h : isGs W L v) : isGsa W (fun q => q ≠ b) L v := by
  obtain ⟨a, cap, h1, h2⟩ := h
  refine ⟨a, cap, h1, fun h0 => ?_, fun i hi => ?_⟩
  · obtain ⟨_, _, _, _, _, _, g0, _⟩ := h2 0 h0
    have := box_text hB g0
    rwa [add_block] at this
  · obtain ⟨c0, c1, c2, c3, c4, c5, g0, g1, g2, g3, g4, g5, g6, g7, hv, hn⟩ := h2 i hi
    exact ⟨c0, c1, c2, c3, c4, c5, g0, g1, g2, g3, g4, g5, g6, g7, isVa_off hB _ _ hv, hn⟩
theorem isTsa_off {W : World} {b : Nat} (hB : Box W b) {L : List Th} {v : Value} (h : isTs W L v) : isTsa W (fun q => q ≠ b) L v := by
  obtain ⟨a, cap, h1, h2⟩ := h
  refine ⟨a, cap, h1, fun h0 => ?_, fun i hi => ?_⟩
  · obtain ⟨_, g0, _⟩ := h2 0 h0
    have := box_text hB g0
    rwa [add_block] at this
  · obtain ⟨pv, g0, g1, g2, hg, hn⟩ := h2 i hi
    exact ⟨pv, g0, g1, g2, isGsa_off hB hg, hn⟩
theorem isS_box {W W' : World} {b : Nat} {s : St} {v : Value} (hB : Box W b) (hg : W.grownBy W' (some b)) (h : isS W s v) : isS W' s v := by
  obtain ⟨lv, e, hts, hm⟩ := h
  exact ⟨lv, e, isTs_of_a (isTsa_keep (fun a c hq hc => hg.cell hc (fun e => hq (Option.some.inj e))) (isTsa_off hB hts)), hm⟩
theorem isGs_box {W W' : World} {b : Nat} {L : List G} {v : Value} (hB : Box W b) (hg : W.grownBy W' (some b)) (h : isGs W L v) : isGs W' L v :=
  isGs_of_a (isGsa_keep (fun a c hq hc => hg.cell hc (fun e => hq (Option.some.inj e))) (isGsa_off hB h))

/-! The round. -/
/-- What is left of a deed that went well: the new store. -/
structure Went (s t : St) (p : ByteArray) : Prop where
  ok : okS t
  len : t.l.length ≤ s.l.length + 1
  mem : ∀ y ∈ t.l, y ∈ s.l ∨ (y.ty.size ≤ 400 ∧ fineG y.ps)
  get : ∀ y ∈ s.l, y.ph ≠ p → getT t y.ph = (y, true)
theorem Went.fine {s t : St} {p : ByteArray} {j : Nat} (h : Went s t p) (hs : fineS s) (hl : s.l.length ≤ j) (hj : j < 1000) : fineS t :=
  ⟨by have := h.len; omega, fun y hy => (h.mem y hy).elim (hs.2 y) id⟩
theorem went_create {s : St} {K : ByteArray} {ps : List G} (hs : fineS s) (hK : K.size ≤ 400) (hP : fineG ps) (h : (createL s K ps).2.2 = 0) :
    Went s (createL s K ps).1 (createL s K ps).2.1 ∧ (createL s K ps).1.made = s.made + 1 ∧ (createL s K ps).1.l.length = s.l.length + 1 ∧ (createL s K ps).2.1 = physS (s.made + 1) ∧ (0 ≤ s.made ∧ s.made < 1099511627776) := by
  obtain ⟨h1, h2, h3, h4, h5⟩ := create_ok h
  rw [h4]
  refine ⟨⟨h5, by simp, fun y hy => ?_, fun y hy hne => ?_⟩, rfl, by simp, rfl, h1.1.1, h3⟩
  · rcases List.mem_append.1 hy with hy | hy
    · exact .inl hy
    · rw [List.mem_singleton.1 hy]; exact .inr ⟨hK, hP⟩
  · exact get_mem h5 (List.mem_append_left _ hy)
theorem went_delete {s : St} {p : ByteArray} (h : (deleteL s p).2 = 0) :
    Went s (deleteL s p).1 p ∧ (deleteL s p).1.made = s.made ∧ (deleteL s p).1.l.length + 1 = s.l.length ∧ (getT (deleteL s p).1 p).2 = false := by
  obtain ⟨h1, j, h2, hj, h3, h4, h5, h6, h7⟩ := delete_ok h
  rw [h4]
  have hlen : (s.l.take j ++ s.l.drop (j + 1)).length + 1 = s.l.length := by simp; omega
  refine ⟨⟨h5, by show (s.l.take j ++ s.l.drop (j + 1)).length ≤ _; omega, fun y hy => .inl ?_, fun y hy hne => get_mem h5 (h7 y hy hne)⟩, rfl, hlen, ?_⟩
  · rcases List.mem_append.1 hy with hy | hy
    · exact List.mem_of_mem_take hy
    · exact List.mem_of_mem_drop hy
  · show (getT ⟨s.l.take j ++ s.l.drop (j + 1), s.made⟩ p).2 = false
    rw [get_none h6]
theorem went_update {s : St} {p : ByteArray} {ps : List G} (hs : fineS s) (hP : fineG ps) (h : (updateL s p ps).2 = 0) :
    Went s (updateL s p ps).1 p ∧ (updateL s p ps).1.made = s.made ∧ (updateL s p ps).1.l.length = s.l.length := by
  obtain ⟨h1, j, h2, hj, h3, h4, h5, h6, h7, h8⟩ := update_ok h
  rw [h7]
  refine ⟨⟨h8, by simp, fun y hy => ?_, fun y hy hne => get_mem h8 ?_⟩, rfl, by simp⟩
  · rcases List.mem_or_eq_of_mem_set hy with hy | rfl
    · exact .inl hy
    · exact .inr ⟨(hs.2 _ (List.getElem_mem hj)).1, hP⟩
  · obtain ⟨i, hi, rfl⟩ := List.getElem_of_mem hy
    have hij : j ≠ i := fun e => by subst e; exact hne h3
    have : (s.l.set j ⟨s.l[j].ph, s.l[j].ty, ps⟩)[i]'(by simpa using hi) = s.l[i] := List.getElem_set_ne hij _
    show s.l[i] ∈ s.l.set j ⟨s.l[j].ph, s.l[j].ty, ps⟩
    rw [← this]
    exact List.getElem_mem _
end Go.Proofs.YtkigeegahepnaaaGreatDoor
