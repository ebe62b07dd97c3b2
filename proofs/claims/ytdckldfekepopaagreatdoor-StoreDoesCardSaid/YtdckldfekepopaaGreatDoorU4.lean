/-
  The reference's Delete. · The reference's Update.
-/
import Derived.Test.YtdckldfekepopaaGreatDoorU1
import Derived.Deep.RegionLaw
import Derived.Test.YtdckldfekepopaaGreatDoorU2
set_option linter.unusedVariables false
set_option linter.unusedSimpArgs false
namespace Go.Proofs.YtdckldfekepopaaGreatDoor
open Go.RowKit Go.Deep

theorem filter_cut {s : St} {p : ByteArray} {i : Nat} (h : okS s) (hx : idxT s.l p = some i) : s.l.filter (fun t => !decide (t.ph = p)) = s.l.take i ++ s.l.drop (i + 1) := by
  obtain ⟨hi, he, hb⟩ := idxT_at hx
  have e : s.l = s.l.take i ++ s.l[i] :: s.l.drop (i + 1) := by
    rw [← List.drop_eq_getElem_cons hi, List.take_append_drop]
  have h1 : (s.l.take i).filter (fun t => !decide (t.ph = p)) = s.l.take i := List.filter_eq_self.2 fun t ht => by
    obtain ⟨k, hk, rfl⟩ := List.getElem_of_mem ht
    have hk' : k < i := by rw [List.length_take] at hk; omega
    rw [List.getElem_take]
    simpa using hb k hk'
  have h2 : (s.l.drop (i + 1)).filter (fun t => !decide (t.ph = p)) = s.l.drop (i + 1) := List.filter_eq_self.2 fun t ht => by
    obtain ⟨k, hk, rfl⟩ := List.getElem_of_mem ht
    rw [List.getElem_drop]
    simp only [Bool.not_eq_true', decide_eq_false_iff_not]
    intro e2
    rw [List.length_drop] at hk
    have := okS_uniq h (show i + 1 + k < s.l.length by omega) hi (e2.trans he.symm)
    omega
  conv => lhs; rw [e]
  rw [List.filter_append, h1, List.filter_cons, h2, if_neg (by simp [he])]
set_option maxRecDepth 100000 in
set_option maxHeartbeats 16000000 in
theorem rDelete_any (s : St) (p : ByteArray) (v : Value) (w : World) (hF : fineS s) (h : isS w s v) :
    Calls Tryz.prog 14 #[v, .string p] w fun e w' => (∃ v', e = .returned (.tuple #[v', .int .i64 (deleteL s p).2]) ∧ isS w' (deleteL s p).1 v') ∧ Below w.heap.size w w' := by
  obtain ⟨o, cap, rfl, hts, hm⟩ := isS_two h
  obtain ⟨W2, hW2⟩ : ∃ W2, (w.alloc (.cells #[.slice o s.l.length cap, .int .i64 s.made] 31)).alloc (.cells #[.slice none 0 0, .int .i64 0] 31) = W2 := ⟨_, rfl⟩
  have HB0 : Hid (RrW w o s.l.length cap s.made W2) := Lib.hid (hW2 ▸ RrW.start w o s.l.length cap s.made)
  obtain ⟨r0, r1⟩ := two_cells HB0.out.box
  have HC : Hid (∀ w1, KB w w1 → Calls Tryz.prog 27 #[.agg #[.slice o s.l.length cap, .int .i64 s.made]] w1 fun e w' => e = .returned (.int .i64 (checkS s)) ∧ Below w1.heap.size w1 w') := Lib.hid fun w1 hk => rCheck10_any s _ w1 hF (isS_below hk h)
  have HGT : Hid (∀ w1, KB w w1 → Calls Tryz.prog 34 #[.agg #[.slice o s.l.length cap, .int .i64 s.made], .string p] w1 fun e w' => (∃ v', e = .returned (.tuple #[v', .bool (getT s p).2]) ∧ isTh w' (getT s p).1 v') ∧ Below w1.heap.size w1 w') := Lib.hid fun w1 hk => rGet10_any s p _ w1 hF (isS_below hk h)
  have htwo : checkS s ≠ 0 → checkS s = 2 := fun h => (checkS_two s).resolve_left h
  have hcut : ∀ i, checkS s = 0 → idxT s.l p = some i → s.l.filter (fun t => !decide (t.ph = p)) = s.l.take i ++ s.l.drop (i + 1) := fun i h hx => filter_cut ((okS_iff s).1 h) hx
  have HTS := Lib.hid hts
  have hl1000 := hF.1
  unfold deleteL
  generalize checkS s = C at *
  clear h hts hF
  by_cases hC : C = 0
  · subst hC
    rw [if_pos rfl]
    have hcut := fun i => hcut i rfl
    cases hI : idxT s.l p with
    | none =>
      have hgt : getT s p = (zTh, false) := by unfold getT; rw [hI]
      rw [hgt] at HGT
      dsimp only at HGT ⊢
      clear htwo hcut hI hgt HTS hm
      generalize TGG : zTh = TG at HGT
      generalize s.l.length = n at *
      generalize s.made = md at *
      go_enter Tryz.func14, Tryz.ntmps14
      go_wp2_with fail
      try rw [hW2]
      clear hW2
      refine (HC.out _ HB0.out.bel).mono ?_
      rintro e w5 ⟨rfl, hb5⟩
      have H5 := Lib.hid (HB0.out.below hb5)
      obtain ⟨r0, r1⟩ := two_cells H5.out.box
      clear HB0 hb5 HC
      go_wp2_with fail
      refine (HGT.out _ H5.out.bel).mono ?_
      rintro e w6 ⟨⟨v6, rfl, pv6, rfl, hg6, -⟩, hb6⟩
      obtain ⟨o6, c6, rfl⟩ : ∃ o6 c6, pv6 = .slice o6 TG.ps.length c6 := by obtain ⟨a, cap, ⟨o, rfl, _⟩, _⟩ := hg6; exact ⟨_, _, rfl⟩
      have H6 := Lib.hid (H5.out.below hb6)
      have A7 : KB w6 (w6.alloc (.cells #[.string TG.ph, .string TG.ty, .slice o6 TG.ps.length c6] 52)) := kbA
      have H7 := Lib.hid (H6.out.below A7)
      have HG7 := Lib.hid (isGs_below A7 hg6)
      have HX7 := Lib.hid (World.alloc_heap_new w6 (.cells #[.string TG.ph, .string TG.ty, .slice o6 TG.ps.length c6] 52))
      have hs7 := World.size_alloc w6 (.cells #[.string TG.ph, .string TG.ty, .slice o6 TG.ps.length c6] 52)
      clear r0 r1
      obtain ⟨r0, r1⟩ := two_cells H7.out.box
      clear H5 H6 hb6 hg6 A7 HGT
      clear hs7 HG7 HX7
      obtain ⟨x1, x2, ⟨⟨_, q1⟩, q1', q1''⟩, ⟨⟨_, q2⟩, q2', q2''⟩, d0, d1, hg8, -⟩ := store_two H7.out.res (.slice none 0 0) (.int .i64 0)
      have HF8 := Lib.hid (H7.out.fin hg8)
      clear hg8
      go_wp2_with fail
      refine bodyPost_ret (v := .tuple #[.agg #[.slice none 0 0, .int .i64 0], .int .i64 4]) (by simp [results, Tryz.results14, go_sem, d0, d1]) rfl ?_
      exact ⟨⟨_, rfl, isS_zero _⟩, HF8.out⟩
    | some i =>
      have hgt : (getT s p).2 = true := by unfold getT; rw [hI]
      rw [hgt] at HGT
      generalize (getT s p).1 = TG at HGT
      have HCUT := Lib.hid (hcut i hI)
      have HM := Lib.hid hm
      dsimp only
      obtain ⟨R, hR⟩ : ∃ R : List Th, s.l.take i ++ s.l.drop (i + 1) = R := ⟨_, rfl⟩
      rw [hR] at HCUT ⊢
      obtain ⟨i0, hi, hz0, hz1, hz2⟩ := info_parts infoT10
      obtain ⟨a, cap', ⟨o', e', hc1, hc2, ho⟩, hat⟩ := HTS.out
      simp only [Value.slice.injEq, true_and] at e'
      obtain ⟨rfl, rfl⟩ := e'
      have HAT := Lib.hid hat
      unfold maxLen at hc2
      clear htwo hcut hI hgt hat hR hm HTS
      go_enter Tryz.func14, Tryz.ntmps14
      go_wp2_with fail
      try rw [hW2]
      clear hW2
      refine (HC.out _ HB0.out.bel).mono ?_
      rintro e w5 ⟨rfl, hb5⟩
      have H5 := Lib.hid (HB0.out.below hb5)
      obtain ⟨r0, r1⟩ := two_cells H5.out.box
      clear HB0 hb5 HC
      go_wp2_with fail
      refine (HGT.out _ H5.out.bel).mono ?_
      rintro e w6 ⟨⟨v6, rfl, pv6, rfl, hg6, -⟩, hb6⟩
      obtain ⟨o6, c6, rfl⟩ : ∃ o6 c6, pv6 = .slice o6 TG.ps.length c6 := by obtain ⟨a, cap, ⟨o, rfl, _⟩, _⟩ := hg6; exact ⟨_, _, rfl⟩
      have H6 := Lib.hid (H5.out.below hb6)
      have A7 : KB w6 (w6.alloc (.cells #[.string TG.ph, .string TG.ty, .slice o6 TG.ps.length c6] 52)) := kbA
      have H7 := Lib.hid (H6.out.below A7)
      have HG7 := Lib.hid (isGs_below A7 hg6)
      have HX7 := Lib.hid (World.alloc_heap_new w6 (.cells #[.string TG.ph, .string TG.ty, .slice o6 TG.ps.length c6] 52))
      have hs7 := World.size_alloc w6 (.cells #[.string TG.ph, .string TG.ty, .slice o6 TG.ps.length c6] 52)
      clear r0 r1
      obtain ⟨r0, r1⟩ := two_cells H7.out.box
      clear H5 H6 hb6 hg6 A7 HGT
      have hgr0 : GR w o s.l.length cap s.made [] s.made (w6.alloc (.cells #[.string TG.ph, .string TG.ty, .slice o6 TG.ps.length c6] 52)).heap.size 0 0 none [] ((w6.alloc (.cells #[.string TG.ph, .string TG.ty, .slice o6 TG.ps.length c6] 52)).alloc (.cells #[.slice none 0 0, .int .i64 s.made] 31)) := ⟨H7.out.below kbA, H7.out.sz, by have := World.size_alloc (w6.alloc (.cells #[.string TG.ph, .string TG.ty, .slice o6 TG.ps.length c6] 52)) (.cells #[.slice none 0 0, .int .i64 s.made] 31); omega, World.alloc_heap_new _ _, ⟨rfl, .inl ⟨rfl, rfl⟩⟩, rfl, by unfold isTLa; rfl⟩
      rw [hs7] at hgr0
      have HG0 := Lib.hid hgr0
      clear hgr0
      clear hs7 H7 HX7 HG7
      go_wp2_with fail
      generalize hW8 : (w6.alloc (.cells #[.string TG.ph, .string TG.ty, .slice o6 TG.ps.length c6] 52)).alloc (.cells #[.slice none 0 0, .int .i64 s.made] 31) = W8 at *
      clear hW8 r0 r1
      generalize hbo : w6.heap.size + 1 = bo at *
      clear hbo
      go_loopw [9] (fun iv wr => ∃ (j k c : Nat) (oo : Option Addr) (xs : List Value), j ≤ s.l.length ∧ iv = .int .i64 j ∧ Hid (GR w o s.l.length cap s.made ((s.l.take j).filter (fun t => !decide (t.ph = p))) s.made bo k c oo xs wr)) (fun iv _ => s.l.length - (intOf iv).toNat)
      case atStart => exact ⟨0, 0, 0, none, [], by omega, rfl, HG0⟩
      case round =>
        obtain ⟨j, k, c, oo, xs, hj, rfl, HG⟩ := hrel
        clear HG0
        obtain ⟨r0, r1⟩ := two_cells HG.out.rr.box
        obtain ⟨s0, s1⟩ := two_cells HG.out.out
        by_cases hlt : j < s.l.length
        · obtain rfl := ho (by omega)
          obtain ⟨o1, c1, q0, q1, q2, pv, epv, hgs, hph, hty⟩ := isTat_three (HAT.out j hlt)
          simp only [Value.agg.injEq, Array.mk.injEq, List.cons.injEq, true_and, and_true] at epv
          subst epv
          have q0 := cell_below HG.out.rr.bel _ _ q0
          have q1 := cell_below HG.out.rr.bel _ _ q1
          have q2 := cell_below HG.out.rr.bel _ _ q2
          have htk : (s.l.take (j + 1)).filter (fun t => !decide (t.ph = p)) = (s.l.take j).filter (fun t => !decide (t.ph = p)) ++ (if s.l[j].ph = p then [] else [s.l[j]]) := by
            rw [List.take_succ_eq_append_getElem hlt, List.filter_append, List.filter_cons, List.filter_nil]
            congr 1
            by_cases e : s.l[j].ph = p <;> simp [e]
          by_cases he : s.l[j].ph = p
          · rw [if_pos he, List.append_nil] at htk
            have HG2 : Hid (GR w (some a) s.l.length cap s.made ((s.l.take (j + 1)).filter (fun t => !decide (t.ph = p))) s.made bo k c oo xs wr) := Lib.hid (by rw [htk]; exact HG.out)
            have ze : (s.l[j].ph.toList == p.toList) = true := by rw [he]; exact beq_self_eq_true _
            clear htk hgs hph hty he q1 q2 HG
            generalize s.l[j].ph = ph at *
            go_wp2_with fail
            go_roundw
            case rel => exact ⟨j + 1, k, c, oo, xs, by omega, by go_num, HG2⟩
            case measure => simp [intOf]; omega
          · rw [if_neg he] at htk
            have ze := beq_toList he
            have hkb : k ≤ 1000 := by
              have h1 := HG.out.len
              have h2 := List.length_filter_le (fun t => !decide (t.ph = p)) (s.l.take j)
              rw [List.length_take] at h2
              omega
            have HTL := Lib.hid (isTLa_single (t := s.l[j]) (isGsa_of hgs) hph hty)
            have STEP : Hid (∀ W', KB wr W' → ∀ (o2 : Option Addr) (c2 : Nat) (w2 : World), W'.grownBy w2 (Value.slice oo k c).ownBlock → w2.ownsRow (bo + 1) 52 3 (.slice o2 (k + 1) c2) (k + 1) (xs ++ [.string s.l[j].ph, .string s.l[j].ty, .slice o1 s.l[j].ps.length c1]) → ∃ y, ((∃ u, w2.cell? ⟨bo, 0, none⟩ = some u) ∧ w2.frozen? ⟨bo, 0, none⟩ = false ∧ w2.setCell ⟨bo, 0, none⟩ (.slice o2 (k + 1) c2) = y) ∧ GR w (some a) s.l.length cap s.made ((s.l.take (j + 1)).filter (fun t => !decide (t.ph = p))) s.made bo (k + 1) c2 o2 (xs ++ [.string s.l[j].ph, .string s.l[j].ty, .slice o1 s.l[j].ps.length c1]) y) := Lib.hid fun W' hk o2 c2 w2 hg ho2 => by
              obtain ⟨y, h1, -, -, h2⟩ := GR.push (M := [s.l[j]]) (HG.out.below hk) hg ho2 rfl HTL.out
              rw [← htk] at h2
              exact ⟨y, h1, h2⟩
            have HSZ : Hid (bo + 1 ≤ wr.heap.size) := Lib.hid HG.out.bo2
            clear htk hgs hph hty he HTL
            generalize s.l[j] = T at *
            have s0d : wr.drew.cell? ⟨bo, 0, none⟩ = _ := s0
            have s0a : (wr.alloc (.cells #[.string T.ph, .string T.ty, .slice o1 T.ps.length c1] 52)).cell? ⟨bo, 0, none⟩ = _ := cell_below kbA _ _ s0
            have r0d : wr.drew.cell? ⟨w.heap.size, 0, none⟩ = _ := r0
            have q0d : wr.drew.cell? _ = _ := q0
            have q1d : wr.drew.cell? _ = _ := q1
            have q2d : wr.drew.cell? _ = _ := q2
            go_wp2_with fail
            go_region_law (refine step_append_row rfl (.tmp 42) (.tmp 48) 22 rfl (bo + 1) 52 i0 _ 3 56 Tryz.underlying22 hi hz0 hz1 hz2 rfl (by decide) (.slice oo k c) k xs (by simp [Act.eval, Act.put]) (HG.out.below (by first | exact Below.drew kbA | go_grown)).own (some ⟨wr.heap.size, 0, none⟩) ⟨wr.heap.size, 0, none⟩ 1 1 [.string T.ph, .string T.ty, .slice o1 T.ps.length c1] (by simp [Act.eval, Act.put]) (fun _ => rfl) rfl news_three ones_three (by unfold maxLen; omega) (by omega) (by have := HSZ.out; simp; omega) ?_; intro o2 c2 w2 own2 gr2 at2; obtain ⟨y2, ⟨⟨_, t2⟩, t2', t2''⟩, hgr2⟩ := STEP.out _ (by first | exact Below.drew kbA | go_grown) _ _ _ gr2 own2)
            all_goals
              have HG2 := Lib.hid hgr2
              clear hgr2 own2 gr2 at2
              go_wp2_with fail
              go_roundw
              case rel => exact ⟨j + 1, k + 1, c2, o2, _, by omega, by go_num, HG2⟩
              case measure => simp [intOf]; omega
        · obtain rfl : j = s.l.length := by omega
          have hfl : (s.l.take s.l.length).filter (fun t => !decide (t.ph = p)) = R := by rw [List.take_of_length_le (Nat.le_refl _)]; exact HCUT.out
          have hG := HG.out
          rw [hfl] at hG
          have hlen := hG.len
          obtain ⟨x1, x2, ⟨⟨_, q1⟩, q1', q1''⟩, ⟨⟨_, q2⟩, q2', q2''⟩, d0, d1, hg8, -⟩ := store_two hG.rr.res (.slice oo k c) (.int .i64 s.made)
          have HF8 := Lib.hid (hG.fin hg8 HM.out)
          clear hG hg8 hfl hlen HG HCUT HAT
          go_wp2_with fail
          refine bodyPost_ret (v := .tuple #[.agg #[.slice oo k c, .int .i64 s.made], .int .i64 0]) (by simp [results, Tryz.results14, go_sem, d0, d1]) rfl ?_
          exact ⟨⟨_, rfl, HF8.out.1⟩, HF8.out.2⟩
  · rw [if_neg hC]
    have hC2 := htwo hC
    subst hC2
    clear htwo hC hcut HTS HGT hm
    generalize s.l.length = n at *
    generalize s.made = md at *
    go_enter Tryz.func14, Tryz.ntmps14
    go_wp2_with fail
    try rw [hW2]
    clear hW2
    refine (HC.out _ HB0.out.bel).mono ?_
    rintro e w5 ⟨rfl, hb5⟩
    have H5 := Lib.hid (HB0.out.below hb5)
    obtain ⟨r0, r1⟩ := two_cells H5.out.box
    clear HB0 hb5 HC
    clear r0 r1
    obtain ⟨x1, x2, ⟨⟨_, q1⟩, q1', q1''⟩, ⟨⟨_, q2⟩, q2', q2''⟩, d0, d1, hg8, -⟩ := store_two H5.out.res (.slice none 0 0) (.int .i64 0)
    have HF8 := Lib.hid (H5.out.fin hg8)
    clear hg8
    go_wp2_with fail
    refine bodyPost_ret (v := .tuple #[.agg #[.slice none 0 0, .int .i64 0], .int .i64 2]) (by simp [results, Tryz.results14, go_sem, d0, d1]) rfl ?_
    exact ⟨⟨_, rfl, isS_zero _⟩, HF8.out⟩
end Go.Proofs.YtdckldfekepopaaGreatDoor

namespace Go.Proofs.YtdckldfekepopaaGreatDoor
open Go.RowKit Go.Deep

/-- A thing with its properties set, if it is the one. -/
def setT (p : ByteArray) (ps : List G) (t : Th) : Th := if t.ph = p then ⟨t.ph, t.ty, ps⟩ else t
theorem map_set {s : St} {p : ByteArray} {ps : List G} {i : Nat} (h : okS s) (hx : idxT s.l p = some i) : s.l.map (setT p ps) = s.l.set i ⟨(s.l.getD i zTh).ph, (s.l.getD i zTh).ty, ps⟩ := by
  obtain ⟨hi, he, hb⟩ := idxT_at hx
  rw [getD_t hi]
  apply List.ext_getElem (by simp)
  intro k h1 h2
  rw [List.getElem_map, List.getElem_set]
  have hk : k < s.l.length := by simpa using h1
  by_cases e : i = k
  · subst e
    rw [if_pos rfl]
    unfold setT
    rw [if_pos he]
  · rw [if_neg e]
    unfold setT
    rw [if_neg (fun e2 => e (okS_uniq h hi hk (he.trans e2.symm)))]
set_option maxRecDepth 100000 in
set_option maxHeartbeats 16000000 in
theorem rUpdate_any (s : St) (p : ByteArray) (ps : List G) (v u : Value) (w : World) (hF : fineS s) (hP : fineG ps) (h : isS w s v) (hg : isGs w ps u) :
    Calls Tryz.prog 12 #[v, .string p, u] w fun e w' => (∃ v', e = .returned (.tuple #[v', .int .i64 (updateL s p ps).2]) ∧ isS w' (updateL s p ps).1 v') ∧ Below w.heap.size w w' := by
  obtain ⟨o, cap, rfl, hts, hm⟩ := isS_two h
  obtain ⟨W2, hW2⟩ : ∃ W2, (w.alloc (.cells #[.slice o s.l.length cap, .int .i64 s.made] 31)).alloc (.cells #[.slice none 0 0, .int .i64 0] 31) = W2 := ⟨_, rfl⟩
  have HB0 : Hid (RrW w o s.l.length cap s.made W2) := Lib.hid (hW2 ▸ RrW.start w o s.l.length cap s.made)
  obtain ⟨r0, r1⟩ := two_cells HB0.out.box
  have HC : Hid (∀ w1, KB w w1 → Calls Tryz.prog 27 #[.agg #[.slice o s.l.length cap, .int .i64 s.made]] w1 fun e w' => e = .returned (.int .i64 (checkS s)) ∧ Below w1.heap.size w1 w') := Lib.hid fun w1 hk => rCheck10_any s _ w1 hF (isS_below hk h)
  have HGT : Hid (∀ w1, KB w w1 → Calls Tryz.prog 34 #[.agg #[.slice o s.l.length cap, .int .i64 s.made], .string p] w1 fun e w' => (∃ v', e = .returned (.tuple #[v', .bool (getT s p).2]) ∧ isTh w' (getT s p).1 v') ∧ Below w1.heap.size w1 w') := Lib.hid fun w1 hk => rGet10_any s p _ w1 hF (isS_below hk h)
  obtain ⟨ou, cu, rfl⟩ : ∃ ou cu, u = .slice ou ps.length cu := by obtain ⟨a, cap, ⟨o, rfl, _⟩, _⟩ := hg; exact ⟨_, _, rfl⟩
  have HKN : Hid (∀ w1, KB w w1 → Calls Tryz.prog 29 #[.slice ou ps.length cu] w1 fun e w' => e = .returned (.bool (!ps.any (·.unk))) ∧ w1 = w') := Lib.hid fun w1 hk => rknown_any ps _ w1 hP.1 (isGs_below hk hg)
  have htwo : checkS s ≠ 0 → checkS s = 2 := fun h => (checkS_two s).resolve_left h
  have hset : ∀ i, checkS s = 0 → idxT s.l p = some i → s.l.map (setT p ps) = s.l.set i ⟨(s.l.getD i zTh).ph, (s.l.getD i zTh).ty, ps⟩ := fun i h hx => map_set ((okS_iff s).1 h) hx
  have HTS := Lib.hid hts
  have HGS := Lib.hid hg
  have HFS := Lib.hid hF
  have HPS := Lib.hid hP
  have hl1000 := hF.1
  unfold updateL
  generalize checkS s = C at *
  by_cases hC : C = 0
  · subst hC
    rw [if_pos rfl]
    have hset := fun i => hset i rfl
    cases hI : idxT s.l p with
    | none =>
      have hgt : getT s p = (zTh, false) := by unfold getT; rw [hI]
      rw [hgt] at HGT
      dsimp only at HGT ⊢
      clear htwo hset hI hgt HTS hm h hts hF hP hg HKN HGS HFS HPS hl1000
      generalize TGG : zTh = TG at HGT
      generalize s.l.length = n at *
      generalize s.made = md at *
      generalize ps.length = pn at *
      go_enter Tryz.func12, Tryz.ntmps12
      go_wp2_with fail
      try rw [hW2]
      clear hW2
      refine (HC.out _ HB0.out.bel).mono ?_
      rintro e w5 ⟨rfl, hb5⟩
      have H5 := Lib.hid (HB0.out.below hb5)
      obtain ⟨r0, r1⟩ := two_cells H5.out.box
      clear HB0 hb5 HC
      go_wp2_with fail
      refine (HGT.out _ H5.out.bel).mono ?_
      rintro e w6 ⟨⟨v6, rfl, pv6, rfl, hg6, -⟩, hb6⟩
      obtain ⟨o6, c6, rfl⟩ : ∃ o6 c6, pv6 = .slice o6 TG.ps.length c6 := by obtain ⟨a, cap, ⟨o, rfl, _⟩, _⟩ := hg6; exact ⟨_, _, rfl⟩
      have H6 := Lib.hid (H5.out.below hb6)
      have A7 : KB w6 (w6.alloc (.cells #[.string TG.ph, .string TG.ty, .slice o6 TG.ps.length c6] 52)) := kbA
      have H7 := Lib.hid (H6.out.below A7)
      have HG7 := Lib.hid (isGs_below A7 hg6)
      have HX7 := Lib.hid (World.alloc_heap_new w6 (.cells #[.string TG.ph, .string TG.ty, .slice o6 TG.ps.length c6] 52))
      have hs7 := World.size_alloc w6 (.cells #[.string TG.ph, .string TG.ty, .slice o6 TG.ps.length c6] 52)
      clear r0 r1
      obtain ⟨r0, r1⟩ := two_cells H7.out.box
      clear H5 H6 hb6 hg6 A7 HGT
      clear hs7 HG7 HX7
      obtain ⟨x1, x2, ⟨⟨_, q1⟩, q1', q1''⟩, ⟨⟨_, q2⟩, q2', q2''⟩, d0, d1, hg8, -⟩ := store_two H7.out.res (.slice none 0 0) (.int .i64 0)
      have HF8 := Lib.hid (H7.out.fin hg8)
      clear hg8
      go_wp2_with fail
      refine bodyPost_ret (v := .tuple #[.agg #[.slice none 0 0, .int .i64 0], .int .i64 4]) (by simp [results, Tryz.results12, go_sem, d0, d1]) rfl ?_
      exact ⟨⟨_, rfl, isS_zero _⟩, HF8.out⟩
    | some i =>
      have hgt : getT s p = (s.l.getD i zTh, true) := by unfold getT; rw [hI]
      rw [hgt] at HGT
      have hset := hset i hI
      obtain ⟨hix, -⟩ := idxT_at hI
      have hfi := hF.2 _ (List.getElem_mem hix)
      have hgd := getD_t hix
      dsimp only at HGT ⊢
      rw [← hgd] at hfi
      rw [← hset]
      clear hset hgt hI hgd
      generalize s.l.getD i zTh = TG at *
      have HW : Hid (∀ w1, KB w w1 → Calls Tryz.prog 28 #[.string TG.ty, .slice ou ps.length cu] w1 fun e w' => e = .returned (.int .i64 (checkL TG.ty ps)) ∧ Below w1.heap.size w1 w') := Lib.hid fun w1 hk => rCheck_any TG.ty ps _ w1 hP.1 (fun g hg => (hP.2 g hg).1) (isGs_below hk hg)
      have HD : Hid (∀ (o6 : Option Addr) (c6 : Nat) w1, KB w w1 → isGs w1 TG.ps (.slice o6 TG.ps.length c6) → Calls Tryz.prog 35 #[.string TG.ty, .slice o6 TG.ps.length c6, .slice ou ps.length cu] w1 fun e w' => e = .returned (.tuple #[.int .i8 (rdifferL TG.ty TG.ps ps).1, .int .i64 (rdifferL TG.ty TG.ps ps).2]) ∧ Below w1.heap.size w1 w') := Lib.hid fun o6 c6 w1 hk hg6 => rDiffer_any TG.ty TG.ps ps _ _ w1 hfi.2 hP hg6 (isGs_below hk hg)
      have hwr : wrongL TG.ty ps = if checkL TG.ty ps = 0 then (if ps.any (·.unk) then 91 else 0) else checkL TG.ty ps := rfl
      have hrd : ps.any (·.unk) = false → rdifferL TG.ty TG.ps ps = differL TG.ty TG.ps ps := fun h => rdiffer_eq h
      rw [hwr]
      generalize rdifferL TG.ty TG.ps ps = RD at *
      generalize differL TG.ty TG.ps ps = DD at *
      generalize checkL TG.ty ps = X at *
      generalize ps.any (·.unk) = U at *
      have HM := Lib.hid hm
      clear hwr h hts hF hP hg htwo hfi hm HFS
      by_cases hX : X = 0
      · subst hX
        rw [if_pos rfl]
        cases U with
        | true =>
          rw [if_pos rfl, if_neg (by decide)]
          clear HTS HGS HPS hl1000 HM hrd
          generalize s.l.map (setT p ps) = MM at *
          generalize s.l.length = n at *
          generalize s.made = md at *
          generalize ps.length = pn at *
          go_enter Tryz.func12, Tryz.ntmps12
          go_wp2_with fail
          try rw [hW2]
          clear hW2
          refine (HC.out _ HB0.out.bel).mono ?_
          rintro e w5 ⟨rfl, hb5⟩
          have H5 := Lib.hid (HB0.out.below hb5)
          obtain ⟨r0, r1⟩ := two_cells H5.out.box
          clear HB0 hb5 HC
          go_wp2_with fail
          refine (HGT.out _ H5.out.bel).mono ?_
          rintro e w6 ⟨⟨v6, rfl, pv6, rfl, hg6, -⟩, hb6⟩
          obtain ⟨o6, c6, rfl⟩ : ∃ o6 c6, pv6 = .slice o6 TG.ps.length c6 := by obtain ⟨a, cap, ⟨o, rfl, _⟩, _⟩ := hg6; exact ⟨_, _, rfl⟩
          have H6 := Lib.hid (H5.out.below hb6)
          have A7 : KB w6 (w6.alloc (.cells #[.string TG.ph, .string TG.ty, .slice o6 TG.ps.length c6] 52)) := kbA
          have H7 := Lib.hid (H6.out.below A7)
          have HG7 := Lib.hid (isGs_below A7 hg6)
          have HX7 := Lib.hid (World.alloc_heap_new w6 (.cells #[.string TG.ph, .string TG.ty, .slice o6 TG.ps.length c6] 52))
          have hs7 := World.size_alloc w6 (.cells #[.string TG.ph, .string TG.ty, .slice o6 TG.ps.length c6] 52)
          clear r0 r1
          obtain ⟨r0, r1⟩ := two_cells H7.out.box
          clear H5 H6 hb6 hg6 A7 HGT
          obtain ⟨x0, x1, x2⟩ := three_cells HX7.out
          clear hs7
          go_wp2_with fail
          generalize hW7 : w6.alloc (.cells #[.string TG.ph, .string TG.ty, .slice o6 TG.ps.length c6] 52) = W7 at *
          clear hW7
          refine (HW.out _ H7.out.bel).mono ?_
          rintro e w8 ⟨rfl, hb8⟩
          have H8 := Lib.hid (H7.out.below hb8)
          have HG8 := Lib.hid (isGs_below hb8 HG7.out)
          have x1 := cell_below hb8 _ _ x1
          have x2 := cell_below hb8 _ _ x2
          clear hb8 H7 HG7 HW x0 HX7 r0 r1
          go_wp2_with fail
          refine (HD.out _ _ _ H8.out.bel HG8.out).mono ?_
          rintro e w9 ⟨rfl, hb9⟩
          have H9 := Lib.hid (H8.out.below hb9)
          clear hb9 H8 HG8 HD x1 x2
          go_wp2_with fail
          refine (HKN.out _ H9.out.bel).mono ?_
          rintro e w10 ⟨rfl, rfl⟩
          clear HKN
          obtain ⟨x1, x2, ⟨⟨_, q1⟩, q1', q1''⟩, ⟨⟨_, q2⟩, q2', q2''⟩, d0, d1, hg8, -⟩ := store_two H9.out.res (.slice none 0 0) (.int .i64 0)
          have HF8 := Lib.hid (H9.out.fin hg8)
          clear hg8
          go_wp2_with fail
          refine bodyPost_ret (v := .tuple #[.agg #[.slice none 0 0, .int .i64 0], .int .i64 91]) (by simp [results, Tryz.results12, go_sem, d0, d1]) rfl ?_
          exact ⟨⟨_, rfl, isS_zero _⟩, HF8.out⟩
        | false =>
          rw [if_neg Bool.false_ne_true, if_pos rfl]
          obtain rfl := hrd rfl
          clear hrd
          obtain ⟨how, ed⟩ := RD
          dsimp only at HD ⊢
          by_cases hE : ed = 0
          · subst hE
            rw [if_pos rfl]
            by_cases hH : how = 3
            · subst hH
              rw [if_pos rfl]
              clear HTS HGS HPS hl1000 HM
              generalize s.l.map (setT p ps) = MM at *
              generalize s.l.length = n at *
              generalize s.made = md at *
              generalize ps.length = pn at *
              go_enter Tryz.func12, Tryz.ntmps12
              go_wp2_with fail
              try rw [hW2]
              clear hW2
              refine (HC.out _ HB0.out.bel).mono ?_
              rintro e w5 ⟨rfl, hb5⟩
              have H5 := Lib.hid (HB0.out.below hb5)
              obtain ⟨r0, r1⟩ := two_cells H5.out.box
              clear HB0 hb5 HC
              go_wp2_with fail
              refine (HGT.out _ H5.out.bel).mono ?_
              rintro e w6 ⟨⟨v6, rfl, pv6, rfl, hg6, -⟩, hb6⟩
              obtain ⟨o6, c6, rfl⟩ : ∃ o6 c6, pv6 = .slice o6 TG.ps.length c6 := by obtain ⟨a, cap, ⟨o, rfl, _⟩, _⟩ := hg6; exact ⟨_, _, rfl⟩
              have H6 := Lib.hid (H5.out.below hb6)
              have A7 : KB w6 (w6.alloc (.cells #[.string TG.ph, .string TG.ty, .slice o6 TG.ps.length c6] 52)) := kbA
              have H7 := Lib.hid (H6.out.below A7)
              have HG7 := Lib.hid (isGs_below A7 hg6)
              have HX7 := Lib.hid (World.alloc_heap_new w6 (.cells #[.string TG.ph, .string TG.ty, .slice o6 TG.ps.length c6] 52))
              have hs7 := World.size_alloc w6 (.cells #[.string TG.ph, .string TG.ty, .slice o6 TG.ps.length c6] 52)
              clear r0 r1
              obtain ⟨r0, r1⟩ := two_cells H7.out.box
              clear H5 H6 hb6 hg6 A7 HGT
              obtain ⟨x0, x1, x2⟩ := three_cells HX7.out
              clear hs7
              go_wp2_with fail
              generalize hW7 : w6.alloc (.cells #[.string TG.ph, .string TG.ty, .slice o6 TG.ps.length c6] 52) = W7 at *
              clear hW7
              refine (HW.out _ H7.out.bel).mono ?_
              rintro e w8 ⟨rfl, hb8⟩
              have H8 := Lib.hid (H7.out.below hb8)
              have HG8 := Lib.hid (isGs_below hb8 HG7.out)
              have x1 := cell_below hb8 _ _ x1
              have x2 := cell_below hb8 _ _ x2
              clear hb8 H7 HG7 HW x0 HX7 r0 r1
              go_wp2_with fail
              refine (HD.out _ _ _ H8.out.bel HG8.out).mono ?_
              rintro e w9 ⟨rfl, hb9⟩
              have H9 := Lib.hid (H8.out.below hb9)
              clear hb9 H8 HG8 HD x1 x2
              go_wp2_with fail
              refine (HKN.out _ H9.out.bel).mono ?_
              rintro e w10 ⟨rfl, rfl⟩
              clear HKN
              obtain ⟨x1, x2, ⟨⟨_, q1⟩, q1', q1''⟩, ⟨⟨_, q2⟩, q2', q2''⟩, d0, d1, hg8, -⟩ := store_two H9.out.res (.slice none 0 0) (.int .i64 0)
              have HF8 := Lib.hid (H9.out.fin hg8)
              clear hg8
              go_wp2_with fail
              refine bodyPost_ret (v := .tuple #[.agg #[.slice none 0 0, .int .i64 0], .int .i64 91]) (by simp [results, Tryz.results12, go_sem, d0, d1]) rfl ?_
              exact ⟨⟨_, rfl, isS_zero _⟩, HF8.out⟩
            · rw [if_neg hH]
              have z3 : (how == 3) = false := beqI hH
              obtain ⟨R, hR⟩ : ∃ R : List Th, s.l.map (setT p ps) = R := ⟨_, rfl⟩
              have HMAP := Lib.hid hR
              rw [hR]
              obtain ⟨i0, hi, hz0, hz1, hz2⟩ := info_parts infoT10
              obtain ⟨a, cap', ⟨o', e', hc1, hc2, ho⟩, hat⟩ := HTS.out
              simp only [Value.slice.injEq, true_and] at e'
              obtain ⟨rfl, rfl⟩ := e'
              have HAT := Lib.hid hat
              unfold maxLen at hc2
              clear hat hR HTS HPS hH
              go_enter Tryz.func12, Tryz.ntmps12
              go_wp2_with fail
              try rw [hW2]
              clear hW2
              refine (HC.out _ HB0.out.bel).mono ?_
              rintro e w5 ⟨rfl, hb5⟩
              have H5 := Lib.hid (HB0.out.below hb5)
              obtain ⟨r0, r1⟩ := two_cells H5.out.box
              clear HB0 hb5 HC
              go_wp2_with fail
              refine (HGT.out _ H5.out.bel).mono ?_
              rintro e w6 ⟨⟨v6, rfl, pv6, rfl, hg6, -⟩, hb6⟩
              obtain ⟨o6, c6, rfl⟩ : ∃ o6 c6, pv6 = .slice o6 TG.ps.length c6 := by obtain ⟨a, cap, ⟨o, rfl, _⟩, _⟩ := hg6; exact ⟨_, _, rfl⟩
              have H6 := Lib.hid (H5.out.below hb6)
              have A7 : KB w6 (w6.alloc (.cells #[.string TG.ph, .string TG.ty, .slice o6 TG.ps.length c6] 52)) := kbA
              have H7 := Lib.hid (H6.out.below A7)
              have HG7 := Lib.hid (isGs_below A7 hg6)
              have HX7 := Lib.hid (World.alloc_heap_new w6 (.cells #[.string TG.ph, .string TG.ty, .slice o6 TG.ps.length c6] 52))
              have hs7 := World.size_alloc w6 (.cells #[.string TG.ph, .string TG.ty, .slice o6 TG.ps.length c6] 52)
              clear r0 r1
              obtain ⟨r0, r1⟩ := two_cells H7.out.box
              clear H5 H6 hb6 hg6 A7 HGT
              obtain ⟨x0, x1, x2⟩ := three_cells HX7.out
              clear hs7
              go_wp2_with fail
              generalize hW7 : w6.alloc (.cells #[.string TG.ph, .string TG.ty, .slice o6 TG.ps.length c6] 52) = W7 at *
              clear hW7
              refine (HW.out _ H7.out.bel).mono ?_
              rintro e w8 ⟨rfl, hb8⟩
              have H8 := Lib.hid (H7.out.below hb8)
              have HG8 := Lib.hid (isGs_below hb8 HG7.out)
              have x1 := cell_below hb8 _ _ x1
              have x2 := cell_below hb8 _ _ x2
              clear hb8 H7 HG7 HW x0 HX7 r0 r1
              go_wp2_with fail
              refine (HD.out _ _ _ H8.out.bel HG8.out).mono ?_
              rintro e w9 ⟨rfl, hb9⟩
              have H9 := Lib.hid (H8.out.below hb9)
              clear hb9 H8 HG8 HD x1 x2
              go_wp2_with fail
              refine (HKN.out _ H9.out.bel).mono ?_
              rintro e w10 ⟨rfl, rfl⟩
              clear HKN
              have hgr0 : GR w o s.l.length cap s.made [] s.made w9.heap.size 0 0 none [] (w9.alloc (.cells #[.slice none 0 0, .int .i64 s.made] 31)) := ⟨H9.out.below kbA, H9.out.sz, by rw [World.size_alloc]; omega, World.alloc_heap_new _ _, ⟨rfl, .inl ⟨rfl, rfl⟩⟩, rfl, by unfold isTLa; rfl⟩
              have HG0 := Lib.hid hgr0
              obtain ⟨r0, r1⟩ := two_cells H9.out.box
              clear hgr0 H9
              go_wp2_with fail
              generalize hW8 : w9.alloc (.cells #[.slice none 0 0, .int .i64 s.made] 31) = W8 at *
              clear hW8 r0 r1
              generalize hbo : w9.heap.size = bo at *
              clear hbo
              go_loopw [13] (fun iv wr => ∃ (j k c : Nat) (oo : Option Addr) (xs : List Value), j ≤ s.l.length ∧ iv = .int .i64 j ∧ Hid (GR w o s.l.length cap s.made ((s.l.take j).map (setT p ps)) s.made bo k c oo xs wr)) (fun iv _ => s.l.length - (intOf iv).toNat)
              case atStart => exact ⟨0, 0, 0, none, [], by omega, rfl, HG0⟩
              case round =>
                obtain ⟨j, k, c, oo, xs, hj, rfl, HG⟩ := hrel
                clear HG0
                obtain ⟨r0, r1⟩ := two_cells HG.out.rr.box
                by_cases hlt : j < s.l.length
                · obtain rfl := ho (by omega)
                  obtain ⟨o1, c1, q0, q1, q2, pv, epv, hgs, hph, hty⟩ := isTat_three (HAT.out j hlt)
                  simp only [Value.agg.injEq, Array.mk.injEq, List.cons.injEq, true_and, and_true] at epv
                  subst epv
                  have q0 := cell_below HG.out.rr.bel _ _ q0
                  have q1 := cell_below HG.out.rr.bel _ _ q1
                  have q2 := cell_below HG.out.rr.bel _ _ q2
                  have htk : (s.l.take (j + 1)).map (setT p ps) = (s.l.take j).map (setT p ps) ++ [setT p ps s.l[j]] := by
                    rw [List.take_succ_eq_append_getElem hlt, List.map_append, List.map_cons, List.map_nil]
                  have hkb : k ≤ 1000 := by
                    have h1 := HG.out.len
                    rw [List.length_map, List.length_take] at h1
                    omega
                  have A2 : KB wr (wr.alloc (.cells #[.string s.l[j].ph, .string s.l[j].ty, .slice o1 s.l[j].ps.length c1] 52)) := kbA
                  have N2 := World.alloc_heap_new wr (.cells #[.string s.l[j].ph, .string s.l[j].ty, .slice o1 s.l[j].ps.length c1] 52)
                  have S2 := World.size_alloc wr (.cells #[.string s.l[j].ph, .string s.l[j].ty, .slice o1 s.l[j].ps.length c1] 52)
                  by_cases he : s.l[j].ph = p
                  · have hst : setT p ps s.l[j] = ⟨s.l[j].ph, s.l[j].ty, ps⟩ := by unfold setT; rw [if_pos he]
                    rw [hst] at htk
                    have HTL := Lib.hid (isTLa_single (t := ⟨s.l[j].ph, s.l[j].ty, ps⟩) (isGsa_of HGS.out) hph hty)
                    have ze : (s.l[j].ph.toList == p.toList) = true := by rw [he]; exact beq_self_eq_true _
                    have HTK := Lib.hid htk
                    clear hst htk hgs hph hty he
                    generalize s.l[j] = T at *
                    have A3 : KB wr (wr.alloc (.cells #[.string T.ph, .string T.ty, .slice ou ps.length cu] 52)) := kbA
                    have N3 := World.alloc_heap_new wr (.cells #[.string T.ph, .string T.ty, .slice ou ps.length cu] 52)
                    have S3 := World.size_alloc wr (.cells #[.string T.ph, .string T.ty, .slice ou ps.length cu] 52)
                    have hG2 := HG.out.below A3
                    have hG3 := hG2.below (kbA (o := (.cells #[.string T.ph, .string T.ty, .slice ou ps.length cu] 52)))
                    obtain ⟨s0, s1⟩ := two_cells hG2.out
                    obtain ⟨y0, y1, y2⟩ := three_cells N2
                    obtain ⟨y3, y4, y5⟩ := three_cells N3
                    have HG3 := Lib.hid hG3
                    have HSZ : Hid (bo + 1 ≤ ((wr.alloc (.cells #[.string T.ph, .string T.ty, .slice ou ps.length cu] 52)).alloc (.cells #[.string T.ph, .string T.ty, .slice ou ps.length cu] 52)).heap.size) := Lib.hid hG3.bo2
                    have HS2 := Lib.hid S3
                    clear hG2 hG3 HG N2 A2 S2 A3 N3 S3
                    go_wp2_with (at_builtin; refine wpList_append_row_at rfl _ _ 22 rfl (bo + 1) 52 i0 _ 3 56 Tryz.underlying22 hi hz0 hz1 hz2 rfl (by decide) _ k xs rfl HG3.out.own (some ⟨wr.heap.size + 1, 0, none⟩) ⟨wr.heap.size + 1, 0, none⟩ 1 1 [.string T.ph, .string T.ty, .slice ou ps.length cu] rfl (fun _ => rfl) rfl (by have := HS2.out; rw [← this]; exact news_three) ones_three (by unfold maxLen; omega) (by omega) HSZ.out ?_)
                    intro o2 c2 w11 own11 gr11 at11
                    obtain ⟨y9, ⟨⟨_, t2⟩, t2', t2''⟩, -, -, hgr4⟩ := GR.push (M := [⟨T.ph, T.ty, ps⟩]) HG3.out gr11 own11 rfl HTL.out
                    rw [← HTK.out] at hgr4
                    have HG4 := Lib.hid hgr4
                    clear own11 gr11 at11 hgr4 HG3
                    go_wp2_with fail
                    go_roundw
                    case rel => exact ⟨j + 1, k + 1, c2, o2, _, by omega, by go_num, HG4⟩
                    case measure => simp [intOf]; omega
                  · have hst : setT p ps s.l[j] = s.l[j] := by unfold setT; rw [if_neg he]
                    rw [hst] at htk
                    have HTL := Lib.hid (isTLa_single (t := s.l[j]) (isGsa_of hgs) hph hty)
                    have ze := beq_toList he
                    have HTK := Lib.hid htk
                    clear hst htk hgs hph hty he
                    generalize s.l[j] = T at *
                    have hG2 := HG.out.below A2
                    have hG3 := hG2.below (kbA (o := .cells #[.string T.ph, .string T.ty, .slice o1 T.ps.length c1] 52))
                    obtain ⟨s0, s1⟩ := two_cells hG2.out
                    obtain ⟨y0, y1, y2⟩ := three_cells N2
                    have HG3 := Lib.hid hG3
                    have HSZ : Hid (bo + 1 ≤ ((wr.alloc (.cells #[.string T.ph, .string T.ty, .slice o1 T.ps.length c1] 52)).alloc (.cells #[.string T.ph, .string T.ty, .slice o1 T.ps.length c1] 52)).heap.size) := Lib.hid hG3.bo2
                    have HS2 := Lib.hid S2
                    clear hG2 hG3 HG N2 A2 S2
                    go_wp2_with (at_builtin; refine wpList_append_row_at rfl _ _ 22 rfl (bo + 1) 52 i0 _ 3 56 Tryz.underlying22 hi hz0 hz1 hz2 rfl (by decide) _ k xs rfl HG3.out.own (some ⟨wr.heap.size + 1, 0, none⟩) ⟨wr.heap.size + 1, 0, none⟩ 1 1 [.string T.ph, .string T.ty, .slice o1 T.ps.length c1] rfl (fun _ => rfl) rfl (by have := HS2.out; rw [← this]; exact news_three) ones_three (by unfold maxLen; omega) (by omega) HSZ.out ?_)
                    intro o2 c2 w11 own11 gr11 at11
                    obtain ⟨y9, ⟨⟨_, t2⟩, t2', t2''⟩, -, -, hgr4⟩ := GR.push (M := [T]) HG3.out gr11 own11 rfl HTL.out
                    rw [← HTK.out] at hgr4
                    have HG4 := Lib.hid hgr4
                    clear own11 gr11 at11 hgr4 HG3
                    go_wp2_with fail
                    go_roundw
                    case rel => exact ⟨j + 1, k + 1, c2, o2, _, by omega, by go_num, HG4⟩
                    case measure => simp [intOf]; omega
                · obtain rfl : j = s.l.length := by omega
                  have hfl : (s.l.take s.l.length).map (setT p ps) = R := by rw [List.take_of_length_le (Nat.le_refl _)]; exact HMAP.out
                  have hG := HG.out
                  rw [hfl] at hG
                  obtain ⟨s0, s1⟩ := two_cells hG.out
                  obtain ⟨x1, x2, ⟨⟨_, q1⟩, q1', q1''⟩, ⟨⟨_, q2⟩, q2', q2''⟩, d0, d1, hg8, -⟩ := store_two hG.rr.res (.slice oo k c) (.int .i64 s.made)
                  have HF8 := Lib.hid (hG.fin hg8 HM.out)
                  clear hG hg8 hfl HG HMAP HAT
                  go_wp2_with fail
                  refine bodyPost_ret (v := .tuple #[.agg #[.slice oo k c, .int .i64 s.made], .int .i64 0]) (by simp [results, Tryz.results12, go_sem, d0, d1]) rfl ?_
                  exact ⟨⟨_, rfl, HF8.out.1⟩, HF8.out.2⟩
          · rw [if_neg hE]
            have z1 : (ed == 0) = false := beqI hE
            have z2 : (ed != 0) = true := bne_iff_ne.2 hE
            clear HTS HGS HPS hl1000 HM hE
            generalize s.l.map (setT p ps) = MM at *
            generalize s.l.length = n at *
            generalize s.made = md at *
            generalize ps.length = pn at *
            go_enter Tryz.func12, Tryz.ntmps12
            go_wp2_with fail
            try rw [hW2]
            clear hW2
            refine (HC.out _ HB0.out.bel).mono ?_
            rintro e w5 ⟨rfl, hb5⟩
            have H5 := Lib.hid (HB0.out.below hb5)
            obtain ⟨r0, r1⟩ := two_cells H5.out.box
            clear HB0 hb5 HC
            go_wp2_with fail
            refine (HGT.out _ H5.out.bel).mono ?_
            rintro e w6 ⟨⟨v6, rfl, pv6, rfl, hg6, -⟩, hb6⟩
            obtain ⟨o6, c6, rfl⟩ : ∃ o6 c6, pv6 = .slice o6 TG.ps.length c6 := by obtain ⟨a, cap, ⟨o, rfl, _⟩, _⟩ := hg6; exact ⟨_, _, rfl⟩
            have H6 := Lib.hid (H5.out.below hb6)
            have A7 : KB w6 (w6.alloc (.cells #[.string TG.ph, .string TG.ty, .slice o6 TG.ps.length c6] 52)) := kbA
            have H7 := Lib.hid (H6.out.below A7)
            have HG7 := Lib.hid (isGs_below A7 hg6)
            have HX7 := Lib.hid (World.alloc_heap_new w6 (.cells #[.string TG.ph, .string TG.ty, .slice o6 TG.ps.length c6] 52))
            have hs7 := World.size_alloc w6 (.cells #[.string TG.ph, .string TG.ty, .slice o6 TG.ps.length c6] 52)
            clear r0 r1
            obtain ⟨r0, r1⟩ := two_cells H7.out.box
            clear H5 H6 hb6 hg6 A7 HGT
            obtain ⟨x0, x1, x2⟩ := three_cells HX7.out
            clear hs7
            go_wp2_with fail
            generalize hW7 : w6.alloc (.cells #[.string TG.ph, .string TG.ty, .slice o6 TG.ps.length c6] 52) = W7 at *
            clear hW7
            refine (HW.out _ H7.out.bel).mono ?_
            rintro e w8 ⟨rfl, hb8⟩
            have H8 := Lib.hid (H7.out.below hb8)
            have HG8 := Lib.hid (isGs_below hb8 HG7.out)
            have x1 := cell_below hb8 _ _ x1
            have x2 := cell_below hb8 _ _ x2
            clear hb8 H7 HG7 HW x0 HX7 r0 r1
            go_wp2_with fail
            refine (HD.out _ _ _ H8.out.bel HG8.out).mono ?_
            rintro e w9 ⟨rfl, hb9⟩
            have H9 := Lib.hid (H8.out.below hb9)
            clear hb9 H8 HG8 HD x1 x2
            go_wp2_with fail
            refine (HKN.out _ H9.out.bel).mono ?_
            rintro e w10 ⟨rfl, rfl⟩
            clear HKN
            obtain ⟨x1, x2, ⟨⟨_, q1⟩, q1', q1''⟩, ⟨⟨_, q2⟩, q2', q2''⟩, d0, d1, hg8, -⟩ := store_two H9.out.res (.slice none 0 0) (.int .i64 0)
            have HF8 := Lib.hid (H9.out.fin hg8)
            clear hg8
            go_wp2_with fail
            refine bodyPost_ret (v := .tuple #[.agg #[.slice none 0 0, .int .i64 0], .int .i64 91]) (by simp [results, Tryz.results12, go_sem, d0, d1]) rfl ?_
            exact ⟨⟨_, rfl, isS_zero _⟩, HF8.out⟩
      · rw [if_neg hX]
        have z1 : (X == 0) = false := beqI hX
        have z2 : (X != 0) = true := bne_iff_ne.2 hX
        rw [if_neg hX]
        clear HTS HGS HPS hl1000 HM hrd hX HKN HD
        generalize s.l.map (setT p ps) = MM at *
        generalize s.l.length = n at *
        generalize s.made = md at *
        generalize ps.length = pn at *
        go_enter Tryz.func12, Tryz.ntmps12
        go_wp2_with fail
        try rw [hW2]
        clear hW2
        refine (HC.out _ HB0.out.bel).mono ?_
        rintro e w5 ⟨rfl, hb5⟩
        have H5 := Lib.hid (HB0.out.below hb5)
        obtain ⟨r0, r1⟩ := two_cells H5.out.box
        clear HB0 hb5 HC
        go_wp2_with fail
        refine (HGT.out _ H5.out.bel).mono ?_
        rintro e w6 ⟨⟨v6, rfl, pv6, rfl, hg6, -⟩, hb6⟩
        obtain ⟨o6, c6, rfl⟩ : ∃ o6 c6, pv6 = .slice o6 TG.ps.length c6 := by obtain ⟨a, cap, ⟨o, rfl, _⟩, _⟩ := hg6; exact ⟨_, _, rfl⟩
        have H6 := Lib.hid (H5.out.below hb6)
        have A7 : KB w6 (w6.alloc (.cells #[.string TG.ph, .string TG.ty, .slice o6 TG.ps.length c6] 52)) := kbA
        have H7 := Lib.hid (H6.out.below A7)
        have HG7 := Lib.hid (isGs_below A7 hg6)
        have HX7 := Lib.hid (World.alloc_heap_new w6 (.cells #[.string TG.ph, .string TG.ty, .slice o6 TG.ps.length c6] 52))
        have hs7 := World.size_alloc w6 (.cells #[.string TG.ph, .string TG.ty, .slice o6 TG.ps.length c6] 52)
        clear r0 r1
        obtain ⟨r0, r1⟩ := two_cells H7.out.box
        clear H5 H6 hb6 hg6 A7 HGT
        obtain ⟨x0, x1, x2⟩ := three_cells HX7.out
        clear hs7
        go_wp2_with fail
        generalize hW7 : w6.alloc (.cells #[.string TG.ph, .string TG.ty, .slice o6 TG.ps.length c6] 52) = W7 at *
        clear hW7
        refine (HW.out _ H7.out.bel).mono ?_
        rintro e w8 ⟨rfl, hb8⟩
        have H8 := Lib.hid (H7.out.below hb8)
        clear hb8 H7 HG7 HW x0 x1 x2 HX7 r0 r1
        obtain ⟨x1, x2, ⟨⟨_, q1⟩, q1', q1''⟩, ⟨⟨_, q2⟩, q2', q2''⟩, d0, d1, hg8, -⟩ := store_two H8.out.res (.slice none 0 0) (.int .i64 0)
        have HF8 := Lib.hid (H8.out.fin hg8)
        clear hg8
        go_wp2_with fail
        refine bodyPost_ret (v := .tuple #[.agg #[.slice none 0 0, .int .i64 0], .int .i64 X]) (by simp [results, Tryz.results12, go_sem, d0, d1]) rfl ?_
        exact ⟨⟨_, rfl, isS_zero _⟩, HF8.out⟩
  · rw [if_neg hC]
    have hC2 := htwo hC
    subst hC2
    clear htwo hC hset HTS HGT hm h hts hF hP hg HKN HGS HFS HPS hl1000
    generalize s.l.length = n at *
    generalize s.made = md at *
    generalize ps.length = pn at *
    go_enter Tryz.func12, Tryz.ntmps12
    go_wp2_with fail
    try rw [hW2]
    clear hW2
    refine (HC.out _ HB0.out.bel).mono ?_
    rintro e w5 ⟨rfl, hb5⟩
    have H5 := Lib.hid (HB0.out.below hb5)
    obtain ⟨r0, r1⟩ := two_cells H5.out.box
    clear HB0 hb5 HC
    clear r0 r1
    obtain ⟨x1, x2, ⟨⟨_, q1⟩, q1', q1''⟩, ⟨⟨_, q2⟩, q2', q2''⟩, d0, d1, hg8, -⟩ := store_two H5.out.res (.slice none 0 0) (.int .i64 0)
    have HF8 := Lib.hid (H5.out.fin hg8)
    clear hg8
    go_wp2_with fail
    refine bodyPost_ret (v := .tuple #[.agg #[.slice none 0 0, .int .i64 0], .int .i64 2]) (by simp [results, Tryz.results12, go_sem, d0, d1]) rfl ?_
    exact ⟨⟨_, rfl, isS_zero _⟩, HF8.out⟩
end Go.Proofs.YtdckldfekepopaaGreatDoor
