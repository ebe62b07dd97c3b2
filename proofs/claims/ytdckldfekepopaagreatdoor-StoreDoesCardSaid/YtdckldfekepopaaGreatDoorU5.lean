/-
  StoreDoes: the walk. · A store that comes in: what it reads as.
-/
import Derived.Test.YtdckldfekepopaaGreatDoorU4
import Derived.Test.YtdckldfekepopaaGreatDoorYH
set_option linter.unusedVariables false
set_option linter.unusedSimpArgs false
namespace Go.Proofs.YtdckldfekepopaaGreatDoor
open Go.RowKit Go.Deep

def lgreatD (s : St) (ps : List G) (k : ByteArray) : Bool := greatS s || (greatG ps || decide (400 < k.size))
set_option maxRecDepth 100000 in
set_option maxHeartbeats 4000000 in
theorem lgreat_anyD (s : St) (ps : List G) (k : ByteArray) (v u : Value) (w : World) (hk : k.size ≤ maxLen) (h : isS w s v) (h' : isGs w ps u) :
    Calls Tryz.prog 6 #[v, u, .string k] w fun e w' => e = .returned (.bool (lgreatD s ps k)) ∧ Below w.heap.size w w' := by
  unfold maxLen at hk
  have HS : Hid (∀ w1, KB w w1 → Calls Tryz.prog 23 #[v] w1 fun e w' => e = .returned (.bool (greatS s)) ∧ Below w1.heap.size w1 w') := Lib.hid fun w1 hk => great10_any s _ w1 (isS_below hk h)
  have HG : Hid (∀ w1, KB w w1 → Calls Tryz.prog 24 #[u] w1 fun e w' => e = .returned (.bool (greatG ps)) ∧ Below w1.heap.size w1 w') := Lib.hid fun w1 hk => great9_any ps _ w1 (isGs_below hk h')
  obtain ⟨o, cap, rfl, -, -⟩ := isS_two h
  obtain ⟨a', cap', ⟨o', rfl, -⟩, -⟩ := h'
  have HO : Hid (∀ w1, Calls Tryz.prog 10 #[.agg #[.slice o s.l.length cap, .int .i64 s.made]] w1 fun e w' => e = .returned (.agg #[.slice o s.l.length cap, .int .i64 s.made]) ∧ Below w1.heap.size w1 w') := Lib.hid fun w1 => own_any _ _ w1 _ _ _ rfl
  have HB0 : Hid (KB w (w.alloc (.cells #[.slice o s.l.length cap, .int .i64 s.made] 24))) := Lib.hid kbA
  obtain ⟨r, hr⟩ : ∃ r, lgreatD s ps k = r := ⟨_, rfl⟩
  rw [hr]
  have HR := Lib.hid hr
  clear h hr
  unfold lgreatD at HR
  generalize greatS s = x1 at *
  generalize greatG ps = x2 at *
  generalize s.l.length = n at *
  generalize s.made = md at *
  go_enter Tryz.func6, Tryz.ntmps6
  go_wp2_with fail
  refine (HO.out _).mono ?_
  rintro e w5 ⟨rfl, hb5⟩
  have H5 := Lib.hid (HB0.out.trans (hb5.mono HB0.out.size))
  clear hb5 HO HB0
  go_wp2_with fail
  refine (HS.out _ H5.out).mono ?_
  rintro e w6 ⟨rfl, hb6⟩
  have H6 := Lib.hid (H5.out.trans (hb6.mono H5.out.size))
  clear hb6 HS H5
  cases x1 with
  | true =>
    have HR2 : Hid (r = true) := Lib.hid (by rw [← HR.out]; rfl)
    go_wp2_with fail
    go_ret
    exact ⟨ret_bool HR2.out.symm, H6.out⟩
  | false =>
    go_wp2_with fail
    refine (HG.out _ H6.out).mono ?_
    rintro e w7 ⟨rfl, hb7⟩
    have H7 := Lib.hid (H6.out.trans (hb7.mono H6.out.size))
    clear hb7 HG H6
    cases x2 with
    | true =>
      have HR2 : Hid (r = true) := Lib.hid (by rw [← HR.out]; rfl)
      go_wp2_with fail
      go_ret
      exact ⟨ret_bool HR2.out.symm, H7.out⟩
    | false =>
      have HR2 : Hid (r = decide ((400 : Int) < (k.size : Int))) := Lib.hid (by
        rw [← HR.out]
        show decide (400 < k.size) = _
        exact decide_eq_decide.2 (by omega))
      go_wp2_with fail
      go_ret
      exact ⟨ret_bool HR2.out.symm, H7.out⟩
theorem fine_zS : fineS zS := ⟨by show 0 ≤ 1000; omega, fun t ht => by cases ht⟩
theorem fine_createL {s : St} {K : ByteArray} {ps : List G} (hF : fineS s) (hl : s.l.length ≤ 40) (hK : K.size ≤ 400) (hP : fineG ps) : fineS (createL s K ps).1 := by
  unfold createL
  split
  · split
    · split
      · exact fine_zS
      · refine ⟨by show (s.l ++ [_]).length ≤ 1000; rw [List.length_append]; show s.l.length + 1 ≤ 1000; omega, fun t ht => ?_⟩
        have ht : t ∈ s.l ++ [_] := ht
        rcases List.mem_append.1 ht with ht | ht
        · exact hF.2 t ht
        · obtain rfl := List.mem_singleton.1 ht
          exact ⟨hK, hP⟩
    · exact fine_zS
  · exact fine_zS
theorem fine_deleteL {s : St} {p : ByteArray} (hF : fineS s) : fineS (deleteL s p).1 := by
  unfold deleteL
  split
  · split
    · rename_i j _
      refine ⟨?_, fun t ht => ?_⟩
      · show (s.l.take j ++ s.l.drop (j + 1)).length ≤ 1000
        have := hF.1
        rw [List.length_append, List.length_take, List.length_drop]
        omega
      · have ht : t ∈ s.l.take j ++ s.l.drop (j + 1) := ht
        rcases List.mem_append.1 ht with ht | ht
        · exact hF.2 t (List.mem_of_mem_take ht)
        · exact hF.2 t (List.mem_of_mem_drop ht)
    · exact fine_zS
  · exact fine_zS
theorem fine_updateL {s : St} {p : ByteArray} {ps : List G} (hF : fineS s) (hP : fineG ps) : fineS (updateL s p ps).1 := by
  unfold updateL
  split
  · split
    · rename_i j hj
      obtain ⟨hlt, -⟩ := idxT_at hj
      split
      · split
        · split
          · exact fine_zS
          · refine ⟨by show (s.l.set j _).length ≤ 1000; rw [List.length_set]; exact hF.1, fun t ht => ?_⟩
            have ht : t ∈ s.l.set j _ := ht
            rcases List.mem_or_eq_of_mem_set ht with ht | rfl
            · exact hF.2 t ht
            · refine ⟨?_, hP⟩
              show (s.l.getD j zTh).ty.size ≤ 400
              rw [getD_t hlt]
              exact (hF.2 _ (List.getElem_mem hlt)).1
        · exact fine_zS
      · exact fine_zS
    · exact fine_zS
  · exact fine_zS
/-- What lies there all along: the store's box; what came in. -/
structure UD (w : World) (s : St) (ps : List G) (o ou : Option Addr) (cap cu : Nat) (W : World) : Prop where
  bel : Below w.heap.size w W
  sz : w.heap.size < W.heap.size
  box : W.heap[w.heap.size]? = some (.cells #[.slice o s.l.length cap, .int .i64 s.made] 24 (0, 0))
  rd : isS W s (.agg #[.slice o s.l.length cap, .int .i64 s.made])
  ps : isGs W ps (.slice ou ps.length cu)
theorem UD.below {w : World} {s : St} {ps : List G} {o ou : Option Addr} {cap cu : Nat} {W W' : World} (h : UD w s ps o ou cap cu W) (hb : Below W.heap.size W W') : UD w s ps o ou cap cu W' := by
  have := h.sz; have := hb.size
  exact ⟨h.bel.trans (hb.mono h.bel.size), by omega, (hb.block _ h.sz).trans h.box, isS_below hb h.rd, isGs_below hb h.ps⟩
/-- A store in a box. -/
structure RB (t : TypeId) (s : St) (b : Nat) (o : Option Addr) (c : Nat) (W : World) : Prop where
  lt : b < W.heap.size
  box : W.heap[b]? = some (.cells #[.slice o s.l.length c, .int .i64 s.made] t (0, 0))
  rd : isS W s (.agg #[.slice o s.l.length c, .int .i64 s.made])
theorem RB.below {t : TypeId} {s : St} {b : Nat} {o : Option Addr} {c : Nat} {W W' : World} (h : RB t s b o c W) (hb : Below W.heap.size W W') : RB t s b o c W' :=
  ⟨Nat.lt_of_lt_of_le h.lt hb.size, (hb.block _ h.lt).trans h.box, isS_below hb h.rd⟩
theorem RB.new {t : TypeId} {s : St} {o : Option Addr} {c : Nat} {W : World} (h : isS W s (.agg #[.slice o s.l.length c, .int .i64 s.made])) : RB t s W.heap.size o c (W.alloc (.cells #[.slice o s.l.length c, .int .i64 s.made] t)) :=
  ⟨by simp, World.alloc_heap_new _ _, isS_below kbA h⟩
set_option maxRecDepth 100000 in
set_option maxHeartbeats 16000000 in
theorem StoreDoes_any (s : St) (v : Value) (K p : ByteArray) (u : Value) (ps : List G) (w : World) (hE : Env9 w) (h : isS w s v) (hK : K.size ≤ maxLen) (hp : p.size ≤ maxLen) (hg : isGs w ps u) :
    Calls Tryz.prog 3 #[v, .string K, .string p, u] w fun e w' => e = .returned (.bool true) ∧ Below w.heap.size w w' := by
  obtain ⟨o, cap, rfl, -, hm⟩ := isS_two h
  obtain ⟨ou, cu, rfl⟩ : ∃ ou cu, u = .slice ou ps.length cu := by obtain ⟨a, cap, ⟨o, rfl, _⟩, _⟩ := hg; exact ⟨_, _, rfl⟩
  unfold maxLen at hp
  have A0 : KB w (w.alloc (.cells #[.slice o s.l.length cap, .int .i64 s.made] 24)) := kbA
  have HU0 : Hid (UD w s ps o ou cap cu (w.alloc (.cells #[.slice o s.l.length cap, .int .i64 s.made] 24))) := Lib.hid ⟨A0, by simp, World.alloc_heap_new _ _, isS_below A0 h, isGs_below A0 hg⟩
  have HG := Lib.hid (lgreat_anyD s ps K _ _ (w.alloc (.cells #[.slice o s.l.length cap, .int .i64 s.made] 24)) hK HU0.out.rd HU0.out.ps)
  have HW : Hid (∀ w1, KB w w1 → Calls Tryz.prog 7 #[] w1 fun e w' => e = .returned (.bool true) ∧ Below w1.heap.size w1 w') := Lib.hid fun w1 hk => wakes10_any w1 (hE.kb hk)
  have HE := Lib.hid hE
  have HKM := Lib.hid hK
  clear h hg hE hK A0
  by_cases hL : lgreatD s ps K = true
  · rw [hL] at HG
    clear hL
    go_enter Tryz.func3, Tryz.ntmps3
    go_wp2_with fail
    refine HG.out.mono ?_
    rintro e w1 ⟨rfl, hb1⟩
    have H1 := Lib.hid (HU0.out.below hb1)
    clear hb1 HG HU0
    go_wp2_with fail
    refine (HW.out _ H1.out.bel).mono ?_
    rintro e w2 ⟨rfl, hb2⟩
    have H2 := Lib.hid (H1.out.below hb2)
    clear hb2 H1
    go_wp2_with fail
    go_ret
    exact ⟨rfl, H2.out.bel⟩
  · have hL' : lgreatD s ps K = false := by simpa using hL
    rw [hL'] at HG
    by_cases h4 : 400 < p.size
    · have y1 : decide ((400 : Int) < (p.size : Int)) = true := decide_eq_true (by omega)
      clear hL hL' h4
      go_enter Tryz.func3, Tryz.ntmps3
      go_wp2_with fail
      refine HG.out.mono ?_
      rintro e w1 ⟨rfl, hb1⟩
      have H1 := Lib.hid (HU0.out.below hb1)
      clear hb1 HG HU0
      go_wp2_with fail
      refine (HW.out _ H1.out.bel).mono ?_
      rintro e w2 ⟨rfl, hb2⟩
      have H2 := Lib.hid (H1.out.below hb2)
      clear hb2 H1
      go_wp2_with fail
      go_ret
      exact ⟨rfl, H2.out.bel⟩
    · have y1 : decide ((400 : Int) < (p.size : Int)) = false := decide_eq_false (by omega)
      have hgs : greatS s = false ∧ greatG ps = false ∧ K.size ≤ 400 := by
        unfold lgreatD at hL'
        rw [Bool.or_eq_false_iff, Bool.or_eq_false_iff] at hL'
        have := of_decide_eq_false hL'.2.2
        exact ⟨hL'.1, hL'.2.1, by omega⟩
      have HX : Hid (fineS s ∧ fineG ps ∧ K.size ≤ 400 ∧ s.l.length ≤ 40) := Lib.hid ⟨fineS_of hgs.1, fineG_of hgs.2.1, hgs.2.2, (greatS_no hgs.1).1⟩
      have hf1 : fineS (createL s K ps).1 := fine_createL HX.out.1 HX.out.2.2.2 HX.out.2.2.1 HX.out.2.1
      have hf2 : fineS (updateL s p ps).1 := fine_updateL HX.out.1 HX.out.2.1
      have hf3 : fineS (deleteL s p).1 := fine_deleteL HX.out.1
      have HPC : Hid (∀ w1, UD w s ps o ou cap cu w1 → Calls Tryz.prog 8 #[.agg #[.slice o s.l.length cap, .int .i64 s.made], .string K, .slice ou ps.length cu] w1 fun e w' => (∃ v', e = .returned (.tuple #[v', .string (createL s K ps).2.1, .int .i64 (createL s K ps).2.2]) ∧ isS w' (createL s K ps).1 v') ∧ Below w1.heap.size w1 w') := Lib.hid fun w1 hu => Create_any s K ps _ _ w1 (HE.out.kb hu.bel) HX.out.1 HX.out.2.2.1 HX.out.2.1 hu.rd hu.ps
      have HRC : Hid (∀ w1, UD w s ps o ou cap cu w1 → Calls Tryz.prog 9 #[.agg #[.slice o s.l.length cap, .int .i64 s.made], .string K, .slice ou ps.length cu] w1 fun e w' => (∃ v', e = .returned (.tuple #[v', .string (createL s K ps).2.1, .int .i64 (createL s K ps).2.2]) ∧ isS w' (createL s K ps).1 v') ∧ Below w1.heap.size w1 w') := Lib.hid fun w1 hu => rCreate_any s K ps _ _ w1 HX.out.1 HX.out.2.1 HKM.out hu.rd hu.ps
      have HPU : Hid (∀ w1, UD w s ps o ou cap cu w1 → Calls Tryz.prog 11 #[.agg #[.slice o s.l.length cap, .int .i64 s.made], .string p, .slice ou ps.length cu] w1 fun e w' => (∃ v', e = .returned (.tuple #[v', .int .i64 (updateL s p ps).2]) ∧ isS w' (updateL s p ps).1 v') ∧ Below w1.heap.size w1 w') := Lib.hid fun w1 hu => Update_any s p ps _ _ w1 (HE.out.kb hu.bel) HX.out.1 HX.out.2.1 hu.rd hu.ps
      have HRU : Hid (∀ w1, UD w s ps o ou cap cu w1 → Calls Tryz.prog 12 #[.agg #[.slice o s.l.length cap, .int .i64 s.made], .string p, .slice ou ps.length cu] w1 fun e w' => (∃ v', e = .returned (.tuple #[v', .int .i64 (updateL s p ps).2]) ∧ isS w' (updateL s p ps).1 v') ∧ Below w1.heap.size w1 w') := Lib.hid fun w1 hu => rUpdate_any s p ps _ _ w1 HX.out.1 HX.out.2.1 hu.rd hu.ps
      have HPD : Hid (∀ w1, UD w s ps o ou cap cu w1 → Calls Tryz.prog 13 #[.agg #[.slice o s.l.length cap, .int .i64 s.made], .string p] w1 fun e w' => (∃ v', e = .returned (.tuple #[v', .int .i64 (deleteL s p).2]) ∧ isS w' (deleteL s p).1 v') ∧ Below w1.heap.size w1 w') := Lib.hid fun w1 hu => Delete_any s p _ w1 (HE.out.kb hu.bel) HX.out.1 hu.rd
      have HRD : Hid (∀ w1, UD w s ps o ou cap cu w1 → Calls Tryz.prog 14 #[.agg #[.slice o s.l.length cap, .int .i64 s.made], .string p] w1 fun e w' => (∃ v', e = .returned (.tuple #[v', .int .i64 (deleteL s p).2]) ∧ isS w' (deleteL s p).1 v') ∧ Below w1.heap.size w1 w') := Lib.hid fun w1 hu => rDelete_any s p _ w1 HX.out.1 hu.rd
      have HO : Hid (∀ w1, Calls Tryz.prog 10 #[.agg #[.slice o s.l.length cap, .int .i64 s.made]] w1 fun e w' => e = .returned (.agg #[.slice o s.l.length cap, .int .i64 s.made]) ∧ Below w1.heap.size w1 w') := Lib.hid fun w1 => own_any _ _ w1 _ _ _ rfl
      generalize createL s K ps = C1 at *
      generalize updateL s p ps = C2 at *
      generalize deleteL s p = C3 at *
      obtain ⟨t1, p1, e1⟩ := C1
      obtain ⟨t2, e2⟩ := C2
      obtain ⟨t3, e3⟩ := C3
      dsimp only at hf1 hf2 hf3 HPC HRC HPU HRU HPD HRD
      have HF1 := Lib.hid hf1
      have HF2 := Lib.hid hf2
      have HF3 := Lib.hid hf3
      clear hL hL' h4 hgs hf1 hf2 hf3
      go_enter Tryz.func3, Tryz.ntmps3
      go_wp2_with fail
      refine HG.out.mono ?_
      rintro e w1 ⟨rfl, hb1⟩
      have H0 := Lib.hid (HU0.out.below hb1)
      obtain ⟨r0, r1⟩ := two_cells H0.out.box
      clear hb1 HG HU0
      go_wp2_with fail
      refine (HPC.out _ H0.out).mono ?_
      rintro e w2 ⟨⟨v2, rfl, hs2⟩, hb2⟩
      obtain ⟨o2, c2, rfl, -, -⟩ := isS_two hs2
      have A2 := hb2.trans (Below.mono (kbA (w := w2) (o := .cells #[.slice o2 t1.l.length c2, .int .i64 t1.made] 24)) hb2.size)
      have H2 := Lib.hid (H0.out.below A2)
      have B1 := Lib.hid (RB.new (t := 24) hs2)
      clear hb2 A2 hs2 H0 HPC r0 r1
      obtain ⟨r0, r1⟩ := two_cells H2.out.box
      go_wp2_with fail
      refine (HO.out _).mono ?_
      rintro e w3 ⟨rfl, hb3⟩
      have H3 := Lib.hid (H2.out.below hb3)
      have B1 := Lib.hid (B1.out.below hb3)
      clear hb3 H2 r0 r1
      obtain ⟨r0, r1⟩ := two_cells H3.out.box
      go_wp2_with fail
      refine (HRC.out _ H3.out).mono ?_
      rintro e w4 ⟨⟨v4, rfl, hs4⟩, hb4⟩
      obtain ⟨o4, c4, rfl, -, -⟩ := isS_two hs4
      have A4 := hb4.trans (Below.mono (kbA (w := w4) (o := .cells #[.slice o4 t1.l.length c4, .int .i64 t1.made] 31)) hb4.size)
      have H4 := Lib.hid (H3.out.below A4)
      have B1 := Lib.hid (B1.out.below A4)
      have B2 := Lib.hid (RB.new (t := 31) hs4)
      clear hb4 A4 hs4 H3 HRC r0 r1
      obtain ⟨r0, r1⟩ := two_cells H4.out.box
      go_wp2_with fail
      refine (HPU.out _ H4.out).mono ?_
      rintro e w5 ⟨⟨v5, rfl, hs5⟩, hb5⟩
      obtain ⟨o5, c5, rfl, -, -⟩ := isS_two hs5
      have A5 := hb5.trans (Below.mono (kbA (w := w5) (o := .cells #[.slice o5 t2.l.length c5, .int .i64 t2.made] 24)) hb5.size)
      have H5 := Lib.hid (H4.out.below A5)
      have B1 := Lib.hid (B1.out.below A5)
      have B2 := Lib.hid (B2.out.below A5)
      have B3 := Lib.hid (RB.new (t := 24) hs5)
      clear hb5 A5 hs5 H4 HPU r0 r1
      obtain ⟨r0, r1⟩ := two_cells H5.out.box
      go_wp2_with fail
      refine (HO.out _).mono ?_
      rintro e w6 ⟨rfl, hb6⟩
      have H6 := Lib.hid (H5.out.below hb6)
      have B1 := Lib.hid (B1.out.below hb6)
      have B2 := Lib.hid (B2.out.below hb6)
      have B3 := Lib.hid (B3.out.below hb6)
      clear hb6 H5 r0 r1
      obtain ⟨r0, r1⟩ := two_cells H6.out.box
      go_wp2_with fail
      refine (HRU.out _ H6.out).mono ?_
      rintro e w7 ⟨⟨v7, rfl, hs7⟩, hb7⟩
      obtain ⟨o7, c7, rfl, -, -⟩ := isS_two hs7
      have A7 := hb7.trans (Below.mono (kbA (w := w7) (o := .cells #[.slice o7 t2.l.length c7, .int .i64 t2.made] 31)) hb7.size)
      have H7 := Lib.hid (H6.out.below A7)
      have B1 := Lib.hid (B1.out.below A7)
      have B2 := Lib.hid (B2.out.below A7)
      have B3 := Lib.hid (B3.out.below A7)
      have B4 := Lib.hid (RB.new (t := 31) hs7)
      clear hb7 A7 hs7 H6 HRU r0 r1
      obtain ⟨r0, r1⟩ := two_cells H7.out.box
      go_wp2_with fail
      refine (HPD.out _ H7.out).mono ?_
      rintro e w8 ⟨⟨v8, rfl, hs8⟩, hb8⟩
      obtain ⟨o8, c8, rfl, -, -⟩ := isS_two hs8
      have A8 := hb8.trans (Below.mono (kbA (w := w8) (o := .cells #[.slice o8 t3.l.length c8, .int .i64 t3.made] 24)) hb8.size)
      have H8 := Lib.hid (H7.out.below A8)
      have B1 := Lib.hid (B1.out.below A8)
      have B2 := Lib.hid (B2.out.below A8)
      have B3 := Lib.hid (B3.out.below A8)
      have B4 := Lib.hid (B4.out.below A8)
      have B5 := Lib.hid (RB.new (t := 24) hs8)
      clear hb8 A8 hs8 H7 HPD r0 r1
      obtain ⟨r0, r1⟩ := two_cells H8.out.box
      go_wp2_with fail
      refine (HO.out _).mono ?_
      rintro e w9 ⟨rfl, hb9⟩
      have H9 := Lib.hid (H8.out.below hb9)
      have B1 := Lib.hid (B1.out.below hb9)
      have B2 := Lib.hid (B2.out.below hb9)
      have B3 := Lib.hid (B3.out.below hb9)
      have B4 := Lib.hid (B4.out.below hb9)
      have B5 := Lib.hid (B5.out.below hb9)
      clear hb9 H8 r0 r1
      obtain ⟨r0, r1⟩ := two_cells H9.out.box
      go_wp2_with fail
      refine (HRD.out _ H9.out).mono ?_
      rintro e w10 ⟨⟨v10, rfl, hs10⟩, hb10⟩
      obtain ⟨o10, c10, rfl, -, -⟩ := isS_two hs10
      have A10 := hb10.trans (Below.mono (kbA (w := w10) (o := .cells #[.slice o10 t3.l.length c10, .int .i64 t3.made] 31)) hb10.size)
      have H10 := Lib.hid (H9.out.below A10)
      have B1 := Lib.hid (B1.out.below A10)
      have B2 := Lib.hid (B2.out.below A10)
      have B3 := Lib.hid (B3.out.below A10)
      have B4 := Lib.hid (B4.out.below A10)
      have B5 := Lib.hid (B5.out.below A10)
      have B6 := Lib.hid (RB.new (t := 31) hs10)
      clear hb10 A10 hs10 H9 HRD r0 r1
      obtain ⟨r0, r1⟩ := two_cells H10.out.box
      clear r0 r1
      obtain ⟨xB10, xB11⟩ := two_cells B1.out.box
      obtain ⟨xB20, xB21⟩ := two_cells B2.out.box
      obtain ⟨xB30, xB31⟩ := two_cells B3.out.box
      obtain ⟨xB40, xB41⟩ := two_cells B4.out.box
      obtain ⟨xB50, xB51⟩ := two_cells B5.out.box
      obtain ⟨xB60, xB61⟩ := two_cells B6.out.box
      show _
      dsimp only
      go_wp2_with fail
      refine (lsame_any t1 _ _ _ HF1.out B1.out.rd B2.out.rd).mono ?_
      rintro e w11 ⟨rfl, hb11⟩
      clear xB10 xB11 xB20 xB21 xB30 xB31 xB40 xB41 xB50 xB51 xB60 xB61
      have H11 := Lib.hid (H10.out.below hb11)
      have B1 := Lib.hid (B1.out.below hb11)
      have B2 := Lib.hid (B2.out.below hb11)
      have B3 := Lib.hid (B3.out.below hb11)
      have B4 := Lib.hid (B4.out.below hb11)
      have B5 := Lib.hid (B5.out.below hb11)
      have B6 := Lib.hid (B6.out.below hb11)
      clear hb11 H10
      obtain ⟨xB30, xB31⟩ := two_cells B3.out.box
      obtain ⟨xB40, xB41⟩ := two_cells B4.out.box
      obtain ⟨xB50, xB51⟩ := two_cells B5.out.box
      obtain ⟨xB60, xB61⟩ := two_cells B6.out.box
      go_wp2_with fail
      clear B1 B2
      refine (lsame_any t2 _ _ _ HF2.out B3.out.rd B4.out.rd).mono ?_
      rintro e w12 ⟨rfl, hb12⟩
      clear xB30 xB31 xB40 xB41 xB50 xB51 xB60 xB61
      have H12 := Lib.hid (H11.out.below hb12)
      have B3 := Lib.hid (B3.out.below hb12)
      have B4 := Lib.hid (B4.out.below hb12)
      have B5 := Lib.hid (B5.out.below hb12)
      have B6 := Lib.hid (B6.out.below hb12)
      clear hb12 H11
      obtain ⟨xB50, xB51⟩ := two_cells B5.out.box
      obtain ⟨xB60, xB61⟩ := two_cells B6.out.box
      go_wp2_with fail
      clear B3 B4
      refine (lsame_any t3 _ _ _ HF3.out B5.out.rd B6.out.rd).mono ?_
      rintro e w13 ⟨rfl, hb13⟩
      clear xB50 xB51 xB60 xB61
      have H13 := Lib.hid (H12.out.below hb13)
      have B5 := Lib.hid (B5.out.below hb13)
      have B6 := Lib.hid (B6.out.below hb13)
      clear hb13 H12
      go_wp2_with fail
      clear B5 B6
      refine (HW.out _ H13.out.bel).mono ?_
      rintro e w14 ⟨rfl, hb14⟩
      have HZ := Lib.hid (H13.out.below hb14)
      clear hb14
      go_wp2_with fail
      go_ret
      exact ⟨rfl, HZ.out.bel⟩
end Go.Proofs.YtdckldfekepopaaGreatDoor

namespace Go.Proofs.YtdckldfekepopaaGreatDoor
open Go.ChangeShapes Go.WideShapes Go.ChangeAt Go.RowKit Go.ChangeMaps Go.Deep

section
variable {H : Type} {enc : TypeId × Value → H} {w : World} {base : Nat} {spare : Nat → Bool} {held : Bool}
theorem undThD : ∃ f0 f1 f2 : Field, Tryz.prog.underlying 52 = some (.struct #[f0, f1, f2]) ∧ f0.type = 9 ∧ f0.offset = 0 ∧ f1.type = 9 ∧ f1.offset = 1 ∧ f2.type = 25 ∧ f2.offset = 2 :=
  ⟨_, _, _, Tryz.underlying52, rfl, rfl, rfl, rfl, rfl, rfl⟩
theorem cellsThD : Tryz.prog.cellsOf 52 = 3 := by kernel_rfl
theorem cellsTsD : Tryz.prog.cellsOf 22 = 1 := by kernel_rfl
theorem undStD : ∃ f0 f1 : Field, Tryz.prog.underlying 24 = some (.struct #[f0, f1]) ∧ f0.type = 22 ∧ f0.offset = 0 ∧ f1.type = 3 ∧ f1.offset = 1 :=
  ⟨_, _, Tryz.underlying24, rfl, rfl, rfl, rfl⟩
theorem cellsStD : Tryz.prog.cellsOf 24 = 2 := by kernel_rfl
theorem thing_cellsD {n : Nat} {cs : List Value} {x : DataW H × List MemPlace} (h : DataW.trod enc Tryz.prog w base spare held n 52 cs = some x) :
    ∃ (t : Th) (pv : Value), cs = [.string t.ph, .string t.ty, pv] ∧ isGs w t.ps pv ∧ t.ph.size ≤ maxLen ∧ t.ty.size ≤ maxLen := by
  obtain ⟨f0', f1', f2', hu, t0, o0, t1, o1, t2, o2⟩ := undThD
  obtain ⟨xs, m, rfl, rfl, hl, hxl, hall⟩ := DataW.trod_struct hu h
  rw [cellsThD] at hl
  obtain ⟨d0, d1, d2, rfl⟩ := list3 hl
  obtain ⟨a, b, c, rfl⟩ := list3 (l := xs) hxl
  have h0 := hall 0 f0' rfl
  have h1 := hall 1 f1' rfl
  have h2 := hall 2 f2' rfl
  simp only [t0, o0, t1, o1, t2, o2, cells9, cellsGs, List.drop_succ_cons, List.drop_zero, List.take_succ_cons, List.take_zero, List.getElem?_cons_zero, List.getElem?_cons_succ] at h0 h1 h2
  obtain ⟨s0, e0, _, hs0⟩ := DataW.trod_string Tryz.underlying9 h0
  obtain ⟨s1, e1, _, hs1⟩ := DataW.trod_string Tryz.underlying9 h1
  obtain ⟨L, hL⟩ := open_gs h2
  simp only [List.cons.injEq, and_true] at e0 e1
  exact ⟨⟨s0, s1, L⟩, d2, by rw [e0, e1], hL, hs0, hs1⟩
instance instThD : Inhabited Th := ⟨⟨⟨#[]⟩, ⟨#[]⟩, []⟩⟩
set_option maxRecDepth 100000 in
theorem open_tsD {fuel : Nat} {v : Value} {y : DataW H × List MemPlace} (e4 : DataW.trod enc Tryz.prog w base spare held fuel 22 [v] = some y) : ∃ L : List Th, isTs w L v := by
  rcases DataW.trod_slice Tryz.underlying22 e4 with ⟨h0, _⟩ | ⟨a, len, cap, elems, rest, n', hn', h0, hy, _, hlc, hcm, hel, hall, _⟩
  · obtain rfl : v = .slice none 0 0 := by simpa using h0
    exact ⟨[], ⟨0, 0, none⟩, 0, ⟨none, rfl, Nat.le_refl _, by unfold maxLen; omega, fun h => absurd h (by decide)⟩, fun i hi => absurd hi (by simp)⟩
  · obtain rfl : v = .slice (some a) len cap := by simpa using h0
    obtain ⟨l, hl, hp⟩ := list_of len (fun i (t : Th) => isTat w t (a.add (i * 3))) (fun i hi => by
      have hi2 := hall i hi
      rw [List.getElem?_eq_getElem (by omega)] at hi2
      obtain ⟨ds, hd1, hd2⟩ := Option.bind_eq_some_iff.1 hi2
      rw [cellsThD] at hd1
      obtain ⟨_, hdl, hdc⟩ := World.cells?_some hd1
      obtain ⟨t, pv, hds, hX, hs0, hs1⟩ := thing_cellsD hd2
      subst hds
      have g0 := hdc 0 (by omega)
      have g1 := hdc 1 (by omega)
      have g2 := hdc 2 (by omega)
      rw [add_add] at g0 g1 g2
      rw [add_succ _ _ _ (by decide)] at g1 g2
      exact ⟨t, pv, g0, g1, g2, hX, hs0, hs1⟩)
    subst hl
    exact ⟨l, a, cap, ⟨some a, rfl, hlc, hcm, fun _ => rfl⟩, hp⟩
set_option maxRecDepth 100000 in
/-- An argument of type Store. -/
theorem open_arg_T {r : Reach} {b0 : Nat} {v : Value} {d : DataW H} {ps : List MemPlace} (hv : Value.okWide Tryz.prog w r b0 24 v) (h : DataW.Trod enc Tryz.prog w base spare held 24 v d ps) : ∃ s : St, isS w s v := by
  obtain ⟨cs, rfl, hsz⟩ := okWide_struct Tryz.underlying24 hv
  obtain ⟨fuel, hf⟩ := h
  have h : DataW.trod enc Tryz.prog w base spare held fuel 24 cs.toList = some (d, ps) := by simpa [Value.cells] using hf
  obtain ⟨f0', f1', hu, t0, o0, t1, o1⟩ := undStD
  obtain ⟨xs, m, rfl, hx, hl, hxl, hall⟩ := DataW.trod_struct hu h
  rw [cellsStD] at hl
  obtain ⟨cs⟩ := cs
  match cs, hl with
  | [lv, mv], _ =>
    match xs, hxl with
    | [y0, y1], _ =>
      have h0 := hall 0 f0' rfl
      have h1 := hall 1 f1' rfl
      simp only [t0, o0, t1, o1, cellsTsD, cellsInt, List.drop_succ_cons, List.drop_zero, List.take_succ_cons, List.take_zero, List.getElem?_cons_zero, List.getElem?_cons_succ] at h0 h1
      obtain ⟨L, hL⟩ := open_tsD h0
      obtain ⟨k, e1, _, wk⟩ := DataW.trod_int Tryz.underlying3 h1
      simp only [List.cons.injEq, and_true] at e1
      subst e1
      exact ⟨⟨L, k⟩, lv, rfl, hL, by simp [Lit.wf, IntKind.min, IntKind.max, IntKind.bits, IntKind.signed] at wk; omega⟩
end
end Go.Proofs.YtdckldfekepopaaGreatDoor
