/-
  StoreUndo: plain; the law's Great.
-/
import Derived.Test.YtdckldfekepopaaGreatDoorVn
import Derived.Test.YtdckldfekepopaaGreatDoorYF
set_option linter.unusedVariables false
set_option linter.unusedSimpArgs false
namespace Go.Proofs.YtdckldfekepopaaGreatDoor
open Go.RowKit

theorem undo_create {s : St} {K : ByteArray} {ps : List G} (h : (createL s K ps).2.2 = 0) :
    deleteL (createL s K ps).1 (createL s K ps).2.1 = (⟨s.l, s.made + 1⟩, 0) ∧ (0 ≤ s.made ∧ s.made < 1099511627776) := by
  obtain ⟨h1, h2, h3, h4, h5⟩ := create_ok h
  refine ⟨?_, h1.1.1, h3⟩
  rw [h4]
  dsimp only
  have hj : s.l.length < (s.l ++ [(⟨physS (s.made + 1), K, ps⟩ : Th)]).length := by simp
  have hI := idx_at h5 (i := s.l.length) hj
  have hE : ((⟨s.l ++ [⟨physS (s.made + 1), K, ps⟩], s.made + 1⟩ : St).l[s.l.length]'hj).ph = physS (s.made + 1) := by
    show ((s.l ++ [(⟨physS (s.made + 1), K, ps⟩ : Th)])[s.l.length]'hj).ph = _
    rw [List.getElem_append_right (Nat.le_refl _)]
    simp
  rw [hE] at hI
  unfold deleteL
  rw [if_pos ((okS_iff _).2 h5), hI]
  show ((⟨(s.l ++ [(⟨physS (s.made + 1), K, ps⟩ : Th)]).take s.l.length ++ (s.l ++ [(⟨physS (s.made + 1), K, ps⟩ : Th)]).drop (s.l.length + 1), s.made + 1⟩, 0) : St × Int) = _
  congr 2
  rw [List.take_left', List.drop_eq_nil_of_le (by simp), List.append_nil]
  rfl
theorem undo_update {s : St} {p : ByteArray} {ps : List G} (h : (updateL s p ps).2 = 0) :
    ∃ t, t ∈ s.l ∧ t.ph = p ∧ getT s p = (t, true) ∧ updateL (updateL s p ps).1 p t.ps = (s, 0) ∧ getT (updateL s p ps).1 p = (⟨p, t.ty, ps⟩, true) := by
  obtain ⟨h1, j, h2, hj, h3, h4, h5, h6, h7, h8⟩ := update_ok h
  have hjl : j < (s.l.set j (⟨s.l[j].ph, s.l[j].ty, ps⟩ : Th)).length := by simpa using hj
  have hv : (s.l.set j ⟨s.l[j].ph, s.l[j].ty, ps⟩)[j]'hjl = ⟨s.l[j].ph, s.l[j].ty, ps⟩ := by rw [List.getElem_set]; simp
  have hI : idxT (s.l.set j ⟨s.l[j].ph, s.l[j].ty, ps⟩) p = some j := by
    have := idx_at h8 (i := j) hjl
    have e : ((⟨s.l.set j ⟨s.l[j].ph, s.l[j].ty, ps⟩, s.made⟩ : St).l[j]'hjl).ph = p := by
      show ((s.l.set j ⟨s.l[j].ph, s.l[j].ty, ps⟩)[j]'hjl).ph = p
      rw [hv]; exact h3
    rwa [e] at this
  have hg1 := get_mem h1 (List.getElem_mem hj)
  rw [h3] at hg1
  obtain ⟨d1, d2⟩ := differ_back (h1.2.1 _ (List.getElem_mem hj)).2.2 h4 h6
  refine ⟨s.l[j], List.getElem_mem hj, h3, hg1, ?_, ?_⟩
  · rw [h7]
    show updateL ⟨s.l.set j ⟨s.l[j].ph, s.l[j].ty, ps⟩, s.made⟩ p s.l[j].ps = _
    unfold updateL
    rw [if_pos ((okS_iff _).2 h8)]
    dsimp only
    rw [hI]
    dsimp only
    rw [getD_t hjl, hv]
    dsimp only
    rw [if_pos (h1.2.1 _ (List.getElem_mem hj)).2.2, if_pos d1, if_neg d2, List.set_set]
    congr 1
    obtain ⟨l, m⟩ := s
    dsimp only
    congr 1
    exact List.set_getElem_self hj
  · rw [h7]
    show getT ⟨s.l.set j ⟨s.l[j].ph, s.l[j].ty, ps⟩, s.made⟩ p = _
    unfold getT
    dsimp only
    rw [hI]
    dsimp only
    rw [getD_t hjl, hv, h3]

/-- What is too great to be asked. -/
def lgreat (s : St) (ps : List G) (k : ByteArray) : Bool := greatS s || (greatG ps || decide (400 < k.size))
set_option maxRecDepth 100000 in
set_option maxHeartbeats 4000000 in
theorem lgreat_any (s : St) (ps : List G) (k : ByteArray) (v u : Value) (w : World) (hk : k.size ≤ maxLen) (h : isS w s v) (h' : isGs w ps u) :
    Calls Tryz.prog 6 #[v, u, .string k] w fun e w' => e = .returned (.bool (lgreat s ps k)) ∧ Below w.heap.size w w' := by
  unfold maxLen at hk
  have HS : Hid (∀ w1, KB w w1 → Calls Tryz.prog 23 #[v] w1 fun e w' => e = .returned (.bool (greatS s)) ∧ Below w1.heap.size w1 w') := Lib.hid fun w1 hk => great10_any s _ w1 (isS_below hk h)
  have HG : Hid (∀ w1, KB w w1 → Calls Tryz.prog 24 #[u] w1 fun e w' => e = .returned (.bool (greatG ps)) ∧ Below w1.heap.size w1 w') := Lib.hid fun w1 hk => great9_any ps _ w1 (isGs_below hk h')
  obtain ⟨o, cap, rfl, -, -⟩ := isS_two h
  obtain ⟨a', cap', ⟨o', rfl, -⟩, -⟩ := h'
  have HO : Hid (∀ w1, Calls Tryz.prog 10 #[.agg #[.slice o s.l.length cap, .int .i64 s.made]] w1 fun e w' => e = .returned (.agg #[.slice o s.l.length cap, .int .i64 s.made]) ∧ Below w1.heap.size w1 w') := Lib.hid fun w1 => own_any _ _ w1 _ _ _ rfl
  have HB0 : Hid (KB w (w.alloc (.cells #[.slice o s.l.length cap, .int .i64 s.made] 24))) := Lib.hid kbA
  obtain ⟨r, hr⟩ : ∃ r, lgreat s ps k = r := ⟨_, rfl⟩
  rw [hr]
  have HR := Lib.hid hr
  clear h hr
  unfold lgreat at HR
  generalize greatS s = x1 at *
  generalize greatG ps = x2 at *
  generalize s.l.length = n at *
  generalize s.made = md at *
  go_enter Tryz.func6, Tryz.ntmps6
  go_wp2_with fail
  refine (HO.out _).mono ?_
  rintro e w5 ⟨rfl, hb5⟩
  have H5 := Lib.hid (HB0.out.trans (hb5.mono HB0.out.size))
  clear hb5 HO HB0
  go_wp2_with fail
  refine (HS.out _ H5.out).mono ?_
  rintro e w6 ⟨rfl, hb6⟩
  have H6 := Lib.hid (H5.out.trans (hb6.mono H5.out.size))
  clear hb6 HS H5
  cases x1 with
  | true =>
    have HR2 : Hid (r = true) := Lib.hid (by rw [← HR.out]; rfl)
    go_wp2_with fail
    go_ret
    exact ⟨ret_bool HR2.out.symm, H6.out⟩
  | false =>
    go_wp2_with fail
    refine (HG.out _ H6.out).mono ?_
    rintro e w7 ⟨rfl, hb7⟩
    have H7 := Lib.hid (H6.out.trans (hb7.mono H6.out.size))
    clear hb7 HG H6
    cases x2 with
    | true =>
      have HR2 : Hid (r = true) := Lib.hid (by rw [← HR.out]; rfl)
      go_wp2_with fail
      go_ret
      exact ⟨ret_bool HR2.out.symm, H7.out⟩
    | false =>
      have HR2 : Hid (r = decide ((400 : Int) < (k.size : Int))) := Lib.hid (by
        rw [← HR.out]
        show decide (400 < k.size) = _
        exact decide_eq_decide.2 (by omega))
      go_wp2_with fail
      go_ret
      exact ⟨ret_bool HR2.out.symm, H7.out⟩
end Go.Proofs.YtdckldfekepopaaGreatDoor
