/-
  Plain: stores that may be; what creates, updates, deletes leave.
-/
import Derived.Test.YtdckldfekepopaaGreatDoorYB
import Derived.Test.YtdckldfekepopaaGreatDoorZY
set_option linter.unusedVariables false
set_option linter.unusedSimpArgs false
namespace Go.Proofs.YtdckldfekepopaaGreatDoor
open Go.RowKit

def Nt (t : Th) : Int := (numL t.ph).1
def okTh (made : Int) (t : Th) : Prop := (numL t.ph).2 = true ∧ Nt t ≤ made ∧ wrongL t.ty t.ps = 0
def okS (s : St) : Prop := (0 ≤ s.made ∧ s.made ≤ 1099511627776) ∧ (∀ t ∈ s.l, okTh s.made t) ∧ s.l.Pairwise (fun a b => Nt a < Nt b)
theorem num_true {s : ByteArray} (h : (numL s).2 = true) : s = physS (numL s).1 ∧ 1 ≤ (numL s).1 := by
  have e : numL s = ((numL s).1, true) := by rw [← h]
  obtain ⟨h1, h2, _⟩ := num_form e
  exact ⟨h1, h2⟩
theorem okS_iff (s : St) : checkS s = 0 ↔ okS s := by
  rw [checkS_ok]
  constructor
  · rintro ⟨h1, h2, h3⟩
    have hst : ∀ i (hi : i < s.l.length), (numL s.l[i].ph).2 = true ∧ lastN s.l i < Nt s.l[i] ∧ Nt s.l[i] ≤ s.made ∧ wrongL s.l[i].ty s.l[i].ps = 0 := fun i hi => by
      have := h3 i hi
      unfold stepT at this
      rw [getD_t hi] at this
      simp only [Bool.and_eq_true, decide_eq_true_eq] at this
      exact ⟨this.1, this.2.1, this.2.2.1, this.2.2.2⟩
    refine ⟨⟨h1, h2⟩, fun t ht => ?_, ?_⟩
    · obtain ⟨i, hi, rfl⟩ := List.getElem_of_mem ht
      obtain ⟨q1, _, q3, q4⟩ := hst i hi
      exact ⟨q1, q3, q4⟩
    · rw [List.pairwise_iff_getElem]
      have step : ∀ d i (hi : i + d + 1 < s.l.length), Nt (s.l[i]'(by omega)) < Nt (s.l[i + d + 1]'hi) := by
        intro d
        induction d with
        | zero =>
          intro i hi
          have := (hst (i + 1) hi).2.1
          have e : lastN s.l (i + 1) = Nt (s.l[i]'(by omega)) := by
            show (numL (s.l.getD i zTh).ph).1 = _
            rw [getD_t (by omega)]; rfl
          rw [e] at this
          exact this
        | succ d ih =>
          intro i hi
          have h4 := ih i (by omega)
          have := (hst (i + d + 1 + 1) (by omega)).2.1
          have e : lastN s.l (i + d + 1 + 1) = Nt (s.l[i + d + 1]'(by omega)) := by
            show (numL (s.l.getD (i + d + 1) zTh).ph).1 = _
            rw [getD_t (by omega)]; rfl
          rw [e] at this
          exact Int.lt_trans h4 this
      intro i j hi hj hij
      obtain ⟨d, rfl⟩ : ∃ d, j = i + d + 1 := ⟨j - i - 1, by omega⟩
      exact step d i hj
  · rintro ⟨⟨h1, h2⟩, h3, h4⟩
    refine ⟨h1, h2, fun i hi => ?_⟩
    obtain ⟨q1, q2, q3⟩ := h3 _ (List.getElem_mem hi)
    unfold stepT
    rw [getD_t hi]
    simp only [Bool.and_eq_true, decide_eq_true_eq]
    refine ⟨q1, ?_, q2, q3⟩
    rcases i with _ | i
    · have := (num_true q1).2
      show (0 : Int) < _
      omega
    · show (numL (s.l.getD i zTh).ph).1 < _
      rw [getD_t (by omega)]
      exact (List.pairwise_iff_getElem.1 h4) i (i + 1) (by omega) hi (by omega)
theorem okS_uniq {s : St} (h : okS s) {i j : Nat} (hi : i < s.l.length) (hj : j < s.l.length) (e : s.l[i].ph = s.l[j].ph) : i = j := by
  have hp := List.pairwise_iff_getElem.1 h.2.2
  have en : Nt s.l[i] = Nt s.l[j] := by unfold Nt; rw [e]
  rcases Nat.lt_trichotomy i j with hl | hl | hl
  · have := hp i j hi hj hl; omega
  · exact hl
  · have := hp j i hj hi hl; omega
theorem idx_at {s : St} (h : okS s) {i : Nat} (hi : i < s.l.length) : idxT s.l s.l[i].ph = some i :=
  idxT_some hi rfl (fun k hk e => by have := okS_uniq h (by omega) hi e; omega)
theorem get_mem {s : St} (h : okS s) {t : Th} (ht : t ∈ s.l) : getT s t.ph = (t, true) := by
  obtain ⟨i, hi, rfl⟩ := List.getElem_of_mem ht
  unfold getT
  rw [idx_at h hi]
  show (s.l.getD i zTh, true) = _
  rw [getD_t hi]
theorem get_none {s : St} {p : ByteArray} (h : ∀ t ∈ s.l, t.ph ≠ p) : getT s p = (zTh, false) := by
  unfold getT
  rw [idxT_none (fun i hi => h _ (List.getElem_mem hi))]

/-! Create. -/
theorem create_ok {s : St} {K : ByteArray} {ps : List G} (h : (createL s K ps).2.2 = 0) :
    okS s ∧ wrongL K ps = 0 ∧ s.made < 1099511627776 ∧ createL s K ps = (⟨s.l ++ [⟨physS (s.made + 1), K, ps⟩], s.made + 1⟩, physS (s.made + 1), 0) ∧ okS ⟨s.l ++ [⟨physS (s.made + 1), K, ps⟩], s.made + 1⟩ := by
  unfold createL at h ⊢
  by_cases hC : checkS s = 0
  · rw [if_pos hC] at h ⊢
    by_cases hX : wrongL K ps = 0
    · rw [if_pos hX] at h ⊢
      by_cases hM : s.made = 1099511627776
      · rw [if_pos hM] at h
        exact absurd h (by decide)
      · rw [if_neg hM] at h ⊢
        have hs := (okS_iff s).1 hC
        have hn : numL (physS (s.made + 1)) = (s.made + 1, true) := num_phys (by have := hs.1.1; omega) (by have := hs.1.2; omega)
        refine ⟨hs, hX, by have := hs.1.2; omega, rfl, ⟨by have := hs.1.1; show 0 ≤ s.made + 1; omega, by have := hs.1.2; show s.made + 1 ≤ _; omega⟩, fun t ht => ?_, ?_⟩
        · rcases List.mem_append.1 ht with ht | ht
          · obtain ⟨q1, q2, q3⟩ := hs.2.1 t ht
            exact ⟨q1, by show Nt t ≤ s.made + 1; omega, q3⟩
          · rw [List.mem_singleton.1 ht]
            exact ⟨by show (numL (physS (s.made + 1))).2 = true; rw [hn], by show (numL (physS (s.made + 1))).1 ≤ s.made + 1; rw [hn]; exact Int.le_refl _, hX⟩
        · show (s.l ++ [_]).Pairwise _
          rw [List.pairwise_append]
          refine ⟨hs.2.2, List.pairwise_singleton _ _, fun a ha b hb => ?_⟩
          rw [List.mem_singleton.1 hb]
          show Nt a < (numL (physS (s.made + 1))).1
          rw [hn]
          have := (hs.2.1 a ha).2.1
          show Nt a < s.made + 1
          omega
    · rw [if_neg hX] at h
      exact absurd h hX
  · rw [if_neg hC] at h
    exact absurd h hC
/-! Delete. -/
theorem delete_ok {s : St} {p : ByteArray} (h : (deleteL s p).2 = 0) : okS s ∧ ∃ j, idxT s.l p = some j ∧ ∃ hj : j < s.l.length, s.l[j].ph = p ∧ deleteL s p = (⟨s.l.take j ++ s.l.drop (j + 1), s.made⟩, 0) ∧ okS ⟨s.l.take j ++ s.l.drop (j + 1), s.made⟩ ∧ (∀ t ∈ s.l.take j ++ s.l.drop (j + 1), t.ph ≠ p) ∧ (∀ t ∈ s.l, t.ph ≠ p → t ∈ s.l.take j ++ s.l.drop (j + 1)) := by
  unfold deleteL at h ⊢
  by_cases hC : checkS s = 0
  · rw [if_pos hC] at h ⊢
    have hs := (okS_iff s).1 hC
    cases hI : idxT s.l p with
    | none =>
      rw [hI] at h
      exact absurd (show (4 : Int) = 0 from h) (by decide)
    | some j =>
      obtain ⟨hj, hp, _⟩ := idxT_at hI
      have hsub : (s.l.take j ++ s.l.drop (j + 1)).Sublist s.l := by
        have h1 : s.l = s.l.take j ++ s.l.drop j := (List.take_append_drop j s.l).symm
        have h2 : (s.l.drop (j + 1)).Sublist (s.l.drop j) := by
          rw [← List.drop_drop]
          exact List.drop_sublist _ _
        have h3 := List.Sublist.append (List.Sublist.refl (s.l.take j)) h2
        rw [List.take_append_drop] at h3
        exact h3
      have hmem : ∀ t ∈ s.l.take j ++ s.l.drop (j + 1), ∃ i, ∃ hi : i < s.l.length, s.l[i] = t ∧ i ≠ j := fun t ht => by
        rcases List.mem_append.1 ht with ht | ht
        · obtain ⟨i, hi, rfl⟩ := List.mem_take_iff_getElem.1 ht
          exact ⟨i, by omega, rfl, by omega⟩
        · obtain ⟨i, hi, rfl⟩ := List.getElem_of_mem ht
          rw [List.length_drop] at hi
          exact ⟨j + 1 + i, by omega, by rw [List.getElem_drop], by omega⟩
      refine ⟨hs, j, rfl, hj, hp, rfl, ⟨hs.1, fun t ht => hs.2.1 t (hsub.mem ht), hs.2.2.sublist hsub⟩, fun t ht e => ?_, fun t ht hne => ?_⟩
      · obtain ⟨i, hi, rfl, hij⟩ := hmem t ht
        exact hij (okS_uniq hs hi hj (by rw [e, hp]))
      · obtain ⟨i, hi, rfl⟩ := List.getElem_of_mem ht
        have hij : i ≠ j := fun e => by subst e; exact hne hp
        rw [List.mem_append]
        rcases Nat.lt_or_gt_of_ne hij with hl | hl
        · exact .inl (List.mem_take_iff_getElem.2 ⟨i, by omega, rfl⟩)
        · refine .inr ?_
          have : s.l[i] = (s.l.drop (j + 1))[i - (j + 1)]'(by rw [List.length_drop]; omega) := by
            rw [List.getElem_drop]
            congr 1
            omega
          rw [this]
          exact List.getElem_mem _
  · rw [if_neg hC] at h
    exact absurd h hC
/-! Update. -/
theorem set_ok {s : St} (hs : okS s) {j : Nat} (hj : j < s.l.length) {ps : List G} (hX : wrongL s.l[j].ty ps = 0) : okS ⟨s.l.set j ⟨s.l[j].ph, s.l[j].ty, ps⟩, s.made⟩ := by
  refine ⟨hs.1, fun t ht => ?_, ?_⟩
  · rcases List.mem_or_eq_of_mem_set ht with ht | rfl
    · exact hs.2.1 t ht
    · obtain ⟨q1, q2, _⟩ := hs.2.1 _ (List.getElem_mem hj)
      exact ⟨q1, q2, hX⟩
  · rw [List.pairwise_iff_getElem]
    have hp := List.pairwise_iff_getElem.1 hs.2.2
    have hN : ∀ k (hk : k < (s.l.set j ⟨s.l[j].ph, s.l[j].ty, ps⟩).length), Nt (s.l.set j ⟨s.l[j].ph, s.l[j].ty, ps⟩)[k] = Nt (s.l[k]'(by simpa using hk)) := fun k hk => by
      rw [List.getElem_set]
      split
      · rename_i e; subst e; rfl
      · rfl
    intro a b ha hb hab
    rw [hN, hN]
    exact hp a b (by simpa using ha) (by simpa using hb) hab
theorem update_ok {s : St} {p : ByteArray} {ps : List G} (h : (updateL s p ps).2 = 0) : okS s ∧ ∃ j, idxT s.l p = some j ∧ ∃ hj : j < s.l.length, s.l[j].ph = p ∧ wrongL s.l[j].ty ps = 0 ∧ (differL s.l[j].ty s.l[j].ps ps).2 = 0 ∧ (differL s.l[j].ty s.l[j].ps ps).1 ≠ 3 ∧
    updateL s p ps = (⟨s.l.set j ⟨s.l[j].ph, s.l[j].ty, ps⟩, s.made⟩, 0) ∧ okS ⟨s.l.set j ⟨s.l[j].ph, s.l[j].ty, ps⟩, s.made⟩ := by
  unfold updateL at h ⊢
  by_cases hC : checkS s = 0
  · rw [if_pos hC] at h ⊢
    have hs := (okS_iff s).1 hC
    cases hI : idxT s.l p with
    | none =>
      rw [hI] at h
      exact absurd (show (4 : Int) = 0 from h) (by decide)
    | some j =>
      obtain ⟨hj, hp, _⟩ := idxT_at hI
      rw [hI] at h
      dsimp only at h ⊢
      rw [getD_t hj] at h ⊢
      by_cases hX : wrongL s.l[j].ty ps = 0
      · rw [if_pos hX] at h ⊢
        by_cases h2 : (differL s.l[j].ty s.l[j].ps ps).2 = 0
        · rw [if_pos h2] at h ⊢
          by_cases h1 : (differL s.l[j].ty s.l[j].ps ps).1 = 3
          · rw [if_pos h1] at h; exact absurd h (by decide)
          · rw [if_neg h1]
            exact ⟨hs, j, rfl, hj, hp, hX, h2, h1, rfl, set_ok hs hj hX⟩
        · rw [if_neg h2] at h; exact absurd h (by decide)
      · rw [if_neg hX] at h; exact absurd h hX
  · rw [if_neg hC] at h
    exact absurd h hC
theorem wrong_zero {K : ByteArray} {L : List G} (h : wrongL K L = 0) : checkL K L = 0 ∧ L.any (·.unk) = false := by
  unfold wrongL at h
  split at h
  · rename_i hc
    refine ⟨hc, ?_⟩
    cases hu : L.any (·.unk) with
    | false => rfl
    | true => rw [hu] at h; exact absurd h (by decide)
  · rename_i hc; exact absurd h hc
/-- What turns into b by a change in place turns back by one. -/
theorem differ_back {K : ByteArray} {A B : List G} (hA : wrongL K A = 0) (hB : wrongL K B = 0) (h1 : (differL K A B).1 ≠ 3) : (differL K B A).2 = 0 ∧ (differL K B A).1 ≠ 3 := by
  obtain ⟨a1, a2⟩ := wrong_zero hA
  obtain ⟨b1, b2⟩ := wrong_zero hB
  have e1 : differL K A B = (chg K A B, 0) := by
    unfold differL
    rw [if_neg (by rw [a1]; simp), if_neg (by rw [b1]; simp), a2]; rfl
  have e2 : differL K B A = (chg K B A, 0) := by
    unfold differL
    rw [if_neg (by rw [b1]; simp), if_neg (by rw [a1]; simp), b2]; rfl
  rw [e2]
  rw [e1] at h1
  exact ⟨rfl, by rw [chg_sym a1 b1 a2 b2]; exact h1⟩
end Go.Proofs.YtdckldfekepopaaGreatDoor
