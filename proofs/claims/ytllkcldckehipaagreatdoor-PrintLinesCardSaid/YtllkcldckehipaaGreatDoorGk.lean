/-
  The statement on objects: walked.
-/
import Derived.Test.YtllkcldckehipaaGreatDoorGj
set_option linter.unusedVariables false
namespace Go.Proofs.YtllkcldckehipaaGreatDoor
open Go.RowKit Go.Shelf

mutual
theorem ft_const (C : List UInt8) : ∀ (x : V) (d : Nat), ft C I0 d x = ft C I0 0 x
  | .mk k b n s l ks, d => by rw [ft, ft, fts_const C l (d + 1), fts_const C l (0 + 1)]; rfl
theorem fts_const (C : List UInt8) : ∀ (l : List V) (d : Nat), fts C I0 d l = fts C I0 0 l
  | [], d => by rw [fts, fts]
  | x :: t, d => by rw [fts, fts, ft_const C x d, fts_const C t d]
end
theorem outE_no {C : List UInt8} {I : Nat → List UInt8} {x : V} (h : outE C I x ≠ 0) : outS C I x = [] := by
  unfold outE at h
  unfold outS
  split
  · rfl
  · rename_i h1
    rw [if_neg h1] at h
    split
    · rfl
    · rename_i h2
      rw [if_neg h2] at h
      exact absurd rfl h
theorem outE_yes {C : List UInt8} {I : Nat → List UInt8} {x : V} (h : outE C I x = 0) : pcheckV x = 0 ∧ (outT C I x).length ≤ 32768 ∧ outS C I x = outT C I x := by
  unfold outE at h
  by_cases h1 : pcheckV x ≠ 0
  · rw [if_pos h1] at h; exact absurd h h1
  · rw [if_neg h1] at h
    have h1' := Decidable.not_not.1 h1
    by_cases h2 : 32768 < (outT C I x).length
    · rw [if_pos h2] at h; omega
    · refine ⟨h1', by omega, ?_⟩
      unfold outS
      rw [if_neg h1, if_neg h2]
theorem out_ok {C : List UInt8} {I : Nat → List UInt8} {x : V} (h : pcheckV x = 0) (h2 : (outT C I x).length ≤ 32768) : outE C I x = 0 ∧ outS C I x = outT C I x := by
  have h3 : ¬ 32768 < (outT C I x).length := by omega
  have h4 : ¬ pcheckV x ≠ 0 := by rw [h]; simp
  constructor
  · unfold outE
    rw [if_neg h4, if_neg h3]
  · unfold outS
    rw [if_neg h4, if_neg h3]
theorem rowsT_part (A : List UInt8) (T : Nat → List UInt8) : ∀ (n i : Nat), i < n → (T i).length ≤ (rowsT A T n).length
  | n + 1, i, h => by
    rw [rowsT, List.length_append, List.length_append, List.length_append]
    by_cases e : i = n
    · subst e; omega
    · have := rowsT_part A T n i (by omega); omega
theorem rowT_rows (A : List UInt8) (o c : UInt8) (n : Nat) (T : Nat → List UInt8) : rowT [] A o c n T = [o] ++ rowsT A T n ++ [c] := by
  unfold rowT
  split
  · rename_i h; subst h; simp [rowsT]
  · simp
theorem pcheck_t {k : ByteArray} (h : validS k = true) : pcheckV (tV k) = 0 := pcheck_of (wrong_t k h) (by unfold tV; simp [depthV, depthVs]) (by unfold tV; simp [countV, countVs])
theorem psort_t {k : ByteArray} (h : validS k = true) : psortV (tV k) = tV k := (psort_eq (sort_leaf _ _ _ _) (once_of_wrong (wrong_t k h))).symm
theorem outT_t {k : ByteArray} (h : validS k = true) : outT [58] I0 (tV k) = Ru.quoteL k.data.toList := by
  unfold outT
  rw [psort_t h, tV, ft, if_neg (by decide), if_neg (by decide), if_neg (by decide), if_pos rfl]

/-- What is printed of an object, plain. -/
theorem obj_plain {b : Bool} {n : Int} {s : ByteArray} {l : List V} {ks : List ByteArray} (h : outE [58] I0 (.mk 5 b n s l ks) = 0) :
    ∃ (l' : List V) (ks' : List ByteArray), psortV (.mk 5 b n s l ks) = .mk 5 b n s l' ks' ∧ ks'.length = l'.length ∧ sizeV (.mk 5 b n s l' ks') = sizeV (.mk 5 b n s l ks) ∧
      outS [58] I0 (.mk 5 b n s l ks) = [123] ++ rowsT [] (fun i => keyT [58] (ks'.getD i ⟨#[]⟩) ((fts [58] I0 0 l').getD i [])) l'.length ++ [125] ∧
      (∀ i (h : i < l'.length), outE [58] I0 l'[i] = 0 ∧ outS [58] I0 l'[i] = (fts [58] I0 0 l').getD i []) ∧
      (∀ i (h : i < ks'.length), validS ks'[i] = true ∧ outE [58] I0 (tV ks'[i]) = 0 ∧ outS [58] I0 (tV ks'[i]) = Ru.quoteL ks'[i].data.toList) := by
  obtain ⟨h1, h2, h3⟩ := outE_yes h
  obtain ⟨hw, hd, hc⟩ := pcheck_zero h1
  have hs := sort_p (.mk 5 b n s l ks)
  have hsz := sort_size hs (once_of_wrong hw)
  have hsw := sort_wrong hs hw
  have hpy := sort_check hs h1
  rw [h3]
  have hT : outT [58] I0 (.mk 5 b n s l ks) = ft [58] I0 0 (psortV (.mk 5 b n s l ks)) := rfl
  rw [hT] at h2 ⊢
  generalize psortV (.mk 5 b n s l ks) = y at *
  cases hs with
  | mk _ _ _ _ _ _ l' ks' ps ho hl hsub hk =>
    have h0 := own_parts (wrong_iff.1 hsw.1 _ (self_in _))
    obtain ⟨⟨p1, p2, p3, p4, p5, p6, p7⟩, q2, q3, q4, q5⟩ := h0
    have hkl : ks'.length = l'.length := p6 rfl
    have hft : ft [58] I0 0 (.mk 5 b n s l' ks') = [123] ++ rowsT [] (fun i => keyT [58] (ks'.getD i ⟨#[]⟩) ((fts [58] I0 0 l').getD i [])) l'.length ++ [125] := by
      rw [ft, if_neg (by decide), if_neg (by decide), if_neg (by decide), if_neg (by decide), if_neg (by decide), fts_const]
      exact rowT_rows _ _ _ _ _
    rw [hft] at h2 ⊢
    simp only [List.length_append, List.length_singleton] at h2
    refine ⟨l', ks', rfl, hkl, hsz, rfl, fun i hi => ?_, fun i hi => ?_⟩
    · have hpart := hsub i hi
      have hlt : ps.getD i 0 < l.length := ord_lt ho (by omega)
      have hwp : wrongV (l.getD (ps.getD i 0) default) = 0 := wrong_iff.2 fun z hz => wrong_iff.1 hw z (part_in (getD_in hlt) z hz)
      have e : outT [58] I0 l'[i] = (fts [58] I0 0 l').getD i [] := by
        unfold outT
        rw [psort_self hpart hwp, fts_get [58] I0 0 l' i hi]
      have h4 : (keyT [58] (ks'.getD i ⟨#[]⟩) ((fts [58] I0 0 l').getD i [])).length ≤ (rowsT [] (fun i => keyT [58] (ks'.getD i ⟨#[]⟩) ((fts [58] I0 0 l').getD i [])) l'.length).length := rowsT_part [] (fun i => keyT [58] (ks'.getD i ⟨#[]⟩) ((fts [58] I0 0 l').getD i [])) l'.length i hi
      rw [keyT, List.length_append, List.length_append] at h4
      have h5 := out_ok (C := [58]) (I := I0) (x := l'[i]) (part_check (x := .mk 5 b n s l' ks') (List.getElem_mem hi) hpy) (by
        rw [e]
        omega)
      rw [e] at h5
      exact h5
    · have hv : validS ks'[i] = true := List.all_eq_true.1 q4 _ (List.getElem_mem hi)
      have h4 : (keyT [58] (ks'.getD i ⟨#[]⟩) ((fts [58] I0 0 l').getD i [])).length ≤ (rowsT [] (fun i => keyT [58] (ks'.getD i ⟨#[]⟩) ((fts [58] I0 0 l').getD i [])) l'.length).length := rowsT_part [] (fun i => keyT [58] (ks'.getD i ⟨#[]⟩) ((fts [58] I0 0 l').getD i [])) l'.length i (by omega)
      rw [keyT, List.length_append, getD_lt ks' i _ hi] at h4
      have h5 := out_ok (C := [58]) (I := I0) (pcheck_t hv) (by rw [outT_t hv]; omega)
      rw [outT_t hv] at h5
      exact ⟨hv, h5⟩
end Go.Proofs.YtllkcldckehipaaGreatDoor
