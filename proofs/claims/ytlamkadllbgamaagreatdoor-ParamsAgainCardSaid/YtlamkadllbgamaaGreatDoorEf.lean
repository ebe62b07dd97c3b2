/-
  Binding, in plain mathematics: bound again; one left out; one parameter more.
-/
import Derived.Test.YtlamkadllbgamaaGreatDoorEe
import Derived.Test.YtlamkadllbgamaaGreatDoorTOrd
set_option linter.unusedVariables false
set_option linter.unusedSimpArgs false
namespace Go.Proofs.YtlamkadllbgamaaGreatDoor
open Go.RowKit

theorem getD_el {α : Type} {l : List α} {i : Nat} {d : α} (h : i < l.length) : l.getD i d = l[i] := getD_lt _ _ _ h
theorem rise_adj {l : List ByteArray} (h : riseB l = true) {i : Nat} (hi : i + 1 < l.length) : bl (l[i]'(by omega)) l[i + 1] = true := by
  unfold riseB at h
  have := List.all_eq_true.1 h i (List.mem_range.2 (by omega))
  rw [getD_el (by omega), getD_el hi] at this
  exact this
theorem rise_far {l : List ByteArray} (h : riseB l = true) : ∀ (d i : Nat) (hi : i + d + 1 < l.length), bl (l[i]'(by omega)) l[i + d + 1] = true
  | 0, i, hi => rise_adj h hi
  | d + 1, i, hi => bl_tra (rise_far h d i (by omega)) (rise_adj h (i := i + d + 1) hi)
theorem rise_pw (l : List ByteArray) : riseB l = true ↔ l.Pairwise (fun a b => bl a b = true) := by
  constructor
  · intro h
    rw [List.pairwise_iff_getElem]
    intro i j hi hj hij
    obtain ⟨d, rfl⟩ : ∃ d, j = i + d + 1 := ⟨j - i - 1, by omega⟩
    exact rise_far h d i hj
  · intro h
    rw [List.pairwise_iff_getElem] at h
    exact rise_yes fun i hi => by
      rw [getD_el (by omega), getD_el hi]
      exact h i (i + 1) (by omega) hi (by omega)
/-- Values whose names rise. -/
def Up (A : List G) : Prop := A.Pairwise (fun a b => bl a.nm b.nm = true)
theorem up_map {A : List G} : Up A ↔ riseB (A.map G.nm) = true := by
  rw [rise_pw, List.pairwise_map]
  rfl
theorem find_up : ∀ {A : List G}, Up A → ∀ {g : G}, g ∈ A → findG A g.nm = some g
  | [], _, g, h => by cases h
  | a :: t, hu, g, h => by
    unfold Up at hu
    rw [List.pairwise_cons] at hu
    unfold findG
    by_cases e : a.nm = g.nm
    · rw [List.find?_cons_of_pos (by simpa using e)]
      rcases List.mem_cons.1 h with rfl | h'
      · rfl
      · exact absurd e (bl_ne (hu.1 g h'))
    · rw [List.find?_cons_of_neg (by simpa using e)]
      rcases List.mem_cons.1 h with rfl | h'
      · exact absurd rfl e
      · exact find_up hu.2 h'
theorem find_off {A : List G} {s : ByteArray} (h : ∀ g ∈ A, g.nm ≠ s) : findG A s = none := by
  unfold findG
  rw [List.find?_eq_none]
  intro g hg
  simpa using h g hg
theorem valP_nm (gs : List G) (p : PR) : (valP gs p).nm = p.nm := by
  unfold valP
  cases h : findG gs p.nm with
  | none => rfl
  | some g =>
    unfold findG at h
    have := List.find?_some h
    simpa using this
theorem valP_some {gs : List G} {p : PR} {g : G} (h : findG gs p.nm = some g) : valP gs p = g := by unfold valP; rw [h]; rfl
theorem valP_none {gs : List G} {p : PR} (h : findG gs p.nm = none) : valP gs p = ⟨p.nm, false, p.d⟩ := by unfold valP; rw [h]; rfl

structure OkB (L : List PR) (gs : List G) : Prop where
  check : checkP L = 0
  may : ∀ p ∈ L, mayP p (valP gs p) = true
theorem check_ok {L : List PR} (h : checkP L = 0) : L.length ≤ 6 ∧ riseB (L.map PR.nm) = true ∧ ∀ p ∈ L, mayBe p = true := by
  unfold checkP at h
  by_cases h6 : 6 < L.length
  · rw [if_pos h6] at h; cases h
  · rw [if_neg h6] at h
    by_cases hc : (riseB (L.map PR.nm) && L.all mayBe) = true
    · rw [Bool.and_eq_true, List.all_eq_true] at hc
      exact ⟨by omega, hc.1, hc.2⟩
    · rw [if_neg hc] at h; cases h
theorem okB_of {L : List PR} {gs : List G} (h : (bindF L gs).2 = 0) : OkB L gs := by
  have h4 : ∀ i, i < 4 → (errP L gs i).2 = 0 := by
    intro i hi
    unfold bindF at h
    by_cases h0 : (errP L gs 0).2 ≠ 0
    · rw [if_pos h0] at h; exact absurd h h0
    rw [if_neg h0] at h
    by_cases h1 : (errP L gs 1).2 ≠ 0
    · rw [if_pos h1] at h; exact absurd h h1
    rw [if_neg h1] at h
    by_cases h2 : (errP L gs 2).2 ≠ 0
    · rw [if_pos h2] at h; exact absurd h h2
    rw [if_neg h2] at h
    by_cases h3 : (errP L gs 3).2 ≠ 0
    · rw [if_pos h3] at h; exact absurd h h3
    rcases (show i = 0 ∨ i = 1 ∨ i = 2 ∨ i = 3 by omega) with rfl | rfl | rfl | rfl
    · exact Classical.byContradiction h0
    · exact Classical.byContradiction h1
    · exact Classical.byContradiction h2
    · exact Classical.byContradiction h3
  exact ⟨h4 0 (by decide), all_fit (h4 3 (by decide))⟩
theorem strange_none {L : List PR} {gs : List G} (h : ∀ g ∈ gs, ∃ p ∈ L, p.nm = g.nm) : strange L gs = none := by
  unfold strange
  rw [List.find?_eq_none]
  intro g hg
  obtain ⟨p, hp, e⟩ := h g hg
  have : (L.map PR.nm).any (fun n => decide (n = g.nm)) = true := List.any_eq_true.2 ⟨p.nm, List.mem_map.2 ⟨p, hp, rfl⟩, by simpa using e⟩
  rw [this]
  simp
theorem err1_zero {L : List PR} {gs : List G} (h : Up gs) : (errP L gs 1).2 = 0 := by
  show (if riseB (gs.map G.nm) then (0 : Int) else 2) = 0
  rw [up_map.1 h]
  rfl
theorem err2_zero {L : List PR} {gs : List G} (h : strange L gs = none) : (errP L gs 2).2 = 0 := by
  show (if (strange L gs).isSome then (140 : Int) else 0) = 0
  rw [h]
  rfl
theorem bound_up {L : List PR} {gs : List G} (h : checkP L = 0) : Up (L.map (valP gs)) := by
  rw [up_map, List.map_map, show G.nm ∘ valP gs = PR.nm from funext (valP_nm gs)]
  exact (check_ok h).2.1
/-- What is bound is bound again to itself. -/
theorem again_val {L : List PR} {gs : List G} (h : OkB L gs) {p : PR} (hp : p ∈ L) : valP (L.map (valP gs)) p = valP gs p := by
  refine valP_some ?_
  have := find_up (bound_up (gs := gs) h.check) (List.mem_map.2 ⟨p, hp, rfl⟩ : valP gs p ∈ L.map (valP gs))
  rwa [valP_nm] at this
theorem again_map {L : List PR} {gs : List G} (h : OkB L gs) : L.map (valP (L.map (valP gs))) = L.map (valP gs) :=
  List.map_congr_left fun p hp => again_val h hp
theorem bindF_ok {L : List PR} {gs : List G} (h0 : checkP L = 0) (h1 : Up gs) (h2 : strange L gs = none) (h3 : ∀ p ∈ L, mayP p (valP gs p) = true) : bindF L gs = (⟨#[]⟩, 0) := by
  refine bindF_none fun i hi => ?_
  rcases (show i = 0 ∨ i = 1 ∨ i = 2 ∨ i = 3 by omega) with rfl | rfl | rfl | rfl
  · exact h0
  · exact err1_zero h1
  · exact err2_zero h2
  · have : unfit L gs = none := by
      unfold unfit
      rw [List.find?_eq_none]
      intro p hp
      rw [h3 p hp]
      simp
    show (if (unfit L gs).isSome then (140 : Int) else 0) = 0
    rw [this]
    rfl
theorem again_bind {L : List PR} {gs : List G} (h : OkB L gs) : bindF L (L.map (valP gs)) = (⟨#[]⟩, 0) :=
  bindF_ok h.check (bound_up h.check) (strange_none fun g hg => by
    obtain ⟨p, hp, rfl⟩ := List.mem_map.1 hg
    exact ⟨p, hp, (valP_nm gs p).symm⟩) fun p hp => by rw [again_val h hp]; exact h.may p hp

/-! One left out. -/
theorem mem_less {A : List G} {d : Nat} (hd : d < A.length) {g : G} : g ∈ A.take d ++ A.drop (d + 1) ↔ ∃ i, ∃ h : i < A.length, i ≠ d ∧ A[i] = g := by
  rw [List.mem_append, List.mem_take_iff_getElem, List.mem_drop_iff_getElem]
  constructor
  · rintro (⟨i, hi, rfl⟩ | ⟨i, hi, rfl⟩)
    · exact ⟨i, by omega, by omega, rfl⟩
    · exact ⟨d + 1 + i, by omega, by omega, rfl⟩
  · rintro ⟨i, hi, hne, rfl⟩
    by_cases h : i < d
    · exact .inl ⟨i, by omega, rfl⟩
    · refine .inr ⟨i - (d + 1), by omega, ?_⟩
      have e : d + 1 + (i - (d + 1)) = i := by omega
      simp only [e]
theorem less_sub (A : List G) (d : Nat) : (A.take d ++ A.drop (d + 1)).Sublist A := by
  rw [← List.eraseIdx_eq_take_drop_succ]
  exact List.eraseIdx_sublist A d
theorem less_up {A : List G} (h : Up A) (d : Nat) : Up (A.take d ++ A.drop (d + 1)) := List.Pairwise.sublist (less_sub A d) h
theorem up_ne {A : List G} (h : Up A) {i j : Nat} (hi : i < A.length) (hj : j < A.length) (e : i ≠ j) : A[i].nm ≠ A[j].nm := by
  unfold Up at h
  rw [List.pairwise_iff_getElem] at h
  rcases Nat.lt_or_gt_of_ne e with h1 | h1
  · exact bl_ne (h i j hi hj h1)
  · exact (bl_ne (h j i hj hi h1)).symm
theorem less_val {L : List PR} {gs : List G} (h : OkB L gs) {d i : Nat} (hd : d < L.length) (hi : i < L.length) :
    valP ((L.map (valP gs)).take d ++ (L.map (valP gs)).drop (d + 1)) L[i] = if i = d then ⟨L[i].nm, false, L[i].d⟩ else valP gs L[i] := by
  have hu := bound_up (gs := gs) h.check
  have hl : (L.map (valP gs)).length = L.length := List.length_map _
  by_cases e : i = d
  · subst e
    rw [if_pos rfl]
    refine valP_none (find_off fun g hg => ?_)
    obtain ⟨j, hj, hne, rfl⟩ := (mem_less (by omega)).1 hg
    have := up_ne hu hj (show i < (L.map (valP gs)).length by omega) hne
    simpa only [List.getElem_map, valP_nm] using this
  · rw [if_neg e]
    refine valP_some ?_
    have hm : valP gs L[i] ∈ (L.map (valP gs)).take d ++ (L.map (valP gs)).drop (d + 1) := (mem_less (by omega)).2 ⟨i, by omega, e, by rw [List.getElem_map]⟩
    have := find_up (less_up hu d) hm
    rwa [valP_nm] at this
theorem default_may {p : PR} (h : mayBe p = true) (hh : p.has = true) : mayP p ⟨p.nm, false, p.d⟩ = true ∧ kindB p.num p.d = true := by
  have hm := h
  unfold mayBe at h
  simp only [Bool.and_eq_true] at h
  have hd := h.2.2.2
  unfold mayDef at hd
  rw [hh, if_pos rfl] at hd
  refine ⟨?_, (Bool.and_eq_true _ _ ▸ hd).1⟩
  unfold mayP
  rw [hm]
  show (true && (kindB p.num p.d && allowedB p p.d)) = true
  rw [hd]
  rfl
theorem nothing_may {p : PR} (h : mayBe p = true) (hh : p.has = false) : mayP p ⟨p.nm, false, p.d⟩ = false := by
  have hm := h
  unfold mayBe at h
  simp only [Bool.and_eq_true] at h
  have hd := h.2.2.2
  unfold mayDef at hd
  rw [hh, if_neg Bool.false_ne_true] at hd
  have hz := sm_eq hd
  unfold mayP
  show (mayBe p && (kindB p.num p.d && allowedB p p.d)) = false
  rw [hz]
  have : kindB p.num zV = false := by
    unfold kindB
    rw [if_neg (by decide), if_neg (by decide)]
  rw [this]
  simp
theorem less_strange {L : List PR} {gs : List G} {d : Nat} (hd : d < L.length) : strange L ((L.map (valP gs)).take d ++ (L.map (valP gs)).drop (d + 1)) = none :=
  strange_none fun g hg => by
    obtain ⟨p, hp, rfl⟩ := List.mem_map.1 ((less_sub _ d).subset hg)
    exact ⟨p, hp, (valP_nm gs p).symm⟩
theorem less_no {L : List PR} {gs : List G} (h : OkB L gs) {d : Nat} (hd : d < L.length) (hh : L[d].has = false) :
    bindF L ((L.map (valP gs)).take d ++ (L.map (valP gs)).drop (d + 1)) = (L[d].nm, 140) := by
  obtain ⟨F, hF⟩ : ∃ F, (L.map (valP gs)).take d ++ (L.map (valP gs)).drop (d + 1) = F := ⟨_, rfl⟩
  have hmb := (check_ok h.check).2.2
  have hv : ∀ i (hi : i < L.length), valP F L[i] = if i = d then ⟨L[i].nm, false, L[i].d⟩ else valP gs L[i] := fun i hi => by rw [← hF]; exact less_val h hd hi
  have hun : unfit L F = some L[d] := by
    refine find_at hd ?_ fun i hi hid => ?_
    · rw [hv d hd, if_pos rfl, nothing_may (hmb _ (List.getElem_mem hd)) hh]
      rfl
    · rw [hv i hi, if_neg (by omega), h.may _ (List.getElem_mem hi)]
      rfl
  rw [hF]
  have h3 : errP L F 3 = (L[d].nm, 140) := by
    show ((if (unfit L F).isSome then ((unfit L F).getD zP).nm else ⟨#[]⟩), (if (unfit L F).isSome then (140 : Int) else 0)) = _
    rw [hun]
    rfl
  rw [bindF_at (j := 3) (by decide) (fun i hi => ?_) (by rw [h3]; show (140 : Int) ≠ 0; decide), h3]
  rcases (show i = 0 ∨ i = 1 ∨ i = 2 by omega) with rfl | rfl | rfl
  · exact h.check
  · exact err1_zero (by rw [← hF]; exact less_up (bound_up h.check) d)
  · exact err2_zero (by rw [← hF]; exact less_strange hd)
theorem less_yes {L : List PR} {gs : List G} (h : OkB L gs) {d : Nat} (hd : d < L.length) (hh : L[d].has = true) :
    bindF L ((L.map (valP gs)).take d ++ (L.map (valP gs)).drop (d + 1)) = (⟨#[]⟩, 0) ∧ L.map (valP ((L.map (valP gs)).take d ++ (L.map (valP gs)).drop (d + 1))) = (L.map (valP gs)).set d ⟨L[d].nm, false, L[d].d⟩ ∧ kindB L[d].num L[d].d = true := by
  obtain ⟨F, hF⟩ : ∃ F, (L.map (valP gs)).take d ++ (L.map (valP gs)).drop (d + 1) = F := ⟨_, rfl⟩
  have hmb := (check_ok h.check).2.2
  have hv : ∀ i (hi : i < L.length), valP F L[i] = if i = d then ⟨L[i].nm, false, L[i].d⟩ else valP gs L[i] := fun i hi => by rw [← hF]; exact less_val h hd hi
  have hdm := default_may (hmb _ (List.getElem_mem hd)) hh
  refine ⟨?_, ?_, hdm.2⟩
  · refine bindF_ok h.check (less_up (bound_up h.check) d) (less_strange hd) fun p hp => ?_
    obtain ⟨i, hi, rfl⟩ := List.getElem_of_mem hp
    rw [hF, hv i hi]
    by_cases e : i = d
    · subst e
      rw [if_pos rfl]
      exact hdm.1
    · rw [if_neg e]
      exact h.may _ (List.getElem_mem hi)
  · rw [hF]
    refine List.ext_getElem (by simp) fun i h1 h2 => ?_
    have hi : i < L.length := by simpa using h1
    rw [List.getElem_map, hv i hi, List.getElem_set]
    by_cases e : i = d
    · subst e; simp
    · rw [if_neg e, if_neg (fun e' => e e'.symm), List.getElem_map]
end Go.Proofs.YtlamkadllbgamaaGreatDoor
