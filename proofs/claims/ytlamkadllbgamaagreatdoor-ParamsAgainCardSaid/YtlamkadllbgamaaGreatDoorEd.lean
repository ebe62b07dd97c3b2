/-
  The helper's fixed parameters.
-/
import Derived.Test.YtlamkadllbgamaaGreatDoorEc
set_option linter.unusedVariables false
set_option linter.unusedSimpArgs false
namespace Go.Proofs.YtlamkadllbgamaaGreatDoor
open Go.RowKit

theorem eqA_of {x y sx sy : V} (hx : wrongV x = 0) (hy : wrongV y = 0) (dx : depthV x ≤ 24) (dy : depthV y ≤ 24) (sx' : SortR x sx) (sy' : SortR y sy) : eqA x y = (pcmpV sx sy == 0) := by
  unfold eqA
  rw [cmpA_of hx hy dx dy sx' sy']
  rfl
theorem pcheck_n (n : Int) (h : -9007199254740992 ≤ n ∧ n ≤ 9007199254740992) : pcheckV (nV n) = 0 := by
  unfold pcheckV
  rw [pw_of (wrong_n n h) (show depthV (nV n) ≤ 24 from (show depthV (nV n) = 1 from rfl) ▸ (by omega))]
  rfl
theorem pcheck_t (s : ByteArray) (h : validS s = true) : pcheckV (tV s) = 0 := by
  unfold pcheckV
  rw [pw_of (wrong_t s h) (show depthV (tV s) ≤ 24 from (show depthV (tV s) = 1 from rfl) ▸ (by omega))]
  rfl
theorem eqA_n {n m : Int} (hn : -9007199254740992 ≤ n ∧ n ≤ 9007199254740992) (hm : -9007199254740992 ≤ m ∧ m ≤ 9007199254740992) (h : n ≠ m) : eqA (nV n) (nV m) = false := by
  rw [eqA_of (wrong_n n hn) (wrong_n m hm) (show depthV (nV n) ≤ 24 from (show depthV (nV n) = 1 from rfl) ▸ (by omega)) (show depthV (nV m) ≤ 24 from (show depthV (nV m) = 1 from rfl) ▸ (by omega)) (sort_leaf _ _ _ _) (sort_leaf _ _ _ _)]
  rw [pcmpV_mk, if_neg (by simp), if_neg (by decide), if_pos rfl]
  unfold cmpI
  split
  · rfl
  · split
    · rfl
    · omega
theorem kind_n (n : Int) (h : -9007199254740992 ≤ n ∧ n ≤ 9007199254740992) : kindB true (nV n) = true := by
  unfold kindB
  rw [pcheck_n n h]
  rfl
def sA : ByteArray := ⟨#[97]⟩
def sP : ByteArray := ⟨#[80]⟩
theorem valid_A : validS sA = true := by decide
theorem kind_A : kindB false (tV sA) = true := by
  unfold kindB
  rw [pcheck_t sA valid_A]
  unfold wordB tV V.kind V.text
  rw [valid_A]
  rfl
def pA : PR := ⟨sP, false, true, tV sA, []⟩
def pB : PR := ⟨sP, true, false, zV, [nV 1, nV 2]⟩
def gC : G := ⟨sP, false, nV 3⟩
theorem name_P : nameB sP.data.toList = true := by decide
theorem may_A : mayBe pA = true := by
  unfold mayBe mayAl mayDef
  rw [show pA.nm = sP from rfl, name_P, show pA.has = true from rfl, if_pos rfl, show pA.num = false from rfl, show pA.d = tV sA from rfl, kind_A]
  rfl
theorem may_B : mayBe pB = true := by
  unfold mayBe mayAl mayDef
  rw [show pB.nm = sP from rfl, name_P, show pB.has = false from rfl, if_neg Bool.false_ne_true, show pB.d = zV from rfl, sm_yes rfl]
  have h0 : stepAl pB 0 = true := by
    unfold stepAl
    show (kindB true (nV 1) && !amongB [] (nV 1)) = true
    rw [kind_n 1 (by omega)]
    rfl
  have h1 : stepAl pB 1 = true := by
    unfold stepAl
    show (kindB true (nV 2) && !amongB [nV 1] (nV 2)) = true
    rw [kind_n 2 (by omega)]
    unfold amongB
    rw [List.any_cons, List.any_nil, eqA_n (by omega) (by omega) (by decide)]
    rfl
  have hr : (List.range pB.al.length).all (stepAl pB) = true := by
    show (List.range 2).all (stepAl pB) = true
    rw [List.all_eq_true]
    intro i hi
    have := List.mem_range.1 hi
    rcases (show i = 0 ∨ i = 1 by omega) with rfl | rfl
    · exact h0
    · exact h1
  rw [hr]
  rfl
theorem check_one {p : PR} (h : mayBe p = true) : checkP [p] = 0 := by
  unfold checkP
  rw [if_neg (by simp)]
  have : [p].all mayBe = true := by simp [h]
  rw [this]
  rfl
theorem bind_A : bindF [pA] [] = (⟨#[]⟩, 0) := by
  refine bindF_none fun i hi => ?_
  match i, hi with
  | 0, _ => exact check_one may_A
  | 1, _ => rfl
  | 2, _ => rfl
  | 3, _ =>
    have hu : unfit [pA] [] = none := by
      unfold unfit
      rw [List.find?_eq_none]
      intro p hp
      rw [List.mem_singleton.1 hp]
      have : mayP pA (valP [] pA) = true := by
        unfold mayP
        rw [may_A]
        rw [show (valP [] pA).unk = false from rfl, if_neg Bool.false_ne_true]
        show (true && (kindB false (tV sA) && allowedB pA (tV sA))) = true
        rw [kind_A]
        rfl
      rw [this]
      simp
    show (if (unfit [pA] []).isSome then (140 : Int) else 0) = 0
    rw [hu]
    rfl
theorem bind_B : bindF [pB] [gC] = (sP, 140) := by
  have hu : unfit [pB] [gC] = some pB := by
    unfold unfit
    have hv : valP [gC] pB = gC := by
      unfold valP findG
      rw [List.find?_cons_of_pos (by simp [gC, pB])]
      rfl
    have : mayP pB gC = false := by
      unfold mayP
      rw [may_B]
      rw [show gC.unk = false from rfl, if_neg Bool.false_ne_true]
      show (true && (kindB true (nV 3) && allowedB pB (nV 3))) = false
      rw [kind_n 3 (by omega)]
      unfold allowedB amongB
      show (true && (true && (decide ((2 : Nat) = 0) || [nV 1, nV 2].any fun u => eqA (nV 3) u))) = false
      rw [List.any_cons, List.any_cons, List.any_nil, eqA_n (by omega) (by omega) (by decide), eqA_n (by omega) (by omega) (by decide)]
      rfl
    rw [List.find?_cons_of_pos (by rw [hv, this]; rfl)]
  have h3 : errP [pB] [gC] 3 = (sP, 140) := by
    show ((if (unfit [pB] [gC]).isSome then ((unfit [pB] [gC]).getD zP).nm else ⟨#[]⟩), (if (unfit [pB] [gC]).isSome then (140 : Int) else 0)) = _
    rw [hu]
    rfl
  rw [bindF_at (j := 3) (by decide) (fun i hi => ?_) (by rw [h3]; decide), h3]
  match i, hi with
  | 0, _ => exact check_one may_B
  | 1, _ => rfl
  | 2, _ =>
    have hs : strange [pB] [gC] = none := by
      unfold strange
      rw [List.find?_eq_none]
      intro g hg
      rw [List.mem_singleton.1 hg]
      simp [pB, gC]
    show (if (strange [pB] [gC]).isSome then (140 : Int) else 0) = 0
    rw [hs]
    rfl

theorem isPs_box {W : World} {blk : Nat} {p : PR} {c0 c1 c2 c3 c4 c5 c6 c7 c8 c9 : Value} {t : TypeId} (h : W.heap[blk]? = some (.cells #[c0, c1, c2, c3, c4, c5, c6, c7, c8, c9] t (0, 0))) (hp : isP W p (.agg #[c0, c1, c2, c3, c4, c5, c6, c7, c8, c9])) :
    isPs W [p] (.slice (some ⟨blk, 0, none⟩) 1 1) := by
  obtain ⟨g0, g1, g2, g3, g4, g5, g6, g7, g8, g9⟩ := ten_cells h
  refine ⟨⟨blk, 0, none⟩, 1, ⟨_, rfl, Nat.le_refl _, by unfold maxLen; omega, fun _ => rfl⟩, fun i hi => ?_⟩
  obtain rfl : i = 0 := by simp at hi; omega
  rw [Nat.zero_mul, show (⟨blk, 0, none⟩ : Addr).add 0 = ⟨blk, 0, none⟩ from rfl]
  exact ⟨_, _, _, _, _, _, _, _, _, _, g0, g1, g2, g3, g4, g5, g6, g7, g8, g9, hp⟩
theorem isGs_none (W : World) : isGs W [] (.slice none 0 0) := ⟨⟨0, 0, none⟩, 0, ⟨none, rfl, Nat.le_refl _, by unfold maxLen; omega, fun h => absurd h (by decide)⟩, fun i h => absurd h (by simp)⟩
theorem small1 {s : ByteArray} (h : s.size ≤ 100) : s.size ≤ maxLen := by unfold maxLen; omega
theorem isP_A (W : World) : isP W pA (.agg #[.string sP, .bool false, .bool true, .int .i8 3, .bool false, .int .i64 0, .string sA, .slice none 0 0, .slice none 0 0, .slice none 0 0]) :=
  ⟨_, _, _, _, _, _, _, _, _, _, _, _, ⟨0, 0, none⟩, rfl, isV_leaf W 3 false 0 sA (by omega) (by omega) (small1 (by decide)), ⟨_, rfl, Nat.le_refl _, by unfold maxLen; omega, fun h => by simp [pA] at h⟩, by unfold pA isVs; trivial, small1 (by decide)⟩
theorem fine_leaf (k : Int) (b : Bool) (n : Int) (s : ByteArray) (h : s.size ≤ 100) : sizeV (.mk k b n s [] []) ≤ 1000000 ∧ fineV (.mk k b n s [] []) := by
  refine ⟨?_, fun y hy => ?_⟩
  · unfold sizeV sizeVs
    simp [keysS]
    omega
  · rw [walkV, walkVs] at hy
    rw [List.mem_singleton.1 hy]
    exact Nat.zero_le _
theorem fine_A : finePs [pA] := ⟨by simp, fun p hp => by
  rw [List.mem_singleton.1 hp]
  exact ⟨(fine_leaf _ _ _ _ (by decide)).1, (fine_leaf _ _ _ _ (by decide)).2, by simp [pA], fun x hx => by cases hx⟩⟩
theorem fine_B : finePs [pB] := ⟨by simp, fun p hp => by
  rw [List.mem_singleton.1 hp]
  refine ⟨fine_z.1, fine_z.2, by simp [pB], fun x hx => ?_⟩
  have : x = nV 1 ∨ x = nV 2 := by simpa [pB] using hx
  rcases this with rfl | rfl
  · exact fine_leaf _ _ _ _ (by decide)
  · exact fine_leaf _ _ _ _ (by decide)⟩
theorem fine_C : fineG [gC] := ⟨by simp, fun g hg => by
  rw [List.mem_singleton.1 hg]
  exact fine_leaf _ _ _ _ (by decide)⟩
end Go.Proofs.YtlamkadllbgamaaGreatDoor
