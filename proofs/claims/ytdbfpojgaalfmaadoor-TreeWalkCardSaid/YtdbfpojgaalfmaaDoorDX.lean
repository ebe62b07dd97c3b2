/-
  The statements' helper 'wakes': what the document says of values, plain.
-/
import Derived.Test.YtdbfpojgaalfmaaDoorDE
set_option linter.unusedVariables false
namespace Go.Proofs.YtdbfpojgaalfmaaDoor
open Go.RowKit Go.Shelf

def E0' : ByteArray := ⟨#[]⟩
def nV (n : Int) : V := .mk 2 false n ⟨#[]⟩ [] []
def tV (s : ByteArray) : V := .mk 3 false 0 s [] []
def wA : V := .mk 5 false 0 ⟨#[]⟩ [nV 1, nV 2] [⟨#[97]⟩, ⟨#[98]⟩]
def wB : V := .mk 5 false 0 ⟨#[]⟩ [nV 2, nV 1] [⟨#[98]⟩, ⟨#[97]⟩]
theorem own_zero {x : V} (h1 : plainP x) (h2 : -9007199254740992 ≤ x.num ∧ x.num ≤ 9007199254740992) (h3 : validS x.text = true) (h4 : x.keys.all validS = true) (h5 : x.keys.Nodup) : ownW x = 0 := by
  unfold ownW
  rw [plain_yes h1, if_neg (by simp), if_neg (by omega), h3, if_neg (by simp), h4, if_neg (by simp), once_yes h5, if_neg (by simp)]
theorem wrong_n (n : Int) (h : -9007199254740992 ≤ n ∧ n ≤ 9007199254740992) : wrongV (nV n) = 0 := by
  unfold nV
  rw [wrongV, own_zero (x := .mk 2 false n ⟨#[]⟩ [] []) ⟨by omega, (by intro h; cases h), (fun _ => rfl), (fun h => absurd rfl h), (fun h => absurd rfl h), (by intro h; cases h), (fun _ => rfl)⟩ h rfl rfl List.nodup_nil, if_pos rfl, wrongVs]
theorem wrong_t (s : ByteArray) (h : validS s = true) : wrongV (tV s) = 0 := by
  unfold tV
  rw [wrongV, own_zero (x := .mk 3 false 0 s [] []) ⟨by omega, (by intro h; cases h), (fun h => absurd rfl h), (fun _ => rfl), (fun h => absurd rfl h), (by intro h; cases h), (fun _ => rfl)⟩ (by show (-9007199254740992 : Int) ≤ 0 ∧ (0 : Int) ≤ 9007199254740992; omega) h rfl List.nodup_nil, if_pos rfl, wrongVs]
theorem wrong_obj (x y : V) (s t : ByteArray) (hs : validS s = true) (ht : validS t = true) (hne : s ≠ t) (hx : wrongV x = 0) (hy : wrongV y = 0) : wrongV (.mk 5 false 0 ⟨#[]⟩ [x, y] [s, t]) = 0 := by
  rw [wrongV, own_zero (x := .mk 5 false 0 ⟨#[]⟩ [x, y] [s, t]) ⟨by omega, (by intro h; cases h), (fun h => absurd rfl h), (fun h => absurd rfl h), (fun _ => .inr rfl), (fun _ => rfl), (fun h => absurd rfl h)⟩ (by show (-9007199254740992 : Int) ≤ 0 ∧ (0 : Int) ≤ 9007199254740992; omega) rfl (by simp [V.keys, hs, ht]) (by simp [V.keys, hne]), if_pos rfl, wrongVs, hx, if_pos rfl, wrongVs, hy, if_pos rfl, wrongVs]
theorem sort_leaf (k : Int) (b : Bool) (n : Int) (s : ByteArray) : SortR (.mk k b n s [] []) (.mk k b n s [] []) :=
  SortR.mk k b n s [] [] [] [] [] ⟨List.Perm.refl _, fun _ => rfl, fun _ i j _ hj => absurd hj (by simp)⟩ rfl (fun i h => absurd h (by simp)) (by simp)
theorem sort_wA : SortR wA wA :=
  SortR.mk 5 false 0 ⟨#[]⟩ [nV 1, nV 2] [⟨#[97]⟩, ⟨#[98]⟩] [nV 1, nV 2] [⟨#[97]⟩, ⟨#[98]⟩] [0, 1] ⟨List.Perm.refl _, fun h => absurd rfl h, fun _ i j hi hj => by
      obtain rfl : i = 0 := by simp at hj; omega
      obtain rfl : j = 1 := by simp at hj; omega
      show ¬ cmpK ⟨#[98]⟩ ⟨#[97]⟩ < 0
      decide⟩ rfl (fun i h => by
      match i, h with
      | 0, _ => exact sort_leaf _ _ _ _
      | 1, _ => exact sort_leaf _ _ _ _) rfl
theorem sort_wB : SortR wB wA :=
  SortR.mk 5 false 0 ⟨#[]⟩ [nV 2, nV 1] [⟨#[98]⟩, ⟨#[97]⟩] [nV 1, nV 2] [⟨#[97]⟩, ⟨#[98]⟩] [1, 0] ⟨List.Perm.swap _ _ _, fun h => absurd rfl h, fun _ i j hi hj => by
      obtain rfl : i = 0 := by simp at hj; omega
      obtain rfl : j = 1 := by simp at hj; omega
      show ¬ cmpK ⟨#[98]⟩ ⟨#[97]⟩ < 0
      decide⟩ rfl (fun i h => by
      match i, h with
      | 0, _ => exact sort_leaf _ _ _ _
      | 1, _ => exact sort_leaf _ _ _ _) rfl
theorem wrong_wA : wrongV wA = 0 := wrong_obj _ _ _ _ rfl rfl (by decide) (wrong_n 1 (by omega)) (wrong_n 2 (by omega))
theorem wrong_wB : wrongV wB = 0 := wrong_obj _ _ _ _ rfl rfl (by decide) (wrong_n 2 (by omega)) (wrong_n 1 (by omega))
theorem depth_wA : depthV wA = 2 := rfl
theorem depth_wB : depthV wB = 2 := rfl
theorem pw_of {x : V} (h : wrongV x = 0) (hd : depthV x ≤ 24) : pwrongV x = 0 := by unfold pwrongV; rw [if_neg (by omega), h]
theorem cmpA_of {x y sx sy : V} (hx : wrongV x = 0) (hy : wrongV y = 0) (dx : depthV x ≤ 24) (dy : depthV y ≤ 24) (sx' : SortR x sx) (sy' : SortR y sy) : cmpA x y = (pcmpV sx sy, true) := by
  unfold cmpA
  rw [if_neg (by rw [pw_of hx dx, pw_of hy dy]; simp), psort_eq sx' (once_of_wrong hx), psort_eq sy' (once_of_wrong hy)]
theorem wake_eq : eqA wA wB = true := by
  unfold eqA
  rw [cmpA_of wrong_wA wrong_wB (by decide) (by decide) sort_wA sort_wB]
  rfl
theorem wake_less : lessA (nV 2) (tV ⟨#[97]⟩) = true := by
  unfold lessA
  rw [cmpA_of (wrong_n 2 (by omega)) (wrong_t ⟨#[97]⟩ rfl) (by decide) (by decide) (sort_leaf _ _ _ _) (sort_leaf _ _ _ _)]
  rfl
theorem fine_wA : fineV wA := by unfold fineV; decide
theorem fine_wB : fineV wB := by unfold fineV; decide
end Go.Proofs.YtdbfpojgaalfmaaDoor
