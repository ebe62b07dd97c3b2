/-
  Cells that hold given properties, one behind another: from memory into lists, and back.
-/
import Derived.Test.YtlamkadllbgamaaGreatDoorE5
set_option linter.unusedVariables false
set_option linter.unusedSimpArgs false
namespace Go.Proofs.YtlamkadllbgamaaGreatDoor
open Go.RowKit

/-- Cells that hold such properties, one behind another. -/
def isGL (W : World) : List G → List Value → Prop
  | [], xs => xs = []
  | g :: t, xs => ∃ c0 c1 c2 c3 c4 c5 rest, xs = .string g.nm :: .bool g.unk :: c0 :: c1 :: c2 :: c3 :: c4 :: c5 :: rest ∧ isV W g.v (.agg #[c0, c1, c2, c3, c4, c5]) ∧ g.nm.size ≤ maxLen ∧ isGL W t rest
theorem isGL_app {W : World} : ∀ (l m : List G) (xs ys : List Value), isGL W l xs → isGL W m ys → isGL W (l ++ m) (xs ++ ys)
  | [], m, xs, ys, h, h' => by
    unfold isGL at h
    subst h
    exact h'
  | x :: t, m, xs, ys, h, h' => by
    unfold isGL at h
    obtain ⟨c0, c1, c2, c3, c4, c5, rest, rfl, hx, hn, ht⟩ := h
    rw [List.cons_append]
    unfold isGL
    exact ⟨c0, c1, c2, c3, c4, c5, rest ++ ys, rfl, hx, hn, isGL_app t m rest ys ht h'⟩
theorem isGL_len {W : World} : ∀ (l : List G) (xs : List Value), isGL W l xs → xs.length = l.length * 8
  | [], xs, h => by unfold isGL at h; subst h; rfl
  | x :: t, xs, h => by
    unfold isGL at h
    obtain ⟨c0, c1, c2, c3, c4, c5, rest, rfl, hx, hn, ht⟩ := h
    have := isGL_len t rest ht
    simp only [List.length_cons]; omega
theorem isGL_one {W : World} : ∀ (l : List G) (xs : List Value), isGL W l xs → ∀ u ∈ xs, u.oneCell' = true
  | [], xs, h, u, hu => by unfold isGL at h; subst h; cases hu
  | x :: t, xs, h, u, hu => by
    unfold isGL at h
    obtain ⟨c0, c1, c2, c3, c4, c5, rest, rfl, hx, hn, ht⟩ := h
    rcases List.mem_cons.1 hu with rfl | hu
    · rfl
    rcases List.mem_cons.1 hu with rfl | hu
    · rfl
    rw [show c0 :: c1 :: c2 :: c3 :: c4 :: c5 :: rest = [c0, c1, c2, c3, c4, c5] ++ rest from rfl] at hu
    rcases List.mem_append.1 hu with hu | hu
    · exact isV_one hx u hu
    · exact isGL_one t rest ht u hu
theorem isGL_below {W W' : World} (hb : Below W.heap.size W W') : ∀ (l : List G) (xs : List Value), isGL W l xs → isGL W' l xs
  | [], xs, h => by unfold isGL at h ⊢; exact h
  | x :: t, xs, h => by
    unfold isGL at h ⊢
    obtain ⟨c0, c1, c2, c3, c4, c5, rest, e, hx, hn, ht⟩ := h
    exact ⟨c0, c1, c2, c3, c4, c5, rest, e, isV_below hb hx, hn, isGL_below hb t rest ht⟩
theorem cell_spot {W : World} {a : Addr} {c : Value} (h : W.cell? a = some c) : a.spot = none := by
  unfold World.cell? at h
  split at h
  · split at h
    · cases h
    · rename_i hs
      cases hh : a.spot with
      | none => rfl
      | some x => rw [hh] at hs; simp at hs
  · cases h
theorem at_add {a : Addr} {i : Nat} (h : a.spot = none) (k : Nat) : (⟨(a.add i).block, (a.add i).off + k, none⟩ : Addr) = a.add (i + k) := by
  obtain ⟨b, o, s⟩ := a
  dsimp only at h
  subst h
  simp only [Addr.add]
  by_cases h1 : i = 0
  · subst h1
    by_cases h2 : k = 0
    · subst h2; simp
    · simp [h2]
  · rw [if_neg h1, if_neg (by omega)]
    simp only [Nat.add_assoc]
theorem isGL_of {W : World} : ∀ (l : List G) (a : Addr), (∀ i (h : i < l.length), isGat W l[i] (a.add (i * 8))) → ∃ xs, isGL W l xs ∧ ∀ j u, xs[j]? = some u → W.cell? (a.add j) = some u
  | [], a, _ => ⟨[], by unfold isGL; rfl, fun j u h => by simp at h⟩
  | g :: t, a, h => by
    obtain ⟨xs, h1, h2⟩ := isGL_of t (a.add 8) (fun i hi => by
      have := h (i + 1) (by simpa using hi)
      rw [show (i + 1) * 8 = 8 + i * 8 by omega, ← add_add] at this
      simpa using this)
    obtain ⟨c0, c1, c2, c3, c4, c5, g0, g1, g2, g3, g4, g5, g6, g7, h3, h4⟩ := h 0 (by simp)
    simp only [List.getElem_cons_zero] at g0 g1 h3 h4
    have hs : a.spot = none := cell_spot g0
    simp only [at_add hs, Nat.zero_mul, Nat.zero_add] at g0 g1 g2 g3 g4 g5 g6 g7
    refine ⟨.string g.nm :: .bool g.unk :: c0 :: c1 :: c2 :: c3 :: c4 :: c5 :: xs, by unfold isGL; exact ⟨c0, c1, c2, c3, c4, c5, xs, rfl, h3, h4, h1⟩, fun j u hj => ?_⟩
    match j, hj with
    | 0, hj => obtain rfl := Option.some.inj hj; exact g0
    | 1, hj => obtain rfl := Option.some.inj hj; exact g1
    | 2, hj => obtain rfl := Option.some.inj hj; exact g2
    | 3, hj => obtain rfl := Option.some.inj hj; exact g3
    | 4, hj => obtain rfl := Option.some.inj hj; exact g4
    | 5, hj => obtain rfl := Option.some.inj hj; exact g5
    | 6, hj => obtain rfl := Option.some.inj hj; exact g6
    | 7, hj => obtain rfl := Option.some.inj hj; exact g7
    | j + 8, hj =>
      have := h2 j u (by simpa using hj)
      rwa [add_add, Nat.add_comm 8 j] at this
theorem isGL_at {W : World} : ∀ (l : List G) (xs : List Value) (a : Addr), a.spot = none → isGL W l xs → (∀ j u, xs[j]? = some u → W.cell? (a.add j) = some u) → ∀ i (h : i < l.length), isGat W l[i] (a.add (i * 8))
  | [], xs, a, hs, h, hc, i, hi => absurd hi (by simp)
  | g :: t, xs, a, hs, h, hc, i, hi => by
    unfold isGL at h
    obtain ⟨c0, c1, c2, c3, c4, c5, rest, rfl, hx, hn, ht⟩ := h
    match i, hi with
    | 0, hi =>
      refine ⟨c0, c1, c2, c3, c4, c5, ?_, ?_, ?_, ?_, ?_, ?_, ?_, ?_, hx, hn⟩
      · exact hc 0 _ rfl
      all_goals (rw [at_add hs]; apply hc; rfl)
    | i + 1, hi =>
      have := isGL_at t rest (a.add 8) (by simp [Addr.add]) ht (fun j u hj => by
        rw [add_add, Nat.add_comm 8 j]
        exact hc (j + 8) u (by simpa using hj)) i (by simpa using hi)
      rw [add_add, show 8 + i * 8 = (i + 1) * 8 by omega] at this
      simpa using this
end Go.Proofs.YtlamkadllbgamaaGreatDoor
