/-
  Rows of what is given: cut, and one put in the place of another.
-/
import Derived.Test.YtlamkadllbgamaaGreatDoorEg
set_option linter.unusedVariables false
set_option linter.unusedSimpArgs false
namespace Go.Proofs.YtlamkadllbgamaaGreatDoor
open Go.RowKit Go.Maps

theorem isGL_cut {W : World} : ∀ (l : List G) (xs : List Value) (k : Nat), isGL W l xs → isGL W (l.take k) (xs.take (k * 8)) ∧ isGL W (l.drop k) (xs.drop (k * 8))
  | l, xs, 0, h => by
    rw [Nat.zero_mul, List.take_zero, List.take_zero, List.drop_zero, List.drop_zero]
    exact ⟨by unfold isGL; rfl, h⟩
  | [], xs, k + 1, h => by
    unfold isGL at h
    subst h
    simp only [List.take_nil, List.drop_nil]
    exact ⟨by unfold isGL; rfl, by unfold isGL; rfl⟩
  | g :: t, xs, k + 1, h => by
    unfold isGL at h
    obtain ⟨c0, c1, c2, c3, c4, c5, rest, rfl, hx, hn, ht⟩ := h
    obtain ⟨i1, i2⟩ := isGL_cut t rest k ht
    rw [show (k + 1) * 8 = k * 8 + 1 + 1 + 1 + 1 + 1 + 1 + 1 + 1 by omega]
    simp only [List.take_succ_cons, List.drop_succ_cons]
    refine ⟨?_, i2⟩
    unfold isGL
    exact ⟨c0, c1, c2, c3, c4, c5, _, rfl, hx, hn, i1⟩
theorem put8 {w : World} {b n : Nat} {t : TypeId} {f : Nat → Value} (h : w.rowIs b t n f) (p : Nat) (hp : p + 7 < n) (c0 c1 c2 c3 c4 c5 c6 c7 : Value) :
    ∃ w1 w2 w3 w4 w5 w6 w7 w8 f', ((∃ u, w.cell? ⟨b, p, none⟩ = some u) ∧ w.frozen? ⟨b, p, none⟩ = false ∧ w.setCell ⟨b, p, none⟩ c0 = w1) ∧ ((∃ u, w1.cell? ⟨b, p + 1, none⟩ = some u) ∧ w1.frozen? ⟨b, p + 1, none⟩ = false ∧ w1.setCell ⟨b, p + 1, none⟩ c1 = w2) ∧ ((∃ u, w2.cell? ⟨b, p + 2, none⟩ = some u) ∧ w2.frozen? ⟨b, p + 2, none⟩ = false ∧ w2.setCell ⟨b, p + 2, none⟩ c2 = w3) ∧ ((∃ u, w3.cell? ⟨b, p + 3, none⟩ = some u) ∧ w3.frozen? ⟨b, p + 3, none⟩ = false ∧ w3.setCell ⟨b, p + 3, none⟩ c3 = w4) ∧ ((∃ u, w4.cell? ⟨b, p + 4, none⟩ = some u) ∧ w4.frozen? ⟨b, p + 4, none⟩ = false ∧ w4.setCell ⟨b, p + 4, none⟩ c4 = w5) ∧ ((∃ u, w5.cell? ⟨b, p + 5, none⟩ = some u) ∧ w5.frozen? ⟨b, p + 5, none⟩ = false ∧ w5.setCell ⟨b, p + 5, none⟩ c5 = w6) ∧ ((∃ u, w6.cell? ⟨b, p + 6, none⟩ = some u) ∧ w6.frozen? ⟨b, p + 6, none⟩ = false ∧ w6.setCell ⟨b, p + 6, none⟩ c6 = w7) ∧ ((∃ u, w7.cell? ⟨b, p + 7, none⟩ = some u) ∧ w7.frozen? ⟨b, p + 7, none⟩ = false ∧ w7.setCell ⟨b, p + 7, none⟩ c7 = w8) ∧
      w8.rowIs b t n f' ∧ w.grownBy w8 (some b) ∧ f' p = c0 ∧ f' (p + 1) = c1 ∧ f' (p + 2) = c2 ∧ f' (p + 3) = c3 ∧ f' (p + 4) = c4 ∧ f' (p + 5) = c5 ∧ f' (p + 6) = c6 ∧ f' (p + 7) = c7 ∧ ∀ i, i < p ∨ p + 7 < i → f' i = f i := by
  have h1 := h.set p c0
  have h2 := h1.set (p + 1) c1
  have h3 := h2.set (p + 2) c2
  have h4 := h3.set (p + 3) c3
  have h5 := h4.set (p + 4) c4
  have h6 := h5.set (p + 5) c5
  have h7 := h6.set (p + 6) c6
  have h8 := h7.set (p + 7) c7
  refine ⟨_, _, _, _, _, _, _, _, _, ⟨⟨_, h.cell (show p < n by omega)⟩, h.frozen _, rfl⟩, ⟨⟨_, h1.cell (show p + 1 < n by omega)⟩, h1.frozen _, rfl⟩, ⟨⟨_, h2.cell (show p + 2 < n by omega)⟩, h2.frozen _, rfl⟩, ⟨⟨_, h3.cell (show p + 3 < n by omega)⟩, h3.frozen _, rfl⟩, ⟨⟨_, h4.cell (show p + 4 < n by omega)⟩, h4.frozen _, rfl⟩, ⟨⟨_, h5.cell (show p + 5 < n by omega)⟩, h5.frozen _, rfl⟩, ⟨⟨_, h6.cell (show p + 6 < n by omega)⟩, h6.frozen _, rfl⟩, ⟨⟨_, h7.cell (show p + 7 < n by omega)⟩, h7.frozen _, rfl⟩, h8, ?_, ?_, ?_, ?_, ?_, ?_, ?_, ?_, ?_, ?_⟩
  · exact grown_trans (grown_trans (grown_trans (grown_trans (grown_trans (grown_trans (grown_trans (grown_set _ _ _ _) (grown_set _ _ _ _)) (grown_set _ _ _ _)) (grown_set _ _ _ _)) (grown_set _ _ _ _)) (grown_set _ _ _ _)) (grown_set _ _ _ _)) (grown_set _ _ _ _)
  all_goals try (simp; done)
  intro i hi
  rw [if_neg (by omega), if_neg (by omega), if_neg (by omega), if_neg (by omega), if_neg (by omega), if_neg (by omega), if_neg (by omega), if_neg (by omega)]
/-- One element of an own row put in the place of another: the stores, and what is read then. -/
theorem swap_own {W : World} {base d : Nat} {v : Value} {C : List G} {xs : List Value} {x : G} {c0 c1 c2 c3 c4 c5 : Value} (hd : d < C.length) (ho : W.ownsRow base 35 8 v C.length xs) (hx : isGL W C xs) (hf : ∀ g ∈ C, flatV g.v) (hfx : flatV x.v) (hxx : isG W x (.agg #[.string x.nm, .bool x.unk, c0, c1, c2, c3, c4, c5])) :
    ∃ (g c : Nat), v = .slice (some ⟨g, 0, none⟩) C.length c ∧ C.length ≤ c ∧ c ≤ maxLen ∧ base ≤ g ∧ ∃ w1 w2 w3 w4 w5 w6 w7 w8, ((∃ u, W.cell? ⟨g, d * 8, none⟩ = some u) ∧ W.frozen? ⟨g, d * 8, none⟩ = false ∧ W.setCell ⟨g, d * 8, none⟩ (.string x.nm) = w1) ∧ ((∃ u, w1.cell? ⟨g, d * 8 + 1, none⟩ = some u) ∧ w1.frozen? ⟨g, d * 8 + 1, none⟩ = false ∧ w1.setCell ⟨g, d * 8 + 1, none⟩ (.bool x.unk) = w2) ∧ ((∃ u, w2.cell? ⟨g, d * 8 + 2, none⟩ = some u) ∧ w2.frozen? ⟨g, d * 8 + 2, none⟩ = false ∧ w2.setCell ⟨g, d * 8 + 2, none⟩ c0 = w3) ∧ ((∃ u, w3.cell? ⟨g, d * 8 + 3, none⟩ = some u) ∧ w3.frozen? ⟨g, d * 8 + 3, none⟩ = false ∧ w3.setCell ⟨g, d * 8 + 3, none⟩ c1 = w4) ∧ ((∃ u, w4.cell? ⟨g, d * 8 + 4, none⟩ = some u) ∧ w4.frozen? ⟨g, d * 8 + 4, none⟩ = false ∧ w4.setCell ⟨g, d * 8 + 4, none⟩ c2 = w5) ∧ ((∃ u, w5.cell? ⟨g, d * 8 + 5, none⟩ = some u) ∧ w5.frozen? ⟨g, d * 8 + 5, none⟩ = false ∧ w5.setCell ⟨g, d * 8 + 5, none⟩ c3 = w6) ∧ ((∃ u, w6.cell? ⟨g, d * 8 + 6, none⟩ = some u) ∧ w6.frozen? ⟨g, d * 8 + 6, none⟩ = false ∧ w6.setCell ⟨g, d * 8 + 6, none⟩ c4 = w7) ∧ ((∃ u, w7.cell? ⟨g, d * 8 + 7, none⟩ = some u) ∧ w7.frozen? ⟨g, d * 8 + 7, none⟩ = false ∧ w7.setCell ⟨g, d * 8 + 7, none⟩ c5 = w8) ∧ W.grownBy w8 (some g) ∧ isGs w8 (C.set d x) v := by
  have hcl := isGL_len C xs hx
  obtain ⟨hxl, h2⟩ := ho
  rcases h2 with ⟨rfl, h0⟩ | ⟨g, cap, cur, rfl, r1, r2, r3, r4, r5, r6⟩
  · exact absurd hd (by omega)
  · have hrow : W.rowIs g 35 (cap * 8) (fun i => (cur[i]?).getD undef) := ⟨cur, r2, r5, fun i hi => by
      show cur[i]? = some ((cur[i]?).getD undef)
      rw [Array.getElem?_eq_getElem (show i < cur.size by omega)]
      rfl⟩
    obtain ⟨w1, w2, w3, w4, w5, w6, w7, w8, f', t0, t1, t2, t3, t4, t5, t6, t7, hf', hg', u0, u1, u2, u3, u4, u5, u6, u7, uo⟩ := put8 hrow (d * 8) (by omega) (.string x.nm) (.bool x.unk) c0 c1 c2 c3 c4 c5
    refine ⟨g, cap, rfl, r3, r4, r1, w1, w2, w3, w4, w5, w6, w7, w8, t0, t1, t2, t3, t4, t5, t6, t7, hg', ⟨g, 0, none⟩, cap, ⟨_, by rw [List.length_set], by rw [List.length_set]; exact r3, r4, fun _ => rfl⟩, fun i hi => ?_⟩
    rw [List.length_set] at hi
    have hcell : ∀ q, q < cap * 8 → w8.cell? ⟨g, q, none⟩ = some (f' q) := fun q hq => hf'.cell hq
    rw [add0']
    by_cases e : i = d
    · subst e
      rw [List.getElem_set_self]
      obtain ⟨_, _, _, _, _, _, e1, hv, hn⟩ := hxx
      simp only [Value.agg.injEq, Array.mk.injEq, List.cons.injEq, and_true, true_and] at e1
      obtain ⟨rfl, rfl, rfl, rfl, rfl, rfl⟩ := e1
      exact ⟨_, _, _, _, _, _, (hcell (i * 8) (by omega)).trans (congrArg some u0), (hcell (i * 8 + 1) (by omega)).trans (congrArg some u1), (hcell (i * 8 + 2) (by omega)).trans (congrArg some u2), (hcell (i * 8 + 3) (by omega)).trans (congrArg some u3), (hcell (i * 8 + 4) (by omega)).trans (congrArg some u4), (hcell (i * 8 + 5) (by omega)).trans (congrArg some u5), (hcell (i * 8 + 6) (by omega)).trans (congrArg some u6), (hcell (i * 8 + 7) (by omega)).trans (congrArg some u7), isV_flat hfx hv, hn⟩
    · rw [List.getElem_set_ne (fun e' => e e'.symm)]
      have hgs := isGs_own (L := C) (base := base) ⟨hxl, .inr ⟨g, cap, cur, rfl, r1, r2, r3, r4, r5, r6⟩⟩ hx
      obtain ⟨a9, cap9, ⟨o9, e9, _, _, ho9⟩, hat⟩ := hgs
      simp only [Value.slice.injEq] at e9
      obtain ⟨rfl, _, rfl⟩ := e9
      have := ho9 (by omega)
      simp only [Option.some.injEq] at this
      subst this
      obtain ⟨b0, b1, b2, b3, b4, b5, q0, q1, q2, q3, q4, q5, q6, q7, hv, hn⟩ := hat i hi
      rw [add0'] at q0 q1 q2 q3 q4 q5 q6 q7
      have hk : ∀ q z, q < cap * 8 → (q < d * 8 ∨ d * 8 + 7 < q) → W.cell? ⟨g, q, none⟩ = some z → w8.cell? ⟨g, q, none⟩ = some z := fun q z hq hne hz => by
        rw [hcell q hq, uo q hne, ← hz, hrow.cell hq]
      exact ⟨b0, b1, b2, b3, b4, b5, hk (i * 8) _ (by omega) (by omega) q0, hk (i * 8 + 1) _ (by omega) (by omega) q1, hk (i * 8 + 2) _ (by omega) (by omega) q2, hk (i * 8 + 3) _ (by omega) (by omega) q3, hk (i * 8 + 4) _ (by omega) (by omega) q4, hk (i * 8 + 5) _ (by omega) (by omega) q5, hk (i * 8 + 6) _ (by omega) (by omega) q6, hk (i * 8 + 7) _ (by omega) (by omega) q7, isV_flat (hf _ (List.getElem_mem hi)) hv, hn⟩
end Go.Proofs.YtlamkadllbgamaaGreatDoor
