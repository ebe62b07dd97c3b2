/-
  The program's find of values, of what is given, of parameters; some.
-/
import Derived.Test.YtlamkadllbgamaaGreatDoorE0
set_option linter.unusedVariables false
set_option linter.unusedSimpArgs false
namespace Go.Proofs.YtlamkadllbgamaaGreatDoor
open Go.RowKit

def isVl (W : World) (l : List V) (v : Value) : Prop := ∃ a cap, slv v l.length a cap ∧ isVs W l a
theorem isVl_below {W W' : World} (hb : Below W.heap.size W W') {l : List V} {v : Value} (h : isVl W l v) : isVl W' l v := by
  obtain ⟨a, cap, h1, h2⟩ := h
  exact ⟨a, cap, h1, isVs_keep (cell_below hb) l a h2⟩
def zG : G := ⟨⟨#[]⟩, false, zV⟩
def zP : PR := ⟨⟨#[]⟩, false, false, zV, []⟩
theorem isG_zero (W : World) : isG W zG (.agg #[.string ⟨#[]⟩, .bool false, .int .i8 0, .bool false, .int .i64 0, .string ⟨#[]⟩, .slice none 0 0, .slice none 0 0]) :=
  ⟨_, _, _, _, _, _, rfl, isV_zero W, by unfold maxLen; simp [zG, ByteArray.size]⟩
theorem isP_zero (W : World) : isP W zP (.agg #[.string ⟨#[]⟩, .bool false, .bool false, .int .i8 0, .bool false, .int .i64 0, .string ⟨#[]⟩, .slice none 0 0, .slice none 0 0, .slice none 0 0]) :=
  ⟨_, _, _, _, _, _, _, _, _, _, _, _, ⟨0, 0, none⟩, rfl, isV_zero W, ⟨_, rfl, Nat.le_refl _, by unfold maxLen; omega, fun h => by simp [zP] at h⟩, by unfold zP isVs; trivial, by unfold maxLen; simp [zP, ByteArray.size]⟩
theorem isVs_six_z : True := trivial
theorem find_at {α : Type} {L : List α} {f : α → Bool} {j : Nat} (hj : j < L.length) (h : f L[j] = true) (hb : ∀ i (hi : i < L.length), i < j → f L[i] = false) : L.find? f = some L[j] := by
  rw [List.find?_eq_some_iff_getElem]
  exact ⟨h, j, hj, rfl, fun i hi => by simpa using hb i (by omega) hi⟩
theorem find_no {α : Type} {L : List α} {f : α → Bool} (hb : ∀ i (hi : i < L.length), f L[i] = false) : L.find? f = none := by
  rw [List.find?_eq_none]
  intro x hx
  obtain ⟨i, hi, rfl⟩ := List.getElem_of_mem hx
  simp [hb i hi]
theorem six_cells' {W : World} {B : Nat} {c0 c1 c2 c3 c4 c5 : Value} {t : TypeId} (h : W.heap[B]? = some (.cells #[c0, c1, c2, c3, c4, c5] t (0, 0))) :
    W.cell? ⟨B, 0, none⟩ = some c0 ∧ W.cell? ⟨B, 1, none⟩ = some c1 ∧ W.cell? ⟨B, 2, none⟩ = some c2 ∧ W.cell? ⟨B, 3, none⟩ = some c3 ∧ W.cell? ⟨B, 4, none⟩ = some c4 ∧ W.cell? ⟨B, 5, none⟩ = some c5 := by
  simp [World.cell?, h]

theorem rows_six {w : World} {b : Nat} {c0 c1 c2 c3 c4 c5 : Value} {t : TypeId} (h : w.heap[b]? = some (.cells #[c0, c1, c2, c3, c4, c5] t (0, 0))) : w.rowIs b t 6 (fun i => (#[c0, c1, c2, c3, c4, c5][i]?).getD undef) :=
  ⟨_, h, rfl, fun i hi => by
    match i, hi with
    | 0, _ => rfl
    | 1, _ => rfl
    | 2, _ => rfl
    | 3, _ => rfl
    | 4, _ => rfl
    | 5, _ => rfl⟩
theorem put_six {w : World} {b n : Nat} {t : TypeId} {f : Nat → Value} (h : w.rowIs b t n f) (p : Nat) (hp : p + 5 < n) (c0 c1 c2 c3 c4 c5 : Value) :
    ∃ w1 w2 w3 w4 w5 w6 f', ((∃ u, w.cell? ⟨b, p, none⟩ = some u) ∧ w.frozen? ⟨b, p, none⟩ = false ∧ w.setCell ⟨b, p, none⟩ c0 = w1) ∧ ((∃ u, w1.cell? ⟨b, p + 1, none⟩ = some u) ∧ w1.frozen? ⟨b, p + 1, none⟩ = false ∧ w1.setCell ⟨b, p + 1, none⟩ c1 = w2) ∧ ((∃ u, w2.cell? ⟨b, p + 2, none⟩ = some u) ∧ w2.frozen? ⟨b, p + 2, none⟩ = false ∧ w2.setCell ⟨b, p + 2, none⟩ c2 = w3) ∧ ((∃ u, w3.cell? ⟨b, p + 3, none⟩ = some u) ∧ w3.frozen? ⟨b, p + 3, none⟩ = false ∧ w3.setCell ⟨b, p + 3, none⟩ c3 = w4) ∧ ((∃ u, w4.cell? ⟨b, p + 4, none⟩ = some u) ∧ w4.frozen? ⟨b, p + 4, none⟩ = false ∧ w4.setCell ⟨b, p + 4, none⟩ c4 = w5) ∧ ((∃ u, w5.cell? ⟨b, p + 5, none⟩ = some u) ∧ w5.frozen? ⟨b, p + 5, none⟩ = false ∧ w5.setCell ⟨b, p + 5, none⟩ c5 = w6) ∧
      w6.rowIs b t n f' ∧ w.grownBy w6 (some b) ∧ f' p = c0 ∧ f' (p + 1) = c1 ∧ f' (p + 2) = c2 ∧ f' (p + 3) = c3 ∧ f' (p + 4) = c4 ∧ f' (p + 5) = c5 := by
  have h1 := h.set p c0
  have h2 := h1.set (p + 1) c1
  have h3 := h2.set (p + 2) c2
  have h4 := h3.set (p + 3) c3
  have h5 := h4.set (p + 4) c4
  have h6 := h5.set (p + 5) c5
  refine ⟨_, _, _, _, _, _, _, ⟨⟨_, h.cell (show p < n by omega)⟩, h.frozen _, rfl⟩, ⟨⟨_, h1.cell (show p + 1 < n by omega)⟩, h1.frozen _, rfl⟩, ⟨⟨_, h2.cell (show p + 2 < n by omega)⟩, h2.frozen _, rfl⟩, ⟨⟨_, h3.cell (show p + 3 < n by omega)⟩, h3.frozen _, rfl⟩, ⟨⟨_, h4.cell (show p + 4 < n by omega)⟩, h4.frozen _, rfl⟩, ⟨⟨_, h5.cell (show p + 5 < n by omega)⟩, h5.frozen _, rfl⟩, h6, ?_, ?_, ?_, ?_, ?_, ?_, ?_⟩
  · exact grown_trans (grown_trans (grown_trans (grown_trans (grown_trans (grown_set _ _ _ _) (grown_set _ _ _ _)) (grown_set _ _ _ _)) (grown_set _ _ _ _)) (grown_set _ _ _ _)) (grown_set _ _ _ _)
  all_goals (simp; done)
theorem fill_six {w : World} {b : Nat} {c0 c1 c2 c3 c4 c5 d0 d1 d2 d3 d4 d5 : Value} {t : TypeId} (h : w.heap[b]? = some (.cells #[c0, c1, c2, c3, c4, c5] t (0, 0))) :
    ∃ w1 w2 w3 w4 w5 w6, ((∃ u, w.cell? ⟨b, 0, none⟩ = some u) ∧ w.frozen? ⟨b, 0, none⟩ = false ∧ w.setCell ⟨b, 0, none⟩ d0 = w1) ∧ ((∃ u, w1.cell? ⟨b, 1, none⟩ = some u) ∧ w1.frozen? ⟨b, 1, none⟩ = false ∧ w1.setCell ⟨b, 1, none⟩ d1 = w2) ∧ ((∃ u, w2.cell? ⟨b, 2, none⟩ = some u) ∧ w2.frozen? ⟨b, 2, none⟩ = false ∧ w2.setCell ⟨b, 2, none⟩ d2 = w3) ∧ ((∃ u, w3.cell? ⟨b, 3, none⟩ = some u) ∧ w3.frozen? ⟨b, 3, none⟩ = false ∧ w3.setCell ⟨b, 3, none⟩ d3 = w4) ∧ ((∃ u, w4.cell? ⟨b, 4, none⟩ = some u) ∧ w4.frozen? ⟨b, 4, none⟩ = false ∧ w4.setCell ⟨b, 4, none⟩ d4 = w5) ∧ ((∃ u, w5.cell? ⟨b, 5, none⟩ = some u) ∧ w5.frozen? ⟨b, 5, none⟩ = false ∧ w5.setCell ⟨b, 5, none⟩ d5 = w6) ∧
      w.grownBy w6 (some b) ∧ w6.cell? ⟨b, 0, none⟩ = some d0 ∧ w6.cell? ⟨b, 1, none⟩ = some d1 ∧ w6.cell? ⟨b, 2, none⟩ = some d2 ∧ w6.cell? ⟨b, 3, none⟩ = some d3 ∧ w6.cell? ⟨b, 4, none⟩ = some d4 ∧ w6.cell? ⟨b, 5, none⟩ = some d5 := by
  obtain ⟨w1, w2, w3, w4, w5, w6, f', t0, t1, t2, t3, t4, t5, hf, hg, u0, u1, u2, u3, u4, u5⟩ := put_six (rows_six h) 0 (by decide) d0 d1 d2 d3 d4 d5
  simp only [Nat.zero_add] at t0 u0 t1 u1 t2 u2 t3 u3 t4 u4 t5 u5
  refine ⟨_, _, _, _, _, _, t0, t1, t2, t3, t4, t5, hg, (by rw [← u0]; exact hf.cell (show 0 < 6 by decide)), (by rw [← u1]; exact hf.cell (show 1 < 6 by decide)), (by rw [← u2]; exact hf.cell (show 2 < 6 by decide)), (by rw [← u3]; exact hf.cell (show 3 < 6 by decide)), (by rw [← u4]; exact hf.cell (show 4 < 6 by decide)), (by rw [← u5]; exact hf.cell (show 5 < 6 by decide))⟩
theorem rows_eight {w : World} {b : Nat} {c0 c1 c2 c3 c4 c5 c6 c7 : Value} {t : TypeId} (h : w.heap[b]? = some (.cells #[c0, c1, c2, c3, c4, c5, c6, c7] t (0, 0))) : w.rowIs b t 8 (fun i => (#[c0, c1, c2, c3, c4, c5, c6, c7][i]?).getD undef) :=
  ⟨_, h, rfl, fun i hi => by
    match i, hi with
    | 0, _ => rfl
    | 1, _ => rfl
    | 2, _ => rfl
    | 3, _ => rfl
    | 4, _ => rfl
    | 5, _ => rfl
    | 6, _ => rfl
    | 7, _ => rfl⟩
theorem put_eight {w : World} {b n : Nat} {t : TypeId} {f : Nat → Value} (h : w.rowIs b t n f) (p : Nat) (hp : p + 7 < n) (c0 c1 c2 c3 c4 c5 c6 c7 : Value) :
    ∃ w1 w2 w3 w4 w5 w6 w7 w8 f', ((∃ u, w.cell? ⟨b, p, none⟩ = some u) ∧ w.frozen? ⟨b, p, none⟩ = false ∧ w.setCell ⟨b, p, none⟩ c0 = w1) ∧ ((∃ u, w1.cell? ⟨b, p + 1, none⟩ = some u) ∧ w1.frozen? ⟨b, p + 1, none⟩ = false ∧ w1.setCell ⟨b, p + 1, none⟩ c1 = w2) ∧ ((∃ u, w2.cell? ⟨b, p + 2, none⟩ = some u) ∧ w2.frozen? ⟨b, p + 2, none⟩ = false ∧ w2.setCell ⟨b, p + 2, none⟩ c2 = w3) ∧ ((∃ u, w3.cell? ⟨b, p + 3, none⟩ = some u) ∧ w3.frozen? ⟨b, p + 3, none⟩ = false ∧ w3.setCell ⟨b, p + 3, none⟩ c3 = w4) ∧ ((∃ u, w4.cell? ⟨b, p + 4, none⟩ = some u) ∧ w4.frozen? ⟨b, p + 4, none⟩ = false ∧ w4.setCell ⟨b, p + 4, none⟩ c4 = w5) ∧ ((∃ u, w5.cell? ⟨b, p + 5, none⟩ = some u) ∧ w5.frozen? ⟨b, p + 5, none⟩ = false ∧ w5.setCell ⟨b, p + 5, none⟩ c5 = w6) ∧ ((∃ u, w6.cell? ⟨b, p + 6, none⟩ = some u) ∧ w6.frozen? ⟨b, p + 6, none⟩ = false ∧ w6.setCell ⟨b, p + 6, none⟩ c6 = w7) ∧ ((∃ u, w7.cell? ⟨b, p + 7, none⟩ = some u) ∧ w7.frozen? ⟨b, p + 7, none⟩ = false ∧ w7.setCell ⟨b, p + 7, none⟩ c7 = w8) ∧
      w8.rowIs b t n f' ∧ w.grownBy w8 (some b) ∧ f' p = c0 ∧ f' (p + 1) = c1 ∧ f' (p + 2) = c2 ∧ f' (p + 3) = c3 ∧ f' (p + 4) = c4 ∧ f' (p + 5) = c5 ∧ f' (p + 6) = c6 ∧ f' (p + 7) = c7 := by
  have h1 := h.set p c0
  have h2 := h1.set (p + 1) c1
  have h3 := h2.set (p + 2) c2
  have h4 := h3.set (p + 3) c3
  have h5 := h4.set (p + 4) c4
  have h6 := h5.set (p + 5) c5
  have h7 := h6.set (p + 6) c6
  have h8 := h7.set (p + 7) c7
  refine ⟨_, _, _, _, _, _, _, _, _, ⟨⟨_, h.cell (show p < n by omega)⟩, h.frozen _, rfl⟩, ⟨⟨_, h1.cell (show p + 1 < n by omega)⟩, h1.frozen _, rfl⟩, ⟨⟨_, h2.cell (show p + 2 < n by omega)⟩, h2.frozen _, rfl⟩, ⟨⟨_, h3.cell (show p + 3 < n by omega)⟩, h3.frozen _, rfl⟩, ⟨⟨_, h4.cell (show p + 4 < n by omega)⟩, h4.frozen _, rfl⟩, ⟨⟨_, h5.cell (show p + 5 < n by omega)⟩, h5.frozen _, rfl⟩, ⟨⟨_, h6.cell (show p + 6 < n by omega)⟩, h6.frozen _, rfl⟩, ⟨⟨_, h7.cell (show p + 7 < n by omega)⟩, h7.frozen _, rfl⟩, h8, ?_, ?_, ?_, ?_, ?_, ?_, ?_, ?_, ?_⟩
  · exact grown_trans (grown_trans (grown_trans (grown_trans (grown_trans (grown_trans (grown_trans (grown_set _ _ _ _) (grown_set _ _ _ _)) (grown_set _ _ _ _)) (grown_set _ _ _ _)) (grown_set _ _ _ _)) (grown_set _ _ _ _)) (grown_set _ _ _ _)) (grown_set _ _ _ _)
  all_goals (simp; done)
theorem fill_eight {w : World} {b : Nat} {c0 c1 c2 c3 c4 c5 c6 c7 d0 d1 d2 d3 d4 d5 d6 d7 : Value} {t : TypeId} (h : w.heap[b]? = some (.cells #[c0, c1, c2, c3, c4, c5, c6, c7] t (0, 0))) :
    ∃ w1 w2 w3 w4 w5 w6 w7 w8, ((∃ u, w.cell? ⟨b, 0, none⟩ = some u) ∧ w.frozen? ⟨b, 0, none⟩ = false ∧ w.setCell ⟨b, 0, none⟩ d0 = w1) ∧ ((∃ u, w1.cell? ⟨b, 1, none⟩ = some u) ∧ w1.frozen? ⟨b, 1, none⟩ = false ∧ w1.setCell ⟨b, 1, none⟩ d1 = w2) ∧ ((∃ u, w2.cell? ⟨b, 2, none⟩ = some u) ∧ w2.frozen? ⟨b, 2, none⟩ = false ∧ w2.setCell ⟨b, 2, none⟩ d2 = w3) ∧ ((∃ u, w3.cell? ⟨b, 3, none⟩ = some u) ∧ w3.frozen? ⟨b, 3, none⟩ = false ∧ w3.setCell ⟨b, 3, none⟩ d3 = w4) ∧ ((∃ u, w4.cell? ⟨b, 4, none⟩ = some u) ∧ w4.frozen? ⟨b, 4, none⟩ = false ∧ w4.setCell ⟨b, 4, none⟩ d4 = w5) ∧ ((∃ u, w5.cell? ⟨b, 5, none⟩ = some u) ∧ w5.frozen? ⟨b, 5, none⟩ = false ∧ w5.setCell ⟨b, 5, none⟩ d5 = w6) ∧ ((∃ u, w6.cell? ⟨b, 6, none⟩ = some u) ∧ w6.frozen? ⟨b, 6, none⟩ = false ∧ w6.setCell ⟨b, 6, none⟩ d6 = w7) ∧ ((∃ u, w7.cell? ⟨b, 7, none⟩ = some u) ∧ w7.frozen? ⟨b, 7, none⟩ = false ∧ w7.setCell ⟨b, 7, none⟩ d7 = w8) ∧
      w.grownBy w8 (some b) ∧ w8.cell? ⟨b, 0, none⟩ = some d0 ∧ w8.cell? ⟨b, 1, none⟩ = some d1 ∧ w8.cell? ⟨b, 2, none⟩ = some d2 ∧ w8.cell? ⟨b, 3, none⟩ = some d3 ∧ w8.cell? ⟨b, 4, none⟩ = some d4 ∧ w8.cell? ⟨b, 5, none⟩ = some d5 ∧ w8.cell? ⟨b, 6, none⟩ = some d6 ∧ w8.cell? ⟨b, 7, none⟩ = some d7 := by
  obtain ⟨w1, w2, w3, w4, w5, w6, w7, w8, f', t0, t1, t2, t3, t4, t5, t6, t7, hf, hg, u0, u1, u2, u3, u4, u5, u6, u7⟩ := put_eight (rows_eight h) 0 (by decide) d0 d1 d2 d3 d4 d5 d6 d7
  simp only [Nat.zero_add] at t0 u0 t1 u1 t2 u2 t3 u3 t4 u4 t5 u5 t6 u6 t7 u7
  refine ⟨_, _, _, _, _, _, _, _, t0, t1, t2, t3, t4, t5, t6, t7, hg, (by rw [← u0]; exact hf.cell (show 0 < 8 by decide)), (by rw [← u1]; exact hf.cell (show 1 < 8 by decide)), (by rw [← u2]; exact hf.cell (show 2 < 8 by decide)), (by rw [← u3]; exact hf.cell (show 3 < 8 by decide)), (by rw [← u4]; exact hf.cell (show 4 < 8 by decide)), (by rw [← u5]; exact hf.cell (show 5 < 8 by decide)), (by rw [← u6]; exact hf.cell (show 6 < 8 by decide)), (by rw [← u7]; exact hf.cell (show 7 < 8 by decide))⟩
theorem rows_ten {w : World} {b : Nat} {c0 c1 c2 c3 c4 c5 c6 c7 c8 c9 : Value} {t : TypeId} (h : w.heap[b]? = some (.cells #[c0, c1, c2, c3, c4, c5, c6, c7, c8, c9] t (0, 0))) : w.rowIs b t 10 (fun i => (#[c0, c1, c2, c3, c4, c5, c6, c7, c8, c9][i]?).getD undef) :=
  ⟨_, h, rfl, fun i hi => by
    match i, hi with
    | 0, _ => rfl
    | 1, _ => rfl
    | 2, _ => rfl
    | 3, _ => rfl
    | 4, _ => rfl
    | 5, _ => rfl
    | 6, _ => rfl
    | 7, _ => rfl
    | 8, _ => rfl
    | 9, _ => rfl⟩
theorem put_ten {w : World} {b n : Nat} {t : TypeId} {f : Nat → Value} (h : w.rowIs b t n f) (p : Nat) (hp : p + 9 < n) (c0 c1 c2 c3 c4 c5 c6 c7 c8 c9 : Value) :
    ∃ w1 w2 w3 w4 w5 w6 w7 w8 w9 w10 f', ((∃ u, w.cell? ⟨b, p, none⟩ = some u) ∧ w.frozen? ⟨b, p, none⟩ = false ∧ w.setCell ⟨b, p, none⟩ c0 = w1) ∧ ((∃ u, w1.cell? ⟨b, p + 1, none⟩ = some u) ∧ w1.frozen? ⟨b, p + 1, none⟩ = false ∧ w1.setCell ⟨b, p + 1, none⟩ c1 = w2) ∧ ((∃ u, w2.cell? ⟨b, p + 2, none⟩ = some u) ∧ w2.frozen? ⟨b, p + 2, none⟩ = false ∧ w2.setCell ⟨b, p + 2, none⟩ c2 = w3) ∧ ((∃ u, w3.cell? ⟨b, p + 3, none⟩ = some u) ∧ w3.frozen? ⟨b, p + 3, none⟩ = false ∧ w3.setCell ⟨b, p + 3, none⟩ c3 = w4) ∧ ((∃ u, w4.cell? ⟨b, p + 4, none⟩ = some u) ∧ w4.frozen? ⟨b, p + 4, none⟩ = false ∧ w4.setCell ⟨b, p + 4, none⟩ c4 = w5) ∧ ((∃ u, w5.cell? ⟨b, p + 5, none⟩ = some u) ∧ w5.frozen? ⟨b, p + 5, none⟩ = false ∧ w5.setCell ⟨b, p + 5, none⟩ c5 = w6) ∧ ((∃ u, w6.cell? ⟨b, p + 6, none⟩ = some u) ∧ w6.frozen? ⟨b, p + 6, none⟩ = false ∧ w6.setCell ⟨b, p + 6, none⟩ c6 = w7) ∧ ((∃ u, w7.cell? ⟨b, p + 7, none⟩ = some u) ∧ w7.frozen? ⟨b, p + 7, none⟩ = false ∧ w7.setCell ⟨b, p + 7, none⟩ c7 = w8) ∧ ((∃ u, w8.cell? ⟨b, p + 8, none⟩ = some u) ∧ w8.frozen? ⟨b, p + 8, none⟩ = false ∧ w8.setCell ⟨b, p + 8, none⟩ c8 = w9) ∧ ((∃ u, w9.cell? ⟨b, p + 9, none⟩ = some u) ∧ w9.frozen? ⟨b, p + 9, none⟩ = false ∧ w9.setCell ⟨b, p + 9, none⟩ c9 = w10) ∧
      w10.rowIs b t n f' ∧ w.grownBy w10 (some b) ∧ f' p = c0 ∧ f' (p + 1) = c1 ∧ f' (p + 2) = c2 ∧ f' (p + 3) = c3 ∧ f' (p + 4) = c4 ∧ f' (p + 5) = c5 ∧ f' (p + 6) = c6 ∧ f' (p + 7) = c7 ∧ f' (p + 8) = c8 ∧ f' (p + 9) = c9 := by
  have h1 := h.set p c0
  have h2 := h1.set (p + 1) c1
  have h3 := h2.set (p + 2) c2
  have h4 := h3.set (p + 3) c3
  have h5 := h4.set (p + 4) c4
  have h6 := h5.set (p + 5) c5
  have h7 := h6.set (p + 6) c6
  have h8 := h7.set (p + 7) c7
  have h9 := h8.set (p + 8) c8
  have h10 := h9.set (p + 9) c9
  refine ⟨_, _, _, _, _, _, _, _, _, _, _, ⟨⟨_, h.cell (show p < n by omega)⟩, h.frozen _, rfl⟩, ⟨⟨_, h1.cell (show p + 1 < n by omega)⟩, h1.frozen _, rfl⟩, ⟨⟨_, h2.cell (show p + 2 < n by omega)⟩, h2.frozen _, rfl⟩, ⟨⟨_, h3.cell (show p + 3 < n by omega)⟩, h3.frozen _, rfl⟩, ⟨⟨_, h4.cell (show p + 4 < n by omega)⟩, h4.frozen _, rfl⟩, ⟨⟨_, h5.cell (show p + 5 < n by omega)⟩, h5.frozen _, rfl⟩, ⟨⟨_, h6.cell (show p + 6 < n by omega)⟩, h6.frozen _, rfl⟩, ⟨⟨_, h7.cell (show p + 7 < n by omega)⟩, h7.frozen _, rfl⟩, ⟨⟨_, h8.cell (show p + 8 < n by omega)⟩, h8.frozen _, rfl⟩, ⟨⟨_, h9.cell (show p + 9 < n by omega)⟩, h9.frozen _, rfl⟩, h10, ?_, ?_, ?_, ?_, ?_, ?_, ?_, ?_, ?_, ?_, ?_⟩
  · exact grown_trans (grown_trans (grown_trans (grown_trans (grown_trans (grown_trans (grown_trans (grown_trans (grown_trans (grown_set _ _ _ _) (grown_set _ _ _ _)) (grown_set _ _ _ _)) (grown_set _ _ _ _)) (grown_set _ _ _ _)) (grown_set _ _ _ _)) (grown_set _ _ _ _)) (grown_set _ _ _ _)) (grown_set _ _ _ _)) (grown_set _ _ _ _)
  all_goals (simp; done)
theorem fill_ten {w : World} {b : Nat} {c0 c1 c2 c3 c4 c5 c6 c7 c8 c9 d0 d1 d2 d3 d4 d5 d6 d7 d8 d9 : Value} {t : TypeId} (h : w.heap[b]? = some (.cells #[c0, c1, c2, c3, c4, c5, c6, c7, c8, c9] t (0, 0))) :
    ∃ w1 w2 w3 w4 w5 w6 w7 w8 w9 w10, ((∃ u, w.cell? ⟨b, 0, none⟩ = some u) ∧ w.frozen? ⟨b, 0, none⟩ = false ∧ w.setCell ⟨b, 0, none⟩ d0 = w1) ∧ ((∃ u, w1.cell? ⟨b, 1, none⟩ = some u) ∧ w1.frozen? ⟨b, 1, none⟩ = false ∧ w1.setCell ⟨b, 1, none⟩ d1 = w2) ∧ ((∃ u, w2.cell? ⟨b, 2, none⟩ = some u) ∧ w2.frozen? ⟨b, 2, none⟩ = false ∧ w2.setCell ⟨b, 2, none⟩ d2 = w3) ∧ ((∃ u, w3.cell? ⟨b, 3, none⟩ = some u) ∧ w3.frozen? ⟨b, 3, none⟩ = false ∧ w3.setCell ⟨b, 3, none⟩ d3 = w4) ∧ ((∃ u, w4.cell? ⟨b, 4, none⟩ = some u) ∧ w4.frozen? ⟨b, 4, none⟩ = false ∧ w4.setCell ⟨b, 4, none⟩ d4 = w5) ∧ ((∃ u, w5.cell? ⟨b, 5, none⟩ = some u) ∧ w5.frozen? ⟨b, 5, none⟩ = false ∧ w5.setCell ⟨b, 5, none⟩ d5 = w6) ∧ ((∃ u, w6.cell? ⟨b, 6, none⟩ = some u) ∧ w6.frozen? ⟨b, 6, none⟩ = false ∧ w6.setCell ⟨b, 6, none⟩ d6 = w7) ∧ ((∃ u, w7.cell? ⟨b, 7, none⟩ = some u) ∧ w7.frozen? ⟨b, 7, none⟩ = false ∧ w7.setCell ⟨b, 7, none⟩ d7 = w8) ∧ ((∃ u, w8.cell? ⟨b, 8, none⟩ = some u) ∧ w8.frozen? ⟨b, 8, none⟩ = false ∧ w8.setCell ⟨b, 8, none⟩ d8 = w9) ∧ ((∃ u, w9.cell? ⟨b, 9, none⟩ = some u) ∧ w9.frozen? ⟨b, 9, none⟩ = false ∧ w9.setCell ⟨b, 9, none⟩ d9 = w10) ∧
      w.grownBy w10 (some b) ∧ w10.cell? ⟨b, 0, none⟩ = some d0 ∧ w10.cell? ⟨b, 1, none⟩ = some d1 ∧ w10.cell? ⟨b, 2, none⟩ = some d2 ∧ w10.cell? ⟨b, 3, none⟩ = some d3 ∧ w10.cell? ⟨b, 4, none⟩ = some d4 ∧ w10.cell? ⟨b, 5, none⟩ = some d5 ∧ w10.cell? ⟨b, 6, none⟩ = some d6 ∧ w10.cell? ⟨b, 7, none⟩ = some d7 ∧ w10.cell? ⟨b, 8, none⟩ = some d8 ∧ w10.cell? ⟨b, 9, none⟩ = some d9 := by
  obtain ⟨w1, w2, w3, w4, w5, w6, w7, w8, w9, w10, f', t0, t1, t2, t3, t4, t5, t6, t7, t8, t9, hf, hg, u0, u1, u2, u3, u4, u5, u6, u7, u8, u9⟩ := put_ten (rows_ten h) 0 (by decide) d0 d1 d2 d3 d4 d5 d6 d7 d8 d9
  simp only [Nat.zero_add] at t0 u0 t1 u1 t2 u2 t3 u3 t4 u4 t5 u5 t6 u6 t7 u7 t8 u8 t9 u9
  refine ⟨_, _, _, _, _, _, _, _, _, _, t0, t1, t2, t3, t4, t5, t6, t7, t8, t9, hg, (by rw [← u0]; exact hf.cell (show 0 < 10 by decide)), (by rw [← u1]; exact hf.cell (show 1 < 10 by decide)), (by rw [← u2]; exact hf.cell (show 2 < 10 by decide)), (by rw [← u3]; exact hf.cell (show 3 < 10 by decide)), (by rw [← u4]; exact hf.cell (show 4 < 10 by decide)), (by rw [← u5]; exact hf.cell (show 5 < 10 by decide)), (by rw [← u6]; exact hf.cell (show 6 < 10 by decide)), (by rw [← u7]; exact hf.cell (show 7 < 10 by decide)), (by rw [← u8]; exact hf.cell (show 8 < 10 by decide)), (by rw [← u9]; exact hf.cell (show 9 < 10 by decide))⟩
theorem store_six3 {w : World} {b n : Nat} {t : TypeId} {f : Nat → Value} (h : w.rowIs b t n f) (p : Nat) (hp : p + 5 < n) (c0 c1 c2 c3 c4 c5 : Value) :
    ∃ w1 w2 w3 w4 w5 w6 f', ((∃ u, w.cell? ⟨b, p, none⟩ = some u) ∧ w.frozen? ⟨b, p, none⟩ = false ∧ w.setCell ⟨b, p, none⟩ c0 = w1) ∧ ((∃ u, w1.cell? ⟨b, p + 1, none⟩ = some u) ∧ w1.frozen? ⟨b, p + 1, none⟩ = false ∧ w1.setCell ⟨b, p + 1, none⟩ c1 = w2) ∧ ((∃ u, w2.cell? ⟨b, p + 2, none⟩ = some u) ∧ w2.frozen? ⟨b, p + 2, none⟩ = false ∧ w2.setCell ⟨b, p + 2, none⟩ c2 = w3) ∧ ((∃ u, w3.cell? ⟨b, p + 3, none⟩ = some u) ∧ w3.frozen? ⟨b, p + 3, none⟩ = false ∧ w3.setCell ⟨b, p + 3, none⟩ c3 = w4) ∧ ((∃ u, w4.cell? ⟨b, p + 4, none⟩ = some u) ∧ w4.frozen? ⟨b, p + 4, none⟩ = false ∧ w4.setCell ⟨b, p + 4, none⟩ c4 = w5) ∧ ((∃ u, w5.cell? ⟨b, p + 5, none⟩ = some u) ∧ w5.frozen? ⟨b, p + 5, none⟩ = false ∧ w5.setCell ⟨b, p + 5, none⟩ c5 = w6) ∧
      w6.rowIs b t n f' ∧ w.grownBy w6 (some b) ∧ f' p = c0 ∧ f' (p + 1) = c1 ∧ f' (p + 2) = c2 ∧ f' (p + 3) = c3 ∧ f' (p + 4) = c4 ∧ f' (p + 5) = c5 ∧ ∀ i, i < p ∨ p + 5 < i → f' i = f i := by
  have h1 := h.set p c0
  have h2 := h1.set (p + 1) c1
  have h3 := h2.set (p + 2) c2
  have h4 := h3.set (p + 3) c3
  have h5 := h4.set (p + 4) c4
  have h6 := h5.set (p + 5) c5
  refine ⟨_, _, _, _, _, _, _, ⟨⟨_, h.cell (show p < n by omega)⟩, h.frozen _, rfl⟩, ⟨⟨_, h1.cell (show p + 1 < n by omega)⟩, h1.frozen _, rfl⟩, ⟨⟨_, h2.cell (show p + 2 < n by omega)⟩, h2.frozen _, rfl⟩, ⟨⟨_, h3.cell (show p + 3 < n by omega)⟩, h3.frozen _, rfl⟩, ⟨⟨_, h4.cell (show p + 4 < n by omega)⟩, h4.frozen _, rfl⟩, ⟨⟨_, h5.cell (show p + 5 < n by omega)⟩, h5.frozen _, rfl⟩, h6, ?_, ?_, ?_, ?_, ?_, ?_, ?_, ?_⟩
  · exact grown_trans (grown_trans (grown_trans (grown_trans (grown_trans (grown_set _ _ _ _) (grown_set _ _ _ _)) (grown_set _ _ _ _)) (grown_set _ _ _ _)) (grown_set _ _ _ _)) (grown_set _ _ _ _)
  all_goals try (simp; done)
  intro i hi
  rw [if_neg (by omega), if_neg (by omega), if_neg (by omega), if_neg (by omega), if_neg (by omega), if_neg (by omega)]
theorem mend_eight {w : World} {b : Nat} {c0 c1 c2 c3 c4 c5 c6 c7 d2 d3 d4 d5 d6 d7 : Value} {t : TypeId} (h : w.heap[b]? = some (.cells #[c0, c1, c2, c3, c4, c5, c6, c7] t (0, 0))) :
    ∃ w1 w2 w3 w4 w5 w6, ((∃ u, w.cell? ⟨b, 2, none⟩ = some u) ∧ w.frozen? ⟨b, 2, none⟩ = false ∧ w.setCell ⟨b, 2, none⟩ d2 = w1) ∧ ((∃ u, w1.cell? ⟨b, 3, none⟩ = some u) ∧ w1.frozen? ⟨b, 3, none⟩ = false ∧ w1.setCell ⟨b, 3, none⟩ d3 = w2) ∧ ((∃ u, w2.cell? ⟨b, 4, none⟩ = some u) ∧ w2.frozen? ⟨b, 4, none⟩ = false ∧ w2.setCell ⟨b, 4, none⟩ d4 = w3) ∧ ((∃ u, w3.cell? ⟨b, 5, none⟩ = some u) ∧ w3.frozen? ⟨b, 5, none⟩ = false ∧ w3.setCell ⟨b, 5, none⟩ d5 = w4) ∧ ((∃ u, w4.cell? ⟨b, 6, none⟩ = some u) ∧ w4.frozen? ⟨b, 6, none⟩ = false ∧ w4.setCell ⟨b, 6, none⟩ d6 = w5) ∧ ((∃ u, w5.cell? ⟨b, 7, none⟩ = some u) ∧ w5.frozen? ⟨b, 7, none⟩ = false ∧ w5.setCell ⟨b, 7, none⟩ d7 = w6) ∧
      w.grownBy w6 (some b) ∧ w6.cell? ⟨b, 0, none⟩ = some c0 ∧ w6.cell? ⟨b, 1, none⟩ = some c1 ∧ w6.cell? ⟨b, 2, none⟩ = some d2 ∧ w6.cell? ⟨b, 3, none⟩ = some d3 ∧ w6.cell? ⟨b, 4, none⟩ = some d4 ∧ w6.cell? ⟨b, 5, none⟩ = some d5 ∧ w6.cell? ⟨b, 6, none⟩ = some d6 ∧ w6.cell? ⟨b, 7, none⟩ = some d7 := by
  obtain ⟨w1, w2, w3, w4, w5, w6, f', t1, t2, t3, t4, t5, t6, hf, hg, u2, u3, u4, u5, u6, u7, uo⟩ := store_six3 (rows_eight h) 2 (by decide) d2 d3 d4 d5 d6 d7
  have u0 := uo 0 (.inl (by decide))
  have u1 := uo 1 (.inl (by decide))
  refine ⟨w1, w2, w3, w4, w5, w6, t1, t2, t3, t4, t5, t6, hg, ?_, ?_, ?_, ?_, ?_, ?_, ?_, ?_⟩
  · rw [hf.cell (show 0 < 8 by decide), u0]; rfl
  · rw [hf.cell (show 1 < 8 by decide), u1]; rfl
  · rw [← u2]; exact hf.cell (show 2 < 8 by decide)
  · rw [← u3]; exact hf.cell (show 3 < 8 by decide)
  · rw [← u4]; exact hf.cell (show 4 < 8 by decide)
  · rw [← u5]; exact hf.cell (show 5 < 8 by decide)
  · rw [← u6]; exact hf.cell (show 6 < 8 by decide)
  · rw [← u7]; exact hf.cell (show 7 < 8 by decide)


set_option maxRecDepth 100000 in
set_option maxHeartbeats 8000000 in
theorem findV_any (L : List V) (f : V → Bool) (gf : Nat) (lb : Array Value) (v : Value) (w0 w : World) (hk0 : KB w0 w) (hl : L.length ≤ 1000000) (h : isVl w0 L v)
    (ef : ∀ args w, (callFunc gf args).run Tryz.prog w = .ok (.enter gf args) w)
    (hf : ∀ w1, KB w w1 → ∀ i (h : i < L.length) u, isV w1 L[i] u → Calls Tryz.prog gf (#[u] ++ lb) w1 fun e w' => e = .returned (.bool (f L[i])) ∧ Below w1.heap.size w1 w') :
    Calls Tryz.prog 78 #[v, .func (.func gf) #[] lb] w fun e w' => (∃ v', e = .returned (.tuple #[v', .bool (L.find? f).isSome]) ∧ isV w0 ((L.find? f).getD zV) v') ∧ Below w.heap.size w w' := by
  obtain ⟨a, cap, ⟨o, rfl, hc1, hc2, ho⟩, hgs⟩ := h
  unfold maxLen at hc2
  have HK := Lib.hid hgs
  have HF := Lib.hid hf
  have HK0 := Lib.hid hk0
  obtain ⟨r, hr⟩ : ∃ r, L.find? f = r := ⟨_, rfl⟩
  have HR := Lib.hid hr
  rw [hr]
  have n1 := World.alloc_heap_new w (.cells #[.int .i8 0, .bool false, .int .i64 0, .string ⟨#[]⟩, .slice none 0 0, .slice none 0 0] 33)
  have HBW := Lib.hid (kbA (w := w) (o := .cells #[.int .i8 0, .bool false, .int .i64 0, .string ⟨#[]⟩, .slice none 0 0, .slice none 0 0] 33))
  have HN := Lib.hid n1
  clear hgs n1 hr hf hk0
  go_enter Tryz.func78, Tryz.ntmps78
  go_wp2_with fail
  generalize (w.alloc (.cells #[.int .i8 0, .bool false, .int .i64 0, .string ⟨#[]⟩, .slice none 0 0, .slice none 0 0] 33)) = W1 at *
  go_loopw [11] (fun i wr => ∃ j : Nat, j ≤ L.length ∧ i = .int .i64 j ∧ Hid (Below W1.heap.size W1 wr) ∧ Hid (∀ q (hq : q < L.length), q < j → f L[q] = false)) (fun i _ => L.length - (intOf i).toNat)
  case atStart => exact ⟨0, by omega, rfl, Lib.hid (Below.refl _ _), Lib.hid (fun _ _ h => absurd h (by omega))⟩
  case round =>
    obtain ⟨j, hj, rfl, hB, hno⟩ := hrel
    have hB1 : Hid (Below w.heap.size w wr) := Lib.hid (HBW.out.trans (hB.out.mono HBW.out.size))
    have hB2 : Hid (Below w0.heap.size w0 wr) := Lib.hid (HK0.out.trans (hB1.out.mono HK0.out.size))
    have hR1 := Lib.hid ((hB.out.block _ (Array.getElem?_eq_some_iff.1 HN.out).1).trans HN.out)
    have hS1 : Hid (w.heap.size < wr.heap.size) := Lib.hid (Array.getElem?_eq_some_iff.1 hR1.out).1
    by_cases hlt : j < L.length
    · obtain rfl := ho (by omega)
      obtain ⟨k1, b1, m1, s1, o1, l1, p1, o2, l2, p2, g0, g1, g2, g3, g4, g5, hgg⟩ := isVs_sl L a j hlt HK.out
      have g0 := cell_below hB2.out _ _ g0
      have g1 := cell_below hB2.out _ _ g1
      have g2 := cell_below hB2.out _ _ g2
      have g3 := cell_below hB2.out _ _ g3
      have g4 := cell_below hB2.out _ _ g4
      have g5 := cell_below hB2.out _ _ g5
      have HGG := Lib.hid hgg
      have HC : Hid (∀ w1, KB wr w1 → Calls Tryz.prog gf (#[.agg #[.int .i8 k1, .bool b1, .int .i64 m1, .string s1, .slice o1 l1 p1, .slice o2 l2 p2]] ++ lb) w1 fun e w' => e = .returned (.bool (f L[j])) ∧ Below w1.heap.size w1 w') := Lib.hid fun w1 hK => HF.out w1 (hB1.out.trans (hK.mono hB1.out.size)) j hlt _ (isV_below (hB2.out.trans (hK.mono hB2.out.size)) hgg)
      have HA1 : Hid (KB wr (wr.alloc (.cells #[.int .i8 k1, .bool b1, .int .i64 m1, .string s1, .slice o1 l1 p1, .slice o2 l2 p2] 33))) := Lib.hid kbA
      have HX1 := Lib.hid (World.alloc_heap_new wr (.cells #[.int .i8 k1, .bool b1, .int .i64 m1, .string s1, .slice o1 l1 p1, .slice o2 l2 p2] 33))
      clear hgg
      by_cases hv : f L[j] = true
      · have HRES := Lib.hid (show r = some L[j] from HR.out.symm.trans (find_at hlt hv hno.out))
        rw [hv] at HC
        clear hv HF HR hno
        generalize L[j] = g at *
        go_wp2_with (go_at_fn gf; refine (HC.out _ HA1.out).mono ?_; rintro e w5 ⟨rfl, hb5⟩; obtain ⟨r0, r1, r2, r3, r4, r5⟩ := six_cells' ((hb5.block wr.heap.size (by simp)).trans HX1.out); obtain ⟨y1, y2, y3, y4, y5, y6, ⟨⟨_, x0⟩, x0', x0''⟩, ⟨⟨_, x1⟩, x1', x1''⟩, ⟨⟨_, x2⟩, x2', x2''⟩, ⟨⟨_, x3⟩, x3', x3''⟩, ⟨⟨_, x4⟩, x4', x4''⟩, ⟨⟨_, x5⟩, x5', x5''⟩, hg7, u0, u1, u2, u3, u4, u5⟩ := fill_six (d0 := .int .i8 k1) (d1 := .bool b1) (d2 := .int .i64 m1) (d3 := .string s1) (d4 := .slice o1 l1 p1) (d5 := .slice o2 l2 p2) ((hb5.block w.heap.size (by have := hS1.out; simp; omega)).trans ((HA1.out.block w.heap.size hS1.out).trans hR1.out)); have HG := Lib.hid (And.intro hg7 (And.intro u0 (And.intro u1 (And.intro u2 (And.intro u3 (And.intro u4 u5)))))); clear hg7 u0 u1 u2 u3 u4 u5)
        obtain ⟨hg7, u0, u1, u2, u3, u4, u5⟩ := HG.out
        refine bodyPost_ret (v := .tuple #[.agg #[.int .i8 k1, .bool b1, .int .i64 m1, .string s1, .slice o1 l1 p1, .slice o2 l2 p2], .bool true]) (by simp [results, Tryz.results78, go_sem, u0, u1, u2, u3, u4, u5]) rfl ?_
        have hbw5 := hB1.out.trans ((HA1.out.trans (hb5.mono HA1.out.size)).mono hB1.out.size)
        have hbel := hbw5.grown hg7 hbw5.size (fun r e => by cases e; omega)
        exact ⟨⟨_, by rw [HRES.out]; rfl, by rw [HRES.out]; exact HGG.out⟩, hbel⟩
      · have hv' : f L[j] = false := by simpa using hv
        have hno' : Hid (∀ q (hq : q < L.length), q < j + 1 → f L[q] = false) := Lib.hid fun q hq h => by
          by_cases e : q = j
          · subst e; exact hv'
          · exact hno.out q hq (by omega)
        rw [hv'] at HC
        clear hv hv' hno HF HR
        generalize L[j] = g at *
        go_wp2_with (go_at_fn gf; refine (HC.out _ HA1.out).mono ?_; rintro e w5 ⟨rfl, hb5⟩)
        go_roundw
        case rel => exact ⟨j + 1, by omega, by go_num, Lib.hid (hB.out.trans ((HA1.out.trans (hb5.mono HA1.out.size)).mono hB.out.size)), hno'⟩
        case measure => simp [intOf]; omega
    · obtain rfl : j = L.length := by omega
      have HRES := Lib.hid (show r = none from HR.out.symm.trans (find_no (fun i hi => hno.out i hi hi)))
      have HA1 : Hid (KB wr (wr.alloc (.cells #[.int .i8 0, .bool false, .int .i64 0, .string ⟨#[]⟩, .slice none 0 0, .slice none 0 0] 33))) := Lib.hid kbA
      have HX1 := Lib.hid (World.alloc_heap_new wr (.cells #[.int .i8 0, .bool false, .int .i64 0, .string ⟨#[]⟩, .slice none 0 0, .slice none 0 0] 33))
      obtain ⟨r0, r1, r2, r3, r4, r5⟩ := six_cells' HX1.out
      obtain ⟨y1, y2, y3, y4, y5, y6, ⟨⟨_, x0⟩, x0', x0''⟩, ⟨⟨_, x1⟩, x1', x1''⟩, ⟨⟨_, x2⟩, x2', x2''⟩, ⟨⟨_, x3⟩, x3', x3''⟩, ⟨⟨_, x4⟩, x4', x4''⟩, ⟨⟨_, x5⟩, x5', x5''⟩, hg7, u0, u1, u2, u3, u4, u5⟩ := fill_six (d0 := .int .i8 0) (d1 := .bool false) (d2 := .int .i64 0) (d3 := .string ⟨#[]⟩) (d4 := .slice none 0 0) (d5 := .slice none 0 0) ((HA1.out.block w.heap.size hS1.out).trans hR1.out)
      have HG := Lib.hid (And.intro hg7 (And.intro u0 (And.intro u1 (And.intro u2 (And.intro u3 (And.intro u4 u5))))))
      clear hg7 u0 u1 u2 u3 u4 u5 hno HR HF
      go_wp2_with fail
      obtain ⟨hg7, u0, u1, u2, u3, u4, u5⟩ := HG.out
      refine bodyPost_ret (v := .tuple #[.agg #[.int .i8 0, .bool false, .int .i64 0, .string ⟨#[]⟩, .slice none 0 0, .slice none 0 0], .bool false]) (by simp [results, Tryz.results78, go_sem, u0, u1, u2, u3, u4, u5]) rfl ?_
      have hbw5 := hB1.out.trans (HA1.out.mono hB1.out.size)
      have hbel := hbw5.grown hg7 hbw5.size (fun r e => by cases e; omega)
      exact ⟨⟨_, by rw [HRES.out]; rfl, by rw [HRES.out]; exact isV_zero _⟩, hbel⟩


set_option maxRecDepth 100000 in
set_option maxHeartbeats 8000000 in
theorem findG_any (L : List G) (f : G → Bool) (gf : Nat) (lb : Array Value) (v : Value) (w0 w : World) (hk0 : KB w0 w) (hl : L.length ≤ 1000000) (h : isGs w0 L v)
    (ef : ∀ args w, (callFunc gf args).run Tryz.prog w = .ok (.enter gf args) w)
    (hf : ∀ w1, KB w w1 → ∀ i (h : i < L.length) u, isG w1 L[i] u → Calls Tryz.prog gf (#[u] ++ lb) w1 fun e w' => e = .returned (.bool (f L[i])) ∧ Below w1.heap.size w1 w') :
    Calls Tryz.prog 37 #[v, .func (.func gf) #[] lb] w fun e w' => (∃ v', e = .returned (.tuple #[v', .bool (L.find? f).isSome]) ∧ isG w0 ((L.find? f).getD zG) v') ∧ Below w.heap.size w w' := by
  obtain ⟨a, cap, ⟨o, rfl, hc1, hc2, ho⟩, hgs⟩ := h
  unfold maxLen at hc2
  have HK := Lib.hid hgs
  have HF := Lib.hid hf
  have HK0 := Lib.hid hk0
  obtain ⟨r, hr⟩ : ∃ r, L.find? f = r := ⟨_, rfl⟩
  have HR := Lib.hid hr
  rw [hr]
  have n1 := World.alloc_heap_new w (.cells #[.string ⟨#[]⟩, .bool false, .int .i8 0, .bool false, .int .i64 0, .string ⟨#[]⟩, .slice none 0 0, .slice none 0 0] 35)
  have HBW := Lib.hid (kbA (w := w) (o := .cells #[.string ⟨#[]⟩, .bool false, .int .i8 0, .bool false, .int .i64 0, .string ⟨#[]⟩, .slice none 0 0, .slice none 0 0] 35))
  have HN := Lib.hid n1
  clear hgs n1 hr hf hk0
  go_enter Tryz.func37, Tryz.ntmps37
  go_wp2_with fail
  generalize (w.alloc (.cells #[.string ⟨#[]⟩, .bool false, .int .i8 0, .bool false, .int .i64 0, .string ⟨#[]⟩, .slice none 0 0, .slice none 0 0] 35)) = W1 at *
  go_loopw [11] (fun i wr => ∃ j : Nat, j ≤ L.length ∧ i = .int .i64 j ∧ Hid (Below W1.heap.size W1 wr) ∧ Hid (∀ q (hq : q < L.length), q < j → f L[q] = false)) (fun i _ => L.length - (intOf i).toNat)
  case atStart => exact ⟨0, by omega, rfl, Lib.hid (Below.refl _ _), Lib.hid (fun _ _ h => absurd h (by omega))⟩
  case round =>
    obtain ⟨j, hj, rfl, hB, hno⟩ := hrel
    have hB1 : Hid (Below w.heap.size w wr) := Lib.hid (HBW.out.trans (hB.out.mono HBW.out.size))
    have hB2 : Hid (Below w0.heap.size w0 wr) := Lib.hid (HK0.out.trans (hB1.out.mono HK0.out.size))
    have hR1 := Lib.hid ((hB.out.block _ (Array.getElem?_eq_some_iff.1 HN.out).1).trans HN.out)
    have hS1 : Hid (w.heap.size < wr.heap.size) := Lib.hid (Array.getElem?_eq_some_iff.1 hR1.out).1
    by_cases hlt : j < L.length
    · obtain rfl := ho (by omega)
      obtain ⟨k1, b1, m1, s1, o1, l1, p1, o2, l2, p2, g0, g1, g2, g3, g4, g5, g6, g7, hgg⟩ := isGat_eight (HK.out j hlt)
      have g0 := cell_below hB2.out _ _ g0
      have g1 := cell_below hB2.out _ _ g1
      have g2 := cell_below hB2.out _ _ g2
      have g3 := cell_below hB2.out _ _ g3
      have g4 := cell_below hB2.out _ _ g4
      have g5 := cell_below hB2.out _ _ g5
      have g6 := cell_below hB2.out _ _ g6
      have g7 := cell_below hB2.out _ _ g7
      have HGG := Lib.hid hgg
      have HC : Hid (∀ w1, KB wr w1 → Calls Tryz.prog gf (#[.agg #[.string L[j].nm, .bool L[j].unk, .int .i8 k1, .bool b1, .int .i64 m1, .string s1, .slice o1 l1 p1, .slice o2 l2 p2]] ++ lb) w1 fun e w' => e = .returned (.bool (f L[j])) ∧ Below w1.heap.size w1 w') := Lib.hid fun w1 hK => HF.out w1 (hB1.out.trans (hK.mono hB1.out.size)) j hlt _ (isG_below (hB2.out.trans (hK.mono hB2.out.size)) hgg)
      have HA1 : Hid (KB wr (wr.alloc (.cells #[.string L[j].nm, .bool L[j].unk, .int .i8 k1, .bool b1, .int .i64 m1, .string s1, .slice o1 l1 p1, .slice o2 l2 p2] 35))) := Lib.hid kbA
      have HX1 := Lib.hid (World.alloc_heap_new wr (.cells #[.string L[j].nm, .bool L[j].unk, .int .i8 k1, .bool b1, .int .i64 m1, .string s1, .slice o1 l1 p1, .slice o2 l2 p2] 35))
      clear hgg
      by_cases hv : f L[j] = true
      · have HRES := Lib.hid (show r = some L[j] from HR.out.symm.trans (find_at hlt hv hno.out))
        rw [hv] at HC
        clear hv HF HR hno
        generalize L[j] = g at *
        go_wp2_with (go_at_fn gf; refine (HC.out _ HA1.out).mono ?_; rintro e w5 ⟨rfl, hb5⟩; obtain ⟨r0, r1, r2, r3, r4, r5, r6, r7⟩ := eight_cells ((hb5.block wr.heap.size (by simp)).trans HX1.out); obtain ⟨y1, y2, y3, y4, y5, y6, y7, y8, ⟨⟨_, x0⟩, x0', x0''⟩, ⟨⟨_, x1⟩, x1', x1''⟩, ⟨⟨_, x2⟩, x2', x2''⟩, ⟨⟨_, x3⟩, x3', x3''⟩, ⟨⟨_, x4⟩, x4', x4''⟩, ⟨⟨_, x5⟩, x5', x5''⟩, ⟨⟨_, x6⟩, x6', x6''⟩, ⟨⟨_, x7⟩, x7', x7''⟩, hg7, u0, u1, u2, u3, u4, u5, u6, u7⟩ := fill_eight (d0 := .string g.nm) (d1 := .bool g.unk) (d2 := .int .i8 k1) (d3 := .bool b1) (d4 := .int .i64 m1) (d5 := .string s1) (d6 := .slice o1 l1 p1) (d7 := .slice o2 l2 p2) ((hb5.block w.heap.size (by have := hS1.out; simp; omega)).trans ((HA1.out.block w.heap.size hS1.out).trans hR1.out)); have HG := Lib.hid (And.intro hg7 (And.intro u0 (And.intro u1 (And.intro u2 (And.intro u3 (And.intro u4 (And.intro u5 (And.intro u6 u7)))))))); clear hg7 u0 u1 u2 u3 u4 u5 u6 u7)
        obtain ⟨hg7, u0, u1, u2, u3, u4, u5, u6, u7⟩ := HG.out
        refine bodyPost_ret (v := .tuple #[.agg #[.string g.nm, .bool g.unk, .int .i8 k1, .bool b1, .int .i64 m1, .string s1, .slice o1 l1 p1, .slice o2 l2 p2], .bool true]) (by simp [results, Tryz.results37, go_sem, u0, u1, u2, u3, u4, u5, u6, u7]) rfl ?_
        have hbw5 := hB1.out.trans ((HA1.out.trans (hb5.mono HA1.out.size)).mono hB1.out.size)
        have hbel := hbw5.grown hg7 hbw5.size (fun r e => by cases e; omega)
        exact ⟨⟨_, by rw [HRES.out]; rfl, by rw [HRES.out]; exact HGG.out⟩, hbel⟩
      · have hv' : f L[j] = false := by simpa using hv
        have hno' : Hid (∀ q (hq : q < L.length), q < j + 1 → f L[q] = false) := Lib.hid fun q hq h => by
          by_cases e : q = j
          · subst e; exact hv'
          · exact hno.out q hq (by omega)
        rw [hv'] at HC
        clear hv hv' hno HF HR
        generalize L[j] = g at *
        go_wp2_with (go_at_fn gf; refine (HC.out _ HA1.out).mono ?_; rintro e w5 ⟨rfl, hb5⟩)
        go_roundw
        case rel => exact ⟨j + 1, by omega, by go_num, Lib.hid (hB.out.trans ((HA1.out.trans (hb5.mono HA1.out.size)).mono hB.out.size)), hno'⟩
        case measure => simp [intOf]; omega
    · obtain rfl : j = L.length := by omega
      have HRES := Lib.hid (show r = none from HR.out.symm.trans (find_no (fun i hi => hno.out i hi hi)))
      have HA1 : Hid (KB wr (wr.alloc (.cells #[.string ⟨#[]⟩, .bool false, .int .i8 0, .bool false, .int .i64 0, .string ⟨#[]⟩, .slice none 0 0, .slice none 0 0] 35))) := Lib.hid kbA
      have HX1 := Lib.hid (World.alloc_heap_new wr (.cells #[.string ⟨#[]⟩, .bool false, .int .i8 0, .bool false, .int .i64 0, .string ⟨#[]⟩, .slice none 0 0, .slice none 0 0] 35))
      obtain ⟨r0, r1, r2, r3, r4, r5, r6, r7⟩ := eight_cells HX1.out
      obtain ⟨y1, y2, y3, y4, y5, y6, y7, y8, ⟨⟨_, x0⟩, x0', x0''⟩, ⟨⟨_, x1⟩, x1', x1''⟩, ⟨⟨_, x2⟩, x2', x2''⟩, ⟨⟨_, x3⟩, x3', x3''⟩, ⟨⟨_, x4⟩, x4', x4''⟩, ⟨⟨_, x5⟩, x5', x5''⟩, ⟨⟨_, x6⟩, x6', x6''⟩, ⟨⟨_, x7⟩, x7', x7''⟩, hg7, u0, u1, u2, u3, u4, u5, u6, u7⟩ := fill_eight (d0 := .string ⟨#[]⟩) (d1 := .bool false) (d2 := .int .i8 0) (d3 := .bool false) (d4 := .int .i64 0) (d5 := .string ⟨#[]⟩) (d6 := .slice none 0 0) (d7 := .slice none 0 0) ((HA1.out.block w.heap.size hS1.out).trans hR1.out)
      have HG := Lib.hid (And.intro hg7 (And.intro u0 (And.intro u1 (And.intro u2 (And.intro u3 (And.intro u4 (And.intro u5 (And.intro u6 u7))))))))
      clear hg7 u0 u1 u2 u3 u4 u5 u6 u7 hno HR HF
      go_wp2_with fail
      obtain ⟨hg7, u0, u1, u2, u3, u4, u5, u6, u7⟩ := HG.out
      refine bodyPost_ret (v := .tuple #[.agg #[.string ⟨#[]⟩, .bool false, .int .i8 0, .bool false, .int .i64 0, .string ⟨#[]⟩, .slice none 0 0, .slice none 0 0], .bool false]) (by simp [results, Tryz.results37, go_sem, u0, u1, u2, u3, u4, u5, u6, u7]) rfl ?_
      have hbw5 := hB1.out.trans (HA1.out.mono hB1.out.size)
      have hbel := hbw5.grown hg7 hbw5.size (fun r e => by cases e; omega)
      exact ⟨⟨_, by rw [HRES.out]; rfl, by rw [HRES.out]; exact isG_zero _⟩, hbel⟩


set_option maxRecDepth 100000 in
set_option maxHeartbeats 8000000 in
theorem findP_any (L : List PR) (f : PR → Bool) (gf : Nat) (lb : Array Value) (v : Value) (w0 w : World) (hk0 : KB w0 w) (hl : L.length ≤ 1000000) (h : isPs w0 L v)
    (ef : ∀ args w, (callFunc gf args).run Tryz.prog w = .ok (.enter gf args) w)
    (hf : ∀ w1, KB w w1 → ∀ i (h : i < L.length) u, isP w1 L[i] u → Calls Tryz.prog gf (#[u] ++ lb) w1 fun e w' => e = .returned (.bool (f L[i])) ∧ Below w1.heap.size w1 w') :
    Calls Tryz.prog 41 #[v, .func (.func gf) #[] lb] w fun e w' => (∃ v', e = .returned (.tuple #[v', .bool (L.find? f).isSome]) ∧ isP w0 ((L.find? f).getD zP) v') ∧ Below w.heap.size w w' := by
  obtain ⟨a, cap, ⟨o, rfl, hc1, hc2, ho⟩, hgs⟩ := h
  unfold maxLen at hc2
  have HK := Lib.hid hgs
  have HF := Lib.hid hf
  have HK0 := Lib.hid hk0
  obtain ⟨r, hr⟩ : ∃ r, L.find? f = r := ⟨_, rfl⟩
  have HR := Lib.hid hr
  rw [hr]
  have n1 := World.alloc_heap_new w (.cells #[.string ⟨#[]⟩, .bool false, .bool false, .int .i8 0, .bool false, .int .i64 0, .string ⟨#[]⟩, .slice none 0 0, .slice none 0 0, .slice none 0 0] 37)
  have HBW := Lib.hid (kbA (w := w) (o := .cells #[.string ⟨#[]⟩, .bool false, .bool false, .int .i8 0, .bool false, .int .i64 0, .string ⟨#[]⟩, .slice none 0 0, .slice none 0 0, .slice none 0 0] 37))
  have HN := Lib.hid n1
  clear hgs n1 hr hf hk0
  go_enter Tryz.func41, Tryz.ntmps41
  go_wp2_with fail
  generalize (w.alloc (.cells #[.string ⟨#[]⟩, .bool false, .bool false, .int .i8 0, .bool false, .int .i64 0, .string ⟨#[]⟩, .slice none 0 0, .slice none 0 0, .slice none 0 0] 37)) = W1 at *
  go_loopw [11] (fun i wr => ∃ j : Nat, j ≤ L.length ∧ i = .int .i64 j ∧ Hid (Below W1.heap.size W1 wr) ∧ Hid (∀ q (hq : q < L.length), q < j → f L[q] = false)) (fun i _ => L.length - (intOf i).toNat)
  case atStart => exact ⟨0, by omega, rfl, Lib.hid (Below.refl _ _), Lib.hid (fun _ _ h => absurd h (by omega))⟩
  case round =>
    obtain ⟨j, hj, rfl, hB, hno⟩ := hrel
    have hB1 : Hid (Below w.heap.size w wr) := Lib.hid (HBW.out.trans (hB.out.mono HBW.out.size))
    have hB2 : Hid (Below w0.heap.size w0 wr) := Lib.hid (HK0.out.trans (hB1.out.mono HK0.out.size))
    have hR1 := Lib.hid ((hB.out.block _ (Array.getElem?_eq_some_iff.1 HN.out).1).trans HN.out)
    have hS1 : Hid (w.heap.size < wr.heap.size) := Lib.hid (Array.getElem?_eq_some_iff.1 hR1.out).1
    by_cases hlt : j < L.length
    · obtain rfl := ho (by omega)
      obtain ⟨k1, b1, m1, s1, o1, l1, p1, o2, l2, p2, o3, p3, g0, g1, g2, g3, g4, g5, g6, g7, g8, g9, hgg⟩ := isPat_ten (HK.out j hlt)
      have g0 := cell_below hB2.out _ _ g0
      have g1 := cell_below hB2.out _ _ g1
      have g2 := cell_below hB2.out _ _ g2
      have g3 := cell_below hB2.out _ _ g3
      have g4 := cell_below hB2.out _ _ g4
      have g5 := cell_below hB2.out _ _ g5
      have g6 := cell_below hB2.out _ _ g6
      have g7 := cell_below hB2.out _ _ g7
      have g8 := cell_below hB2.out _ _ g8
      have g9 := cell_below hB2.out _ _ g9
      have HGG := Lib.hid hgg
      have HC : Hid (∀ w1, KB wr w1 → Calls Tryz.prog gf (#[.agg #[.string L[j].nm, .bool L[j].num, .bool L[j].has, .int .i8 k1, .bool b1, .int .i64 m1, .string s1, .slice o1 l1 p1, .slice o2 l2 p2, .slice o3 L[j].al.length p3]] ++ lb) w1 fun e w' => e = .returned (.bool (f L[j])) ∧ Below w1.heap.size w1 w') := Lib.hid fun w1 hK => HF.out w1 (hB1.out.trans (hK.mono hB1.out.size)) j hlt _ (isP_below (hB2.out.trans (hK.mono hB2.out.size)) hgg)
      have HA1 : Hid (KB wr (wr.alloc (.cells #[.string L[j].nm, .bool L[j].num, .bool L[j].has, .int .i8 k1, .bool b1, .int .i64 m1, .string s1, .slice o1 l1 p1, .slice o2 l2 p2, .slice o3 L[j].al.length p3] 37))) := Lib.hid kbA
      have HX1 := Lib.hid (World.alloc_heap_new wr (.cells #[.string L[j].nm, .bool L[j].num, .bool L[j].has, .int .i8 k1, .bool b1, .int .i64 m1, .string s1, .slice o1 l1 p1, .slice o2 l2 p2, .slice o3 L[j].al.length p3] 37))
      clear hgg
      by_cases hv : f L[j] = true
      · have HRES := Lib.hid (show r = some L[j] from HR.out.symm.trans (find_at hlt hv hno.out))
        rw [hv] at HC
        clear hv HF HR hno
        generalize L[j] = g at *
        go_wp2_with (go_at_fn gf; refine (HC.out _ HA1.out).mono ?_; rintro e w5 ⟨rfl, hb5⟩; obtain ⟨r0, r1, r2, r3, r4, r5, r6, r7, r8, r9⟩ := ten_cells ((hb5.block wr.heap.size (by simp)).trans HX1.out); obtain ⟨y1, y2, y3, y4, y5, y6, y7, y8, y9, y10, ⟨⟨_, x0⟩, x0', x0''⟩, ⟨⟨_, x1⟩, x1', x1''⟩, ⟨⟨_, x2⟩, x2', x2''⟩, ⟨⟨_, x3⟩, x3', x3''⟩, ⟨⟨_, x4⟩, x4', x4''⟩, ⟨⟨_, x5⟩, x5', x5''⟩, ⟨⟨_, x6⟩, x6', x6''⟩, ⟨⟨_, x7⟩, x7', x7''⟩, ⟨⟨_, x8⟩, x8', x8''⟩, ⟨⟨_, x9⟩, x9', x9''⟩, hg7, u0, u1, u2, u3, u4, u5, u6, u7, u8, u9⟩ := fill_ten (d0 := .string g.nm) (d1 := .bool g.num) (d2 := .bool g.has) (d3 := .int .i8 k1) (d4 := .bool b1) (d5 := .int .i64 m1) (d6 := .string s1) (d7 := .slice o1 l1 p1) (d8 := .slice o2 l2 p2) (d9 := .slice o3 g.al.length p3) ((hb5.block w.heap.size (by have := hS1.out; simp; omega)).trans ((HA1.out.block w.heap.size hS1.out).trans hR1.out)); have HG := Lib.hid (And.intro hg7 (And.intro u0 (And.intro u1 (And.intro u2 (And.intro u3 (And.intro u4 (And.intro u5 (And.intro u6 (And.intro u7 (And.intro u8 u9)))))))))); clear hg7 u0 u1 u2 u3 u4 u5 u6 u7 u8 u9)
        obtain ⟨hg7, u0, u1, u2, u3, u4, u5, u6, u7, u8, u9⟩ := HG.out
        refine bodyPost_ret (v := .tuple #[.agg #[.string g.nm, .bool g.num, .bool g.has, .int .i8 k1, .bool b1, .int .i64 m1, .string s1, .slice o1 l1 p1, .slice o2 l2 p2, .slice o3 g.al.length p3], .bool true]) (by simp [results, Tryz.results41, go_sem, u0, u1, u2, u3, u4, u5, u6, u7, u8, u9]) rfl ?_
        have hbw5 := hB1.out.trans ((HA1.out.trans (hb5.mono HA1.out.size)).mono hB1.out.size)
        have hbel := hbw5.grown hg7 hbw5.size (fun r e => by cases e; omega)
        exact ⟨⟨_, by rw [HRES.out]; rfl, by rw [HRES.out]; exact HGG.out⟩, hbel⟩
      · have hv' : f L[j] = false := by simpa using hv
        have hno' : Hid (∀ q (hq : q < L.length), q < j + 1 → f L[q] = false) := Lib.hid fun q hq h => by
          by_cases e : q = j
          · subst e; exact hv'
          · exact hno.out q hq (by omega)
        rw [hv'] at HC
        clear hv hv' hno HF HR
        generalize L[j] = g at *
        go_wp2_with (go_at_fn gf; refine (HC.out _ HA1.out).mono ?_; rintro e w5 ⟨rfl, hb5⟩)
        go_roundw
        case rel => exact ⟨j + 1, by omega, by go_num, Lib.hid (hB.out.trans ((HA1.out.trans (hb5.mono HA1.out.size)).mono hB.out.size)), hno'⟩
        case measure => simp [intOf]; omega
    · obtain rfl : j = L.length := by omega
      have HRES := Lib.hid (show r = none from HR.out.symm.trans (find_no (fun i hi => hno.out i hi hi)))
      have HA1 : Hid (KB wr (wr.alloc (.cells #[.string ⟨#[]⟩, .bool false, .bool false, .int .i8 0, .bool false, .int .i64 0, .string ⟨#[]⟩, .slice none 0 0, .slice none 0 0, .slice none 0 0] 37))) := Lib.hid kbA
      have HX1 := Lib.hid (World.alloc_heap_new wr (.cells #[.string ⟨#[]⟩, .bool false, .bool false, .int .i8 0, .bool false, .int .i64 0, .string ⟨#[]⟩, .slice none 0 0, .slice none 0 0, .slice none 0 0] 37))
      obtain ⟨r0, r1, r2, r3, r4, r5, r6, r7, r8, r9⟩ := ten_cells HX1.out
      obtain ⟨y1, y2, y3, y4, y5, y6, y7, y8, y9, y10, ⟨⟨_, x0⟩, x0', x0''⟩, ⟨⟨_, x1⟩, x1', x1''⟩, ⟨⟨_, x2⟩, x2', x2''⟩, ⟨⟨_, x3⟩, x3', x3''⟩, ⟨⟨_, x4⟩, x4', x4''⟩, ⟨⟨_, x5⟩, x5', x5''⟩, ⟨⟨_, x6⟩, x6', x6''⟩, ⟨⟨_, x7⟩, x7', x7''⟩, ⟨⟨_, x8⟩, x8', x8''⟩, ⟨⟨_, x9⟩, x9', x9''⟩, hg7, u0, u1, u2, u3, u4, u5, u6, u7, u8, u9⟩ := fill_ten (d0 := .string ⟨#[]⟩) (d1 := .bool false) (d2 := .bool false) (d3 := .int .i8 0) (d4 := .bool false) (d5 := .int .i64 0) (d6 := .string ⟨#[]⟩) (d7 := .slice none 0 0) (d8 := .slice none 0 0) (d9 := .slice none 0 0) ((HA1.out.block w.heap.size hS1.out).trans hR1.out)
      have HG := Lib.hid (And.intro hg7 (And.intro u0 (And.intro u1 (And.intro u2 (And.intro u3 (And.intro u4 (And.intro u5 (And.intro u6 (And.intro u7 (And.intro u8 u9))))))))))
      clear hg7 u0 u1 u2 u3 u4 u5 u6 u7 u8 u9 hno HR HF
      go_wp2_with fail
      obtain ⟨hg7, u0, u1, u2, u3, u4, u5, u6, u7, u8, u9⟩ := HG.out
      refine bodyPost_ret (v := .tuple #[.agg #[.string ⟨#[]⟩, .bool false, .bool false, .int .i8 0, .bool false, .int .i64 0, .string ⟨#[]⟩, .slice none 0 0, .slice none 0 0, .slice none 0 0], .bool false]) (by simp [results, Tryz.results41, go_sem, u0, u1, u2, u3, u4, u5, u6, u7, u8, u9]) rfl ?_
      have hbw5 := hB1.out.trans (HA1.out.mono hB1.out.size)
      have hbel := hbw5.grown hg7 hbw5.size (fun r e => by cases e; omega)
      exact ⟨⟨_, by rw [HRES.out]; rfl, by rw [HRES.out]; exact isP_zero _⟩, hbel⟩

end Go.Proofs.YtlamkadllbgamaaGreatDoor
