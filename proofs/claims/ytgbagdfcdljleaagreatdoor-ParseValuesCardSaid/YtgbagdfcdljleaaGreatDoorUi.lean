/-
  What lies in memory between two rounds of Unquote's loop.
-/
import Derived.Test.YtgbagdfcdljleaaGreatDoorUq
set_option linter.unusedVariables false
set_option linter.unusedSimpArgs false
namespace Go.Proofs.YtgbagdfcdljleaaGreatDoor.Ru
open Go.RowKit Go.Shelf Go.Maps

/-- Between two rounds: the arguments' boxes, the results', the builder, the letters' map and its box, 'next', the iterator's text. -/
def UI (w : World) (s R : ByteArray) (p k nm : Nat) (D : DataW Unit) (st : Nat × List UInt8) (W : World) : Prop :=
  (Lib.IsBuilderF 84 5 w.heap.size (w.heap.size + 1 + 1 + 1 + 1 + 1) (Lib.byteCells st.2) W ∧
    (Boxed W w.heap.size 9 (.string s) ∧ Boxed W (w.heap.size + 1) 3 (.int .i64 p)) ∧
    (Boxed W (w.heap.size + 1 + 1) 9 (.string ⟨#[]⟩) ∧ Boxed W (w.heap.size + 1 + 1 + 1) 3 (.int .i64 0) ∧ Boxed W (w.heap.size + 1 + 1 + 1 + 1) 29 (.int .i64 0)) ∧
    (Boxed W k 85 (.map (some (w.heap.size + 1 + 1 + 1 + 1 + 1 + 1))) ∧ Boxed W (k + 1) 3 (.int .i64 (st.1 : Nat)) ∧ Boxed W (k + 1 + 1) 9 (.string R))) ∧
  (W.ownsMap Tryz.prog 5 (plainElem Tryz.prog 3) (w.heap.size + 1 + 1 + 1 + 1 + 1 + 1) nm D ∧ Below w.heap.size w W)
/-- Behind a return: the results. -/
def UA (w : World) (a : UAns) (W : World) : Prop :=
  (Boxed W (w.heap.size + 1 + 1) 9 (.string ⟨a.1.toArray⟩) ∧ Boxed W (w.heap.size + 1 + 1 + 1) 3 (.int .i64 (a.2.1 : Nat)) ∧ Boxed W (w.heap.size + 1 + 1 + 1 + 1) 29 (.int .i64 (a.2.2 : Nat))) ∧ Below w.heap.size w W

section
variable {w : World} {s R : ByteArray} {p k nm : Nat} {D : DataW Unit} {st : Nat × List UInt8} {W W' : World}

theorem UI.kept {row : Option Nat} {z : Nat} (h : UI w s R p k nm D st W) (hg : W.grownBy W' row) (hr : ∀ r, row = some r → z ≤ r ∧ ∃ o : Obj, W.heap[r]? = some o ∧ o.isCells = false) (hz : w.heap.size + 1 + 1 + 1 + 1 + 1 + 1 < z) : UI w s R p k nm D st W' := by
  obtain ⟨⟨h1, ⟨h2, h3⟩, ⟨h4, h5, h6⟩, h7, h8, h9⟩, h10, h11⟩ := h
  have hb : ∀ {N : Nat} {t : TypeId} {v : Value}, Boxed W N t v → Boxed W' N t v := fun {N t v} hN =>
    hN.kept hg (fun e => by
      obtain ⟨_, o, ho, hc⟩ := hr _ e.symm
      rw [show W.heap[N]? = _ from hN] at ho
      cases ho; cases hc)
  refine ⟨⟨?_, ⟨hb h2, hb h3⟩, ⟨hb h4, hb h5, hb h6⟩, hb h7, hb h8, hb h9⟩, h10.kept hg (fun e => by have := (hr _ e.symm).1; omega), h11.grown hg h11.size (fun r e => by have := (hr r e).1; omega)⟩
  exact bld_kept h1 hg (fun r e c fz => by
    obtain ⟨_, o, ho, hc⟩ := hr r e
    rw [ho]
    exact ⟨(fun e2 => by cases e2; cases hc), (fun e2 => by cases e2; cases hc)⟩)
theorem UI.below (h : UI w s R p k nm D st W) (hb : Below W.heap.size W W') : UI w s R p k nm D st W' :=
  h.kept (z := w.heap.size + 1 + 1 + 1 + 1 + 1 + 1 + 1) (grown_of_below hb) (fun r e => by cases e) (by omega)
theorem keeps_below (hb : Below W.heap.size W W') : KeepsOthers W W' :=
  ⟨hb.size, fun j o hj _ => (hb.block j (Array.getElem?_eq_some_iff.1 hj).1).trans hj⟩
theorem kpB_below {m B : Nat} (hb : Below W.heap.size W W') (hm : m ≤ W.heap.size) (hB : B < W.heap.size) : KpB m B W W' := ⟨hb.mono hm, hb.block B hB⟩
/-- A write of the builder. -/
theorem UI.wrote {acc' : List UInt8} (h : UI w s R p k nm D st W) (hk : w.heap.size + 1 + 1 + 1 + 1 + 1 + 1 < k)
    (bd : Lib.IsBuilderF 84 5 w.heap.size (w.heap.size + 1 + 1 + 1 + 1 + 1) (Lib.byteCells acc') W') (hb : Below w.heap.size W W') (hO : Lib.OthersKept 5 (some (w.heap.size + 1 + 1 + 1 + 1 + 1)) W W') :
    UI w s R p k nm D (st.1, acc') W' ∧ KeepsOthers W W' ∧ KpB w.heap.size (k + 1 + 1) W W' := by
  obtain ⟨⟨h1, ⟨h2, h3⟩, ⟨h4, h5, h6⟩, h7, h8, h9⟩, h10, h11⟩ := h
  have h9' := boxed_others hO h9 (by decide) (by omega)
  exact ⟨⟨⟨bd, ⟨boxed_others hO h2 (by decide) (by omega), boxed_others hO h3 (by decide) (by omega)⟩, ⟨boxed_others hO h4 (by decide) (by omega), boxed_others hO h5 (by decide) (by omega), boxed_others hO h6 (by decide) (by omega)⟩,
    boxed_others hO h7 (by decide) (by omega), boxed_others hO h8 (by decide) (by omega), h9'⟩, map_others hO h10 (bld_cells h1), h11.trans hb⟩, keepsOthers_of_kept hO hb.size (bld_cells h1), hb, h9'.trans h9.symm⟩
/-- 'next' is set. -/
theorem UI.next (h : UI w s R p k nm D st W) (hk : w.heap.size + 1 + 1 + 1 + 1 + 1 + 1 < k) (nx : Nat) :
    UI w s R p k nm D (nx, st.2) (W.setCell ⟨k + 1, 0, none⟩ (.int .i64 nx)) ∧ KeepsOthers W (W.setCell ⟨k + 1, 0, none⟩ (.int .i64 nx)) ∧ KpB w.heap.size (k + 1 + 1) W (W.setCell ⟨k + 1, 0, none⟩ (.int .i64 nx)) := by
  obtain ⟨⟨h1, ⟨h2, h3⟩, ⟨h4, h5, h6⟩, h7, h8, h9⟩, h10, h11⟩ := h
  have hne : ∀ {N : Nat} {t : TypeId} {v : Value}, Boxed W N t v → N ≠ k + 1 → Boxed (W.setCell ⟨k + 1, 0, none⟩ (.int .i64 nx)) N t v := fun hN e => hN.other e _
  have h9' := hne h9 (by omega)
  refine ⟨⟨⟨bld_box h1 h8 (by decide) (by decide), ⟨hne h2 (by omega), hne h3 (by omega)⟩, ⟨hne h4 (by omega), hne h5 (by omega), hne h6 (by omega)⟩, hne h7 (by omega), h8.set _, h9'⟩, ?_, h11.setCell (p := ⟨k + 1, 0, none⟩) (by simp; omega) _⟩,
    KeepsOthers.setCell _ _ _, (Below.refl _ W).setCell (p := ⟨k + 1, 0, none⟩) (by simp; omega) _, h9'.trans h9.symm⟩
  exact h10.kept (grownBy_setCell' W (k + 1) _) (by simp; omega)
theorem UI.next0 (h : UI w s R p k nm D st W) (hk : w.heap.size + 1 + 1 + 1 + 1 + 1 + 1 < k) :
    UI w s R p k nm D (0, st.2) (W.setCell ⟨k + 1, 0, none⟩ (.int .i64 0)) ∧ KeepsOthers W (W.setCell ⟨k + 1, 0, none⟩ (.int .i64 0)) ∧ KpB w.heap.size (k + 1 + 1) W (W.setCell ⟨k + 1, 0, none⟩ (.int .i64 0)) := h.next hk 0
/-- The results are set. -/
theorem UI.ret (h : UI w s R p k nm D st W) (a : UAns) :
    UA w a (((W.setCell ⟨w.heap.size + 1 + 1, 0, none⟩ (.string ⟨a.1.toArray⟩)).setCell ⟨w.heap.size + 1 + 1 + 1, 0, none⟩ (.int .i64 (a.2.1 : Nat))).setCell ⟨w.heap.size + 1 + 1 + 1 + 1, 0, none⟩ (.int .i64 (a.2.2 : Nat))) := by
  obtain ⟨⟨h1, ⟨h2, h3⟩, ⟨h4, h5, h6⟩, h7, h8, h9⟩, h10, h11⟩ := h
  have a4 := ((h4.set (.string ⟨a.1.toArray⟩)).other (B' := w.heap.size + 1 + 1 + 1) (by omega) (.int .i64 (a.2.1 : Nat))).other (B' := w.heap.size + 1 + 1 + 1 + 1) (by omega) (.int .i64 (a.2.2 : Nat))
  have a5 := ((h5.other (B' := w.heap.size + 1 + 1) (by omega) (.string ⟨a.1.toArray⟩)).set (.int .i64 (a.2.1 : Nat))).other (B' := w.heap.size + 1 + 1 + 1 + 1) (by omega) (.int .i64 (a.2.2 : Nat))
  have a6 := ((h6.other (B' := w.heap.size + 1 + 1) (by omega) (.string ⟨a.1.toArray⟩)).other (B' := w.heap.size + 1 + 1 + 1) (by omega) (.int .i64 (a.2.1 : Nat))).set (.int .i64 (a.2.2 : Nat))
  exact ⟨⟨a4, a5, a6⟩, ((h11.setCell (p := ⟨w.heap.size + 1 + 1, 0, none⟩) (by simp; omega) _).setCell (p := ⟨w.heap.size + 1 + 1 + 1, 0, none⟩) (by simp; omega) _).setCell (p := ⟨w.heap.size + 1 + 1 + 1 + 1, 0, none⟩) (by simp; omega) _⟩
theorem ret_keeps (W : World) (A B C : Nat) (x y z : Value) : KeepsOthers W (((W.setCell ⟨A, 0, none⟩ x).setCell ⟨B, 0, none⟩ y).setCell ⟨C, 0, none⟩ z) :=
  ((KeepsOthers.setCell _ _ _).trans (KeepsOthers.setCell _ _ _)).trans (KeepsOthers.setCell _ _ _)
end

/-- What the loop keeps, by how far it has come. -/
def UIo (w : World) (s R : ByteArray) (p k nm : Nat) (D : DataW Unit) (o : (Nat × List UInt8) ⊕ UAns) (W : World) : Prop :=
  match o with
  | .inl st => UI w s R p k nm D st W
  | .inr _ => False
def UAo (w : World) (o : (Nat × List UInt8) ⊕ UAns) (W : World) : Prop :=
  match o with
  | .inl _ => False
  | .inr a => UA w a W
theorem UIo_own {β : Type} {w : World} {s R : ByteArray} {p k nm z : Nat} {D : DataW Unit} (f : β → (Nat × List UInt8) ⊕ UAns) (hz : w.heap.size + 1 + 1 + 1 + 1 + 1 + 1 < z) : OwnFrom z (fun x W => UIo w s R p k nm D (f x) W) := by
  intro x A C row hs hg hr
  show UIo w s R p k nm D (f x) C
  have hs' : UIo w s R p k nm D (f x) A := hs
  unfold UIo at hs' ⊢
  split
  · rename_i st hst
    rw [hst] at hs'
    exact UI.kept hs' hg hr hz
  · rename_i a ha
    rw [ha] at hs'
    exact hs'
theorem UAo_own {β : Type} {w : World} {z : Nat} (f : β → (Nat × List UInt8) ⊕ UAns) (hz : w.heap.size ≤ z) (q : Prop) : OwnFrom z (fun x W => q ∧ UAo w (f x) W) := by
  intro x A C row hs hg hr
  refine ⟨hs.1, ?_⟩
  have hs' : UAo w (f x) A := hs.2
  unfold UAo at hs' ⊢
  split
  · rename_i st hst
    rw [hst] at hs'
    exact hs'
  · rename_i a ha
    rw [ha] at hs'
    obtain ⟨⟨h1, h2, h3⟩, h4⟩ := hs'
    have hb : ∀ {N : Nat} {t : TypeId} {v : Value}, Boxed A N t v → Boxed C N t v := fun {N t v} hN =>
      hN.kept hg (fun e => by
        obtain ⟨_, o, ho, hc⟩ := hr _ e.symm
        rw [show A.heap[N]? = _ from hN] at ho
        cases ho; cases hc)
    exact ⟨⟨hb h1, hb h2, hb h3⟩, h4.grown hg h4.size (fun r e => by have := (hr r e).1; omega)⟩
end Go.Proofs.YtgbagdfcdljleaaGreatDoor.Ru
