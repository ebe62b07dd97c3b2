/-
  RunesWalk, plain: the loop's body as a fold over the steps; and what lies in memory between two rounds.
-/
import Derived.Test.YtcbinbhohohaoaaDoorRVal
import Derived.Test.YtcbinbhohohaoaaDoorJoin
set_option linter.unusedVariables false
namespace Go.Proofs.YtcbinbhohohaoaaDoor
open Go.RowKit Go.Shelf

/-- One round: where the next rune must stand, and how many there were; or the answer. -/
def stepW (l : List UInt8) (stop : Int) (st : Nat × Nat) (x : Nat × Nat) : (Nat × Nat) ⊕ Bool :=
  if x.1 ≠ st.1 then .inr false else if ((st.2 + 1 : Nat) : Int) = stop then .inr true else .inl (st.1 + (Lib.decodeL (l.drop st.1)).2, st.2 + 1)
def foldW (l : List UInt8) (stop : Int) : (Nat × Nat) → List (Nat × Nat) → (Nat × Nat) ⊕ Bool
  | st, [] => .inl st
  | st, x :: t => match stepW l stop st x with
    | .inl st' => foldW l stop st' t
    | .inr b => .inr b
theorem foldW_snoc (l : List UInt8) (stop : Int) : ∀ (pre : List (Nat × Nat)) (st st' : Nat × Nat) (x : Nat × Nat), foldW l stop st pre = .inl st' → foldW l stop st (pre ++ [x]) = stepW l stop st' x
  | [], st, st', x, h => by
    simp only [foldW, Sum.inl.injEq] at h
    subst h
    simp only [List.nil_append, foldW]
    cases stepW l stop st x <;> rfl
  | y :: t, st, st', x, h => by
    simp only [List.cons_append, foldW] at h ⊢
    cases hs : stepW l stop st y with
    | inr b => rw [hs] at h; cases h
    | inl s2 =>
      rw [hs] at h
      exact foldW_snoc l stop t s2 st' x h
theorem foldW_app (l : List UInt8) (stop : Int) : ∀ (pre ys : List (Nat × Nat)) (st : Nat × Nat) (b : Bool), foldW l stop st pre = .inr b → foldW l stop st (pre ++ ys) = .inr b
  | [], ys, st, b, h => by cases h
  | y :: t, ys, st, b, h => by
    simp only [List.cons_append, foldW] at h ⊢
    cases hs : stepW l stop st y with
    | inr b2 => rw [hs] at h; exact h
    | inl s2 =>
      rw [hs] at h
      exact foldW_app l stop t ys s2 b h
theorem foldW_count (l : List UInt8) (stop : Int) : ∀ (pre : List (Nat × Nat)) (st st' : Nat × Nat), foldW l stop st pre = .inl st' → st'.2 = st.2 + pre.length
  | [], st, st', h => by simp only [foldW, Sum.inl.injEq] at h; subst h; rfl
  | y :: t, st, st', h => by
    simp only [foldW] at h
    cases hs : stepW l stop st y with
    | inr b2 => rw [hs] at h; cases h
    | inl s2 =>
      rw [hs] at h
      have := foldW_count l stop t s2 st' h
      have e : s2.2 = st.2 + 1 := by
        unfold stepW at hs
        split at hs
        · cases hs
        · split at hs
          · cases hs
          · cases hs; rfl
      rw [List.length_cons]; omega

/-- Over all the steps of a text: the answer is never 'no', and the end is where it is no text. -/
theorem foldW_all (l : List UInt8) (stop : Int) : ∀ (n p c : Nat), p ≤ l.length → l.length - p ≤ n →
    foldW l stop (p, c) (stepsP p (l.drop p)) = .inr true ∨ ∃ q k, foldW l stop (p, c) (stepsP p (l.drop p)) = .inl (q, k) ∧ q ≤ l.length ∧ oneL (l.drop q) = (0, 0) ∧ (q = l.length ↔ Lib.validD (l.drop p) = true)
  | n, p, c, hp, hn => by
    by_cases he : p = l.length
    · subst he
      refine .inr ⟨l.length, c, ?_, Nat.le_refl _, ?_, ?_⟩
      · rw [List.drop_length, stepsP_nil]; rfl
      · rw [List.drop_length]; rfl
      · rw [List.drop_length]; exact ⟨fun _ => rfl, fun _ => rfl⟩
    have h0 : l.drop p ≠ [] := by
      intro e
      have := congrArg List.length e
      rw [List.length_drop] at this
      simp at this; omega
    cases hb : bad (l.drop p) with
    | true =>
      refine .inr ⟨p, c, ?_, hp, oneL_bad hb, ?_⟩
      · rw [stepsP_bad p hb]; rfl
      · rw [validD_bad h0, hb]; simp; exact he
    | false =>
      have hw := Lib.decodeL_width (l.drop p)
      have hl := Lib.decodeL_le (l.drop p) h0
      rw [List.length_drop] at hl
      have e3 := stepsP_good p h0 hb
      have e2 := validD_bad h0
      rw [hb, List.drop_drop] at e2
      rw [List.drop_drop] at e3
      have hx : foldW l stop (p, c) (stepsP p (l.drop p)) = match (if ((c + 1 : Nat) : Int) = stop then (.inr true : (Nat × Nat) ⊕ Bool) else .inl (p + (Lib.decodeL (l.drop p)).2, c + 1)) with
          | .inl st' => foldW l stop st' (stepsP (p + (Lib.decodeL (l.drop p)).2) (l.drop (p + (Lib.decodeL (l.drop p)).2)))
          | .inr b => .inr b := by
        rw [e3]
        simp only [foldW, stepW]
        rw [if_neg (by simp)]
      rw [hx]
      generalize (Lib.decodeL (l.drop p)).2 = K at *
      by_cases hs : ((c + 1 : Nat) : Int) = stop
      · rw [if_pos hs]; exact .inl rfl
      · rw [if_neg hs]
        match n, hn with
        | 0, hn => exfalso; omega
        | n + 1, hn =>
          rcases foldW_all l stop n (p + K) (c + 1) (by omega) (by omega) with h | ⟨q, k, h1, h2, h3, h4⟩
          · exact .inl h
          · exact .inr ⟨q, k, h1, h2, h3, h4.trans (by rw [e2]; rfl)⟩
termination_by n => n

section
variable {w : World} {s : ByteArray} {stop : Int} {st : Nat × Nat} {W W' : World}
def WI (w : World) (s : ByteArray) (stop : Int) (st : Nat × Nat) (W : World) : Prop :=
  (Boxed W w.heap.size 9 (.string s) ∧ Boxed W (w.heap.size + 1) 3 (.int .i64 stop) ∧ Boxed W (w.heap.size + 1 + 1) 4 (.bool false) ∧ Boxed W (w.heap.size + 1 + 1 + 1) 9 (.string s) ∧
    Boxed W (w.heap.size + 1 + 1 + 1 + 1) 3 (.int .i64 (st.1 : Nat)) ∧ Boxed W (w.heap.size + 1 + 1 + 1 + 1 + 1) 3 (.int .i64 (st.2 : Nat))) ∧ Below w.heap.size w W ∧ st.1 ≤ s.size
def WA (w : World) (b : Bool) (W : World) : Prop := Boxed W (w.heap.size + 1 + 1) 4 (.bool b) ∧ Below w.heap.size w W

theorem WI.kept {row : Option Nat} {z : Nat} (h : WI w s stop st W) (hg : W.grownBy W' row) (hr : ∀ r, row = some r → z ≤ r ∧ ∃ o : Obj, W.heap[r]? = some o ∧ o.isCells = false) (hz : w.heap.size ≤ z) : WI w s stop st W' := by
  obtain ⟨⟨h1, h2, h3, h4, h5, h6⟩, h7, h8⟩ := h
  have hb : ∀ {N : Nat} {t : TypeId} {v : Value}, Boxed W N t v → Boxed W' N t v := fun {N t v} hN =>
    hN.kept hg (fun e => by
      obtain ⟨_, o, ho, hc⟩ := hr _ e.symm
      rw [show W.heap[N]? = _ from hN] at ho
      cases ho; cases hc)
  exact ⟨⟨hb h1, hb h2, hb h3, hb h4, hb h5, hb h6⟩, h7.grown hg h7.size (fun r e => by have := (hr r e).1; omega), h8⟩
theorem WI.below (h : WI w s stop st W) (hb : Below W.heap.size W W') : WI w s stop st W' :=
  h.kept (z := w.heap.size) (grown_of_below hb) (fun r e => by cases e) (Nat.le_refl _)
theorem WI.set (h : WI w s stop st W) (a n : Nat) (ha : a ≤ s.size) :
    WI w s stop (a, n) ((W.setCell ⟨w.heap.size + 1 + 1 + 1 + 1, 0, none⟩ (.int .i64 a)).setCell ⟨w.heap.size + 1 + 1 + 1 + 1 + 1, 0, none⟩ (.int .i64 n)) ∧
    KeepsOthers W ((W.setCell ⟨w.heap.size + 1 + 1 + 1 + 1, 0, none⟩ (.int .i64 a)).setCell ⟨w.heap.size + 1 + 1 + 1 + 1 + 1, 0, none⟩ (.int .i64 n)) ∧
    KpB w.heap.size (w.heap.size + 1 + 1 + 1) W ((W.setCell ⟨w.heap.size + 1 + 1 + 1 + 1, 0, none⟩ (.int .i64 a)).setCell ⟨w.heap.size + 1 + 1 + 1 + 1 + 1, 0, none⟩ (.int .i64 n)) := by
  obtain ⟨⟨h1, h2, h3, h4, h5, h6⟩, h7, h8⟩ := h
  have hne : ∀ {N : Nat} {t : TypeId} {v : Value}, Boxed W N t v → N ≠ w.heap.size + 1 + 1 + 1 + 1 → N ≠ w.heap.size + 1 + 1 + 1 + 1 + 1 → Boxed ((W.setCell ⟨w.heap.size + 1 + 1 + 1 + 1, 0, none⟩ (.int .i64 a)).setCell ⟨w.heap.size + 1 + 1 + 1 + 1 + 1, 0, none⟩ (.int .i64 n)) N t v := fun hN e e' => (hN.other e _).other e' _
  have h4' := hne h4 (by omega) (by omega)
  have bel : ∀ X : World, Below w.heap.size X ((X.setCell ⟨w.heap.size + 1 + 1 + 1 + 1, 0, none⟩ (.int .i64 a)).setCell ⟨w.heap.size + 1 + 1 + 1 + 1 + 1, 0, none⟩ (.int .i64 n)) := fun X =>
    ((Below.refl _ X).setCell (p := ⟨w.heap.size + 1 + 1 + 1 + 1, 0, none⟩) (by simp; omega) _).setCell (p := ⟨w.heap.size + 1 + 1 + 1 + 1 + 1, 0, none⟩) (by simp; omega) _
  exact ⟨⟨⟨hne h1 (by omega) (by omega), hne h2 (by omega) (by omega), hne h3 (by omega) (by omega), h4', (h5.set _).other (by omega) _, (h6.other (by omega) _).set _⟩, h7.trans (bel W), ha⟩,
    (KeepsOthers.setCell _ _ _).trans (KeepsOthers.setCell _ _ _), bel W, h4'.trans h4.symm⟩
theorem WI.ret (h : WI w s stop st W) (b : Bool) : WA w b (W.setCell ⟨w.heap.size + 1 + 1, 0, none⟩ (.bool b)) :=
  ⟨h.1.2.2.1.set _, h.2.1.setCell (p := ⟨w.heap.size + 1 + 1, 0, none⟩) (by simp; omega) _⟩
end

def WIo (w : World) (s : ByteArray) (stop : Int) (o : (Nat × Nat) ⊕ Bool) (W : World) : Prop :=
  match o with
  | .inl st => WI w s stop st W
  | .inr _ => False
def WAo (w : World) (o : (Nat × Nat) ⊕ Bool) (W : World) : Prop :=
  match o with
  | .inl _ => False
  | .inr b => WA w b W
theorem WIo_own {β : Type} {w : World} {s : ByteArray} {stop : Int} {z : Nat} (f : β → (Nat × Nat) ⊕ Bool) (hz : w.heap.size ≤ z) : OwnFrom z (fun x W => WIo w s stop (f x) W) := by
  intro x A C row hs hg hr
  show WIo w s stop (f x) C
  have hs' : WIo w s stop (f x) A := hs
  unfold WIo at hs' ⊢
  split
  · rename_i st hst
    rw [hst] at hs'
    exact WI.kept hs' hg hr hz
  · rename_i a ha
    rw [ha] at hs'
    exact hs'
theorem WAo_own {β : Type} {w : World} {z : Nat} (f : β → (Nat × Nat) ⊕ Bool) (hz : w.heap.size ≤ z) (q : Prop) : OwnFrom z (fun x W => q ∧ WAo w (f x) W) := by
  intro x A C row hs hg hr
  refine ⟨hs.1, ?_⟩
  have hs' : WAo w (f x) A := hs.2
  unfold WAo at hs' ⊢
  split
  · rename_i st hst
    rw [hst] at hs'
    exact hs'
  · rename_i a ha
    rw [ha] at hs'
    obtain ⟨h1, h4⟩ := hs'
    exact ⟨h1.kept hg (fun e => by
        obtain ⟨_, o, ho, hc⟩ := hr _ e.symm
        rw [show A.heap[_]? = _ from h1] at ho
        cases ho; cases hc), h4.grown hg h4.size (fun r e => by have := (hr r e).1; omega)⟩
end Go.Proofs.YtcbinbhohohaoaaDoor
