/-
  Scripts, plain: what a cloud is behind them. · Two clouds, one beside the other; a box beside them.
-/
import Derived.Test.YtkigeegahepnaaaGreatDoorHF
import Derived.Test.YtkigeegahepnaaaGreatDoorHE
set_option linter.unusedVariables false
set_option linter.unusedSimpArgs false
namespace Go.Proofs.YtkigeegahepnaaaGreatDoor
open Go.RowKit Go.Maps Go.Deep

noncomputable def stepA (c : CSt) (y : Ac) : CSt := if y.dO = 0 then (submitC c y.x).1 else if y.dO = 1 then (endC c y.n true).1 else if y.dO = 2 then (endC c y.n false).1 else c
noncomputable def runA (L : List Ac) : CSt := L.foldl stepA zC
theorem runA_succ {L : List Ac} {j : Nat} (hj : j < L.length) : runA (L.take (j + 1)) = stepA (runA (L.take j)) L[j] := by
  unfold runA
  rw [List.take_succ_eq_append_getElem hj, List.foldl_append]
  rfl
theorem good_step {c : CSt} {n : Nat} (hn : n < 1000) (h : goodC c n) {y : Ac} (hy : fineX y.x) : goodC (stepA c y) (n + 1) := by
  unfold stepA
  split
  · exact good_submit h hy
  · split
    · exact (good_end (by omega) h _ _).mono (Nat.le_succ n)
    · split
      · exact (good_end (by omega) h _ _).mono (Nat.le_succ n)
      · exact h.mono (Nat.le_succ n)
theorem good_run {L : List Ac} (hL : L.length ≤ 100) (h : ∀ y ∈ L, fineX y.x) : ∀ j, j ≤ L.length → goodC (runA (L.take j)) j
  | 0, _ => by
    rw [List.take_zero]
    exact good_zC 0
  | j + 1, hj => by
    rw [runA_succ (by omega)]
    exact good_step (by omega) (good_run hL h j (by omega)) (h _ (List.getElem_mem _))
/-- A cloud to which a token was submitted before stays as it is. -/
theorem submit_there {c : CSt} {x : Cl} (h : (findC c.L x.tok).isSome = true) : (submitC c x).1 = c := by
  unfold submitC
  rw [if_pos h]
  split <;> rfl
theorem submit_new {c : CSt} {x : Cl} (h : (findC c.L x.tok).isSome = false) : (wrongC x = 0 ∧ submitC c x = (⟨c.s, c.L ++ [(x, zAn)], c.fl ++ [x.tok]⟩, 0)) ∨ (wrongC x ≠ 0 ∧ submitC c x = (c, wrongC x)) := by
  unfold submitC
  by_cases hw : wrongC x = 0
  · rw [if_pos hw, if_neg (by rw [h]; decide)]
    exact .inl ⟨hw, rfl⟩
  · rw [if_neg hw]
    exact .inr ⟨hw, rfl⟩
theorem OnK.frame2 {w W W' : World} {P : Nat → Prop} {b : Nat} {c : CSt} (h : OnK w P b c W) (hb : Below W.heap.size W W') : ∃ P', OnK W' P' b c W' ∧ (∀ k, P' k → k < W.heap.size) ∧ (∀ k, P' k → P k ∨ w.heap.size ≤ k) ∧ Fr P w W' ∧ NoS W' P' := by
  obtain ⟨lv, mv, tv, fv, hc, hf, hp⟩ := h
  exact ⟨Fp b mv tv fv, ⟨lv, mv, tv, fv, hc.below hb, Fr.refl _ _, fun k hk => .inl hk⟩, hc.lt, hp, hf.trans (Fr.of_below hb), (hc.below hb).nos⟩
theorem OnK.step {w W W' : World} {P Q : Nat → Prop} {b : Nat} {c : CSt} (hF : Fr P w W) (hQ : ∀ k, Q k → P k ∨ w.heap.size ≤ k) (h : OnK W Q b c W') : OnK w P b c W' := OnC.step hF hQ h
end Go.Proofs.YtkigeegahepnaaaGreatDoor

namespace Go.Proofs.YtkigeegahepnaaaGreatDoor
open Go.RowKit Go.Maps Go.Deep

/-- The cloud c lies at b; its blocks are those with P. -/
structure CA (W : World) (P : Nat → Prop) (b : Nat) (c : CSt) : Prop where
  on : OnK W P b c W
  lt : ∀ k, P k → k < W.heap.size
  nos : NoS W P
theorem CA.of {w W : World} {P0 : Nat → Prop} {b : Nat} {c : CSt} (h : OnK w P0 b c W) : ∃ P, CA W P b c ∧ ∀ k, P k → P0 k ∨ w.heap.size ≤ k := by
  obtain ⟨P, h1, h2, h3, -, h5⟩ := h.frame2 (Below.refl _ W)
  exact ⟨P, ⟨h1, h2, h5⟩, h3⟩
theorem CA.other {W W' : World} {P B : Nat → Prop} {b : Nat} {c : CSt} (h : CA W P b c) (hF : Fr B W W') (hN : NoS W B) (hd : ∀ k, P k → ¬ B k) : CA W' P b c := by
  obtain ⟨⟨lv, mv, tv, fv, hc, hf, hp⟩, hlt, hns⟩ := h
  have hFp : ∀ k, Fp b mv tv fv k → P k := fun k hk => by
    rcases hp k hk with h | h
    · exact h
    · have := hc.lt k hk; omega
  have hc' := hc.fr hN hF (fun k hk => hd k (hFp k hk))
  refine ⟨⟨lv, mv, tv, fv, hc', Fr.refl _ _, fun k hk => .inl (hFp k hk)⟩, fun k hk => Nat.lt_of_lt_of_le (hlt k hk) hF.size, fun a s hs hk => ?_⟩
  have hl := hlt _ hk
  have e := Array.getElem?_eq_getElem hl
  have e2 := hF.2 _ _ e (hd _ hk)
  refine hns a s ?_ hk
  rw [← hs]
  exact (World.cell?_of_block (e2.trans e.symm)).symm
theorem CA.below {W W' : World} {P : Nat → Prop} {b : Nat} {c : CSt} (h : CA W P b c) (hb : Below W.heap.size W W') : CA W' P b c :=
  h.other (B := fun _ => False) (Fr.of_below hb) (fun _ _ _ h => h) (fun _ _ h => h)

/-- Two clouds, all in new memory; a box beside them. -/
def Two (w0 : World) (b1 : Nat) (c1 : CSt) (b2 : Nat) (c2 : CSt) (bo : Option (Nat × Obj)) (W : World) : Prop :=
  ∃ P1 P2, CA W P1 b1 c1 ∧ CA W P2 b2 c2 ∧ (∀ k, P1 k → ¬ P2 k) ∧ (∀ k, P1 k → w0.heap.size ≤ k) ∧ (∀ k, P2 k → w0.heap.size ≤ k) ∧ KB w0 W ∧ ∀ p, bo = some p → W.heap[p.1]? = some p.2 ∧ ¬ P1 p.1 ∧ ¬ P2 p.1
section
variable {w0 W W' : World} {b1 b2 : Nat} {c1 c2 c1' : CSt} {bo : Option (Nat × Obj)}
theorem Two.swap (h : Two w0 b1 c1 b2 c2 bo W) : Two w0 b2 c2 b1 c1 bo W := by
  obtain ⟨P1, P2, h1, h2, h3, h4, h5, h6, h7⟩ := h
  exact ⟨P2, P1, h2, h1, fun k hk hk' => h3 k hk' hk, h5, h4, h6, fun p e => ⟨(h7 p e).1, (h7 p e).2.2, (h7 p e).2.1⟩⟩
theorem Two.below (h : Two w0 b1 c1 b2 c2 bo W) (hb : Below W.heap.size W W') : Two w0 b1 c1 b2 c2 bo W' := by
  obtain ⟨P1, P2, h1, h2, h3, h4, h5, h6, h7⟩ := h
  exact ⟨P1, P2, h1.below hb, h2.below hb, h3, h4, h5, h6.trans (hb.mono h6.size), fun p e => ⟨(hb.block _ (Array.getElem?_eq_some_iff.1 (h7 p e).1).1).trans (h7 p e).1, (h7 p e).2⟩⟩
theorem Two.kb (h : Two w0 b1 c1 b2 c2 bo W) : KB w0 W := by
  obtain ⟨P1, P2, h1, h2, h3, h4, h5, h6, h7⟩ := h
  exact h6
theorem Two.nobox (h : Two w0 b1 c1 b2 c2 bo W) : Two w0 b1 c1 b2 c2 none W := by
  obtain ⟨P1, P2, h1, h2, h3, h4, h5, h6, h7⟩ := h
  exact ⟨P1, P2, h1, h2, h3, h4, h5, h6, fun p e => by cases e⟩
/-- A new box. -/
theorem Two.alloc (h : Two w0 b1 c1 b2 c2 bo W) (cs : Array Value) (t : TypeId) : Two w0 b1 c1 b2 c2 (some (W.heap.size, .cells cs t (0, 0))) (W.alloc (.cells cs t)) := by
  have hb : Below W.heap.size W (W.alloc (.cells cs t)) := kbA
  obtain ⟨P1, P2, h1, h2, h3, h4, h5, h6, h7⟩ := h
  exact ⟨P1, P2, h1.below hb, h2.below hb, h3, h4, h5, h6.trans (hb.mono h6.size), fun p e => by
    cases e
    exact ⟨World.alloc_heap_new _ _, fun hk => absurd (h1.lt _ hk) (Nat.lt_irrefl _), fun hk => absurd (h2.lt _ hk) (Nat.lt_irrefl _)⟩⟩
theorem Two.box {B : Nat} {o : Obj} (h : Two w0 b1 c1 b2 c2 (some (B, o)) W) : W.heap[B]? = some o := by
  obtain ⟨P1, P2, h1, h2, h3, h4, h5, h6, h7⟩ := h
  exact (h7 _ rfl).1
/-- The first is touched. -/
theorem Two.left (h : Two w0 b1 c1 b2 c2 bo W) : ∃ P, OnK W P b1 c1 W ∧ NoS W P ∧ (∀ k, P k → k < W.heap.size) ∧ ∀ c1' W', OnK W P b1 c1' W' → Two w0 b1 c1' b2 c2 bo W' := by
  obtain ⟨P1, P2, h1, h2, h3, h4, h5, h6, h7⟩ := h
  refine ⟨P1, h1.on, h1.nos, h1.lt, fun c1' W' ho => ?_⟩
  obtain ⟨P, g1, g2⟩ := CA.of ho
  have hF := ho.fr
  refine ⟨P, P2, g1, h2.other hF h1.nos (fun k hk hk' => h3 k hk' hk), fun k hk hk' => ?_, fun k hk => ?_, h5, h6.trans (hF.below h4 h6.size), fun p e => ?_⟩
  · rcases g2 k hk with h | h
    · exact h3 k h hk'
    · have := h2.lt k hk'; omega
  · rcases g2 k hk with h | h
    · exact h4 k h
    · exact Nat.le_trans h6.size h
  · obtain ⟨q1, q2, q3⟩ := h7 p e
    refine ⟨hF.2 _ _ q1 q2, fun hk => ?_, q3⟩
    rcases g2 _ hk with h | h
    · exact q2 h
    · have := (Array.getElem?_eq_some_iff.1 q1).1; omega
end
/-- Two new clouds. -/
theorem Two.new (w : World) : Two w w.heap.size zC (w.heap.size + 1) zC none ((w.alloc (.cells #[.slice none 0 0, .int .i64 0, .map none, .slice none 0 0, .slice none 0 0] 72)).alloc (.cells #[.slice none 0 0, .int .i64 0, .map none, .slice none 0 0, .slice none 0 0] 72)) := by
  have hb1 : KB w (w.alloc (.cells #[.slice none 0 0, .int .i64 0, .map none, .slice none 0 0, .slice none 0 0] 72)) := kbA
  have hb2 : KB (w.alloc (.cells #[.slice none 0 0, .int .i64 0, .map none, .slice none 0 0, .slice none 0 0] 72)) ((w.alloc (.cells #[.slice none 0 0, .int .i64 0, .map none, .slice none 0 0, .slice none 0 0] 72)).alloc (.cells #[.slice none 0 0, .int .i64 0, .map none, .slice none 0 0, .slice none 0 0] 72)) := kbA
  obtain ⟨P1, g1, g2⟩ := CA.of (OnK.new w)
  have h2 := OnK.new (w.alloc (.cells #[.slice none 0 0, .int .i64 0, .map none, .slice none 0 0, .slice none 0 0] 72))
  obtain ⟨P2, k1, k2⟩ := CA.of h2
  have hs : (w.alloc (.cells #[.slice none 0 0, .int .i64 0, .map none, .slice none 0 0, .slice none 0 0] 72)).heap.size = w.heap.size + 1 := by simp
  rw [hs] at k1 k2
  have hP2 : ∀ k, P2 k → w.heap.size + 1 ≤ k := fun k hk => (k2 k hk).elim id id
  exact ⟨P1, P2, g1.below hb2, k1, fun k hk hk' => by have := g1.lt k hk; rw [hs] at this; have := hP2 k hk'; omega, fun k hk => (g2 k hk).elim id id, fun k hk => by have := hP2 k hk; omega, hb1.trans (hb2.mono hb1.size), fun p e => by cases e⟩
end Go.Proofs.YtkigeegahepnaaaGreatDoor
