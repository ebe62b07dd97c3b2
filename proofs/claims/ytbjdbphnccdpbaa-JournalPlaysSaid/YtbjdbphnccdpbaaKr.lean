/-
  A region that draws its order: three operations in a row, two in either order, one that is not still, and still ones.
-/
import Derived.StillTailTactics
set_option linter.unusedVariables false
namespace Go.Proofs.Ytbjdbphnccdpbaa.Rm
open Go

section
variable {P : Program} {ops : Array Oper} {md : Region.Mode} {w : World} {Q : Exit → Act → World → Prop}
theorem any_peel {i f : Nat} {o : Oper} {rest : List Oper} {listed : Array Bool} {a : Act} {L : Act → Prop} (ho : ops[i]? = some o) (hr : Region.ready md ops listed = [i])
    (hn : ∀ a', wpStill P ops w L rest a' → wpAny P md ops Q f (listed.setIfInBounds i true) a' w) (h : wpStill P ops w L (o :: rest) a) : wpAny P md ops Q (f + 1) listed a w :=
  ⟨fun h0 => (by rw [hr] at h0; cases h0), fun j hj => by
    rw [hr] at hj
    obtain rfl : j = i := by simpa using hj
    exact wpOp_of_stOp hn (by unfold stOp; simp only [ho]; exact h)⟩
theorem any_fork {i j f : Nat} {oi oj : Oper} {listed : Array Bool} {a : Act} {L : Act → Prop} (hi : ops[i]? = some oi) (hj : ops[j]? = some oj) (hij : i ≠ j) (hr : Region.ready md ops listed = [i, j])
    (hri : Region.ready md ops (listed.setIfInBounds i true) = [j]) (hrj : Region.ready md ops (listed.setIfInBounds j true) = [i])
    (hn : ∀ a', L a' → wpAny P md ops Q f ((listed.setIfInBounds i true).setIfInBounds j true) a' w) (h1 : wpStill P ops w L [oi, oj] a) (h2 : wpStill P ops w L [oj, oi] a) : wpAny P md ops Q (f + 2) listed a w :=
  ⟨fun h0 => (by rw [hr] at h0; cases h0), fun k hk => by
    rw [hr] at hk
    have hk2 : k = i ∨ k = j := by simpa using hk
    rcases hk2 with rfl | rfl
    · exact wpOp_of_stOp (K := wpStill P ops w L [oj]) (fun a' h' => any_peel (rest := []) (L := L) hj hri (fun a2 h3 => hn a2 h3) h') (by unfold stOp; simp only [hi]; exact h1)
    · refine wpOp_of_stOp (K := wpStill P ops w L [oi]) (fun a' h' => any_peel (rest := []) (L := L) hi hrj (fun a2 h3 => ?_) h') (by unfold stOp; simp only [hj]; exact h2)
      rw [Array.setIfInBounds_comm _ _ (Ne.symm hij)]
      exact hn a2 h3⟩
/-- wpStill, shut: else each 'refine' lays all passed-over operations open. -/
structure WS (P : Program) (ops : Array Oper) (w : World) (Q : Act → Prop) (l : List Oper) (a : Act) : Prop where
  out : wpStill P ops w Q l a
theorem ws_one {Q : Act → Prop} {a : Act} {o : Oper} {rest : List Oper} (h : ∀ K : Act → Prop, (∀ a, WS P ops w Q rest a → K a) → if Region.wanted o (yielded ops a.tmps) then o.still P a w K else K (a.put o.dst undef)) : WS P ops w Q (o :: rest) a :=
  ⟨wpStill_step fun K hK => h K fun a ha => hK a ha.out⟩
theorem ws_nil {Q : Act → Prop} {a : Act} (h : Q a) : WS P ops w Q [] a := ⟨wpStill_nil h⟩
/-- The checks. -/
def midB (ops : Array Oper) (g : Nat) : Bool :=
  let L0 := Array.replicate ops.size false
  let L1 := L0.setIfInBounds 0 true
  let L2 := L1.setIfInBounds 1 true
  let L3 := L2.setIfInBounds 2 true
  let L4 := L3.setIfInBounds 3 true
  let L5 := L4.setIfInBounds 4 true
  let L6 := L5.setIfInBounds 5 true
  decide (Region.ready .any ops L0 = [0]) && decide (Region.ready .any ops L1 = [1]) && decide (Region.ready .any ops L2 = [2]) && decide (Region.ready .any ops L3 = [3, 4]) &&
    decide (Region.ready .any ops L4 = [4]) && decide (Region.ready .any ops (L3.setIfInBounds 4 true) = [3]) && decide (Region.ready .any ops L5 = [5]) && Region.noSelect ops && Region.lexFrom .any ops g 6 L6
/-- What is asked of the operation that is not still. -/
def MidK (P : Program) (ops : Array Oper) (Q : Exit → Act → World → Prop) (o : Oper) (t : List Oper) (w : World) (a : Act) : Prop :=
  ∀ K : Act → World → Prop, (∀ a2 w2, WS P ops w2 (fun a3 => Q .normal a3 w2) t a2 → K a2 w2) →
    if Region.wanted o (yielded ops a.tmps) then o.wp P a w K Q ∨ (o.asks P a w ∧ LetsOut Q) else K (a.put o.dst undef) w
theorem region_mid {id : Nat} {a : Act} {o0 o1 o2 o3 o4 o5 : Oper} {t : List Oper} (hm : P.follows .mixedOrders = true)
    (hB : midB (o0 :: o1 :: o2 :: o3 :: o4 :: o5 :: t).toArray t.length = true)
    (h : wpStill P (o0 :: o1 :: o2 :: o3 :: o4 :: o5 :: t).toArray w.drew (fun a' => wpStill P (o0 :: o1 :: o2 :: o3 :: o4 :: o5 :: t).toArray w.drew (MidK P (o0 :: o1 :: o2 :: o3 :: o4 :: o5 :: t).toArray Q o5 t w.drew) [o3, o4] a' ∧
      wpStill P (o0 :: o1 :: o2 :: o3 :: o4 :: o5 :: t).toArray w.drew (MidK P (o0 :: o1 :: o2 :: o3 :: o4 :: o5 :: t).toArray Q o5 t w.drew) [o4, o3] a') [o0, o1, o2] a) :
    (Code.region id (o0 :: o1 :: o2 :: o3 :: o4 :: o5 :: t).toArray true).wp P Q a w := by
  obtain ⟨ops, hops⟩ : ∃ ops, (o0 :: o1 :: o2 :: o3 :: o4 :: o5 :: t).toArray = ops := ⟨_, rfl⟩
  have g0 : ops[0]? = some o0 := by rw [← hops]; rfl
  have g1 : ops[1]? = some o1 := by rw [← hops]; rfl
  have g2 : ops[2]? = some o2 := by rw [← hops]; rfl
  have g3 : ops[3]? = some o3 := by rw [← hops]; rfl
  have g4 : ops[4]? = some o4 := by rw [← hops]; rfl
  have g5 : ops[5]? = some o5 := by rw [← hops]; rfl
  have gt : ∀ j, t[j]? = ops[6 + j]? := fun j => by rw [← hops]; simp [show 6 + j = j + 1 + 1 + 1 + 1 + 1 + 1 by omega]
  have hz : ops.size = t.length + 6 := by rw [← hops]; simp
  rw [hops] at h hB ⊢
  simp only [midB, Bool.and_eq_true, decide_eq_true_eq] at hB
  obtain ⟨⟨⟨⟨⟨⟨⟨⟨r0, r1⟩, r2⟩, r3⟩, r4⟩, r5⟩, r6⟩, hs⟩, hx⟩ := hB
  refine wp_region_any hm ?_
  rw [hz] at r0 r1 r2 r3 r4 r5 r6 hx ⊢
  refine any_peel (f := t.length + 5) g0 r0 (fun a1 h1 => any_peel (f := t.length + 4) g1 r1 (fun a2 h2 => any_peel (f := t.length + 3) (rest := []) g2 r2 (fun a3 h3 => ?_) h2) h1) h
  obtain ⟨h31, h32⟩ : wpStill P ops w.drew (MidK P ops Q o5 t w.drew) [o3, o4] a3 ∧ wpStill P ops w.drew (MidK P ops Q o5 t w.drew) [o4, o3] a3 := h3
  refine any_fork (f := t.length + 1) g3 g4 (by decide) r3 r4 r5 (fun a4 h4 => ?_) h31 h32
  refine ⟨fun h0 => (by rw [r6] at h0; cases h0), fun k hk => ?_⟩
  rw [r6] at hk
  obtain rfl : k = 5 := by simpa using hk
  have h5 := h4 (wpAny P .any ops Q t.length _) (fun a5 w5 h6 => wpAny_of_still (Q := fun a3 => Q .normal a3 w5) (fun _ h => h) _ _ _ (wpAnyS_lex (md := .any) hs t 6 _ a5 gt hx h6.out))
  unfold wpOp
  simp only [g5]
  exact h5
end
end Go.Proofs.Ytbjdbphnccdpbaa.Rm
