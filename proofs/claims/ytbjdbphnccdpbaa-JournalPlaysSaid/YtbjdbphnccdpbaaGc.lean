/-
  A loop over an iterator of so many elements, told by their number: the law by which the caller walks.
-/
import Derived.Test.YtbjdbphnccdpbaaGb
import Derived.RangeFuncNested
import Derived.RangeFuncBound
import Derived.RangeFuncCalls
import Derived.RangeFuncLeaves
import Derived.Shelf.Abstract
import Derived.Shelf.RegionOpen
import Derived.WalkKit
import Derived.OwnWalkIn
import Derived.TacticsInMore
import Derived.LoopNIn
import Derived.LoopIn
import Derived.Deep.LoopGhost
set_option linter.unusedVariables false
namespace Go.Proofs.Ytbjdbphnccdpbaa
open Go.RowKit Go.Shelf

theorem grown_bel {w w' : World} (h : Below w.heap.size w w') : w.grownBy w' none := ⟨h.os, h.tape, h.output, h.size, fun k hk _ => h.block k hk⟩
theorem keeps_below {W W' : World} (hb : Below W.heap.size W W') : KeepsOthers W W' :=
  ⟨hb.size, fun j o hj _ => (hb.block j (Array.getElem?_eq_some_iff.1 hj).1).trans hj⟩
/-- A block from B on that holds no row of values. -/
def NoRow (B : Nat) (W : World) (row : Option Nat) : Prop := ∀ r, row = some r → B ≤ r ∧ ∃ o, W.heap[r]? = some o ∧ o.isCells = false
/-- What is said stays, whatever block from B on is turned that holds no row of values. -/
def Free {β : Type} (B : Nat) (J : β → World → Prop) : Prop := ∀ s W W' row, J s W → W.grownBy W' row → NoRow B W row → J s W'
theorem Free.and {β : Type} {B : Nat} {J J' : β → World → Prop} (h : Free B J) (h' : Free B J') : Free B (fun s W => J s W ∧ J' s W) := fun s W W' row hs hg hr => ⟨h s W W' row hs.1 hg hr, h' s W W' row hs.2 hg hr⟩
theorem free_pure {β : Type} (B : Nat) (p : β → Prop) : Free B (fun s (_ : World) => p s) := fun _ _ _ _ hs _ _ => hs
theorem free_cells {β : Type} (B N : Nat) (t : TypeId) (f : β → Array Value) (ro : Nat × Nat) : Free B (fun s W => W.heap[N]? = some (.cells (f s) t ro)) := fun s W W' row hs hg hr =>
  (hg.block N (Array.getElem?_eq_some_iff.1 hs).1 (fun e => by obtain ⟨_, o, h1, h2⟩ := hr _ e.symm; rw [hs] at h1; cases h1; cases h2)).trans hs
theorem free_boxed {β : Type} (B N : Nat) (t : TypeId) (f : β → Value) : Free B (fun s W => Boxed W N t (f s)) := free_cells B N t (fun s => #[f s]) (0, 0)
theorem free_below {β : Type} {B m : Nat} {w : World} (h : m ≤ B) (hw : m ≤ w.heap.size) : Free B (fun (_ : β) W => Below m w W) := fun s W W' row hs hg hr => hs.grown hg (by have := hs.size; omega) (fun k e => by have := (hr k e).1; omega)
theorem Free.put {β : Type} {B : Nat} {J : β → World → Prop} (h : Free B J) {s : β} {W : World} {l : Nat} (o' : Obj) (hs : J s W) (hB : B ≤ l) {o : Obj} (ho : W.heap[l]? = some o) (hc : o.isCells = false) : J s (W.putObj l o') := h s W _ (some l) hs (grownBy_putObj' W l o') (fun r e => by cases e; exact ⟨hB, o, ho, hc⟩)
theorem Free.new {β : Type} {B : Nat} {J : β → World → Prop} (h : Free B J) {s : β} {W : World} (o : Obj) (hs : J s W) : J s (W.alloc o) := h s W _ none hs (World.grownBy_alloc W o none) (fun r e => by cases e)
theorem Free.up {β : Type} {B B' : Nat} {J : β → World → Prop} (h : Free B J) (hB : B ≤ B') : Free B' J := fun s W W' row hs hg hr => h s W W' row hs hg (fun r e => ⟨Nat.le_trans hB (hr r e).1, (hr r e).2⟩)
theorem Free.step {β : Type} {B : Nat} {J : β → World → Prop} (h : Free B J) {s : β} {W W' : World} (hs : J s W) (hb : Below W.heap.size W W') : J s W' := h s W W' none hs (grown_bel hb) (fun r e => by cases e)

/-- The loop's two blocks: its record, and the calls that wait. -/
def Rec (w : World) (r : Loop) (W : World) : Prop := W.heap[w.heap.size + 1]? = some (.loop r) ∧ W.heap[w.heap.size]? = some (.deferred (some []))
theorem Rec.free {w : World} {r : Loop} {B : Nat} (hB : w.heap.size + 2 ≤ B) {W W' : World} {row : Option Nat} (h : Rec w r W) (hg : W.grownBy W' row) (hr : NoRow B W row) : Rec w r W' :=
  ⟨(hg.block _ (Array.getElem?_eq_some_iff.1 h.1).1 (fun e => by have := (hr _ e.symm).1; omega)).trans h.1, (hg.block _ (Array.getElem?_eq_some_iff.1 h.2).1 (fun e => by have := (hr _ e.symm).1; omega)).trans h.2⟩
theorem Rec.put {w : World} {r r' : Loop} {W : World} (h : Rec w r W) : Rec w r' (W.putObj (w.heap.size + 1) (.loop r')) :=
  ⟨World.putObj_heap_same (Array.getElem?_eq_some_iff.1 h.1).1, (World.putObj_heap_other (by omega)).trans h.2⟩
theorem Rec.keep {w : World} {r : Loop} {W W' : World} (h : Rec w r W) (hk : KeepsFrom w.heap.size W W') : Rec w r W' :=
  ⟨hk.same _ _ (by omega) h.1 rfl, hk.same _ _ (Nat.le_refl _) h.2 rfl⟩


/-- The rows of values with P stay. -/
def KK (P : Nat → Prop) (W W' : World) : Prop := W.heap.size ≤ W'.heap.size ∧ ∀ k cs t ro, P k → W.heap[k]? = some (.cells cs t ro) → W'.heap[k]? = some (.cells cs t ro)
theorem KK.refl (P : Nat → Prop) (W : World) : KK P W W := ⟨Nat.le_refl _, fun _ _ _ _ _ h => h⟩
theorem KK.trans {P : Nat → Prop} {X Y Z : World} (h : KK P X Y) (h' : KK P Y Z) : KK P X Z := ⟨Nat.le_trans h.1 h'.1, fun k cs t ro hk hx => h'.2 k cs t ro hk (h.2 k cs t ro hk hx)⟩
theorem KK.put {P : Nat → Prop} (W : World) (l : Nat) (o o' : Obj) (h1 : W.heap[l]? = some o) (h2 : o.isCells = false) : KK P W (W.putObj l o') :=
  ⟨by simp [World.putObj], fun k cs t ro _ hx => by
    by_cases e : k = l
    · subst e
      rw [h1] at hx
      cases hx
      cases h2
    · exact (World.putObj_heap_other e).trans hx⟩
theorem KK.below {P : Nat → Prop} {W W' : World} (hb : Below W.heap.size W W') : KK P W W' := ⟨hb.size, fun k cs t ro _ hx => (hb.block k (Array.getElem?_eq_some_iff.1 hx).1).trans hx⟩
theorem KK.set {P : Nat → Prop} (W : World) (B : Nat) (v : Value) (hB : ¬ P B) : KK P W (W.setCell ⟨B, 0, none⟩ v) :=
  ⟨by simp [World.setCell], fun k cs t ro hk hx => (Below.heap_setCell _ _ _ _ (fun e => hB (by subst e; exact hk))).trans hx⟩
theorem KK.grown {P : Nat → Prop} {W W' : World} {row : Option Nat} (hg : W.grownBy W' row) (hr : ∀ r, row = some r → ¬ P r) : KK P W W' :=
  ⟨hg.size, fun k cs t ro hk hx => (hg.block k (Array.getElem?_eq_some_iff.1 hx).1 (fun e => hr k e.symm hk)).trans hx⟩
/-- An iterator of N elements; between two rounds the rows with P stay. -/
def SeqK (n g : Nat) (lb : Array Value) (encs : Nat → Value → Array Value) (P : Nat → Prop) (Pre : Nat → Value → World → Prop) (N : Nat) (w : World) : Prop :=
  ∀ (l : Nat) (J Jx : Nat → World → Prop) (W : World), Below w.heap.size w W → Free W.heap.size J → Free W.heap.size Jx →
    (∀ k v W1, k < N → J k W1 → Pre k v W1 → YieldAt Fence.wide (n - 1) Try.prog l (encs k v) W1 fun e W' => (e = .returned (.bool true) ∧ J (k + 1) W' ∧ KK P W1 W') ∨ (e = .returned (.bool false) ∧ Jx k W')) →
    J 0 W → CallsIn Fence.wide n Try.prog g (#[.func (.yield l) #[] #[]] ++ lb) W fun e W' => (∃ v, e = .returned v) ∧ (J N W' ∨ ∃ k, k < N ∧ Jx k W')
def ownPostN (B : Nat) (P : Nat → Prop) (I : Nat → World → Prop) (Ix : Code → Nat → World → Prop) (k : Nat) (W : World) : Exit → Act → World → Prop
  | .normal, _, W' => KeepsFrom B W W' ∧ KK P W W' ∧ I (k + 1) W'
  | .ret, _, W' => KeepsFrom B W W' ∧ Ix .ret k W'
  | .exit id, _, W' => KeepsFrom B W W' ∧ Ix (.exit id) k W'
  | .goto t, _, W' => KeepsFrom B W W' ∧ Ix (.goto t) k W'
  | .panic _, _, _ => False
  | .outgrown, _, _ => False

theorem range_ix {n : Nat} {g : Operand} {ps : Array Tmp} {assign body : Code} {Q : Exit → Act → World → Prop} {a : Act} {w : World}
    (h1 : 1 ≤ n) {gf : Nat} {lb : Array Value} (hg : a.eval g = .func (.func gf) #[] lb) (eg : ∀ args w, (callFunc gf args).run Try.prog w = .ok (.enter gf args) w)
    {encs : Nat → Value → Array Value} {P : Nat → Prop} {Pre : Nat → Value → World → Prop} {N : Nat} {w0 : World} (hseq : SeqK (n - 1) gf lb encs P Pre N w0)
    (hb0 : Below w0.heap.size w0 w) (hps : ∀ k v, (encs k v).size = ps.size)
    (I : Nat → World → Prop) (Ix : Code → Nat → World → Prop) (hI : Free w.heap.size I) (hIx : ∀ c, Free w.heap.size (Ix c)) (h0 : I 0 w) (asg : Nat → Value → Act)
    (hPre : ∀ k v W l r o', w.heap.size ≤ l → W.heap[l]? = some (.loop r) → Pre k v W → Pre k v (W.putObj l o'))
    (hassign : ∀ (l : Nat) (k : Nat) (v : Value) (W : World) (K : Act → World → Prop), K (asg k v) W →
      assign.wpIn (Fence.wide.inRound l) (n - 1 - 1) Try.prog (Exit.then K (fun _ _ _ => False)) { tmps := (ps.zip (encs k v)).foldl (fun t (p, v) => t.setIfInBounds p v) a.tmps, defers := [] } W)
    (hbody : ∀ (l : Nat) (k : Nat) (v : Value) (W : World), w.heap.size ≤ l → (∃ r, W.heap[l]? = some (.loop r)) → k < N → I k W → Pre k v W → body.wpIn (Fence.wide.inRound l) (n - 1 - 1) Try.prog (ownPostN w.heap.size P I Ix k W) (asg k v) W)
    (hdone : ∀ (D : Nat) (W : World), w.heap.size ≤ D → I N W → W.heap[D]? = some (.deferred (some [])) → Q .normal { a with defers := { target := .collected D, args := #[] } :: a.defers } W)
    (hstop : ∀ (D : Nat) (c : Code) (k : Nat) (W : World), w.heap.size ≤ D → k < N → Ix c k W → W.heap[D]? = some (.deferred (some [])) → c.wpIn Fence.wide n Try.prog Q { a with defers := { target := .collected D, args := #[] } :: a.defers } W) :
    (Code.rangeFunc g ps assign body).wpIn Fence.wide n Try.prog Q a w := by
  refine wpIn_rangeFunc ?_
  intro fn hfn
  have HL : ∃ r0 : Loop, r0.state = .ready ∧ r0.params = ps ∧ r0.tmps = a.tmps ∧ r0.fn = fn ∧ r0.assign = assign ∧ r0.body = body ∧ r0.pending = none ∧ (Instr.enterLoop fn a.tmps ps assign body none).run Try.prog w = .ok (w.heap.size + 1, [{ target := .collected w.heap.size, args := #[] }]) ((w.alloc (.deferred (some []))).alloc (.loop r0)) :=
    ⟨_, rfl, rfl, rfl, rfl, rfl, rfl, rfl, run_enterLoop_outer _ _ _ _ _⟩
  obtain ⟨r0, e1, e2, e3, e4, e5, e6, e7, hrun⟩ := HL
  obtain ⟨W1, hW1⟩ : ∃ W1, (w.alloc (.deferred (some []))).alloc (.loop r0) = W1 := ⟨_, rfl⟩
  have hR1 : Rec w r0 W1 := by
    have x1 := World.alloc_heap_new (w.alloc (.deferred (some []))) (.loop r0)
    rw [World.size_alloc] at x1
    rw [← hW1]
    exact ⟨x1, (Below.heap_alloc _ _ _ (by simp)).trans (World.alloc_heap_new w _)⟩
  have hz1 : W1.heap.size = w.heap.size + 2 := by rw [← hW1]; simp
  have hI1 : I 0 W1 := by rw [← hW1]; exact hI.new _ (hI.new _ h0)
  have hb1 : Below w0.heap.size w0 W1 := by
    have x1 : Below w.heap.size w W1 := by rw [← hW1]; go_grown
    exact hb0.trans (x1.mono hb0.size)
  rw [hW1] at hrun
  obtain ⟨rd, hrd⟩ : ∃ rd : Code → Loop, ∀ c, rd c = { r0 with state := .done, pending := some c } := ⟨_, fun _ => rfl⟩
  refine ⟨_, _, _, { target := .fn (.func gf) lb, args := #[.func (.yield (w.heap.size + 1)) #[] #[]] }, W1, gf, #[.func (.yield (w.heap.size + 1)) #[] #[]] ++ lb, W1, hrun, ?_, fun _ _ => trivial, ?_, fun _ => h1, ?_⟩
  · simp only [resolve, hg]
    simp [go_sem]
  · simp [invoke, go_sem, eg]
  refine (hseq (w.heap.size + 1) (fun k W => I k W ∧ Rec w r0 W) (fun k W => ∃ c, Ix c k W ∧ Rec w (rd c) W) W1 hb1
    (fun s A B row hs hg' hr => ⟨hI s A B row hs.1 hg' (fun r e => ⟨by have := (hr r e).1; omega, (hr r e).2⟩), hs.2.free (B := W1.heap.size) (by omega) hg' hr⟩)
    (fun s A B row hs hg' hr => by
      obtain ⟨c, hc, hl⟩ := hs
      exact ⟨c, hIx c s A B row hc hg' (fun r e => ⟨by have := (hr r e).1; omega, (hr r e).2⟩), hl.free (B := W1.heap.size) (by omega) hg' hr⟩)
    ?_ ⟨hI1, hR1⟩).mono ?_
  · rintro k v W hk ⟨hi, hrec⟩ hpre
    have hy := run_yield (P := Try.prog) (args := encs k v) hrec.1 (by rw [e2]; exact hps k v)
    refine ⟨_, _, _, _, hy, ?_⟩
    rw [e2, e3, e4, e5, e6]
    refine roundIn_of_wpIn hfn (hassign _ k v W _ ?_)
    refine ⟨_, run_beginRound hrec.1 e1, ?_⟩
    obtain ⟨r1, hr1⟩ : ∃ r1 : Loop, { r0 with state := .busy } = r1 := ⟨_, rfl⟩
    rw [hr1]
    have hrb : Rec w r1 (W.putObj (w.heap.size + 1) (.loop r1)) := hrec.put
    have hkb : KK P W (W.putObj (w.heap.size + 1) (.loop r1)) := KK.put W (w.heap.size + 1) _ (.loop r1) hrec.1 rfl
    refine wpIn_mono (hbody _ k v _ (by omega) ⟨_, hrb.1⟩ hk (hI.put _ hi (by omega) hrec.1 rfl) (hPre k v W _ _ _ (by omega) hrec.1 hpre)) ?_
    have stopped : ∀ (c : Code) (W3 : World), KeepsFrom w.heap.size (W.putObj (w.heap.size + 1) (.loop r1)) W3 → Ix c k W3 →
        ∃ W4, (Instr.endRound (w.heap.size + 1) (some c)).run Try.prog W3 = .ok (.bool false) W4 ∧ ∃ c, Ix c k W4 ∧ Rec w (rd c) W4 := fun c W3 hk hx => by
      have h3 := hrb.keep hk
      refine ⟨_, run_endRound (P := Try.prog) (some c) h3.1, c, (hIx c).put _ hx (by omega) h3.1 rfl, ?_⟩
      have : ({ r1 with state := if (some c).isNone then .ready else .done, pending := some c } : Loop) = rd c := by rw [hrd, ← hr1]; rfl
      rw [this]
      exact h3.put
    rintro e a3 W3 hp
    cases e with
    | normal =>
      obtain ⟨hk3, hkp3, hi3⟩ := hp
      have h3 := hrb.keep hk3
      refine ⟨_, _, run_endRound (P := Try.prog) none h3.1, .inl ⟨rfl, ⟨hI.put _ hi3 (by omega) h3.1 rfl, ?_⟩, hkb.trans (hkp3.trans (KK.put _ _ _ _ h3.1 rfl))⟩⟩
      have : ({ r1 with state := if (none : Option Code).isNone then .ready else .done, pending := none } : Loop) = r0 := by
        rw [← hr1]
        cases r0
        simp_all
      rw [this]
      exact h3.put
    | ret =>
      obtain ⟨W4, hr, hx⟩ := stopped .ret W3 hp.1 hp.2
      exact ⟨_, _, hr, .inr ⟨rfl, hx⟩⟩
    | exit id =>
      obtain ⟨W4, hr, hx⟩ := stopped (.exit id) W3 hp.1 hp.2
      exact ⟨_, _, hr, .inr ⟨rfl, hx⟩⟩
    | goto t =>
      obtain ⟨W4, hr, hx⟩ := stopped (.goto t) W3 hp.1 hp.2
      exact ⟨_, _, hr, .inr ⟨rfl, hx⟩⟩
    | panic ch => exact hp.elim
    | outgrown => exact hp.elim
  · rintro e W2 ⟨⟨v, rfl⟩, (⟨hi, hr⟩ | ⟨k, hk, c, hi, hr⟩)⟩
    · refine ⟨_, _, run_endLoop (P := Try.prog) hr.1 (by rw [e1]; simp), ?_⟩
      rw [e7]
      exact hdone _ _ (Nat.le_refl _) (hI.put _ hi (by omega) hr.1 rfl) ((World.putObj_heap_other (by omega)).trans hr.2)
    · rw [hrd] at hr
      refine ⟨_, _, run_endLoop (P := Try.prog) hr.1 (by simp), ?_⟩
      exact hstop _ c k _ (Nat.le_refl _) hk ((hIx c).put _ hi (by omega) hr.1 rfl) ((World.putObj_heap_other (by omega)).trans hr.2)
end Go.Proofs.Ytbjdbphnccdpbaa
