/-
  A loop over an iterator that keeps rows of its own in memory, behind whatever the loop's round holds: the law by which the caller walks.
-/
import Derived.Test.YtdckldfekepopaaGreatDoorZJ
set_option linter.unusedVariables false
set_option linter.unusedSimpArgs false
namespace Go.Proofs.YtdckldfekepopaaGreatDoor
open Go.RowKit Go.Shelf

/-- What is said stays, whatever block from B on is turned. -/
def Free {β : Type} (B : Nat) (J : β → World → Prop) : Prop := ∀ s W W' row, J s W → W.grownBy W' row → (∀ r, row = some r → B ≤ r) → J s W'
/-- An iterator that may write blocks of its own between two rounds. -/
def Seq {α : Type} (n g : Nat) (lb : Array Value) (encs : α → Array Value) (Kp : World → World → Prop) (S Sp : List α → Prop) (N : Nat) (w : World) : Prop :=
  ∀ (l : Nat) (J Jx : List α → World → Prop) (W : World), Below w.heap.size w W → Free W.heap.size J → Free W.heap.size Jx →
    (∀ pre x W1, J pre W1 → pre.length < N → YieldAt Fence.wide (n - 1) Tryz.prog l (encs x) W1 fun e W' => (e = .returned (.bool true) ∧ J (pre ++ [x]) W' ∧ Kp W1 W') ∨ (e = .returned (.bool false) ∧ Jx (pre ++ [x]) W')) →
    J [] W → CallsIn Fence.wide n Tryz.prog g (#[.func (.yield l) #[] #[]] ++ lb) W fun e W' => (∃ v, e = .returned v) ∧ ((∃ xs, S xs ∧ J xs W') ∨ (∃ pre, Sp pre ∧ Jx pre W'))
theorem Free.and {β : Type} {B : Nat} {J J' : β → World → Prop} (h : Free B J) (h' : Free B J') : Free B (fun s W => J s W ∧ J' s W) := fun s W W' row hs hg hr => ⟨h s W W' row hs.1 hg hr, h' s W W' row hs.2 hg hr⟩
theorem free_pure {β : Type} (B : Nat) (p : β → Prop) : Free B (fun s (_ : World) => p s) := fun _ _ _ _ hs _ _ => hs
theorem free_boxed {β : Type} {B N : Nat} (h : N < B) (t : TypeId) (f : β → Value) : Free B (fun s W => Boxed W N t (f s)) := fun s W W' row hs hg hr => hs.kept hg (fun e => by have := hr _ e.symm; omega)
theorem free_below {β : Type} {B m : Nat} {w : World} (h : m ≤ B) (hw : m ≤ w.heap.size) : Free B (fun (_ : β) W => Below m w W) := fun s W W' row hs hg hr => hs.grown hg (by have := hs.size; omega) (fun k e => by have := hr k e; omega)
theorem free_block {β : Type} {B N : Nat} (h : N < B) (f : β → Obj) : Free B (fun s W => W.heap[N]? = some (f s)) := fun s W W' row hs hg hr =>
  (hg.block N (Array.getElem?_eq_some_iff.1 hs).1 (fun e => by have := hr _ e.symm; omega)).trans hs
theorem Free.put {β : Type} {B : Nat} {J : β → World → Prop} (h : Free B J) {s : β} {W : World} {l : Nat} (o' : Obj) (hs : J s W) (hB : B ≤ l) : J s (W.putObj l o') := h s W _ (some l) hs (grownBy_putObj' W l o') (fun r e => by cases e; exact hB)
theorem Free.new {β : Type} {B : Nat} {J : β → World → Prop} (h : Free B J) {s : β} {W : World} (o : Obj) (hs : J s W) : J s (W.alloc o) := h s W _ none hs (World.grownBy_alloc W o none) (fun r e => by cases e)
theorem Free.up {β : Type} {B B' : Nat} {J : β → World → Prop} (h : Free B J) (hB : B ≤ B') : Free B' J := fun s W W' row hs hg hr => h s W W' row hs hg (fun r e => Nat.le_trans hB (hr r e))
theorem Free.step {β : Type} {B : Nat} {J : β → World → Prop} (h : Free B J) {s : β} {W W' : World} (hs : J s W) (hb : Below W.heap.size W W') : J s W' := h s W W' none hs (grown_bel hb) (fun r e => by cases e)

/-- The loop's two blocks: its record, and the calls that wait. -/
def Rec (w : World) (r : Loop) (W : World) : Prop := W.heap[w.heap.size + 1]? = some (.loop r) ∧ W.heap[w.heap.size]? = some (.deferred (some []))
theorem Rec.free {w : World} {r : Loop} {B : Nat} (hB : w.heap.size + 2 ≤ B) {W W' : World} {row : Option Nat} (h : Rec w r W) (hg : W.grownBy W' row) (hr : ∀ k, row = some k → B ≤ k) : Rec w r W' :=
  ⟨free_block (β := Unit) (N := w.heap.size + 1) (B := B) (by omega) (fun _ => .loop r) () W W' row h.1 hg hr, free_block (β := Unit) (N := w.heap.size) (B := B) (by omega) (fun _ => .deferred (some [])) () W W' row h.2 hg hr⟩
theorem Rec.put {w : World} {r r' : Loop} {W : World} (h : Rec w r W) : Rec w r' (W.putObj (w.heap.size + 1) (.loop r')) :=
  ⟨World.putObj_heap_same (Array.getElem?_eq_some_iff.1 h.1).1, (World.putObj_heap_other (by omega)).trans h.2⟩
theorem Rec.keep {w : World} {r : Loop} {W W' : World} (h : Rec w r W) (hk : KeepsFrom w.heap.size W W') : Rec w r W' :=
  ⟨hk.same _ _ (by omega) h.1 rfl, hk.same _ _ (Nat.le_refl _) h.2 rfl⟩

theorem range_own {α : Type} {n : Nat} {g : Operand} {ps : Array Tmp} {assign body : Code} {Q : Exit → Act → World → Prop} {a : Act} {w : World}
    (h1 : 1 ≤ n) {gf : Nat} {lb : Array Value} (hg : a.eval g = .func (.func gf) #[] lb) (eg : ∀ args w, (callFunc gf args).run Tryz.prog w = .ok (.enter gf args) w)
    {encs : α → Array Value} {Kp : World → World → Prop} {S Sp : List α → Prop} {N : Nat} {w0 : World} (hseq : Seq (n - 1) gf lb encs Kp S Sp N w0)
    (hKt : ∀ {A B C : World}, Kp A B → Kp B C → Kp A C) (hKb : ∀ (W : World) (l : Nat) (o o' : Obj), w.heap.size ≤ l → W.heap[l]? = some o → o.isCells = false → o.isWalk = false → Kp W (W.putObj l o')) (hb0 : Below w0.heap.size w0 w) (hps : ∀ x, (encs x).size = ps.size)
    (I : List α → World → Prop) (Ix : Code → List α → World → Prop) (hI : Free w.heap.size I) (hIx : ∀ c, Free w.heap.size (Ix c)) (h0 : I [] w) (Ax : α → Act → World → Prop)
    (hAx : ∀ x a' W l r o', w.heap.size ≤ l → W.heap[l]? = some (.loop r) → Ax x a' W → Ax x a' (W.putObj l o'))
    (hassign : ∀ (l : Nat) (pre : List α) (x : α) (W : World) (K : Act → World → Prop), I pre W → (∀ a' W', KeepsFrom w.heap.size W W' → Kp W W' → I pre W' → Ax x a' W' → K a' W') →
      assign.wpIn (Fence.wide.inRound l) (n - 1 - 1) Tryz.prog (Exit.then K (fun _ _ _ => False)) { tmps := (ps.zip (encs x)).foldl (fun t (p, v) => t.setIfInBounds p v) a.tmps, defers := [] } W)
    (hbody : ∀ (l : Nat) (pre : List α) (x : α) (a' : Act) (W : World), w.heap.size ≤ l → (∃ r, W.heap[l]? = some (.loop r)) → I pre W → Ax x a' W → pre.length < N → body.wpIn (Fence.wide.inRound l) (n - 1 - 1) Tryz.prog (ownPostG w.heap.size Kp I Ix (pre ++ [x]) W) a' W)
    (hdone : ∀ (D : Nat) (xs : List α) (W : World), w.heap.size ≤ D → S xs → I xs W → W.heap[D]? = some (.deferred (some [])) → Q .normal { a with defers := { target := .collected D, args := #[] } :: a.defers } W)
    (hstop : ∀ (D : Nat) (c : Code) (pre : List α) (W : World), w.heap.size ≤ D → Sp pre → Ix c pre W → W.heap[D]? = some (.deferred (some [])) → c.wpIn Fence.wide n Tryz.prog Q { a with defers := { target := .collected D, args := #[] } :: a.defers } W) :
    (Code.rangeFunc g ps assign body).wpIn Fence.wide n Tryz.prog Q a w := by
  refine wpIn_rangeFunc ?_
  intro fn hfn
  have HL : ∃ r0 : Loop, r0.state = .ready ∧ r0.params = ps ∧ r0.tmps = a.tmps ∧ r0.fn = fn ∧ r0.assign = assign ∧ r0.body = body ∧ r0.pending = none ∧ (Instr.enterLoop fn a.tmps ps assign body none).run Tryz.prog w = .ok (w.heap.size + 1, [{ target := .collected w.heap.size, args := #[] }]) ((w.alloc (.deferred (some []))).alloc (.loop r0)) :=
    ⟨_, rfl, rfl, rfl, rfl, rfl, rfl, rfl, run_enterLoop_outer _ _ _ _ _⟩
  obtain ⟨r0, e1, e2, e3, e4, e5, e6, e7, hrun⟩ := HL
  obtain ⟨W1, hW1⟩ : ∃ W1, (w.alloc (.deferred (some []))).alloc (.loop r0) = W1 := ⟨_, rfl⟩
  have hR1 : Rec w r0 W1 := by
    have x1 := World.alloc_heap_new (w.alloc (.deferred (some []))) (.loop r0)
    rw [World.size_alloc] at x1
    rw [← hW1]
    exact ⟨x1, (Below.heap_alloc _ _ _ (by simp)).trans (World.alloc_heap_new w _)⟩
  have hz1 : W1.heap.size = w.heap.size + 2 := by rw [← hW1]; simp
  have hI1 : I [] W1 := by rw [← hW1]; exact hI.new _ (hI.new _ h0)
  have hb1 : Below w0.heap.size w0 W1 := by
    have x1 : Below w.heap.size w W1 := by rw [← hW1]; go_grown
    exact hb0.trans (x1.mono hb0.size)
  rw [hW1] at hrun
  obtain ⟨rd, hrd⟩ : ∃ rd : Code → Loop, ∀ c, rd c = { r0 with state := .done, pending := some c } := ⟨_, fun _ => rfl⟩
  refine ⟨_, _, _, { target := .fn (.func gf) lb, args := #[.func (.yield (w.heap.size + 1)) #[] #[]] }, W1, gf, #[.func (.yield (w.heap.size + 1)) #[] #[]] ++ lb, W1, hrun, ?_, fun _ _ => trivial, ?_, fun _ => h1, ?_⟩
  · simp only [resolve, hg]
    simp [go_sem]
  · simp [invoke, go_sem, eg]
  refine (hseq (w.heap.size + 1) (fun pre W => I pre W ∧ Rec w r0 W) (fun pre W => ∃ c, Ix c pre W ∧ Rec w (rd c) W) W1 hb1
    (fun s A B row hs hg' hr => ⟨hI s A B row hs.1 hg' (fun r e => by have := hr r e; omega), hs.2.free (B := W1.heap.size) (by omega) hg' hr⟩)
    (fun s A B row hs hg' hr => by
      obtain ⟨c, hc, hl⟩ := hs
      exact ⟨c, hIx c s A B row hc hg' (fun r e => by have := hr r e; omega), hl.free (B := W1.heap.size) (by omega) hg' hr⟩)
    ?_ ⟨hI1, hR1⟩).mono ?_
  · rintro pre x W ⟨hi, hrec⟩ hlen
    have hy := run_yield (P := Tryz.prog) (args := encs x) hrec.1 (by rw [e2]; exact hps x)
    refine ⟨_, _, _, _, hy, ?_⟩
    rw [e2, e3, e4, e5, e6]
    refine roundIn_of_wpIn hfn (hassign _ pre x W _ hi ?_)
    intro a' Wa hkf hkp hia hax
    have hra := hrec.keep hkf
    refine ⟨_, run_beginRound hra.1 e1, ?_⟩
    obtain ⟨r1, hr1⟩ : ∃ r1 : Loop, { r0 with state := .busy } = r1 := ⟨_, rfl⟩
    rw [hr1]
    have hrb : Rec w r1 (Wa.putObj (w.heap.size + 1) (.loop r1)) := hra.put
    have hkb := hKb Wa (w.heap.size + 1) _ (.loop r1) (by omega) hra.1 rfl rfl
    refine wpIn_mono (hbody _ pre x a' _ (by omega) ⟨_, hrb.1⟩ (hI.put _ hia (by omega)) (hAx x a' Wa _ _ _ (by omega) hra.1 hax) hlen) ?_
    have stopped : ∀ (c : Code) (W3 : World), KeepsFrom w.heap.size (Wa.putObj (w.heap.size + 1) (.loop r1)) W3 → Ix c (pre ++ [x]) W3 →
        ∃ W4, (Instr.endRound (w.heap.size + 1) (some c)).run Tryz.prog W3 = .ok (.bool false) W4 ∧ ∃ c, Ix c (pre ++ [x]) W4 ∧ Rec w (rd c) W4 := fun c W3 hk hx => by
      have h3 := hrb.keep hk
      refine ⟨_, run_endRound (P := Tryz.prog) (some c) h3.1, c, (hIx c).put _ hx (by omega), ?_⟩
      have : ({ r1 with state := if (some c).isNone then .ready else .done, pending := some c } : Loop) = rd c := by rw [hrd, ← hr1]; rfl
      rw [this]
      exact h3.put
    rintro e a3 W3 hp
    cases e with
    | normal =>
      obtain ⟨hk3, hkp3, hi3⟩ := hp
      have h3 := hrb.keep hk3
      refine ⟨_, _, run_endRound (P := Tryz.prog) none h3.1, .inl ⟨rfl, ⟨hI.put _ hi3 (by omega), ?_⟩, hKt hkp (hKt (hKt hkb hkp3) (hKb _ _ _ _ (by omega) h3.1 rfl rfl))⟩⟩
      have : ({ r1 with state := if (none : Option Code).isNone then .ready else .done, pending := none } : Loop) = r0 := by
        rw [← hr1]
        cases r0
        simp_all
      rw [this]
      exact h3.put
    | ret =>
      obtain ⟨W4, hr, hx⟩ := stopped .ret W3 hp.1 hp.2
      exact ⟨_, _, hr, .inr ⟨rfl, hx⟩⟩
    | exit id =>
      obtain ⟨W4, hr, hx⟩ := stopped (.exit id) W3 hp.1 hp.2
      exact ⟨_, _, hr, .inr ⟨rfl, hx⟩⟩
    | goto t =>
      obtain ⟨W4, hr, hx⟩ := stopped (.goto t) W3 hp.1 hp.2
      exact ⟨_, _, hr, .inr ⟨rfl, hx⟩⟩
    | panic ch => exact hp.elim
    | outgrown => exact hp.elim
  · rintro e W2 ⟨⟨v, rfl⟩, (⟨xs, hS, hi, hr⟩ | ⟨pre, hSp, c, hi, hr⟩)⟩
    · refine ⟨_, _, run_endLoop (P := Tryz.prog) hr.1 (by rw [e1]; simp), ?_⟩
      rw [e7]
      exact hdone _ xs _ (Nat.le_refl _) hS (hI.put _ hi (by omega)) ((World.putObj_heap_other (by omega)).trans hr.2)
    · rw [hrd] at hr
      refine ⟨_, _, run_endLoop (P := Tryz.prog) hr.1 (by simp), ?_⟩
      exact hstop _ c pre _ (Nat.le_refl _) hSp ((hIx c).put _ hi (by omega)) ((World.putObj_heap_other (by omega)).trans hr.2)
end Go.Proofs.YtdckldfekepopaaGreatDoor
