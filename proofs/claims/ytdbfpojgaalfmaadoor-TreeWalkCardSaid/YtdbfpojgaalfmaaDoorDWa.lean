/-
  A loop over an iterator that keeps rows of its own in memory, and whose elements read as something in the world in which they come.
-/
import Derived.Test.YtdbfpojgaalfmaaDoorDR
set_option linter.unusedVariables false
namespace Go.Proofs.YtdbfpojgaalfmaaDoor
open Go.RowKit Go.Shelf

/-- All below lo stays, and whatever lies from hi on. -/
def KA (lo hi : Nat) (W W' : World) : Prop := Below lo W W' ∧ ∀ (b : Nat) (o : Obj), hi ≤ b → W.heap[b]? = some o → W'.heap[b]? = some o
/-- As KA, but for one block. -/
def KX (l lo hi : Nat) (W W' : World) : Prop := Below lo W W' ∧ ∀ (b : Nat) (o : Obj), hi ≤ b → b ≠ l → W.heap[b]? = some o → W'.heap[b]? = some o
theorem KA.kc {lo hi : Nat} {W W' : World} (h : KA lo hi W W') : KC lo hi W W' := ⟨h.1, fun b o hb hx _ => h.2 b o hb hx⟩
theorem KX.close {l lo hi : Nat} {W W' : World} {r r' : Loop} (h : KX l lo hi W W') (hl : lo ≤ l) (h0 : W.heap[l]? = some (.loop r)) (h1 : W'.heap[l]? = some (.loop r')) : KA lo hi W (W'.putObj l (.loop r)) :=
  ⟨h.1.grown (grownBy_putObj' W' l _) (by have h2 := (Array.getElem?_eq_some_iff.1 h0).1; have h3 := h.1.size; omega) (fun k e => by cases e; omega), fun b o hb hx => by
    by_cases e : b = l
    · subst e
      rw [h0] at hx
      cases hx
      exact World.putObj_heap_same (Array.getElem?_eq_some_iff.1 h1).1
    · exact (World.putObj_heap_other e).trans (h.2 b o hb e hx)⟩
theorem size_putObj' (W : World) (l : Nat) (o : Obj) : (W.putObj l o).heap.size = W.heap.size := by simp [World.putObj]
theorem KX.of {l lo hi : Nat} {W W' : World} (h : Below W.heap.size W W') (hlo : lo ≤ W.heap.size) (hl : lo ≤ l) (o' : Obj) : KX l lo hi W (W'.putObj l o') :=
  ⟨(h.mono hlo).grown (grownBy_putObj' W' l _) (by have := h.size; omega) (fun k e => by cases e; omega), fun b o hb hne hx => (World.putObj_heap_other hne).trans ((h.block b (Array.getElem?_eq_some_iff.1 hx).1).trans hx)⟩
def ownPost2 {α : Type} (B : Nat) (Kb : World → Prop) (I : List α → World → Prop) (Ix : Code → List α → World → Prop) (xs : List α) (W : World) : Exit → Act → World → Prop
  | .normal, _, W' => KeepsFrom B W W' ∧ Kb W' ∧ I xs W'
  | .ret, _, W' => KeepsFrom B W W' ∧ Ix .ret xs W'
  | .exit id, _, W' => KeepsFrom B W W' ∧ Ix (.exit id) xs W'
  | .goto t, _, W' => KeepsFrom B W W' ∧ Ix (.goto t) xs W'
  | .panic _, _, _ => False
  | .outgrown, _, _ => False
/-- An iterator whose elements read as something. -/
def Seq2 {α : Type} (n g : Nat) (lb : Array Value) (encs : α → Array Value) (Kp : World → World → Prop) (Pre : α → World → Prop) (S Sp : List α → Prop) (N : Nat) (w : World) : Prop :=
  ∀ (l : Nat) (J Jx : List α → World → Prop) (W : World), Below w.heap.size w W → Free W.heap.size J → Free W.heap.size Jx →
    (∀ pre x W1, J pre W1 → Pre x W1 → pre.length < N → YieldAt Fence.wide (n - 1) Tryd.prog l (encs x) W1 fun e W' => (e = .returned (.bool true) ∧ J (pre ++ [x]) W' ∧ Kp W1 W') ∨ (e = .returned (.bool false) ∧ Jx (pre ++ [x]) W' ∧ KeepsFrom W.heap.size W1 W')) →
    J [] W → CallsIn Fence.wide n Tryd.prog g (#[.func (.yield l) #[] #[]] ++ lb) W fun e W' => (∃ v, e = .returned v) ∧ ((∃ xs, S xs ∧ J xs W') ∨ (∃ pre, Sp pre ∧ Jx pre W'))
theorem Seq.two {α : Type} {n g : Nat} {lb : Array Value} {encs : α → Array Value} {Kp : World → World → Prop} {S Sp : List α → Prop} {N : Nat} {w : World} (h : Seq n g lb encs Kp S Sp N w) : Seq2 n g lb encs Kp (fun _ _ => True) S Sp N w :=
  fun l J Jx W h1 h2 h3 h4 h5 => h l J Jx W h1 h2 h3 (fun pre x W1 hj hl => (h4 pre x W1 hj trivial hl).mono (fun e w h => h.imp id (fun h => ⟨h.1, h.2.1⟩))) h5

theorem range_own2 {α : Type} {n : Nat} {g : Operand} {ps : Array Tmp} {assign body : Code} {Q : Exit → Act → World → Prop} {a : Act} {w : World}
    (h1 : 1 ≤ n) {gf : Nat} {lb : Array Value} (hg : a.eval g = .func (.func gf) #[] lb) (eg : ∀ args w, (callFunc gf args).run Tryd.prog w = .ok (.enter gf args) w)
    {encs : α → Array Value} {Kp : World → World → Prop} {Pre : α → World → Prop} {S Sp : List α → Prop} {N : Nat} {w0 : World} (hseq : Seq2 (n - 1) gf lb encs Kp Pre S Sp N w0)
    {lo hi : Nat} (hKp : ∀ {A B : World}, KA lo hi A B → Kp A B) (hlo : lo ≤ w.heap.size) (hb0 : Below w0.heap.size w0 w) (hps : ∀ x, (encs x).size = ps.size)
    (I : List α → World → Prop) (Ix : Code → List α → World → Prop) (hI : Free w.heap.size I) (hIx : ∀ c, Free w.heap.size (Ix c)) (h0 : I [] w) (Ax : α → World → Act → World → Prop)
    (hAx : ∀ x Ws a' W l r o', w.heap.size ≤ l → W.heap[l]? = some (.loop r) → Ax x Ws a' W → Ax x Ws a' (W.putObj l o'))
    (hassign : ∀ (l : Nat) (pre : List α) (x : α) (W : World) (K : Act → World → Prop), I pre W → Pre x W → (∀ a' W', Below W.heap.size W W' → I pre W' → Ax x W a' W' → K a' W') →
      assign.wpIn (Fence.wide.inRound l) (n - 1 - 1) Tryd.prog (Exit.then K (fun _ _ _ => False)) { tmps := (ps.zip (encs x)).foldl (fun t (p, v) => t.setIfInBounds p v) a.tmps, defers := [] } W)
    (hbody : ∀ (l : Nat) (pre : List α) (x : α) (Ws : World) (a' : Act) (W : World), w.heap.size ≤ l → (∃ r, W.heap[l]? = some (.loop r)) → I pre W → Ax x Ws a' W → KX l lo hi Ws W → Ws.heap.size ≤ W.heap.size → w.heap.size ≤ Ws.heap.size → pre.length < N → body.wpIn (Fence.wide.inRound l) (n - 1 - 1) Tryd.prog (ownPost2 w.heap.size (KX l lo hi Ws) I Ix (pre ++ [x]) W) a' W)
    (hdone : ∀ (D : Nat) (xs : List α) (W : World), w.heap.size ≤ D → S xs → I xs W → W.heap[D]? = some (.deferred (some [])) → Q .normal { a with defers := { target := .collected D, args := #[] } :: a.defers } W)
    (hstop : ∀ (D : Nat) (c : Code) (pre : List α) (W : World), w.heap.size ≤ D → Sp pre → Ix c pre W → W.heap[D]? = some (.deferred (some [])) → c.wpIn Fence.wide n Tryd.prog Q { a with defers := { target := .collected D, args := #[] } :: a.defers } W) :
    (Code.rangeFunc g ps assign body).wpIn Fence.wide n Tryd.prog Q a w := by
  refine wpIn_rangeFunc ?_
  intro fn hfn
  have HL : ∃ r0 : Loop, r0.state = .ready ∧ r0.params = ps ∧ r0.tmps = a.tmps ∧ r0.fn = fn ∧ r0.assign = assign ∧ r0.body = body ∧ r0.pending = none ∧ (Instr.enterLoop fn a.tmps ps assign body none).run Tryd.prog w = .ok (w.heap.size + 1, [{ target := .collected w.heap.size, args := #[] }]) ((w.alloc (.deferred (some []))).alloc (.loop r0)) :=
    ⟨_, rfl, rfl, rfl, rfl, rfl, rfl, rfl, run_enterLoop_outer _ _ _ _ _⟩
  obtain ⟨r0, e1, e2, e3, e4, e5, e6, e7, hrun⟩ := HL
  obtain ⟨W1, hW1⟩ : ∃ W1, (w.alloc (.deferred (some []))).alloc (.loop r0) = W1 := ⟨_, rfl⟩
  have hR1 : Rec w r0 W1 := by
    have x1 := World.alloc_heap_new (w.alloc (.deferred (some []))) (.loop r0)
    rw [World.size_alloc] at x1
    rw [← hW1]
    exact ⟨x1, (Below.heap_alloc _ _ _ (by simp)).trans (World.alloc_heap_new w _)⟩
  have hz1 : W1.heap.size = w.heap.size + 2 := by rw [← hW1]; simp
  have hI1 : I [] W1 := by rw [← hW1]; exact hI.new _ (hI.new _ h0)
  have hb1 : Below w0.heap.size w0 W1 := by
    have x1 : Below w.heap.size w W1 := by rw [← hW1]; go_grown
    exact hb0.trans (x1.mono hb0.size)
  rw [hW1] at hrun
  obtain ⟨rd, hrd⟩ : ∃ rd : Code → Loop, ∀ c, rd c = { r0 with state := .done, pending := some c } := ⟨_, fun _ => rfl⟩
  refine ⟨_, _, _, { target := .fn (.func gf) lb, args := #[.func (.yield (w.heap.size + 1)) #[] #[]] }, W1, gf, #[.func (.yield (w.heap.size + 1)) #[] #[]] ++ lb, W1, hrun, ?_, fun _ _ => trivial, ?_, fun _ => h1, ?_⟩
  · simp only [resolve, hg]
    simp [go_sem]
  · simp [invoke, go_sem, eg]
  refine (hseq (w.heap.size + 1) (fun pre W => I pre W ∧ Rec w r0 W) (fun pre W => ∃ c, Ix c pre W ∧ Rec w (rd c) W) W1 hb1
    (fun s A B row hs hg' hr => ⟨hI s A B row hs.1 hg' (fun r e => by have := hr r e; omega), hs.2.free (B := W1.heap.size) (by omega) hg' hr⟩)
    (fun s A B row hs hg' hr => by
      obtain ⟨c, hc, hl⟩ := hs
      exact ⟨c, hIx c s A B row hc hg' (fun r e => by have := hr r e; omega), hl.free (B := W1.heap.size) (by omega) hg' hr⟩)
    ?_ ⟨hI1, hR1⟩).mono ?_
  · rintro pre x W ⟨hi, hrec⟩ hpre hlen
    have hy := run_yield (P := Tryd.prog) (args := encs x) hrec.1 (by rw [e2]; exact hps x)
    refine ⟨_, _, _, _, hy, ?_⟩
    rw [e2, e3, e4, e5, e6]
    refine roundIn_of_wpIn hfn (hassign _ pre x W _ hi hpre ?_)
    intro a' Wa hba hia hax
    have hkf : KeepsFrom w.heap.size W Wa := (keeps_below hba).from _
    have hzW : w.heap.size + 1 < W.heap.size := (Array.getElem?_eq_some_iff.1 hrec.1).1
    have hra := hrec.keep hkf
    refine ⟨_, run_beginRound hra.1 e1, ?_⟩
    obtain ⟨r1, hr1⟩ : ∃ r1 : Loop, { r0 with state := .busy } = r1 := ⟨_, rfl⟩
    rw [hr1]
    have hrb : Rec w r1 (Wa.putObj (w.heap.size + 1) (.loop r1)) := hra.put
    refine wpIn_mono (hbody _ pre x W a' _ (by omega) ⟨_, hrb.1⟩ (hI.put _ hia (by omega)) (hAx x W a' Wa _ _ _ (by omega) hra.1 hax) (KX.of hba (by omega) (by omega) _) (by rw [size_putObj']; exact hba.size) (by omega) hlen) ?_
    have stopped : ∀ (c : Code) (W3 : World), KeepsFrom w.heap.size (Wa.putObj (w.heap.size + 1) (.loop r1)) W3 → Ix c (pre ++ [x]) W3 →
        ∃ W4, (Instr.endRound (w.heap.size + 1) (some c)).run Tryd.prog W3 = .ok (.bool false) W4 ∧ (∃ c, Ix c (pre ++ [x]) W4 ∧ Rec w (rd c) W4) ∧ KeepsFrom W1.heap.size W W4 := fun c W3 hk hx => by
      have h3 := hrb.keep hk
      refine ⟨_, run_endRound (P := Tryd.prog) (some c) h3.1, ⟨c, (hIx c).put _ hx (by omega), ?_⟩, ⟨?_, fun b o hb hbo hc => ?_⟩⟩
      rotate_left
      · have h4 := hk.size
        have h5 := hkf.size
        rw [size_putObj'] at h4 ⊢
        omega
      · have g1 := (hba.block b (Array.getElem?_eq_some_iff.1 hbo).1).trans hbo
        have g2 := (World.putObj_heap_other (w := Wa) (o := .loop r1) (show b ≠ w.heap.size + 1 by omega)).trans g1
        exact (World.putObj_heap_other (show b ≠ w.heap.size + 1 by omega)).trans (hk.same b o (by omega) g2 hc)
      have : ({ r1 with state := if (some c).isNone then .ready else .done, pending := some c } : Loop) = rd c := by rw [hrd, ← hr1]; rfl
      rw [this]
      exact h3.put
    rintro e a3 W3 hp
    cases e with
    | normal =>
      obtain ⟨hk3, hkp3, hi3⟩ := hp
      have h3 := hrb.keep hk3
      have he0 : ({ r1 with state := if (none : Option Code).isNone then .ready else .done, pending := none } : Loop) = r0 := by
        rw [← hr1]
        cases r0
        simp_all
      refine ⟨_, _, run_endRound (P := Tryd.prog) none h3.1, .inl ⟨rfl, ⟨hI.put _ hi3 (by omega), ?_⟩, ?_⟩⟩
      · rw [he0]
        exact h3.put
      · rw [he0]
        exact hKp (hkp3.close (by omega) hrec.1 h3.1)
    | ret =>
      obtain ⟨W4, hr, hx⟩ := stopped .ret W3 hp.1 hp.2
      exact ⟨_, _, hr, .inr ⟨rfl, hx.1, hx.2⟩⟩
    | exit id =>
      obtain ⟨W4, hr, hx⟩ := stopped (.exit id) W3 hp.1 hp.2
      exact ⟨_, _, hr, .inr ⟨rfl, hx.1, hx.2⟩⟩
    | goto t =>
      obtain ⟨W4, hr, hx⟩ := stopped (.goto t) W3 hp.1 hp.2
      exact ⟨_, _, hr, .inr ⟨rfl, hx.1, hx.2⟩⟩
    | panic ch => exact hp.elim
    | outgrown => exact hp.elim
  · rintro e W2 ⟨⟨v, rfl⟩, (⟨xs, hS, hi, hr⟩ | ⟨pre, hSp, c, hi, hr⟩)⟩
    · refine ⟨_, _, run_endLoop (P := Tryd.prog) hr.1 (by rw [e1]; simp), ?_⟩
      rw [e7]
      exact hdone _ xs _ (Nat.le_refl _) hS (hI.put _ hi (by omega)) ((World.putObj_heap_other (by omega)).trans hr.2)
    · rw [hrd] at hr
      refine ⟨_, _, run_endLoop (P := Tryd.prog) hr.1 (by simp), ?_⟩
      exact hstop _ c pre _ (Nat.le_refl _) hSp ((hIx c).put _ hi (by omega)) ((World.putObj_heap_other (by omega)).trans hr.2)
end Go.Proofs.YtdbfpojgaalfmaaDoor
