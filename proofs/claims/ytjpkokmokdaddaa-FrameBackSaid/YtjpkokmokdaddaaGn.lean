/-
  FrameBack: the walk.
-/
import Derived.Test.YtjpkokmokdaddaaGm
import Derived.StillTailTactics
set_option linter.unusedVariables false
namespace Go.Proofs.Ytjpkokmokdaddaa
open Go.RowKit Go.Shelf Go.Lib Go.Deep

theorem infoIntR : (Try.prog.info? 3).map (fun i => (i.zero, i.size, i.bytes)) = some (some (.int .i64 0), 1, 8) := by kernel_rfl
/-- The loads that may be framed, of the first j. -/
def putL (L : List (List UInt8)) (j : Nat) : List (List UInt8) := (L.take j).filter fun x => decide (1 ≤ x.length ∧ x.length ≤ 524288)
theorem putL_succ (L : List (List UInt8)) (j : Nat) (h : j < L.length) : putL L (j + 1) = if 1 ≤ L[j].length ∧ L[j].length ≤ 524288 then putL L j ++ [L[j]] else putL L j := by
  unfold putL
  rw [List.take_succ_eq_append_getElem h, List.filter_append]
  by_cases hg : 1 ≤ L[j].length ∧ L[j].length ≤ 524288
  · rw [if_pos hg]; simp [hg]
  · rw [if_neg hg]; simp [hg]
theorem putL_good (L : List (List UInt8)) (j : Nat) : ∀ x ∈ putL L j, goodL x := by
  intro x hx
  unfold putL at hx
  have := (List.mem_filter.1 hx).2
  simpa [goodL] using this
theorem putL_len (L : List (List UInt8)) (j : Nat) : (putL L j).length ≤ j := by
  unfold putL
  have := List.length_filter_le (fun x : List UInt8 => decide (1 ≤ x.length ∧ x.length ≤ 524288)) (L.take j)
  rw [List.length_take] at this
  omega
/-- Where the frames end. -/
def endsL : Nat → List (List UInt8) → List Nat
  | _, [] => []
  | n, x :: t => (n + (4 + x.length)) :: endsL (n + (4 + x.length)) t
theorem ends_app : ∀ (n : Nat) (P : List (List UInt8)) (x : List UInt8), endsL n (P ++ [x]) = endsL n P ++ [n + (framesL (P ++ [x])).length]
  | n, [], x => by simp [endsL, framesL, frame_length]
  | n, y :: t, x => by
    show (n + (4 + y.length)) :: endsL (n + (4 + y.length)) (t ++ [x]) = (n + (4 + y.length)) :: (endsL (n + (4 + y.length)) t ++ [n + (frameL y ++ framesL (t ++ [x])).length])
    rw [ends_app (n + (4 + y.length)) t x, List.length_append, frame_length, Nat.add_assoc n (4 + y.length)]
theorem ends_length : ∀ (n : Nat) (P : List (List UInt8)), (endsL n P).length = P.length
  | _, [] => rfl
  | n, x :: t => by simp [endsL, ends_length]
/-- The loop that looks for the last whole frame: behind k of them. -/
theorem ends_get : ∀ (P : List (List UInt8)) (n k : Nat) (h : k < P.length), (endsL n P)[k]'(by rw [ends_length]; exact h) = n + (framesL (P.take (k + 1))).length
  | [], n, k, h => absurd h (by simp)
  | x :: t, n, 0, h => by simp [endsL, framesL, frame_length]
  | x :: t, n, k + 1, h => by
    have := ends_get t (n + (4 + x.length)) k (by simpa using h)
    simp only [endsL, List.getElem_cons_succ, this, List.take_succ_cons, framesL, List.length_append, frame_length]
    omega
/-- Where the k-th frame ends. -/
def endL (P : List (List UInt8)) (k : Nat) : Nat := (framesL (P.take k)).length
theorem endL_step (P : List (List UInt8)) (k : Nat) (h : k < P.length) : endL P (k + 1) = endL P k + (4 + P[k].length) := by
  unfold endL
  rw [List.take_succ_eq_append_getElem h, frames_append, List.length_append]
  simp [framesL, frame_length]
theorem whole_at : ∀ (P : List (List UInt8)) (k c : Nat), k ≤ P.length → endL P k ≤ c → (k = P.length ∨ ∃ h : k < P.length, c < endL P (k + 1)) → wholeL P c = (k, endL P k)
  | [], k, c, h, _, _ => by
    obtain rfl : k = 0 := by simpa using h
    rfl
  | x :: t, 0, c, _, _, h2 => by
    unfold wholeL
    rcases h2 with h2 | ⟨_, h2⟩
    · simp at h2
    · have : endL (x :: t) 1 = 4 + x.length := by simp [endL, framesL, frame_length]
      rw [Nat.zero_add, this] at h2
      rw [if_neg (by omega)]
      rfl
  | x :: t, k + 1, c, h, h1, h2 => by
    have e : ∀ j, endL (x :: t) (j + 1) = 4 + x.length + endL t j := fun j => by simp [endL, framesL, frame_length]
    rw [e] at h1
    have hw := whole_at t k (c - (4 + x.length)) (by simpa using h) (by omega) (by
      rcases h2 with h2 | ⟨h3, h2⟩
      · exact .inl (by simpa using h2)
      · rw [e] at h2
        exact .inr ⟨by simpa using h3, by omega⟩)
    unfold wholeL
    rw [if_pos (by omega), hw, e]
    exact Prod.ext rfl (by show endL t k + (4 + x.length) = 4 + x.length + endL t k; omega)
theorem putL_bytes (L : List (List UInt8)) : ∀ j, j ≤ L.length → (∀ i (h : i < L.length), i < j → L[i].length ≤ 2000) → (framesL (putL L j)).length ≤ 2004 * j
  | 0, _, _ => by simp [putL, framesL]
  | j + 1, h, hb => by
    have ih := putL_bytes L j (by omega) (fun i hi hj => hb i hi (by omega))
    have hj := hb j (by omega) (by omega)
    rw [putL_succ L j (by omega)]
    split
    · rw [frames_append, List.length_append]
      simp only [framesL, List.append_nil, frame_length]
      omega
    · omega
/-- A row of numbers of the call's own. -/
def RI (base : Nat) (W : World) (E : List Nat) (v : Value) : Prop := W.ownsRow base 3 1 v E.length (E.map fun (n : Nat) => Value.int .i64 (n : Int))
theorem own_type {W : World} {base e n size : Nat} {v : Value} {xs : List Value} (h : W.ownsRow base e size v n xs) (k : Nat) (hk : v.ownBlock = some k) : base ≤ k ∧ k < W.heap.size ∧ ∃ cur, W.heap[k]? = some (.cells cur e (0, 0)) := by
  rcases h.2 with ⟨rfl, _⟩ | ⟨g, cap, cur, rfl, hb, hg, _⟩
  · cases hk
  · have : g = k := by simpa [Value.ownBlock] using hk
    subst this
    exact ⟨hb, (Array.getElem?_eq_some_iff.1 hg).1, cur, hg⟩
theorem types_apart {W : World} {k : Nat} {c1 c2 : Array Value} {t1 t2 : TypeId} (h1 : W.heap[k]? = some (.cells c1 t1 (0, 0))) (h2 : W.heap[k]? = some (.cells c2 t2 (0, 0))) (ht : t1 ≠ t2) : False := by
  rw [h1] at h2
  have := Option.some.inj h2
  simp only [Obj.cells.injEq] at this
  exact ht this.2.1
/-- The bytes, the loads, the ends so far (each of its own loads: between the appends they differ). -/
def BK2 (w : World) (B P : List (List UInt8)) (Q : List (List UInt8)) (bv pv ev : Value) (W : World) : Prop :=
  ow w.heap.size W bv (framesL B) ∧ RW w W P pv ∧ RI w.heap.size W (endsL 0 Q) ev ∧ Below w.heap.size w W
theorem kept_other {W W' : World} {base e n size : Nat} {v : Value} {xs : List Value} {row : Option Nat} (h : W.ownsRow base e size v n xs) (hg : W.grownBy W' row) (hr : ∀ k, row = some k → v.ownBlock ≠ some k) : W'.ownsRow base e size v n xs :=
  h.kept hg (by
    cases hv : v.ownBlock with
    | none => exact .inl rfl
    | some k => exact .inr (fun e => hr k e.symm hv))
theorem RW.kept {w W W' : World} {P : List (List UInt8)} {v : Value} {row : Option Nat} (h : RW w W P v) (hg : W.grownBy W' row) (hr : ∀ k, row = some k → v.ownBlock ≠ some k) (hb : Below w.heap.size w W') : RW w W' P v := by
  obtain ⟨xs, s1, s2, _⟩ := h
  exact ⟨xs, kept_other s1 hg hr, s2, hb⟩
theorem ow.kept {W W' : World} {base : Nat} {x : List UInt8} {v : Value} {row : Option Nat} (h : ow base W v x) (hg : W.grownBy W' row) (hr : ∀ k, row = some k → v.ownBlock ≠ some k) : ow base W' v x :=
  h.keep fun k o hk ho => (hg.block k (Array.getElem?_eq_some_iff.1 ho).1 (fun e => hr k e.symm hk)).trans ho
theorem BK2.bytes {w W W' : World} {B P Q B' : List (List UInt8)} {bv pv ev bv' : Value} (h : BK2 w B P Q bv pv ev W) (hg : W.grownBy W' bv.ownBlock) (hb : ow w.heap.size W' bv' (framesL B')) : BK2 w B' P Q bv' pv ev W' := by
  obtain ⟨h1, h2, h3, h4⟩ := h
  have hB : Below w.heap.size w W' := h4.trans ((Fr.grown (B := fun k => w.heap.size ≤ k) hg (fun r hr => (h1.lt r hr).1)).below (fun k hk => hk) h4.size)
  refine ⟨hb, h2.kept hg (fun k hk hk2 => ?_) hB, kept_other h3 hg (fun k hk hk2 => ?_), hB⟩
  · obtain ⟨_, _, c1, e1⟩ := h1.lt k hk
    obtain ⟨xs, s1, _⟩ := h2
    obtain ⟨_, _, c2, e2⟩ := own_type s1 k hk2
    exact types_apart e1 e2 (by decide)
  · obtain ⟨_, _, c1, e1⟩ := h1.lt k hk
    obtain ⟨_, _, c2, e2⟩ := own_type h3 k hk2
    exact types_apart e1 e2 (by decide)
theorem BK2.loads {w W W' : World} {B P Q P' : List (List UInt8)} {bv pv ev pv' : Value} (h : BK2 w B P Q bv pv ev W) (hg : W.grownBy W' pv.ownBlock) (hb : RW w W' P' pv') : BK2 w B P' Q bv pv' ev W' := by
  obtain ⟨h1, h2, h3, h4⟩ := h
  have hB : Below w.heap.size w W' := by obtain ⟨_, _, _, h⟩ := hb; exact h
  obtain ⟨xs, s1, _⟩ := h2
  refine ⟨h1.kept hg (fun k hk hk2 => ?_), hb, kept_other h3 hg (fun k hk hk2 => ?_), hB⟩
  · obtain ⟨_, _, c1, e1⟩ := h1.lt k hk2
    obtain ⟨_, _, c2, e2⟩ := own_type s1 k hk
    exact types_apart e1 e2 (by decide)
  · obtain ⟨_, _, c1, e1⟩ := own_type s1 k hk
    obtain ⟨_, _, c2, e2⟩ := own_type h3 k hk2
    exact types_apart e1 e2 (by decide)
theorem BK2.ends {w W W' : World} {B P Q Q' : List (List UInt8)} {bv pv ev ev' : Value} (h : BK2 w B P Q bv pv ev W) (hg : W.grownBy W' ev.ownBlock) (hb : RI w.heap.size W' (endsL 0 Q') ev') : BK2 w B P Q' bv pv ev' W' := by
  obtain ⟨h1, h2, h3, h4⟩ := h
  have hB : Below w.heap.size w W' := h4.trans ((Fr.grown (B := fun k => w.heap.size ≤ k) hg (fun r hr => (own_type h3 r hr).1)).below (fun k hk => hk) h4.size)
  obtain ⟨xs, s1, _⟩ := id h2
  refine ⟨h1.kept hg (fun k hk hk2 => ?_), h2.kept hg (fun k hk hk2 => ?_) hB, hb, hB⟩
  · obtain ⟨_, _, c1, e1⟩ := h1.lt k hk2
    obtain ⟨_, _, c2, e2⟩ := own_type h3 k hk
    exact types_apart e1 e2 (by decide)
  · obtain ⟨_, _, c1, e1⟩ := own_type s1 k hk2
    obtain ⟨_, _, c2, e2⟩ := own_type h3 k hk
    exact types_apart e1 e2 (by decide)
theorem BK2.below {w W W' : World} {B P Q : List (List UInt8)} {bv pv ev : Value} (h : BK2 w B P Q bv pv ev W) (hb : Below W.heap.size W W') : BK2 w B P Q bv pv ev W' :=
  ⟨ow_rd_below h.1 hb, h.2.1.below hb, h.2.2.1.kept (row := none) ⟨hb.os, hb.tape, hb.output, hb.size, fun k hk _ => hb.block k hk⟩ (by cases hv : ev.ownBlock with | none => exact .inl rfl | some k => exact .inr (by simp)), h.2.2.2.trans (hb.mono h.2.2.2.size)⟩
end Go.Proofs.Ytjpkokmokdaddaa
