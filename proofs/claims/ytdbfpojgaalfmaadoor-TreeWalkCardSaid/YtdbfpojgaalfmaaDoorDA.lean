/-
  The program's iterator over a value and its parts: it keeps what is yet to come in a row of its own.
-/
import Derived.Test.YtdbfpojgaalfmaaDoorDV
import Derived.Test.YtdbfpojgaalfmaaDoorDR
import Derived.Test.YtdbfpojgaalfmaaDoorTL
set_option linter.unusedVariables false
namespace Go.Proofs.YtdbfpojgaalfmaaDoor
open Go.RowKit Go.Shelf
attribute [local go_sem] Oper.semAt_some

/-- A list that is yet to be gone over, as it lies: of the value that was given, or the value itself in block A. -/
def rowOK (w0 : World) (A : Nat) (x : V) (L : List V) (v : Value) : Prop := ∃ a cap, slv v L.length a cap ∧ (isVs w0 L a ∨ (L = [x] ∧ a = ⟨A, 0, none⟩))
def rowsOK (w0 : World) (A : Nat) (x : V) : List (List V) → List Value → Prop
  | [], xs => xs = []
  | L :: S, xs => ∃ v t, xs = v :: t ∧ 0 < L.length ∧ rowOK w0 A x L v ∧ rowsOK w0 A x S t
/-- What is yet to come; the last list first. -/
def remS : List (List V) → List V
  | [] => []
  | L :: S => remS S ++ walkVs L
theorem remS_snoc (S : List (List V)) (L : List V) : remS (S ++ [L]) = walkVs L ++ remS S := by
  induction S with
  | nil => simp [remS]
  | cons M S ih => simp only [List.cons_append, remS, ih, List.append_assoc]
theorem walkVs_pos (L : List V) (h : 0 < L.length) : 0 < (walkVs L).length := by
  cases L with
  | nil => simp at h
  | cons x t =>
    obtain ⟨_, _, _, _, _, _⟩ := x
    simp [walkVs, walkV]
theorem walkVs_zero (L : List V) (h : L.length = 0) : walkVs L = [] := by
  cases L with
  | nil => rfl
  | cons x t => simp at h
theorem walkV_eq (x : V) : walkV x = x :: walkVs x.list := by obtain ⟨_, _, _, _, _, _⟩ := x; rw [walkV]; rfl
section
variable {w0 : World} {A : Nat} {x : V}
theorem rowsOK_len : ∀ (S : List (List V)) (xs : List Value), rowsOK w0 A x S xs → xs.length = S.length ∧ S.length ≤ (remS S).length
  | [], xs, h => by unfold rowsOK at h; subst h; simp
  | L :: S, xs, h => by
    unfold rowsOK at h
    obtain ⟨v, t, rfl, h1, h2, h3⟩ := h
    obtain ⟨e1, e2⟩ := rowsOK_len S t h3
    have := walkVs_pos L h1
    simp only [List.length_cons, remS, List.length_append]
    omega
theorem rowsOK_snoc : ∀ (S : List (List V)) (L : List V) (xs : List Value) (v : Value), rowsOK w0 A x S xs → 0 < L.length → rowOK w0 A x L v → rowsOK w0 A x (S ++ [L]) (xs ++ [v])
  | [], L, xs, v, h, h1, h2 => by
    unfold rowsOK at h
    subst h
    simp only [List.nil_append, rowsOK]
    exact ⟨v, [], rfl, h1, h2, rfl⟩
  | M :: S, L, xs, v, h, h1, h2 => by
    unfold rowsOK at h
    obtain ⟨u, t, rfl, g1, g2, g3⟩ := h
    simp only [List.cons_append]
    unfold rowsOK
    exact ⟨u, t ++ [v], rfl, g1, g2, rowsOK_snoc S L t v g3 h1 h2⟩
theorem rowsOK_last : ∀ (S : List (List V)) (L : List V) (xs : List Value), rowsOK w0 A x (S ++ [L]) xs → ∃ ys v, xs = ys ++ [v] ∧ rowsOK w0 A x S ys ∧ 0 < L.length ∧ rowOK w0 A x L v
  | [], L, xs, h => by
    simp only [List.nil_append, rowsOK] at h
    obtain ⟨v, t, rfl, h1, h2, rfl⟩ := h
    exact ⟨[], v, rfl, rfl, h1, h2⟩
  | M :: S, L, xs, h => by
    simp only [List.cons_append] at h
    unfold rowsOK at h
    obtain ⟨u, t, rfl, g1, g2, g3⟩ := h
    obtain ⟨ys, v, rfl, h1, h2, h3⟩ := rowsOK_last S L t g3
    exact ⟨u :: ys, v, rfl, by unfold rowsOK; exact ⟨u, ys, rfl, g1, g2, h1⟩, h2, h3⟩
/-- The last list's first value: its cells, its parts, and those that stand behind it. -/
theorem rowOK_top {vx : Value} (hx : isV w0 x vx) {wr : World} (hb : Below w0.heap.size w0 wr) {cs : Array Value} (hA : wr.heap[A]? = some (.cells cs 26 (0, 0))) (hv : vx = .agg cs) {y : V} {t : List V} {v : Value} (h : rowOK w0 A x (y :: t) v) :
    ∃ (ab ao cap : Nat) (k : Int) (b : Bool) (n : Int) (s : ByteArray) (o : Option Addr) (m c : Nat) (o2 : Option Addr) (m2 c2 : Nat), v = .slice (some ⟨ab, ao, none⟩) (t.length + 1) cap ∧ t.length + 1 ≤ cap ∧ cap ≤ maxLen ∧
      (wr.cell? ⟨ab, ao, none⟩ = some (.int .i8 k) ∧ wr.cell? ⟨ab, ao + 1, none⟩ = some (.bool b) ∧ wr.cell? ⟨ab, ao + 2, none⟩ = some (.int .i64 n) ∧ wr.cell? ⟨ab, ao + 3, none⟩ = some (.string s) ∧ wr.cell? ⟨ab, ao + 4, none⟩ = some (.slice o m c) ∧ wr.cell? ⟨ab, ao + 5, none⟩ = some (.slice o2 m2 c2)) ∧
      isV w0 y (.agg #[.int .i8 k, .bool b, .int .i64 n, .string s, .slice o m c, .slice o2 m2 c2]) ∧ (ab < w0.heap.size ∨ ab = A) ∧
      (0 < t.length → ∀ cap', t.length ≤ cap' → cap' ≤ maxLen → rowOK w0 A x t (.slice (some ⟨ab, ao + 6, none⟩) t.length cap')) ∧ m = y.list.length ∧ rowOK w0 A x y.list (.slice o m c) := by
  obtain ⟨a, cap, ⟨o, rfl, h1, h2, h3⟩, h4⟩ := h
  have hy : ∀ {k b n s o m c o2 m2 c2}, isV w0 y (.agg #[.int .i8 k, .bool b, .int .i64 n, .string s, .slice o m c, .slice o2 m2 c2]) → m = y.list.length ∧ rowOK w0 A x y.list (.slice o m c) := by
    intro k b n s o m c o2 m2 c2 hy
    obtain ⟨k', b', n', s', l', ks'⟩ := y
    unfold isV at hy
    obtain ⟨lv, kv, he, _, _, _, ⟨a1, p1, ⟨o1, rfl, q1, q2, q3⟩, q4⟩, _⟩ := hy
    simp only [Value.agg.injEq, Array.mk.injEq, List.cons.injEq, and_true] at he
    obtain ⟨_, _, _, _, he, _⟩ := he
    cases he
    exact ⟨rfl, a1, _, ⟨_, rfl, q1, q2, q3⟩, .inl q4⟩
  have h3' := h3 (by simp)
  subst h3'
  rcases h4 with h4 | ⟨h4, rfl⟩
  · obtain ⟨k, b, n, s, o, m, c, o2, m2, c2, g0, g1, g2, g3, g4, g5, gx⟩ := isVs_sl _ _ 0 (by simp) h4
    simp only [Nat.zero_mul] at g0 g1 g2 g3 g4 g5
    have ea : a.add 0 = a := by simp [Addr.add]
    rw [ea] at g0 g1 g2 g3 g4 g5
    have hs := spot_none g0
    have hlt := World.block_lt_of_cell? w0 a g0
    obtain ⟨ab, ao, asp⟩ := a
    cases hs
    obtain ⟨e1, e2⟩ := hy gx
    refine ⟨ab, ao, cap, k, b, n, s, o, m, c, o2, m2, c2, rfl, h1, h2, ⟨cell_below hb _ _ g0, cell_below hb _ _ g1, cell_below hb _ _ g2, cell_below hb _ _ g3, cell_below hb _ _ g4, cell_below hb _ _ g5⟩, gx, .inl hlt, fun ht cap' hc hc' => ?_, e1, e2⟩
    unfold isVs at h4
    exact ⟨⟨ab, ao + 6, none⟩, cap', ⟨_, rfl, hc, hc', fun _ => rfl⟩, .inl h4.2⟩
  · cases h4
    obtain ⟨k, b, n, s, o, m, c, o2, m2, c2, he⟩ := isV_six hx
    rw [hv] at he hx
    cases he
    obtain ⟨e1, e2⟩ := hy hx
    exact ⟨A, 0, cap, k, b, n, s, o, m, c, o2, m2, c2, rfl, h1, h2, six_cells hA, hx, .inr rfl, fun ht => absurd ht (by simp), e1, e2⟩
end
end Go.Proofs.YtdbfpojgaalfmaaDoor
