/-
  What a loop's round keeps of memory; small laws on worlds.
-/
import Derived.RangeFuncNested
import Derived.RangeFuncBound
import Derived.RangeFuncCalls
import Derived.RangeFuncLeaves
import Derived.Shelf.Abstract
import Derived.Shelf.RegionOpen
import Derived.WalkKit
import Derived.OwnWalkIn
import Derived.TacticsInMore
import Derived.LoopNIn
import Derived.LoopIn
import Derived.Deep.LoopGhost
import Derived.Test.YtdbfpojgaalfmaaDoorTC
import Derived.Test.YtdbfpojgaalfmaaDoorBaseP
set_option linter.unusedVariables false
namespace Go.Proofs.YtdbfpojgaalfmaaDoor
open Go.RowKit Go.Shelf

theorem grown_bel {w w' : World} (h : Below w.heap.size w w') : w.grownBy w' none := ⟨h.os, h.tape, h.output, h.size, fun k hk _ => h.block k hk⟩
theorem keeps_below {W W' : World} (hb : Below W.heap.size W W') : KeepsOthers W W' :=
  ⟨hb.size, fun j o hj _ => (hb.block j (Array.getElem?_eq_some_iff.1 hj).1).trans hj⟩
/-- All below lo stays, and every cell's block from hi on. -/
def KC (lo hi : Nat) (W W' : World) : Prop := Below lo W W' ∧ ∀ (b : Nat) (o : Obj), hi ≤ b → W.heap[b]? = some o → o.isCells = true → W'.heap[b]? = some o
theorem kc_refl (lo hi : Nat) (W : World) : KC lo hi W W := ⟨Below.refl _ _, fun _ _ _ h _ => h⟩
theorem kc_t {lo hi : Nat} {X Y Z : World} (h : KC lo hi X Y) (k : KC lo hi Y Z) : KC lo hi X Z := ⟨h.1.trans k.1, fun b o hb hx hc => k.2 b o hb (h.2 b o hb hx hc) hc⟩
theorem kc_b {lo hi z : Nat} (hm : lo ≤ z) (W : World) (l : Nat) (o o' : Obj) (hl : z ≤ l) (h1 : W.heap[l]? = some o) (h2 : o.isCells = false) (h3 : o.isWalk = false) : KC lo hi W (W.putObj l o') :=
  ⟨(Below.refl lo W).grown (grownBy_putObj' W l o') (by have := (Array.getElem?_eq_some_iff.1 h1).1; omega) (fun k e => by cases e; omega),
   fun b q _ hb hc => by
    by_cases e : b = l
    · subst e; rw [h1] at hb; cases hb; rw [h2] at hc; cases hc
    · exact (World.putObj_heap_other e).trans hb⟩
theorem kc_below {lo hi : Nat} {W W' : World} (hb : Below W.heap.size W W') (h : lo ≤ W.heap.size) : KC lo hi W W' :=
  ⟨hb.mono h, fun b o _ hx _ => (hb.block b (Array.getElem?_eq_some_iff.1 hx).1).trans hx⟩
theorem kc_set {lo hi B : Nat} {W : World} (v : Value) (h1 : lo ≤ B) (h2 : B < hi) (h3 : lo ≤ W.heap.size) : KC lo hi W (W.setCell ⟨B, 0, none⟩ v) :=
  ⟨(Below.refl lo W).setCell (p := ⟨B, 0, none⟩) h1 _, fun b o hb hx _ => ((grownBy_setCell' W B v).block b (Array.getElem?_eq_some_iff.1 hx).1 (by intro e; cases e; omega)).trans hx⟩
theorem KC.cell {lo hi : Nat} {W W' : World} (h : KC lo hi W W') (a : Addr) (c : Value) (ha : a.block < lo ∨ hi ≤ a.block) (hc : W.cell? a = some c) : W'.cell? a = some c := by
  rcases ha with ha | ha
  · exact (h.1.cell ha).trans hc
  · have hc2 := hc
    unfold World.cell? at hc2
    cases ho : W.heap[a.block]? with
    | none => rw [ho] at hc2; cases hc2
    | some o =>
      rw [ho] at hc2
      have hoc : o.isCells = true := by
        cases o <;> first | rfl | (simp at hc2)
      exact (World.cell?_of_block (h := (h.2 _ o ha ho hoc).trans ho.symm)).trans hc
theorem boxed_kc {lo hi B : Nat} {t : TypeId} {v : Value} {W W' : World} (h : KC lo hi W W') (hB : B < lo ∨ hi ≤ B) (hb : Boxed W B t v) : Boxed W' B t v := by
  rcases hB with hB | hB
  · exact (h.1.block B hB).trans hb
  · exact h.2 B _ hB hb rfl
theorem spot_none {W : World} {a : Addr} {c : Value} (h : W.cell? a = some c) : a = ⟨a.block, a.off, none⟩ := by
  obtain ⟨b, o, s⟩ := a
  cases s with
  | none => rfl
  | some s =>
    exfalso
    unfold World.cell? at h
    dsimp only at h
    split at h <;> simp at h
/-- An element's cells, written out. -/
theorem isVs_sl {W : World} (l : List V) (a : Addr) (i : Nat) (h : i < l.length) (hs : isVs W l a) :
    ∃ (k : Int) (b : Bool) (n : Int) (s : ByteArray) (o : Option Addr) (m c : Nat) (o2 : Option Addr) (m2 c2 : Nat), W.cell? (a.add (i * 6)) = some (.int .i8 k) ∧ W.cell? ⟨(a.add (i * 6)).block, (a.add (i * 6)).off + 1, none⟩ = some (.bool b) ∧ W.cell? ⟨(a.add (i * 6)).block, (a.add (i * 6)).off + 2, none⟩ = some (.int .i64 n) ∧ W.cell? ⟨(a.add (i * 6)).block, (a.add (i * 6)).off + 3, none⟩ = some (.string s) ∧ W.cell? ⟨(a.add (i * 6)).block, (a.add (i * 6)).off + 4, none⟩ = some (.slice o m c) ∧ W.cell? ⟨(a.add (i * 6)).block, (a.add (i * 6)).off + 5, none⟩ = some (.slice o2 m2 c2) ∧ isV W l[i] (.agg #[.int .i8 k, .bool b, .int .i64 n, .string s, .slice o m c, .slice o2 m2 c2]) := by
  obtain ⟨c0, c1, c2, c3, c4, c5, g0, g1, g2, g3, g4, g5, hx⟩ := isVs_at l a i h hs
  have hx2 := hx
  generalize l[i] = X at hx hx2
  obtain ⟨k, b, n, s, l2, ks⟩ := X
  unfold isV at hx2
  obtain ⟨lv, kv, he, _, _, _, ⟨a1, p1, ⟨o, rfl, _⟩, _⟩, ⟨a2, p2, ⟨o2, rfl, _⟩, _⟩⟩ := hx2
  simp only [Value.agg.injEq, Array.mk.injEq, List.cons.injEq, and_true] at he
  obtain ⟨rfl, rfl, rfl, rfl, rfl, rfl⟩ := he
  exact ⟨_, _, _, _, _, _, _, _, _, _, g0, g1, g2, g3, g4, g5, hx⟩
/-- A struct in a new block, and three boxes. -/
theorem boxes4 (w : World) (o0 : Obj) (t1 : TypeId) (v1 : Value) (t2 : TypeId) (v2 : Value) (t3 : TypeId) (v3 : Value) :
    ∃ W0, (((w.alloc o0).alloc (.cells #[v1] t1)).alloc (.cells #[v2] t2)).alloc (.cells #[v3] t3) = W0 ∧ Below w.heap.size w W0 ∧ W0.heap.size = w.heap.size + 1 + 1 + 1 + 1 ∧ Boxed W0 (w.heap.size + 1) t1 v1 ∧ Boxed W0 (w.heap.size + 1 + 1) t2 v2 ∧ Boxed W0 (w.heap.size + 1 + 1 + 1) t3 v3 := by
  have b1 := ((Boxed.new (w.alloc o0) t1 v1).alloc (.cells #[v2] t2)).alloc (.cells #[v3] t3)
  have b2 := (Boxed.new ((w.alloc o0).alloc (.cells #[v1] t1)) t2 v2).alloc (.cells #[v3] t3)
  have b3 := Boxed.new (((w.alloc o0).alloc (.cells #[v1] t1)).alloc (.cells #[v2] t2)) t3 v3
  simp only [World.size_alloc] at b1 b2 b3
  exact ⟨_, rfl, by go_grown, by simp, b1, b2, b3⟩
/-- The six fields of a struct in a block. -/
theorem six_cells {W : World} {B : Nat} {c0 c1 c2 c3 c4 c5 : Value} {t : TypeId} (h : W.heap[B]? = some (.cells #[c0, c1, c2, c3, c4, c5] t (0, 0))) :
    W.cell? ⟨B, 0, none⟩ = some c0 ∧ W.cell? ⟨B, 1, none⟩ = some c1 ∧ W.cell? ⟨B, 2, none⟩ = some c2 ∧ W.cell? ⟨B, 3, none⟩ = some c3 ∧ W.cell? ⟨B, 4, none⟩ = some c4 ∧ W.cell? ⟨B, 5, none⟩ = some c5 := by
  unfold World.cell?
  simp [h]
theorem isV_six {W : World} {x : V} {v : Value} (h : isV W x v) : ∃ (k : Int) (b : Bool) (n : Int) (s : ByteArray) (o : Option Addr) (m c : Nat) (o2 : Option Addr) (m2 c2 : Nat), v = .agg #[.int .i8 k, .bool b, .int .i64 n, .string s, .slice o m c, .slice o2 m2 c2] := by
  obtain ⟨k, b, n, s, l2, ks⟩ := x
  unfold isV at h
  obtain ⟨lv, kv, rfl, _, _, _, ⟨a1, p1, ⟨o, rfl, _⟩, _⟩, ⟨a2, p2, ⟨o2, rfl, _⟩, _⟩⟩ := h
  exact ⟨_, _, _, _, _, _, _, _, _, _, rfl⟩
/-- A block of cells abides what turns none. -/
theorem block_own (B : Nat) (cs : Array Value) (t : TypeId) : Own (fun (_ : Unit) W => W.heap[B]? = some (.cells cs t (0, 0))) := fun s X Y row hs hg hrow =>
  (hg.block B (Array.getElem?_eq_some_iff.1 hs).1 (fun e => by obtain ⟨o, ho, hc⟩ := hrow B e.symm; rw [hs] at ho; cases ho; cases hc)).trans hs
end Go.Proofs.YtdbfpojgaalfmaaDoor
