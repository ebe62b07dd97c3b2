/-
  Values as trees: what a value in memory reads as.
-/
import Derived.Test.YtgbagdfcdljleaaDoorProg
import Derived.WalkKit
import Derived.ProofKit
import Derived.Below
import Derived.Handy
import Derived.Deep.QuietTactic
import Derived.BigQuiet
import Derived.Lib.Hide
set_option linter.unusedVariables false
namespace Go.Proofs.YtgbagdfcdljleaaDoor
open Go.RowKit

/-- A value, as a tree. -/
inductive V where
  | mk (kind : Int) (bool : Bool) (num : Int) (text : ByteArray) (list : List V) (keys : List ByteArray)
def V.kind : V → Int | .mk k _ _ _ _ _ => k
def V.bool : V → Bool | .mk _ b _ _ _ _ => b
def V.num : V → Int | .mk _ _ n _ _ _ => n
def V.text : V → ByteArray | .mk _ _ _ s _ _ => s
def V.list : V → List V | .mk _ _ _ _ l _ => l
def V.keys : V → List ByteArray | .mk _ _ _ _ _ ks => ks

/-- A slice of so many elements, at an address. -/
def slv (v : Value) (n : Nat) (a : Addr) (cap : Nat) : Prop := ∃ o, v = .slice o n cap ∧ n ≤ cap ∧ cap ≤ maxLen ∧ (0 < n → o = some a)
def isK (W : World) (ks : List ByteArray) (v : Value) : Prop :=
  ∃ a cap, slv v ks.length a cap ∧ ∀ i (h : i < ks.length), W.cell? (a.add i) = some (.string ks[i]) ∧ ks[i].size ≤ maxLen
mutual
def isV (W : World) : V → Value → Prop
  | .mk k b n s l ks, v => ∃ lv kv, v = .agg #[.int .i8 k, .bool b, .int .i64 n, .string s, lv, kv] ∧ (-128 ≤ k ∧ k ≤ 127) ∧ (-9223372036854775808 ≤ n ∧ n ≤ 9223372036854775807) ∧ s.size ≤ maxLen ∧ (∃ a cap, slv lv l.length a cap ∧ isVs W l a) ∧ isK W ks kv
def isVs (W : World) : List V → Addr → Prop
  | [], _ => True
  | x :: t, a => (∃ c0 c1 c2 c3 c4 c5, W.cell? a = some c0 ∧ W.cell? (a.add 1) = some c1 ∧ W.cell? (a.add 2) = some c2 ∧ W.cell? (a.add 3) = some c3 ∧ W.cell? (a.add 4) = some c4 ∧ W.cell? (a.add 5) = some c5 ∧ isV W x (.agg #[c0, c1, c2, c3, c4, c5])) ∧ isVs W t (a.add 6)
end
theorem isK_keep {W W' : World} (hc : ∀ a c, W.cell? a = some c → W'.cell? a = some c) {ks : List ByteArray} {v : Value} (h : isK W ks v) : isK W' ks v := by
  obtain ⟨a, cap, h1, h2⟩ := h
  exact ⟨a, cap, h1, fun i hi => ⟨hc _ _ (h2 i hi).1, (h2 i hi).2⟩⟩
mutual
theorem isV_keep {W W' : World} (hc : ∀ a c, W.cell? a = some c → W'.cell? a = some c) : ∀ (x : V) (v : Value), isV W x v → isV W' x v
  | .mk k b n s l ks, v, h => by
    unfold isV at h ⊢
    obtain ⟨lv, kv, h1, h2, h3, h4, ⟨a, cap, h5, h6⟩, h7⟩ := h
    exact ⟨lv, kv, h1, h2, h3, h4, ⟨a, cap, h5, isVs_keep hc l a h6⟩, isK_keep hc h7⟩
theorem isVs_keep {W W' : World} (hc : ∀ a c, W.cell? a = some c → W'.cell? a = some c) : ∀ (l : List V) (a : Addr), isVs W l a → isVs W' l a
  | [], _, _ => by unfold isVs; trivial
  | x :: t, a, h => by
    unfold isVs at h ⊢
    obtain ⟨⟨c0, c1, c2, c3, c4, c5, g0, g1, g2, g3, g4, g5, hx⟩, ht⟩ := h
    exact ⟨⟨c0, c1, c2, c3, c4, c5, hc _ _ g0, hc _ _ g1, hc _ _ g2, hc _ _ g3, hc _ _ g4, hc _ _ g5, isV_keep hc x _ hx⟩, isVs_keep hc t _ ht⟩
end
theorem cell_below {W W' : World} (hb : Below W.heap.size W W') : ∀ a c, W.cell? a = some c → W'.cell? a = some c := fun a c h => by
  have hl := World.block_lt_of_cell? W a h
  exact (hb.cell (p := a) hl).trans h
theorem isV_below {W W' : World} (hb : Below W.heap.size W W') {x : V} {v : Value} (h : isV W x v) : isV W' x v := isV_keep (cell_below hb) x v h
theorem add_add (a : Addr) (i j : Nat) : (a.add i).add j = a.add (i + j) := by
  unfold Addr.add
  by_cases h1 : i = 0 <;> by_cases h2 : j = 0 <;> simp [h1, h2, Nat.add_assoc]
theorem isVs_get {W : World} : ∀ (l : List V) (a : Addr) (i : Nat) (h : i < l.length), isVs W l a →
    ∃ c0 c1 c2 c3 c4 c5, W.cell? (a.add (i * 6)) = some c0 ∧ W.cell? (a.add (i * 6 + 1)) = some c1 ∧ W.cell? (a.add (i * 6 + 2)) = some c2 ∧ W.cell? (a.add (i * 6 + 3)) = some c3 ∧ W.cell? (a.add (i * 6 + 4)) = some c4 ∧ W.cell? (a.add (i * 6 + 5)) = some c5 ∧ isV W l[i] (.agg #[c0, c1, c2, c3, c4, c5])
  | x :: t, a, 0, _, h => by
    unfold isVs at h
    obtain ⟨⟨c0, c1, c2, c3, c4, c5, g0, g1, g2, g3, g4, g5, hx⟩, ht⟩ := h
    have e : a.add 0 = a := by simp [Addr.add]
    refine ⟨c0, c1, c2, c3, c4, c5, ?_, ?_, ?_, ?_, ?_, ?_, hx⟩
    all_goals simp only [Nat.zero_mul, Nat.zero_add, e]; assumption
  | x :: t, a, i + 1, hi, h => by
    unfold isVs at h
    obtain ⟨_, ht⟩ := h
    obtain ⟨c0, c1, c2, c3, c4, c5, g0, g1, g2, g3, g4, g5, hx⟩ := isVs_get t (a.add 6) i (by simpa using hi) ht
    simp only [add_add] at g0 g1 g2 g3 g4 g5
    refine ⟨c0, c1, c2, c3, c4, c5, ?_, ?_, ?_, ?_, ?_, ?_, hx⟩
    · rw [show (i + 1) * 6 = 6 + i * 6 by omega]; exact g0
    · rw [show (i + 1) * 6 + 1 = 6 + (i * 6 + 1) by omega]; exact g1
    · rw [show (i + 1) * 6 + 2 = 6 + (i * 6 + 2) by omega]; exact g2
    · rw [show (i + 1) * 6 + 3 = 6 + (i * 6 + 3) by omega]; exact g3
    · rw [show (i + 1) * 6 + 4 = 6 + (i * 6 + 4) by omega]; exact g4
    · rw [show (i + 1) * 6 + 5 = 6 + (i * 6 + 5) by omega]; exact g5
theorem add_succ (a : Addr) (i j : Nat) (hj : j ≠ 0) : a.add (i + j) = ⟨(a.add i).block, (a.add i).off + j, none⟩ := by
  rw [← add_add]
  show (if j = 0 then a.add i else { a.add i with off := (a.add i).off + j, spot := none }) = _
  rw [if_neg hj]
/-- The six cells of an element, as a load reads them. -/
theorem isVs_at {W : World} (l : List V) (a : Addr) (i : Nat) (h : i < l.length) (hs : isVs W l a) :
    ∃ c0 c1 c2 c3 c4 c5, W.cell? (a.add (i * 6)) = some c0 ∧ W.cell? ⟨(a.add (i * 6)).block, (a.add (i * 6)).off + 1, none⟩ = some c1 ∧ W.cell? ⟨(a.add (i * 6)).block, (a.add (i * 6)).off + 2, none⟩ = some c2 ∧ W.cell? ⟨(a.add (i * 6)).block, (a.add (i * 6)).off + 3, none⟩ = some c3 ∧ W.cell? ⟨(a.add (i * 6)).block, (a.add (i * 6)).off + 4, none⟩ = some c4 ∧ W.cell? ⟨(a.add (i * 6)).block, (a.add (i * 6)).off + 5, none⟩ = some c5 ∧ isV W l[i] (.agg #[c0, c1, c2, c3, c4, c5]) := by
  obtain ⟨c0, c1, c2, c3, c4, c5, g0, g1, g2, g3, g4, g5, hx⟩ := isVs_get l a i h hs
  rw [add_succ _ _ _ (by decide)] at g1 g2 g3 g4 g5
  exact ⟨c0, c1, c2, c3, c4, c5, g0, g1, g2, g3, g4, g5, hx⟩
end Go.Proofs.YtgbagdfcdljleaaDoor
