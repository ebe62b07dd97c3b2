/-
  Values as trees: what a value in memory reads as. · Values as trees whose cells lie in given blocks: what stays while a row of the call's own grows. · A map that the call has made, its keys texts, its elements whatever they are: told by a function. · Rows of the call's own, and such as hold values: laws of which several seats' texts have a copy each; here in a space of their own.
-/
import Derived.Test.YtgbagdfcdljleaaGreatDoorProg
import Derived.WalkKit
import Derived.ProofKit
import Derived.Below
import Derived.Handy
import Derived.Deep.QuietTactic
import Derived.BigQuiet
import Derived.Lib.Hide
import Derived.Test.YtgbagdfcdljleaaGreatDoorBaseP
import Derived.Maps.OwnSet
import Derived.Maps.RangeWalk
import Derived.Maps.Views
import Derived.Maps.Ext
import Derived.Sort.KeysCollected
import Derived.Deep.RegionLaw
import Derived.Deep.AppendLies
import Derived.Maps.AppendAt
import Derived.Laws.OwnMore
import Derived.Laws.AppendOwn
import Derived.OwnWalk
import Derived.WalkSmall
set_option linter.unusedVariables false
set_option linter.unusedSimpArgs false
namespace Go.Proofs.YtgbagdfcdljleaaGreatDoor
open Go.RowKit

/-- A value, as a tree. -/
inductive V where
  | mk (kind : Int) (bool : Bool) (num : Int) (text : ByteArray) (list : List V) (keys : List ByteArray)
def V.kind : V → Int | .mk k _ _ _ _ _ => k
def V.bool : V → Bool | .mk _ b _ _ _ _ => b
def V.num : V → Int | .mk _ _ n _ _ _ => n
def V.text : V → ByteArray | .mk _ _ _ s _ _ => s
def V.list : V → List V | .mk _ _ _ _ l _ => l
def V.keys : V → List ByteArray | .mk _ _ _ _ _ ks => ks

/-- A slice of so many elements, at an address. -/
def slv (v : Value) (n : Nat) (a : Addr) (cap : Nat) : Prop := ∃ o, v = .slice o n cap ∧ n ≤ cap ∧ cap ≤ maxLen ∧ (0 < n → o = some a)
def isK (W : World) (ks : List ByteArray) (v : Value) : Prop :=
  ∃ a cap, slv v ks.length a cap ∧ ∀ i (h : i < ks.length), W.cell? (a.add i) = some (.string ks[i]) ∧ ks[i].size ≤ maxLen
mutual
def isV (W : World) : V → Value → Prop
  | .mk k b n s l ks, v => ∃ lv kv, v = .agg #[.int .i8 k, .bool b, .int .i64 n, .string s, lv, kv] ∧ (-128 ≤ k ∧ k ≤ 127) ∧ (-9223372036854775808 ≤ n ∧ n ≤ 9223372036854775807) ∧ s.size ≤ maxLen ∧ (∃ a cap, slv lv l.length a cap ∧ isVs W l a) ∧ isK W ks kv
def isVs (W : World) : List V → Addr → Prop
  | [], _ => True
  | x :: t, a => (∃ c0 c1 c2 c3 c4 c5, W.cell? a = some c0 ∧ W.cell? (a.add 1) = some c1 ∧ W.cell? (a.add 2) = some c2 ∧ W.cell? (a.add 3) = some c3 ∧ W.cell? (a.add 4) = some c4 ∧ W.cell? (a.add 5) = some c5 ∧ isV W x (.agg #[c0, c1, c2, c3, c4, c5])) ∧ isVs W t (a.add 6)
end
theorem isK_keep {W W' : World} (hc : ∀ a c, W.cell? a = some c → W'.cell? a = some c) {ks : List ByteArray} {v : Value} (h : isK W ks v) : isK W' ks v := by
  obtain ⟨a, cap, h1, h2⟩ := h
  exact ⟨a, cap, h1, fun i hi => ⟨hc _ _ (h2 i hi).1, (h2 i hi).2⟩⟩
mutual
theorem isV_keep {W W' : World} (hc : ∀ a c, W.cell? a = some c → W'.cell? a = some c) : ∀ (x : V) (v : Value), isV W x v → isV W' x v
  | .mk k b n s l ks, v, h => by
    unfold isV at h ⊢
    obtain ⟨lv, kv, h1, h2, h3, h4, ⟨a, cap, h5, h6⟩, h7⟩ := h
    exact ⟨lv, kv, h1, h2, h3, h4, ⟨a, cap, h5, isVs_keep hc l a h6⟩, isK_keep hc h7⟩
theorem isVs_keep {W W' : World} (hc : ∀ a c, W.cell? a = some c → W'.cell? a = some c) : ∀ (l : List V) (a : Addr), isVs W l a → isVs W' l a
  | [], _, _ => by unfold isVs; trivial
  | x :: t, a, h => by
    unfold isVs at h ⊢
    obtain ⟨⟨c0, c1, c2, c3, c4, c5, g0, g1, g2, g3, g4, g5, hx⟩, ht⟩ := h
    exact ⟨⟨c0, c1, c2, c3, c4, c5, hc _ _ g0, hc _ _ g1, hc _ _ g2, hc _ _ g3, hc _ _ g4, hc _ _ g5, isV_keep hc x _ hx⟩, isVs_keep hc t _ ht⟩
end
theorem cell_below {W W' : World} (hb : Below W.heap.size W W') : ∀ a c, W.cell? a = some c → W'.cell? a = some c := fun a c h => by
  have hl := World.block_lt_of_cell? W a h
  exact (hb.cell (p := a) hl).trans h
theorem isV_below {W W' : World} (hb : Below W.heap.size W W') {x : V} {v : Value} (h : isV W x v) : isV W' x v := isV_keep (cell_below hb) x v h
theorem add_add (a : Addr) (i j : Nat) : (a.add i).add j = a.add (i + j) := by
  unfold Addr.add
  by_cases h1 : i = 0 <;> by_cases h2 : j = 0 <;> simp [h1, h2, Nat.add_assoc]
theorem isVs_get {W : World} : ∀ (l : List V) (a : Addr) (i : Nat) (h : i < l.length), isVs W l a →
    ∃ c0 c1 c2 c3 c4 c5, W.cell? (a.add (i * 6)) = some c0 ∧ W.cell? (a.add (i * 6 + 1)) = some c1 ∧ W.cell? (a.add (i * 6 + 2)) = some c2 ∧ W.cell? (a.add (i * 6 + 3)) = some c3 ∧ W.cell? (a.add (i * 6 + 4)) = some c4 ∧ W.cell? (a.add (i * 6 + 5)) = some c5 ∧ isV W l[i] (.agg #[c0, c1, c2, c3, c4, c5])
  | x :: t, a, 0, _, h => by
    unfold isVs at h
    obtain ⟨⟨c0, c1, c2, c3, c4, c5, g0, g1, g2, g3, g4, g5, hx⟩, ht⟩ := h
    have e : a.add 0 = a := by simp [Addr.add]
    refine ⟨c0, c1, c2, c3, c4, c5, ?_, ?_, ?_, ?_, ?_, ?_, hx⟩
    all_goals simp only [Nat.zero_mul, Nat.zero_add, e]; assumption
  | x :: t, a, i + 1, hi, h => by
    unfold isVs at h
    obtain ⟨_, ht⟩ := h
    obtain ⟨c0, c1, c2, c3, c4, c5, g0, g1, g2, g3, g4, g5, hx⟩ := isVs_get t (a.add 6) i (by simpa using hi) ht
    simp only [add_add] at g0 g1 g2 g3 g4 g5
    refine ⟨c0, c1, c2, c3, c4, c5, ?_, ?_, ?_, ?_, ?_, ?_, hx⟩
    · rw [show (i + 1) * 6 = 6 + i * 6 by omega]; exact g0
    · rw [show (i + 1) * 6 + 1 = 6 + (i * 6 + 1) by omega]; exact g1
    · rw [show (i + 1) * 6 + 2 = 6 + (i * 6 + 2) by omega]; exact g2
    · rw [show (i + 1) * 6 + 3 = 6 + (i * 6 + 3) by omega]; exact g3
    · rw [show (i + 1) * 6 + 4 = 6 + (i * 6 + 4) by omega]; exact g4
    · rw [show (i + 1) * 6 + 5 = 6 + (i * 6 + 5) by omega]; exact g5
theorem add_succ (a : Addr) (i j : Nat) (hj : j ≠ 0) : a.add (i + j) = ⟨(a.add i).block, (a.add i).off + j, none⟩ := by
  rw [← add_add]
  show (if j = 0 then a.add i else { a.add i with off := (a.add i).off + j, spot := none }) = _
  rw [if_neg hj]
/-- The six cells of an element, as a load reads them. -/
theorem isVs_at {W : World} (l : List V) (a : Addr) (i : Nat) (h : i < l.length) (hs : isVs W l a) :
    ∃ c0 c1 c2 c3 c4 c5, W.cell? (a.add (i * 6)) = some c0 ∧ W.cell? ⟨(a.add (i * 6)).block, (a.add (i * 6)).off + 1, none⟩ = some c1 ∧ W.cell? ⟨(a.add (i * 6)).block, (a.add (i * 6)).off + 2, none⟩ = some c2 ∧ W.cell? ⟨(a.add (i * 6)).block, (a.add (i * 6)).off + 3, none⟩ = some c3 ∧ W.cell? ⟨(a.add (i * 6)).block, (a.add (i * 6)).off + 4, none⟩ = some c4 ∧ W.cell? ⟨(a.add (i * 6)).block, (a.add (i * 6)).off + 5, none⟩ = some c5 ∧ isV W l[i] (.agg #[c0, c1, c2, c3, c4, c5]) := by
  obtain ⟨c0, c1, c2, c3, c4, c5, g0, g1, g2, g3, g4, g5, hx⟩ := isVs_get l a i h hs
  rw [add_succ _ _ _ (by decide)] at g1 g2 g3 g4 g5
  exact ⟨c0, c1, c2, c3, c4, c5, g0, g1, g2, g3, g4, g5, hx⟩
end Go.Proofs.YtgbagdfcdljleaaGreatDoor

namespace Go.Proofs.YtgbagdfcdljleaaGreatDoor
open Go.RowKit

def isKa (W : World) (B : Nat → Prop) (ks : List ByteArray) (v : Value) : Prop :=
  ∃ a cap, slv v ks.length a cap ∧ (0 < ks.length → B a.block) ∧ ∀ i (h : i < ks.length), W.cell? (a.add i) = some (.string ks[i]) ∧ ks[i].size ≤ maxLen
mutual
/-- As isV; every cell that is read lies in a block with B. -/
def isVa (W : World) (B : Nat → Prop) : V → Value → Prop
  | .mk k b n s l ks, v => ∃ lv kv, v = .agg #[.int .i8 k, .bool b, .int .i64 n, .string s, lv, kv] ∧ (-128 ≤ k ∧ k ≤ 127) ∧ (-9223372036854775808 ≤ n ∧ n ≤ 9223372036854775807) ∧ s.size ≤ maxLen ∧ (∃ a cap, slv lv l.length a cap ∧ (0 < l.length → B a.block) ∧ isVas W B l a) ∧ isKa W B ks kv
def isVas (W : World) (B : Nat → Prop) : List V → Addr → Prop
  | [], _ => True
  | x :: t, a => (∃ c0 c1 c2 c3 c4 c5, W.cell? a = some c0 ∧ W.cell? (a.add 1) = some c1 ∧ W.cell? (a.add 2) = some c2 ∧ W.cell? (a.add 3) = some c3 ∧ W.cell? (a.add 4) = some c4 ∧ W.cell? (a.add 5) = some c5 ∧ isVa W B x (.agg #[c0, c1, c2, c3, c4, c5])) ∧ isVas W B t (a.add 6)
end
theorem add_block (a : Addr) (i : Nat) : (a.add i).block = a.block := by
  unfold Addr.add
  split <;> rfl
theorem isKa_keep {W W' : World} {B : Nat → Prop} (hc : ∀ a c, B a.block → W.cell? a = some c → W'.cell? a = some c) {ks : List ByteArray} {v : Value} (h : isKa W B ks v) : isKa W' B ks v := by
  obtain ⟨a, cap, h1, h2, h3⟩ := h
  exact ⟨a, cap, h1, h2, fun i hi => ⟨hc _ _ (by rw [add_block]; exact h2 (by omega)) (h3 i hi).1, (h3 i hi).2⟩⟩
mutual
theorem isVa_keep {W W' : World} {B : Nat → Prop} (hc : ∀ a c, B a.block → W.cell? a = some c → W'.cell? a = some c) : ∀ (x : V) (v : Value), isVa W B x v → isVa W' B x v
  | .mk k b n s l ks, v, h => by
    unfold isVa at h ⊢
    obtain ⟨lv, kv, h1, h2, h3, h4, ⟨a, cap, h5, h6, h7⟩, h8⟩ := h
    exact ⟨lv, kv, h1, h2, h3, h4, ⟨a, cap, h5, h6, isVas_keep hc l a h6 h7⟩, isKa_keep hc h8⟩
theorem isVas_keep {W W' : World} {B : Nat → Prop} (hc : ∀ a c, B a.block → W.cell? a = some c → W'.cell? a = some c) : ∀ (l : List V) (a : Addr), (0 < l.length → B a.block) → isVas W B l a → isVas W' B l a
  | [], _, _, _ => by unfold isVas; trivial
  | x :: t, a, hb, h => by
    unfold isVas at h ⊢
    have hB : B a.block := hb (by simp)
    have hBi : ∀ i, B (a.add i).block := fun i => by rw [add_block]; exact hB
    obtain ⟨⟨c0, c1, c2, c3, c4, c5, g0, g1, g2, g3, g4, g5, hx⟩, ht⟩ := h
    exact ⟨⟨c0, c1, c2, c3, c4, c5, hc _ _ hB g0, hc _ _ (hBi 1) g1, hc _ _ (hBi 2) g2, hc _ _ (hBi 3) g3, hc _ _ (hBi 4) g4, hc _ _ (hBi 5) g5, isVa_keep hc x _ hx⟩, isVas_keep hc t _ (fun _ => hBi 6) ht⟩
end
theorem isKa_mono {W : World} {B B' : Nat → Prop} (hb : ∀ q, B q → B' q) {ks : List ByteArray} {v : Value} (h : isKa W B ks v) : isKa W B' ks v := by
  obtain ⟨a, cap, h1, h2, h3⟩ := h
  exact ⟨a, cap, h1, fun h => hb _ (h2 h), h3⟩
mutual
theorem isVa_mono {W : World} {B B' : Nat → Prop} (hb : ∀ q, B q → B' q) : ∀ (x : V) (v : Value), isVa W B x v → isVa W B' x v
  | .mk k b n s l ks, v, h => by
    unfold isVa at h ⊢
    obtain ⟨lv, kv, h1, h2, h3, h4, ⟨a, cap, h5, h6, h7⟩, h8⟩ := h
    exact ⟨lv, kv, h1, h2, h3, h4, ⟨a, cap, h5, fun h => hb _ (h6 h), isVas_mono hb l a h7⟩, isKa_mono hb h8⟩
theorem isVas_mono {W : World} {B B' : Nat → Prop} (hb : ∀ q, B q → B' q) : ∀ (l : List V) (a : Addr), isVas W B l a → isVas W B' l a
  | [], _, _ => by unfold isVas; trivial
  | x :: t, a, h => by
    unfold isVas at h ⊢
    obtain ⟨⟨c0, c1, c2, c3, c4, c5, g0, g1, g2, g3, g4, g5, hx⟩, ht⟩ := h
    exact ⟨⟨c0, c1, c2, c3, c4, c5, g0, g1, g2, g3, g4, g5, isVa_mono hb x _ hx⟩, isVas_mono hb t _ ht⟩
end
mutual
theorem isV_of_a {W : World} {B : Nat → Prop} : ∀ (x : V) (v : Value), isVa W B x v → isV W x v
  | .mk k b n s l ks, v, h => by
    unfold isVa at h
    unfold isV
    obtain ⟨lv, kv, h1, h2, h3, h4, ⟨a, cap, h5, h6, h7⟩, ⟨a2, cap2, k1, _, k3⟩⟩ := h
    exact ⟨lv, kv, h1, h2, h3, h4, ⟨a, cap, h5, isVs_of_a l a h7⟩, ⟨a2, cap2, k1, k3⟩⟩
theorem isVs_of_a {W : World} {B : Nat → Prop} : ∀ (l : List V) (a : Addr), isVas W B l a → isVs W l a
  | [], _, _ => by unfold isVs; trivial
  | x :: t, a, h => by
    unfold isVas at h
    unfold isVs
    obtain ⟨⟨c0, c1, c2, c3, c4, c5, g0, g1, g2, g3, g4, g5, hx⟩, ht⟩ := h
    exact ⟨⟨c0, c1, c2, c3, c4, c5, g0, g1, g2, g3, g4, g5, isV_of_a x _ hx⟩, isVs_of_a t _ ht⟩
end
mutual
/-- Every value lies below the heap's size. -/
theorem isVa_of {W : World} : ∀ (x : V) (v : Value), isV W x v → isVa W (fun q => q < W.heap.size) x v
  | .mk k b n s l ks, v, h => by
    unfold isV at h
    unfold isVa
    obtain ⟨lv, kv, h1, h2, h3, h4, ⟨a, cap, h5, h7⟩, ⟨a2, cap2, k1, k3⟩⟩ := h
    refine ⟨lv, kv, h1, h2, h3, h4, ⟨a, cap, h5, fun h0 => ?_, isVas_of l a h7⟩, ⟨a2, cap2, k1, fun h0 => ?_, k3⟩⟩
    · obtain ⟨c0, _, _, _, _, _, g0, _⟩ := isVs_at l a 0 h0 h7
      have := World.block_lt_of_cell? W _ g0
      rw [add_block] at this
      exact this
    · have := World.block_lt_of_cell? W _ (k3 0 h0).1
      rw [add_block] at this
      exact this
theorem isVas_of {W : World} : ∀ (l : List V) (a : Addr), isVs W l a → isVas W (fun q => q < W.heap.size) l a
  | [], _, _ => by unfold isVas; trivial
  | x :: t, a, h => by
    unfold isVs at h
    unfold isVas
    obtain ⟨⟨c0, c1, c2, c3, c4, c5, g0, g1, g2, g3, g4, g5, hx⟩, ht⟩ := h
    exact ⟨⟨c0, c1, c2, c3, c4, c5, g0, g1, g2, g3, g4, g5, isVa_of x _ hx⟩, isVas_of t _ ht⟩
end
/-- While a row of the call's own grows, what lies in other blocks stays. -/
theorem cell_grown {W W' : World} {row : Option Nat} (hg : W.grownBy W' row) : ∀ (a : Addr) (c : Value), (a.block < W.heap.size ∧ some a.block ≠ row) → W.cell? a = some c → W'.cell? a = some c :=
  fun a c hb h => hg.cell h hb.2
theorem isVa_grown {W W' : World} {row : Option Nat} {B : Nat → Prop} (hg : W.grownBy W' row) (hB : ∀ q, B q → some q ≠ row) {x : V} {v : Value} (h : isVa W B x v) : isVa W' B x v :=
  isVa_keep (fun a c hb hc => hg.cell hc (hB _ hb)) x v h
end Go.Proofs.YtgbagdfcdljleaaGreatDoor

namespace Go.Proofs.YtgbagdfcdljleaaGreatDoor
open Go.RowKit Go.Maps Go.ChangeMaps Go.WideMaps

/-- An element reads as itself. -/
def Rh (v : Value) : Option (DataW Value × List MemPlace) := some (.held v, [])
def kyS (s : ByteArray) : Lit := .string s.data.toList
def tokO : Option Value → DataW Value
  | some v => .held v
  | none => .nil
theorem kyS_inj {s t : ByteArray} (h : kyS s = kyS t) : s = t := by
  have : s.data.toList = t.data.toList := by simpa [kyS] using h
  exact ByteArray.ext (Array.toList_inj.1 this)
theorem tokO_inj {a b : Option Value} (h : tokO a = tokO b) : a = b := by
  cases a <;> cases b <;> simp_all [tokO]

/-- Block b of W is a map of at most n texts that leads to what f says. -/
def MapIs (P : Program) (k : TypeId) (W : World) (b n : Nat) (f : ByteArray → Option Value) : Prop :=
  ∃ D : DataW Value, W.ownsMap P k Rh b n D ∧ ∀ s, D.atKey (kyS s) .nil = tokO (f s)

section
variable {P : Program} {k e t : TypeId} {W : World} {b n : Nat} {f : ByteArray → Option Value}

theorem MapIs.made (P : Program) (k : TypeId) (W : World) : MapIs P k (W.alloc (.map #[] 0)) W.heap.size 0 (fun _ => none) :=
  ⟨_, World.ownsMap_made W P k Rh, fun s => by simp [DataW.atKey, tokO]⟩

theorem MapIs.mono (h : MapIs P k W b n f) {n' : Nat} (hn : n ≤ n') : MapIs P k W b n' f := by
  obtain ⟨D, hD, hf⟩ := h
  exact ⟨D, hD.mono hn, hf⟩

theorem MapIs.kept (h : MapIs P k W b n f) {W' : World} {row : Option Nat} (hg : W.grownBy W' row) (hne : some b ≠ row) : MapIs P k W' b n f := by
  obtain ⟨D, hD, hf⟩ := h
  exact ⟨D, hD.kept hg hne, hf⟩

theorem MapIs.lt (h : MapIs P k W b n f) : b < W.heap.size := by
  obtain ⟨D, hD, hf⟩ := h
  exact hD.lt

theorem MapIs.look (h : MapIs P k W b n f) (K : Keyed P k) (hk : P.underlying k = some .string) (ht : P.underlying t = some (.map k e)) (c : Bool) {z : Value} (hz : (zeroValue e).run P W = .ok z W) {s : ByteArray} (hs : s.size ≤ maxLen) :
    (Instr.lookup t (.map (some b)) (.string s) c).run P W = .ok (if c then .tuple #[(f s).getD z, .bool (f s).isSome] else (f s).getD z) W := by
  obtain ⟨D, ⟨es, clock, hb, F, _, rfl⟩, hf⟩ := h
  have hf' := hf s
  rcases Maps.fit_look c K ht hz hb F (keyOf_string_mk hk hs) with ⟨hrun, _, hat⟩ | ⟨e0, y, _, _, hrun, hRv, hat, _⟩
  · rw [kyS, hat .nil] at hf'
    have : f s = none := tokO_inj hf'.symm
    rw [hrun, this]
    rfl
  · rw [kyS, hat .nil] at hf'
    cases hRv
    have : f s = some e0.val := tokO_inj hf'.symm
    rw [hrun, this]
    rfl

theorem MapIs.update (h : MapIs P k W b n f) (K : Keyed P k) (hk : P.underlying k = some .string) (ht : P.underlying t = some (.map k e)) (hn : n < maxLen) {s : ByteArray} (hs : s.size ≤ maxLen) (v : Value) :
    ∃ w', (Instr.mapUpdate t (.map (some b)) (.string s) v).run P W = .ok () w' ∧ MapIs P k w' b (n + 1) (fun s' => if s' = s then some v else f s') ∧ W.grownBy w' (some b) := by
  obtain ⟨D, hD, hf⟩ := h
  obtain ⟨w', hr, ho, hg⟩ := hD.update K ht hn (keyOf_string_mk hk hs) (show Rh v = some (.held v, []) from rfl)
  refine ⟨w', hr, ⟨_, ho, fun s' => ?_⟩, hg⟩
  by_cases e : s' = s
  · subst e
    show (D.put (kyS s') (.held v)).atKey (kyS s') .nil = tokO (if s' = s' then some v else f s')
    rw [if_pos rfl, atKey_put_same hD.isMap (show WideAt.IsKeyLit (kyS s') from trivial)]
    rfl
  · show (D.put (kyS s) (.held v)).atKey (kyS s') .nil = tokO (if s' = s then some v else f s')
    rw [if_neg e, atKey_put_other (fun e' => e (kyS_inj e')), ← hf s']

/-- A range over the map is under way: 'left' says which names are still to come. -/
def RangeIs (P : Program) (k : TypeId) (W : World) (b r n : Nat) (f : ByteArray → Option Value) (left : ByteArray → Bool) (cnt : Nat) : Prop :=
  ∃ (D : DataW Value) (L : Lit → Bool), W.ranges P k Rh b r n D L cnt ∧ (∀ s, D.atKey (kyS s) .nil = tokO (f s)) ∧ ∀ s, L (kyS s) = left s

theorem has_of_tok {D : DataW Value} (hm : IsMap D) {s : ByteArray} {o : Option Value} (h : D.atKey (kyS s) .nil = tokO o) (hh : ∀ v, o = some v → o ≠ none) (hne : ∀ es, D = .map es → ∀ p ∈ es, p.2 ≠ .nil) : has D (kyS s) = o.isSome := by
  obtain ⟨es, rfl⟩ := hm
  cases o with
  | none =>
    cases hh' : has (.map es) (kyS s) with
    | false => rfl
    | true =>
      exfalso
      rw [has_eq, List.any_eq_true] at hh'
      obtain ⟨p, hp, hps⟩ := hh'
      simp only [DataW.atKey, tokO] at h
      cases hf : es.find? (fun p => p.1.sameKey (kyS s)) with
      | none =>
        rw [List.find?_eq_none] at hf
        exact hf p hp hps
      | some q =>
        rw [hf] at h
        exact hne es rfl q (List.mem_of_find?_eq_some hf) h
  | some v =>
    cases hh' : has (.map es) (kyS s) with
    | true => rfl
    | false =>
      rw [atKey_of_not_has hh'] at h
      cases h

theorem owns_held {D : DataW Value} (h : W.ownsMap P k Rh b n D) : ∀ es, D = .map es → ∀ p ∈ es, p.2 ≠ .nil := by
  obtain ⟨es0, clock, hb, F, _, rfl⟩ := h
  intro es e p hp
  cases e
  obtain ⟨x, hx, rfl⟩ := List.mem_map.1 (mem_sorted.1 hp)
  obtain ⟨y, hy⟩ := F.reads x hx
  obtain ⟨z, hz, hd⟩ := WideElems.rd_val hy
  cases hz
  rw [WideElems.rg_of hy, hd]
  simp

theorem MapIs.has (h : MapIs P k W b n f) : ∃ D : DataW Value, W.ownsMap P k Rh b n D ∧ (∀ s, Maps.has D (kyS s) = (f s).isSome) ∧ ∀ s, D.atKey (kyS s) .nil = tokO (f s) := by
  obtain ⟨D, hD, hf⟩ := h
  exact ⟨D, hD, fun s => has_of_tok hD.isMap (hf s) (fun v e => by rw [e]; simp) (owns_held hD), hf⟩

theorem RangeIs.owns {r cnt : Nat} {left : ByteArray → Bool} (h : RangeIs P k W b r n f left cnt) : MapIs P k W b n f := by
  obtain ⟨D, L, hr, hf, _⟩ := h
  exact ⟨D, hr.owns, hf⟩
theorem RangeIs.left_eq {r cnt : Nat} {left : ByteArray → Bool} (h : RangeIs P k W b r n f left cnt) : W.rangeLeft b r = cnt := by
  obtain ⟨D, L, hr, hf, _⟩ := h
  exact hr.left_eq
theorem RangeIs.lt {r cnt : Nat} {left : ByteArray → Bool} (h : RangeIs P k W b r n f left cnt) : r < W.heap.size := by
  obtain ⟨D, L, hr, hf, _⟩ := h
  exact hr.lt
theorem RangeIs.kept {r cnt : Nat} {left : ByteArray → Bool} (h : RangeIs P k W b r n f left cnt) {W' : World} {row : Option Nat} (hg : W.grownBy W' row) (hb : some b ≠ row) (hr : some r ≠ row) : RangeIs P k W' b r n f left cnt := by
  obtain ⟨D, L, hrg, hf, hl⟩ := h
  exact ⟨D, L, hrg.kept hg hb hr, hf, hl⟩

theorem sameKey_ky (z s : ByteArray) : (kyS z).sameKey (kyS s) = decide (z = s) := by
  by_cases e : z = s
  · subst e
    rw [decide_eq_true rfl]
    exact WideAt.sameKey_self trivial
  · rw [decide_eq_false e]
    exact sameKey_ne (fun e' => e (kyS_inj e'))

/-- 'range m'. -/
theorem wpList_range_map {ops : Array Oper} {rest : List Oper} {o : Oper} {a : Act} {Q : Exit → Act → World → Prop} (hg : o.guard = none) (m : Operand) (t : TypeId) (hop : o.op = Op.range t m) (k e : TypeId) (K : Keyed P k) (ht : P.underlying t = some (.map k e))
    (hm : a.eval m = .map (some b)) (h : MapIs P k W b n f)
    (hK : ∀ w' cnt, RangeIs P k w' b W.heap.size n f (fun s => (f s).isSome) cnt → W.grownBy w' none → w'.heap.size = W.heap.size + 1 → wpList P ops Q rest (a.put o.dst (.pointer (some ⟨W.heap.size, 0, none⟩))) w') :
    wpList P ops Q (o :: rest) a W := by
  obtain ⟨D, hD, hh, hf⟩ := h.has
  refine wpList_range_own W hg m t hop k e K ht Rh b n D hm hD ?_
  intro w0 hr hg0 hs0
  exact hK w0 _ ⟨D, _, hr, hf, hh⟩ hg0 hs0

/-- The step. -/
theorem wpList_next_map {ops : Array Oper} {rest : List Oper} {o : Oper} {a : Act} {Q : Exit → Act → World → Prop} (hg : o.guard = none) (it : Operand) (hop : o.op = Op.next it false) (k : TypeId) (K : Keyed P k) (hk : P.underlying k = some .string) (b r n : Nat) (f : ByteArray → Option Value) (left : ByteArray → Bool) (cnt : Nat)
    (hit : a.eval it = .pointer (some ⟨r, 0, none⟩)) (h : RangeIs P k W b r n f left cnt)
    (hDone : cnt = 0 → (∀ s : ByteArray, left s = false) → wpList P ops Q rest (a.put o.dst (.tuple #[.bool false])) W)
    (hMore : ∀ (s : ByteArray) (c : Value) (w' : World) (cnt' : Nat), s.size ≤ maxLen → left s = true → f s = some c → RangeIs P k w' b r n f (fun z => left z && !decide (z = s)) cnt' → cnt' < cnt → W.grownBy w' (some r) → w'.heap.size = W.heap.size →
      (Instr.entry (.pointer (some ⟨r, 0, none⟩))).run P w' = .ok (.tuple #[.string s, c]) w' → wpList P ops Q rest (a.put o.dst (.tuple #[.bool true, .string s, c])) w') :
    wpList P ops Q (o :: rest) a W := by
  obtain ⟨D, L, hr, hf, hl⟩ := h
  refine wpList_next_ranges W hg it hop k K Rh Value.string (fun v : Value => v) (fun key kl hkey => ?_) (fun v y _ => ⟨v, rfl⟩) b r n D L cnt hit hr (fun h0 hL => hDone h0 (fun s => by rw [← hl s]; exact hL _)) ?_
  · obtain ⟨x, rfl, _, _⟩ := Maps.keyOf_str hk hkey
    exact ⟨_, rfl⟩
  · intro s c kl y w' cnt' hkey hlk hR hat hrg hlt hgr hsz hen
    obtain ⟨x, ex, rfl, hx⟩ := Maps.keyOf_str hk hkey
    have es : kyS s = .string x := by
      simp only [encStr, Value.string.injEq] at ex
      rw [ex]; simp [kyS]
    have hsl : s.size ≤ maxLen := by
      have : s.data.toList = x := by simpa [kyS] using es
      have h2 := congrArg List.length this
      rw [Array.length_toList] at h2
      exact Nat.le_trans (Nat.le_of_eq h2) hx
    rw [← es] at hlk hat hrg
    cases hR
    refine hMore s c w' cnt' hsl (by rw [← hl s]; exact hlk) (tokO_inj (by rw [← hf s, hat .nil]; rfl)) ⟨D, _, hrg, hf, fun z => ?_⟩ hlt hgr hsz hen
    show (L (kyS z) && !(kyS z).sameKey (kyS s)) = _
    rw [hl z, sameKey_ky]

/-- 'm[k]', 'v, ok := m[k]' at the operation. -/
theorem wpList_lookup_map {ops : Array Oper} {rest : List Oper} {o : Oper} {a : Act} {Q : Exit → Act → World → Prop} (hg : o.guard = none) (m x : Operand) (t : TypeId) (c : Bool) (hop : o.op = Op.lookup t m x c) (k e : TypeId) (K : Keyed P k) (hk : P.underlying k = some .string) (ht : P.underlying t = some (.map k e))
    {z : Value} (hz : (zeroValue e).run P W = .ok z W) (hm : a.eval m = .map (some b)) (h : MapIs P k W b n f) (s : ByteArray) (hx : a.eval x = .string s) (hs : s.size ≤ maxLen)
    (hK : wpList P ops Q rest (a.put o.dst (if c then .tuple #[(f s).getD z, .bool (f s).isSome] else (f s).getD z)) W) : wpList P ops Q (o :: rest) a W := by
  refine wpList_plain hg fun K' hK' => ?_
  have hrun := h.look K hk ht c hz hs
  generalize (if c then Value.tuple #[(f s).getD z, .bool (f s).isSome] else (f s).getD z) = rr at hrun hK
  unfold Oper.wp
  simp [execOp, hop, hm, hx, hrun, Result.andThen]
  exact hK' _ _ hK

/-- 'm[k] = v' at the operation. -/
theorem wpList_update_map {ops : Array Oper} {rest : List Oper} {o : Oper} {a : Act} {Q : Exit → Act → World → Prop} (hg : o.guard = none) (m x v : Operand) (t : TypeId) (hop : o.op = Op.mapUpdate t m x v) (k e : TypeId) (K : Keyed P k) (hk : P.underlying k = some .string) (ht : P.underlying t = some (.map k e))
    (hm : a.eval m = .map (some b)) (h : MapIs P k W b n f) (hn : n < maxLen) (s : ByteArray) (hx : a.eval x = .string s) (hs : s.size ≤ maxLen) (u : Value) (hu : a.eval v = u)
    (hK : ∀ w', MapIs P k w' b (n + 1) (fun s' => if s' = s then some u else f s') → W.grownBy w' (some b) → wpList P ops Q rest (a.put o.dst undef) w') : wpList P ops Q (o :: rest) a W := by
  refine wpList_plain hg fun K' hK' => ?_
  obtain ⟨w', hrun, h1, h2⟩ := h.update K hk ht hn hs u
  unfold Oper.wp
  simp [execOp, hop, hm, hx, hu, hrun, Result.andThen]
  exact hK' _ _ (hK w' h1 h2)

end
end Go.Proofs.YtgbagdfcdljleaaGreatDoor

namespace Go.Proofs.YtgbagdfcdljleaaGreatDoor.Ow
open Go.RowKit

theorem own_form {w : World} {base : Nat} {e : TypeId} {size n : Nat} {v : Value} {xs : List Value} (h : w.ownsRow base e size v n xs) : ∃ o ad c, v = .slice o n c ∧ n ≤ c ∧ c ≤ maxLen ∧ (0 < n → o = some ad) ∧ (o = none → c = 0) ∧ ∀ j u, xs[j]? = some u → w.cell? (ad.add j) = some u := by
  obtain ⟨h1, h2⟩ := h
  rcases h2 with ⟨rfl, rfl⟩ | ⟨g, cap, cur, rfl, r1, r2, r3, r4, r5, r6⟩
  · refine ⟨none, ⟨0, 0, none⟩, 0, rfl, Nat.le_refl _, by unfold maxLen; omega, fun h => absurd h (by omega), fun _ => rfl, fun j u hj => ?_⟩
    have : xs = [] := List.eq_nil_of_length_eq_zero (by rw [h1]; simp)
    subst this
    simp at hj
  · refine ⟨some ⟨g, 0, none⟩, ⟨g, 0, none⟩, cap, rfl, r3, r4, fun _ => rfl, (fun h => by cases h), ?_⟩
    exact World.ownsRow.cells (v := .slice (some ⟨g, 0, none⟩) n cap) ⟨h1, .inr ⟨g, cap, cur, rfl, r1, r2, r3, r4, r5, r6⟩⟩ rfl

section
variable {P : Program} {w : World}
theorem run_append_row_at (base : Nat) (t ty e : TypeId) (i : TypeInfo) (z : Value) (size bytes : Nat) (ht : P.underlying t = some (.slice e)) (hi : P.info? e = some i) (hz : i.zero = some z)
    (hsize : i.size = size) (hby : i.bytes = bytes) (hzs : z.cells.size = size) (hsz : 0 < size) (v : Value) (n : Nat) (xs : List Value) (hown : w.ownsRow base e size v n xs)
    (o : Option Addr) (a : Addr) (m c : Nat) (ho : 0 < m → o = some a) (news : List Value) (hl : news.length = m * size) (hnews : ∀ j u, news[j]? = some u → w.cell? (a.add j) = some u) (h1 : ∀ u ∈ news, u.oneCell' = true)
    (h63 : n + m ≤ maxLen) (hbytes : (n + m) * bytes ≤ 140737488355328) (hbase : base ≤ w.heap.size) :
    ∃ o' c' w', (Builtin.append_ #[t, t] ty #[v, .slice o m c]).run P w = .ok (.slice o' (n + m) c') w' ∧ w'.ownsRow base e size (.slice o' (n + m) c') (n + m) (xs ++ news) ∧ w.grownBy w' v.ownBlock ∧ ((Value.slice o' (n + m) c').ownBlock = v.ownBlock ∨ (Value.slice o' (n + m) c').ownBlock = some w.heap.size) := by
  rcases Nat.eq_zero_or_pos m with rfl | hm
  · have hn : news = [] := List.eq_nil_of_length_eq_zero (by rw [hl]; simp)
    subst hn
    obtain ⟨o', ad, c', rfl, h2, h3, h4, h5, _⟩ := own_form hown
    refine ⟨o', c', w, ?_, by simpa using hown, ⟨rfl, rfl, rfl, Nat.le_refl _, fun _ _ _ => rfl⟩, .inl rfl⟩
    rcases hown.2 with ⟨hv, rfl⟩ | ⟨g, cap, cur, hv, _, _, hnc, _⟩
    · cases hv
      cases o <;> simp [Builtin.append_, run_underlying ht, sizeOf, typeInfo, hi, Builtin.lenOf, Builtin.firstCells, loadCells, loadCellsFrom]
    · cases hv
      cases o <;> simp [Builtin.append_, run_underlying ht, sizeOf, typeInfo, hi, Builtin.lenOf, Builtin.firstCells, hnc, storeCells, loadCells, loadCellsFrom]
  · rw [ho hm]
    obtain ⟨v', w', h2, h3, h4, _, h5⟩ := run_append_own_at w base t ty e i z size bytes ht hi hz hsize hby hzs hsz v n xs hown a m c news hl hnews h1 h63 hbytes hbase
    obtain ⟨o', ad, c', rfl, _⟩ := own_form h3
    exact ⟨o', c', w', h2, h3, h4, h5⟩
theorem wpList_append_row_at {ops : Array Oper} {rest : List Oper} {o : Oper} {a : Act} {Q : Exit → Act → World → Prop} (hgd : o.guard = none) (s x : Operand) (t : TypeId)
    (ho : o.op = .call { callee := .builtin .append, args := #[s, x], argTypes := #[t, t] })
    (base : Nat) (e : TypeId) (i : TypeInfo) (z : Value) (size bytes : Nat) (ht : P.underlying t = some (.slice e)) (hi : P.info? e = some i) (hz : i.zero = some z)
    (hsize : i.size = size) (hby : i.bytes = bytes) (hzs : z.cells.size = size) (hsz : 0 < size)
    (v : Value) (n : Nat) (xs : List Value) (hs : a.eval s = v) (hown : w.ownsRow base e size v n xs)
    (oo : Option Addr) (ad : Addr) (m c : Nat) (news : List Value) (hx : a.eval x = .slice oo m c) (hoo : 0 < m → oo = some ad) (hl : news.length = m * size) (hnews : ∀ j u, news[j]? = some u → w.cell? (ad.add j) = some u) (h1 : ∀ u ∈ news, u.oneCell' = true)
    (h63 : n + m ≤ maxLen) (hbytes : (n + m) * bytes ≤ 140737488355328) (hbase : base ≤ w.heap.size)
    (h : ∀ o' c' w', w'.ownsRow base e size (.slice o' (n + m) c') (n + m) (xs ++ news) → w.grownBy w' v.ownBlock → ((Value.slice o' (n + m) c').ownBlock = v.ownBlock ∨ (Value.slice o' (n + m) c').ownBlock = some w.heap.size) → wpList P ops Q rest (a.put o.dst (.slice o' (n + m) c')) w') : wpList P ops Q (o :: rest) a w := by
  refine wpList_plain hgd fun K hK => ?_
  obtain ⟨o', c', w', hr, h2, h3, h4⟩ := run_append_row_at (P := P) (w := w) base t o.type e i z size bytes ht hi hz hsize hby hzs hsz v n xs hown oo ad m c hoo news hl hnews h1 h63 hbytes hbase
  unfold Oper.wp execOp
  simp only [ho, resolve, invoke, builtin, Sem.run_bind, Sem.run_pure, Result.andThen_ok, List.map_toArray, List.map_cons, List.map_nil, hs, hx, hr]
  exact hK _ _ (h o' c' w' h2 h3 h4)
/-- 'append' of any row to an own one, as a step of a region that draws. -/
theorem step_append_row {ops : Array Oper} {o : Oper} {a : Act} {K : Act → World → Prop} {Q : Exit → Act → World → Prop} {E : Prop} (hgd : o.guard = none) (s x : Operand) (t : TypeId)
    (ho : o.op = .call { callee := .builtin .append, args := #[s, x], argTypes := #[t, t] })
    (base : Nat) (e : TypeId) (i : TypeInfo) (z : Value) (size bytes : Nat) (ht : P.underlying t = some (.slice e)) (hi : P.info? e = some i) (hz : i.zero = some z)
    (hsize : i.size = size) (hby : i.bytes = bytes) (hzs : z.cells.size = size) (hsz : 0 < size)
    (v : Value) (n : Nat) (xs : List Value) (hs : a.eval s = v) (hown : w.ownsRow base e size v n xs)
    (oo : Option Addr) (ad : Addr) (m c : Nat) (news : List Value) (hx : a.eval x = .slice oo m c) (hoo : 0 < m → oo = some ad) (hl : news.length = m * size) (hnews : ∀ j u, news[j]? = some u → w.cell? (ad.add j) = some u) (h1 : ∀ u ∈ news, u.oneCell' = true)
    (h63 : n + m ≤ maxLen) (hbytes : (n + m) * bytes ≤ 140737488355328) (hbase : base ≤ w.heap.size)
    (h : ∀ o' c' w', w'.ownsRow base e size (.slice o' (n + m) c') (n + m) (xs ++ news) → w.grownBy w' v.ownBlock → ((Value.slice o' (n + m) c').ownBlock = v.ownBlock ∨ (Value.slice o' (n + m) c').ownBlock = some w.heap.size) → K (a.put o.dst (.slice o' (n + m) c')) w') :
    if Region.wanted o (yielded ops a.tmps) = true then Oper.wp P o a w K Q else E := by
  have hw : Region.wanted o (yielded ops a.tmps) = true := by simp [Region.wanted, hgd]
  rw [if_pos hw]
  obtain ⟨o', c', w', hr, h2, h3, h4⟩ := run_append_row_at (P := P) (w := w) base t o.type e i z size bytes ht hi hz hsize hby hzs hsz v n xs hown oo ad m c hoo news hl hnews h1 h63 hbytes hbase
  unfold Oper.wp execOp
  simp only [ho, resolve, invoke, builtin, Sem.run_bind, Sem.run_pure, Result.andThen_ok, List.map_toArray, List.map_cons, List.map_nil, hs, hx, hr]
  exact h o' c' w' h2 h3 h4
end
theorem grown_tr {a b c : World} {row : Option Nat} (h : a.grownBy b row) (k : b.grownBy c row) : a.grownBy c row :=
  ⟨k.os.trans h.os, k.tape.trans h.tape, k.output.trans h.output, Nat.le_trans h.size k.size, fun j hj hne => (k.block j (Nat.lt_of_lt_of_le hj h.size) hne).trans (h.block j hj hne)⟩
section
variable {w : World} {base : Nat} {e : TypeId} {g n cap : Nat} {xs : List Value}
/-- A store into a row of one's own, at a cell in use. -/
theorem own_store {size : Nat} (h : w.ownsRow base e size (.slice (some ⟨g, 0, none⟩) n cap) n xs) (j : Nat) (hj : j < n * size) (u : Value) :
    ∃ w1, ((∃ u, w.cell? ⟨g, j, none⟩ = some u) ∧ w.frozen? ⟨g, j, none⟩ = false ∧ w.setCell ⟨g, j, none⟩ u = w1) ∧ w1.ownsRow base e size (.slice (some ⟨g, 0, none⟩) n cap) n (xs.set j u) ∧ w.grownBy w1 (some g) := by
  refine ⟨_, ⟨?_, h.frozenAt j, rfl⟩, h.stored j u⟩
  rw [h.cellAt j hj]
  exact ⟨xs[j]'(by rw [h.1]; exact hj), List.getElem?_eq_getElem _⟩
theorem own_six (h : w.ownsRow base e 6 (.slice (some ⟨g, 0, none⟩) n cap) n xs) (p : Nat) (hp : p + 5 < n * 6) (c0 c1 c2 c3 c4 c5 : Value) :
    ∃ w1 w2 w3 w4 w5 w6, ((∃ u, w.cell? ⟨g, p, none⟩ = some u) ∧ w.frozen? ⟨g, p, none⟩ = false ∧ w.setCell ⟨g, p, none⟩ c0 = w1) ∧ ((∃ u, w1.cell? ⟨g, p + 1, none⟩ = some u) ∧ w1.frozen? ⟨g, p + 1, none⟩ = false ∧ w1.setCell ⟨g, p + 1, none⟩ c1 = w2) ∧ ((∃ u, w2.cell? ⟨g, p + 2, none⟩ = some u) ∧ w2.frozen? ⟨g, p + 2, none⟩ = false ∧ w2.setCell ⟨g, p + 2, none⟩ c2 = w3) ∧ ((∃ u, w3.cell? ⟨g, p + 3, none⟩ = some u) ∧ w3.frozen? ⟨g, p + 3, none⟩ = false ∧ w3.setCell ⟨g, p + 3, none⟩ c3 = w4) ∧ ((∃ u, w4.cell? ⟨g, p + 4, none⟩ = some u) ∧ w4.frozen? ⟨g, p + 4, none⟩ = false ∧ w4.setCell ⟨g, p + 4, none⟩ c4 = w5) ∧ ((∃ u, w5.cell? ⟨g, p + 5, none⟩ = some u) ∧ w5.frozen? ⟨g, p + 5, none⟩ = false ∧ w5.setCell ⟨g, p + 5, none⟩ c5 = w6) ∧
      w6.ownsRow base e 6 (.slice (some ⟨g, 0, none⟩) n cap) n ((((((xs.set p c0).set (p + 1) c1).set (p + 2) c2).set (p + 3) c3).set (p + 4) c4).set (p + 5) c5) ∧ w.grownBy w6 (some g) := by
  obtain ⟨w1, f1, o1, g1⟩ := own_store h p (by omega) c0
  obtain ⟨w2, f2, o2, g2⟩ := own_store o1 (p + 1) (by omega) c1
  obtain ⟨w3, f3, o3, g3⟩ := own_store o2 (p + 2) (by omega) c2
  obtain ⟨w4, f4, o4, g4⟩ := own_store o3 (p + 3) (by omega) c3
  obtain ⟨w5, f5, o5, g5⟩ := own_store o4 (p + 4) (by omega) c4
  obtain ⟨w6, f6, o6, g6⟩ := own_store o5 (p + 5) (by omega) c5
  exact ⟨w1, w2, w3, w4, w5, w6, f1, f2, f3, f4, f5, f6, o6, grown_tr (grown_tr (grown_tr (grown_tr (grown_tr g1 g2) g3) g4) g5) g6⟩
end
theorem set_six (xs : List Value) (z0 z1 z2 z3 z4 z5 c0 c1 c2 c3 c4 c5 : Value) (p : Nat) (hp : p = xs.length) :
    (((((((xs ++ [z0, z1, z2, z3, z4, z5]).set p c0).set (p + 1) c1).set (p + 2) c2).set (p + 3) c3).set (p + 4) c4).set (p + 5) c5) = xs ++ [c0, c1, c2, c3, c4, c5] := by
  subst hp
  simp [List.set_append_right]
theorem isV_one {W : World} {x : V} {c0 c1 c2 c3 c4 c5 : Value} (h : isV W x (.agg #[c0, c1, c2, c3, c4, c5])) : ∀ u ∈ [c0, c1, c2, c3, c4, c5], u.oneCell' = true := by
  obtain ⟨k, b, n, s, l, ks⟩ := x
  unfold isV at h
  obtain ⟨lv, kv, he, _, _, _, ⟨_, _, ⟨o, rfl, _⟩, _⟩, ⟨_, _, ⟨o2, rfl, _⟩, _⟩⟩ := h
  simp only [Value.agg.injEq, Array.mk.injEq, List.cons.injEq, and_true] at he
  obtain ⟨rfl, rfl, rfl, rfl, rfl, rfl⟩ := he
  intro u hu
  simp only [List.mem_cons, List.not_mem_nil, or_false] at hu
  rcases hu with rfl | rfl | rfl | rfl | rfl | rfl <;> rfl
/-- Cells that hold such values, each of which lies in blocks with S. -/
def isVsLa (W : World) (S : Nat → Prop) : List V → List Value → Prop
  | [], xs => xs = []
  | x :: t, xs => ∃ c0 c1 c2 c3 c4 c5 rest, xs = c0 :: c1 :: c2 :: c3 :: c4 :: c5 :: rest ∧ isVa W S x (.agg #[c0, c1, c2, c3, c4, c5]) ∧ isVsLa W S t rest
theorem la_keep {W W' : World} {S : Nat → Prop} (hc : ∀ a c, S a.block → W.cell? a = some c → W'.cell? a = some c) : ∀ (l : List V) (xs : List Value), isVsLa W S l xs → isVsLa W' S l xs
  | [], _, h => h
  | x :: t, xs, h => by
    unfold isVsLa at h ⊢
    obtain ⟨c0, c1, c2, c3, c4, c5, rest, rfl, hx, ht⟩ := h
    exact ⟨c0, c1, c2, c3, c4, c5, rest, rfl, isVa_keep hc x _ hx, la_keep hc t _ ht⟩
theorem la_mono {W : World} {S S' : Nat → Prop} (hs : ∀ q, S q → S' q) : ∀ (l : List V) (xs : List Value), isVsLa W S l xs → isVsLa W S' l xs
  | [], _, h => h
  | x :: t, xs, h => by
    unfold isVsLa at h ⊢
    obtain ⟨c0, c1, c2, c3, c4, c5, rest, rfl, hx, ht⟩ := h
    exact ⟨c0, c1, c2, c3, c4, c5, rest, rfl, isVa_mono hs x _ hx, la_mono hs t _ ht⟩
theorem la_app {W : World} {S : Nat → Prop} : ∀ (l m : List V) (xs ys : List Value), isVsLa W S l xs → isVsLa W S m ys → isVsLa W S (l ++ m) (xs ++ ys)
  | [], m, xs, ys, h, h' => by
    unfold isVsLa at h
    subst h
    exact h'
  | x :: t, m, xs, ys, h, h' => by
    unfold isVsLa at h
    obtain ⟨c0, c1, c2, c3, c4, c5, rest, rfl, hx, ht⟩ := h
    rw [List.cons_append]
    unfold isVsLa
    exact ⟨c0, c1, c2, c3, c4, c5, rest ++ ys, rfl, hx, la_app t m rest ys ht h'⟩
theorem la_len {W : World} {S : Nat → Prop} : ∀ (l : List V) (xs : List Value), isVsLa W S l xs → xs.length = l.length * 6
  | [], xs, h => by unfold isVsLa at h; subst h; rfl
  | x :: t, xs, h => by
    unfold isVsLa at h
    obtain ⟨c0, c1, c2, c3, c4, c5, rest, rfl, hx, ht⟩ := h
    have := la_len t rest ht
    simp only [List.length_cons]; omega
theorem la_one {W : World} {S : Nat → Prop} : ∀ (l : List V) (xs : List Value), isVsLa W S l xs → ∀ u ∈ xs, u.oneCell' = true
  | [], xs, h => by unfold isVsLa at h; subst h; intro u hu; cases hu
  | x :: t, xs, h => by
    unfold isVsLa at h
    obtain ⟨c0, c1, c2, c3, c4, c5, rest, rfl, hx, ht⟩ := h
    intro u hu
    have h1 := isV_one (isV_of_a _ _ hx)
    have h2 := la_one t rest ht
    simp only [List.mem_cons] at hu
    rcases hu with h | h | h | h | h | h | h
    · exact h1 u (by simp [h])
    · exact h1 u (by simp [h])
    · exact h1 u (by simp [h])
    · exact h1 u (by simp [h])
    · exact h1 u (by simp [h])
    · exact h1 u (by simp [h])
    · exact h2 u h
theorem la_cut {W : World} {S : Nat → Prop} : ∀ (l : List V) (xs : List Value) (k : Nat), isVsLa W S l xs → isVsLa W S (l.take k) (xs.take (k * 6)) ∧ isVsLa W S (l.drop k) (xs.drop (k * 6))
  | l, xs, 0, h => by
    rw [Nat.zero_mul, List.take_zero, List.take_zero, List.drop_zero, List.drop_zero]
    exact ⟨rfl, h⟩
  | [], xs, k + 1, h => by
    unfold isVsLa at h
    subst h
    simp only [List.take_nil, List.drop_nil]
    exact ⟨rfl, rfl⟩
  | x :: t, xs, k + 1, h => by
    unfold isVsLa at h
    obtain ⟨c0, c1, c2, c3, c4, c5, rest, rfl, hx, ht⟩ := h
    obtain ⟨h1, h2⟩ := la_cut t rest k ht
    rw [show (k + 1) * 6 = k * 6 + 6 by omega]
    simp only [List.take_succ_cons, List.drop_succ_cons]
    refine ⟨?_, h2⟩
    unfold isVsLa
    exact ⟨c0, c1, c2, c3, c4, c5, _, rfl, hx, h1⟩
theorem la_single {W : World} {S : Nat → Prop} {x : V} {c0 c1 c2 c3 c4 c5 : Value} (h : isVa W S x (.agg #[c0, c1, c2, c3, c4, c5])) : isVsLa W S [x] [c0, c1, c2, c3, c4, c5] := by
  unfold isVsLa
  exact ⟨c0, c1, c2, c3, c4, c5, [], rfl, h, rfl⟩
theorem la_vas {W : World} {S : Nat → Prop} : ∀ (l : List V) (ys : List Value) (a : Addr), isVsLa W S l ys → (∀ j u, ys[j]? = some u → W.cell? (a.add j) = some u) → isVas W S l a
  | [], _, _, _, _ => by unfold isVas; trivial
  | x :: t, ys, a, hl, hc => by
    unfold isVsLa at hl
    obtain ⟨c0, c1, c2, c3, c4, c5, rest, rfl, hx, ht⟩ := hl
    unfold isVas
    refine ⟨⟨c0, c1, c2, c3, c4, c5, ?_, hc 1 _ rfl, hc 2 _ rfl, hc 3 _ rfl, hc 4 _ rfl, hc 5 _ rfl, hx⟩, la_vas t rest (a.add 6) ht (fun j u hj => ?_)⟩
    · have := hc 0 c0 rfl
      simpa [Addr.add] using this
    · rw [add_add]
      exact hc (6 + j) u (by rw [Nat.add_comm]; exact hj)
/-- A row of the call's own, cut. -/
theorem own_cut {w : World} {base : Nat} {e : TypeId} {size g n cap : Nat} {xs : List Value} (h : w.ownsRow base e size (.slice (some ⟨g, 0, none⟩) n cap) n xs) (k : Nat) (hk : k ≤ n) : w.ownsRow base e size (.slice (some ⟨g, 0, none⟩) k cap) k (xs.take (k * size)) := by
  obtain ⟨h1, h2⟩ := h
  rcases h2 with ⟨hv, _⟩ | ⟨g', cap', cur, hv, r1, r2, r3, r4, r5, r6⟩
  · cases hv
  · simp only [Value.slice.injEq, Option.some.injEq, Addr.mk.injEq, and_true, true_and] at hv
    obtain ⟨rfl, rfl⟩ := hv
    have hle : k * size ≤ n * size := Nat.mul_le_mul_right size hk
    refine ⟨by rw [List.length_take, h1]; omega, .inr ⟨g, cap, cur, rfl, r1, r2, by omega, r4, r5, ?_⟩⟩
    rw [← r6, List.take_take, Nat.min_eq_left hle]
mutual
/-- What lies somewhere lies below the heap's size. -/
theorem isVa_lt {W : World} {B : Nat → Prop} : ∀ (x : V) (v : Value), isVa W B x v → isVa W (fun q => B q ∧ q < W.heap.size) x v
  | .mk k b n s l ks, v, h => by
    unfold isVa at h ⊢
    obtain ⟨lv, kv, h1, h2, h3, h4, ⟨a, cap, h5, h6, h7⟩, ⟨a2, cap2, k1, k2, k3⟩⟩ := h
    refine ⟨lv, kv, h1, h2, h3, h4, ⟨a, cap, h5, fun h0 => ⟨h6 h0, ?_⟩, isVas_lt l a h7⟩, ⟨a2, cap2, k1, fun h0 => ⟨k2 h0, ?_⟩, k3⟩⟩
    · obtain ⟨c0, _, _, _, _, _, g0, _⟩ := isVs_at l a 0 h0 (isVs_of_a l a h7)
      have := World.block_lt_of_cell? W _ g0
      rw [add_block] at this
      exact this
    · have := World.block_lt_of_cell? W _ (k3 0 h0).1
      rw [add_block] at this
      exact this
theorem isVas_lt {W : World} {B : Nat → Prop} : ∀ (l : List V) (a : Addr), isVas W B l a → isVas W (fun q => B q ∧ q < W.heap.size) l a
  | [], _, _ => by unfold isVas; trivial
  | x :: t, a, h => by
    unfold isVas at h ⊢
    obtain ⟨⟨c0, c1, c2, c3, c4, c5, g0, g1, g2, g3, g4, g5, hx⟩, ht⟩ := h
    exact ⟨⟨c0, c1, c2, c3, c4, c5, g0, g1, g2, g3, g4, g5, isVa_lt x _ hx⟩, isVas_lt t _ ht⟩
end
theorem la_lt {W : World} {S : Nat → Prop} : ∀ (l : List V) (xs : List Value), isVsLa W S l xs → isVsLa W (fun q => S q ∧ q < W.heap.size) l xs
  | [], _, h => h
  | x :: t, xs, h => by
    unfold isVsLa at h ⊢
    obtain ⟨c0, c1, c2, c3, c4, c5, rest, rfl, hx, ht⟩ := h
    exact ⟨c0, c1, c2, c3, c4, c5, rest, rfl, isVa_lt x _ hx, la_lt t _ ht⟩
end Go.Proofs.YtgbagdfcdljleaaGreatDoor.Ow
