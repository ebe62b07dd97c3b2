/-
  Values as trees whose cells lie in given blocks: what stays while a row of the call's own grows.
-/
import Derived.Test.YtgbagdfcdljleaaDoorTV
set_option linter.unusedVariables false
namespace Go.Proofs.YtgbagdfcdljleaaDoor
open Go.RowKit

def isKa (W : World) (B : Nat → Prop) (ks : List ByteArray) (v : Value) : Prop :=
  ∃ a cap, slv v ks.length a cap ∧ (0 < ks.length → B a.block) ∧ ∀ i (h : i < ks.length), W.cell? (a.add i) = some (.string ks[i]) ∧ ks[i].size ≤ maxLen
mutual
/-- As isV; every cell that is read lies in a block with B. -/
def isVa (W : World) (B : Nat → Prop) : V → Value → Prop
  | .mk k b n s l ks, v => ∃ lv kv, v = .agg #[.int .i8 k, .bool b, .int .i64 n, .string s, lv, kv] ∧ (-128 ≤ k ∧ k ≤ 127) ∧ (-9223372036854775808 ≤ n ∧ n ≤ 9223372036854775807) ∧ s.size ≤ maxLen ∧ (∃ a cap, slv lv l.length a cap ∧ (0 < l.length → B a.block) ∧ isVas W B l a) ∧ isKa W B ks kv
def isVas (W : World) (B : Nat → Prop) : List V → Addr → Prop
  | [], _ => True
  | x :: t, a => (∃ c0 c1 c2 c3 c4 c5, W.cell? a = some c0 ∧ W.cell? (a.add 1) = some c1 ∧ W.cell? (a.add 2) = some c2 ∧ W.cell? (a.add 3) = some c3 ∧ W.cell? (a.add 4) = some c4 ∧ W.cell? (a.add 5) = some c5 ∧ isVa W B x (.agg #[c0, c1, c2, c3, c4, c5])) ∧ isVas W B t (a.add 6)
end
theorem add_block (a : Addr) (i : Nat) : (a.add i).block = a.block := by
  unfold Addr.add
  split <;> rfl
theorem isKa_keep {W W' : World} {B : Nat → Prop} (hc : ∀ a c, B a.block → W.cell? a = some c → W'.cell? a = some c) {ks : List ByteArray} {v : Value} (h : isKa W B ks v) : isKa W' B ks v := by
  obtain ⟨a, cap, h1, h2, h3⟩ := h
  exact ⟨a, cap, h1, h2, fun i hi => ⟨hc _ _ (by rw [add_block]; exact h2 (by omega)) (h3 i hi).1, (h3 i hi).2⟩⟩
mutual
theorem isVa_keep {W W' : World} {B : Nat → Prop} (hc : ∀ a c, B a.block → W.cell? a = some c → W'.cell? a = some c) : ∀ (x : V) (v : Value), isVa W B x v → isVa W' B x v
  | .mk k b n s l ks, v, h => by
    unfold isVa at h ⊢
    obtain ⟨lv, kv, h1, h2, h3, h4, ⟨a, cap, h5, h6, h7⟩, h8⟩ := h
    exact ⟨lv, kv, h1, h2, h3, h4, ⟨a, cap, h5, h6, isVas_keep hc l a h6 h7⟩, isKa_keep hc h8⟩
theorem isVas_keep {W W' : World} {B : Nat → Prop} (hc : ∀ a c, B a.block → W.cell? a = some c → W'.cell? a = some c) : ∀ (l : List V) (a : Addr), (0 < l.length → B a.block) → isVas W B l a → isVas W' B l a
  | [], _, _, _ => by unfold isVas; trivial
  | x :: t, a, hb, h => by
    unfold isVas at h ⊢
    have hB : B a.block := hb (by simp)
    have hBi : ∀ i, B (a.add i).block := fun i => by rw [add_block]; exact hB
    obtain ⟨⟨c0, c1, c2, c3, c4, c5, g0, g1, g2, g3, g4, g5, hx⟩, ht⟩ := h
    exact ⟨⟨c0, c1, c2, c3, c4, c5, hc _ _ hB g0, hc _ _ (hBi 1) g1, hc _ _ (hBi 2) g2, hc _ _ (hBi 3) g3, hc _ _ (hBi 4) g4, hc _ _ (hBi 5) g5, isVa_keep hc x _ hx⟩, isVas_keep hc t _ (fun _ => hBi 6) ht⟩
end
theorem isKa_mono {W : World} {B B' : Nat → Prop} (hb : ∀ q, B q → B' q) {ks : List ByteArray} {v : Value} (h : isKa W B ks v) : isKa W B' ks v := by
  obtain ⟨a, cap, h1, h2, h3⟩ := h
  exact ⟨a, cap, h1, fun h => hb _ (h2 h), h3⟩
mutual
theorem isVa_mono {W : World} {B B' : Nat → Prop} (hb : ∀ q, B q → B' q) : ∀ (x : V) (v : Value), isVa W B x v → isVa W B' x v
  | .mk k b n s l ks, v, h => by
    unfold isVa at h ⊢
    obtain ⟨lv, kv, h1, h2, h3, h4, ⟨a, cap, h5, h6, h7⟩, h8⟩ := h
    exact ⟨lv, kv, h1, h2, h3, h4, ⟨a, cap, h5, fun h => hb _ (h6 h), isVas_mono hb l a h7⟩, isKa_mono hb h8⟩
theorem isVas_mono {W : World} {B B' : Nat → Prop} (hb : ∀ q, B q → B' q) : ∀ (l : List V) (a : Addr), isVas W B l a → isVas W B' l a
  | [], _, _ => by unfold isVas; trivial
  | x :: t, a, h => by
    unfold isVas at h ⊢
    obtain ⟨⟨c0, c1, c2, c3, c4, c5, g0, g1, g2, g3, g4, g5, hx⟩, ht⟩ := h
    exact ⟨⟨c0, c1, c2, c3, c4, c5, g0, g1, g2, g3, g4, g5, isVa_mono hb x _ hx⟩, isVas_mono hb t _ ht⟩
end
mutual
theorem isV_of_a {W : World} {B : Nat → Prop} : ∀ (x : V) (v : Value), isVa W B x v → isV W x v
  | .mk k b n s l ks, v, h => by
    unfold isVa at h
    unfold isV
    obtain ⟨lv, kv, h1, h2, h3, h4, ⟨a, cap, h5, h6, h7⟩, ⟨a2, cap2, k1, _, k3⟩⟩ := h
    exact ⟨lv, kv, h1, h2, h3, h4, ⟨a, cap, h5, isVs_of_a l a h7⟩, ⟨a2, cap2, k1, k3⟩⟩
theorem isVs_of_a {W : World} {B : Nat → Prop} : ∀ (l : List V) (a : Addr), isVas W B l a → isVs W l a
  | [], _, _ => by unfold isVs; trivial
  | x :: t, a, h => by
    unfold isVas at h
    unfold isVs
    obtain ⟨⟨c0, c1, c2, c3, c4, c5, g0, g1, g2, g3, g4, g5, hx⟩, ht⟩ := h
    exact ⟨⟨c0, c1, c2, c3, c4, c5, g0, g1, g2, g3, g4, g5, isV_of_a x _ hx⟩, isVs_of_a t _ ht⟩
end
mutual
/-- Every value lies below the heap's size. -/
theorem isVa_of {W : World} : ∀ (x : V) (v : Value), isV W x v → isVa W (fun q => q < W.heap.size) x v
  | .mk k b n s l ks, v, h => by
    unfold isV at h
    unfold isVa
    obtain ⟨lv, kv, h1, h2, h3, h4, ⟨a, cap, h5, h7⟩, ⟨a2, cap2, k1, k3⟩⟩ := h
    refine ⟨lv, kv, h1, h2, h3, h4, ⟨a, cap, h5, fun h0 => ?_, isVas_of l a h7⟩, ⟨a2, cap2, k1, fun h0 => ?_, k3⟩⟩
    · obtain ⟨c0, _, _, _, _, _, g0, _⟩ := isVs_at l a 0 h0 h7
      have := World.block_lt_of_cell? W _ g0
      rw [add_block] at this
      exact this
    · have := World.block_lt_of_cell? W _ (k3 0 h0).1
      rw [add_block] at this
      exact this
theorem isVas_of {W : World} : ∀ (l : List V) (a : Addr), isVs W l a → isVas W (fun q => q < W.heap.size) l a
  | [], _, _ => by unfold isVas; trivial
  | x :: t, a, h => by
    unfold isVs at h
    unfold isVas
    obtain ⟨⟨c0, c1, c2, c3, c4, c5, g0, g1, g2, g3, g4, g5, hx⟩, ht⟩ := h
    exact ⟨⟨c0, c1, c2, c3, c4, c5, g0, g1, g2, g3, g4, g5, isVa_of x _ hx⟩, isVas_of t _ ht⟩
end
/-- While a row of the call's own grows, what lies in other blocks stays. -/
theorem cell_grown {W W' : World} {row : Option Nat} (hg : W.grownBy W' row) : ∀ (a : Addr) (c : Value), (a.block < W.heap.size ∧ some a.block ≠ row) → W.cell? a = some c → W'.cell? a = some c :=
  fun a c hb h => hg.cell h hb.2
theorem isVa_grown {W W' : World} {row : Option Nat} {B : Nat → Prop} (hg : W.grownBy W' row) (hB : ∀ q, B q → some q ≠ row) {x : V} {v : Value} (h : isVa W B x v) : isVa W' B x v :=
  isVa_keep (fun a c hb hc => hg.cell hc (hB _ hb)) x v h
end Go.Proofs.YtgbagdfcdljleaaDoor
