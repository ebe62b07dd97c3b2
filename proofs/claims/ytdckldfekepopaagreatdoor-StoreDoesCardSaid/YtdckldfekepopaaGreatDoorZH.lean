/-
  The contract of the reference's Walk: the value, then its parts, as a row of the call's own. · Values as trees whose cells lie in given blocks: what stays while a row of the call's own grows.
-/
import Derived.Test.YtdckldfekepopaaGreatDoorZE
import Derived.Deep.AppendLies
import Derived.Laws.OwnMore
import Derived.Laws.AppendOwn
set_option linter.unusedVariables false
set_option linter.unusedSimpArgs false
namespace Go.Proofs.YtdckldfekepopaaGreatDoor
open Go.RowKit

mutual
/-- A value, then its parts in order, each with its own. -/
def walkV : V → List V | .mk k b n s l ks => .mk k b n s l ks :: walkVs l
def walkVs : List V → List V | [] => [] | x :: t => walkV x ++ walkVs t
end
mutual
theorem walk_len : ∀ x : V, (walkV x).length = countV x
  | .mk k b n s l ks => by rw [walkV, countV, List.length_cons, walks_len l]; omega
theorem walks_len : ∀ l : List V, (walkVs l).length = countVs l
  | [] => by rw [walkVs, countVs]; rfl
  | x :: t => by rw [walkVs, countVs, List.length_append, walk_len x, walks_len t]
end
theorem walkVs_app (a b : List V) : walkVs (a ++ b) = walkVs a ++ walkVs b := by
  induction a with
  | nil => simp [walkVs]
  | cons x t ih => simp only [List.cons_append, walkVs, ih, List.append_assoc]
theorem walkVs_snoc (l : List V) (j : Nat) (h : j < l.length) : walkVs (l.take (j + 1)) = walkVs (l.take j) ++ walkV l[j] := by
  rw [List.take_succ_eq_append_getElem h, walkVs_app]; simp [walkVs]

/-- Cells that hold such values, one behind another. -/
def isVsL (W : World) : List V → List Value → Prop
  | [], xs => xs = []
  | x :: t, xs => ∃ c0 c1 c2 c3 c4 c5 rest, xs = c0 :: c1 :: c2 :: c3 :: c4 :: c5 :: rest ∧ isV W x (.agg #[c0, c1, c2, c3, c4, c5]) ∧ isVsL W t rest
theorem isVsL_app {W : World} : ∀ (l m : List V) (xs ys : List Value), isVsL W l xs → isVsL W m ys → isVsL W (l ++ m) (xs ++ ys)
  | [], m, xs, ys, h, h' => by
    unfold isVsL at h
    subst h
    exact h'
  | x :: t, m, xs, ys, h, h' => by
    unfold isVsL at h
    obtain ⟨c0, c1, c2, c3, c4, c5, rest, rfl, hx, ht⟩ := h
    rw [List.cons_append]
    unfold isVsL
    exact ⟨c0, c1, c2, c3, c4, c5, rest ++ ys, rfl, hx, isVsL_app t m rest ys ht h'⟩
theorem isVsL_len {W : World} : ∀ (l : List V) (xs : List Value), isVsL W l xs → xs.length = l.length * 6
  | [], xs, h => by unfold isVsL at h; subst h; rfl
  | x :: t, xs, h => by
    unfold isVsL at h
    obtain ⟨c0, c1, c2, c3, c4, c5, rest, rfl, hx, ht⟩ := h
    have := isVsL_len t rest ht
    simp only [List.length_cons]; omega
theorem isV_one {W : World} {x : V} {c0 c1 c2 c3 c4 c5 : Value} (h : isV W x (.agg #[c0, c1, c2, c3, c4, c5])) : ∀ u ∈ [c0, c1, c2, c3, c4, c5], u.oneCell' = true := by
  obtain ⟨k, b, n, s, l, ks⟩ := x
  unfold isV at h
  obtain ⟨lv, kv, he, _, _, _, ⟨_, _, ⟨o, rfl, _⟩, _⟩, ⟨_, _, ⟨o2, rfl, _⟩, _⟩⟩ := h
  simp only [Value.agg.injEq, Array.mk.injEq, List.cons.injEq, and_true] at he
  obtain ⟨rfl, rfl, rfl, rfl, rfl, rfl⟩ := he
  intro u hu
  simp only [List.mem_cons, List.not_mem_nil, or_false] at hu
  rcases hu with rfl | rfl | rfl | rfl | rfl | rfl <;> rfl
theorem isVsL_one {W : World} : ∀ (l : List V) (xs : List Value), isVsL W l xs → ∀ u ∈ xs, u.oneCell' = true
  | [], xs, h => by unfold isVsL at h; subst h; intro u hu; cases hu
  | x :: t, xs, h => by
    unfold isVsL at h
    obtain ⟨c0, c1, c2, c3, c4, c5, rest, rfl, hx, ht⟩ := h
    intro u hu
    have h1 := isV_one hx
    have h2 := isVsL_one t rest ht
    simp only [List.mem_cons] at hu
    rcases hu with h | h | h | h | h | h | h
    · exact h1 u (by simp [h])
    · exact h1 u (by simp [h])
    · exact h1 u (by simp [h])
    · exact h1 u (by simp [h])
    · exact h1 u (by simp [h])
    · exact h1 u (by simp [h])
    · exact h2 u h
theorem infoV : (Tryz.prog.info? 64).map (fun i => (i.zero, i.size, i.bytes)) = some (some (.agg #[.int .i8 0, .bool false, .int .i64 0, .string ⟨#[]⟩, .slice none 0 0, .slice none 0 0]), 6, 80) := by kernel_rfl
theorem grown_of_below {w w' : World} (h : Below w.heap.size w w') : w.grownBy w' none := ⟨h.os, h.tape, h.output, h.size, fun k hk _ => h.block k hk⟩

/-- Between two rounds: a row of the call's own that holds such values. -/
def RW (w0 W1 : World) (A : List V) (v : Value) (W : World) : Prop := ∃ xs, W.ownsRow W1.heap.size 64 6 v A.length xs ∧ isVsL w0 A xs ∧ Below W1.heap.size W1 W
def RetR (w0 : World) (l : List V) (w : World) (e : Ending) (w' : World) : Prop := ∃ r, e = .returned r ∧ RW w0 w l r w'
theorem RW.below {w0 W1 W W' : World} {A : List V} {v : Value} (h : RW w0 W1 A v W) (hb : Below W.heap.size W W') : RW w0 W1 A v W' := by
  obtain ⟨xs, h1, h2, h3⟩ := h
  exact ⟨xs, h1.kept (grown_of_below hb) (by cases v.ownBlock <;> simp), h2, h3.trans (hb.mono h3.size)⟩
theorem RW.base {w0 w W1 W : World} {A : List V} {v : Value} (h : RW w0 W1 A v W) (hb : Below w.heap.size w W1) : RW w0 w A v W := by
  obtain ⟨xs, ⟨h1, h1'⟩, h2, h3⟩ := h
  refine ⟨xs, ⟨h1, ?_⟩, h2, hb.trans (h3.mono hb.size)⟩
  rcases h1' with h | ⟨g, cap, cur, hv, hg, r⟩
  · exact .inl h
  · exact .inr ⟨g, cap, cur, hv, Nat.le_trans hb.size hg, r⟩
/-- A row that is not empty is a slice at a block's beginning. -/
theorem RW.form {w0 W1 W : World} {A : List V} {v : Value} (h : RW w0 W1 A v W) (hA : 0 < A.length) : ∃ g cap, v = .slice (some ⟨g, 0, none⟩) A.length cap ∧ ∃ xs, W.ownsRow W1.heap.size 64 6 v A.length xs ∧ isVsL w0 A xs ∧ ∀ j u, xs[j]? = some u → W.cell? ((⟨g, 0, none⟩ : Addr).add j) = some u := by
  obtain ⟨xs, h1, h2, h3⟩ := h
  rcases h1.2 with ⟨_, h⟩ | ⟨g, cap, cur, rfl, _⟩
  · omega
  · exact ⟨g, cap, rfl, xs, h1, h2, h1.cells rfl⟩

theorem rw_start {w0 W1 : World} {X : V} {cs : Array Value} (h : isVsL w0 [X] cs.toList) (hs : cs.size = 6) : RW w0 W1 [X] (.slice (some ⟨W1.heap.size, 0, none⟩) 1 1) (W1.alloc (.cells cs 64)) :=
  ⟨cs.toList, World.ownsRow_lit W1 cs 1 (Nat.le_refl _) (by unfold maxLen; omega) (by rw [hs]), h, (Below.refl _ _).alloc (Nat.le_refl _) _⟩

end Go.Proofs.YtdckldfekepopaaGreatDoor

namespace Go.Proofs.YtdckldfekepopaaGreatDoor
open Go.RowKit

def isKa (W : World) (B : Nat → Prop) (ks : List ByteArray) (v : Value) : Prop :=
  ∃ a cap, slv v ks.length a cap ∧ (0 < ks.length → B a.block) ∧ ∀ i (h : i < ks.length), W.cell? (a.add i) = some (.string ks[i]) ∧ ks[i].size ≤ maxLen
mutual
/-- As isV; every cell that is read lies in a block with B. -/
def isVa (W : World) (B : Nat → Prop) : V → Value → Prop
  | .mk k b n s l ks, v => ∃ lv kv, v = .agg #[.int .i8 k, .bool b, .int .i64 n, .string s, lv, kv] ∧ (-128 ≤ k ∧ k ≤ 127) ∧ (-9223372036854775808 ≤ n ∧ n ≤ 9223372036854775807) ∧ s.size ≤ maxLen ∧ (∃ a cap, slv lv l.length a cap ∧ (0 < l.length → B a.block) ∧ isVas W B l a) ∧ isKa W B ks kv
def isVas (W : World) (B : Nat → Prop) : List V → Addr → Prop
  | [], _ => True
  | x :: t, a => (∃ c0 c1 c2 c3 c4 c5, W.cell? a = some c0 ∧ W.cell? (a.add 1) = some c1 ∧ W.cell? (a.add 2) = some c2 ∧ W.cell? (a.add 3) = some c3 ∧ W.cell? (a.add 4) = some c4 ∧ W.cell? (a.add 5) = some c5 ∧ isVa W B x (.agg #[c0, c1, c2, c3, c4, c5])) ∧ isVas W B t (a.add 6)
end
theorem add_block (a : Addr) (i : Nat) : (a.add i).block = a.block := by
  unfold Addr.add
  split <;> rfl
theorem isKa_keep {W W' : World} {B : Nat → Prop} (hc : ∀ a c, B a.block → W.cell? a = some c → W'.cell? a = some c) {ks : List ByteArray} {v : Value} (h : isKa W B ks v) : isKa W' B ks v := by
  obtain ⟨a, cap, h1, h2, h3⟩ := h
  exact ⟨a, cap, h1, h2, fun i hi => ⟨hc _ _ (by rw [add_block]; exact h2 (by omega)) (h3 i hi).1, (h3 i hi).2⟩⟩
mutual
theorem isVa_keep {W W' : World} {B : Nat → Prop} (hc : ∀ a c, B a.block → W.cell? a = some c → W'.cell? a = some c) : ∀ (x : V) (v : Value), isVa W B x v → isVa W' B x v
  | .mk k b n s l ks, v, h => by
    unfold isVa at h ⊢
    obtain ⟨lv, kv, h1, h2, h3, h4, ⟨a, cap, h5, h6, h7⟩, h8⟩ := h
    exact ⟨lv, kv, h1, h2, h3, h4, ⟨a, cap, h5, h6, isVas_keep hc l a h6 h7⟩, isKa_keep hc h8⟩
theorem isVas_keep {W W' : World} {B : Nat → Prop} (hc : ∀ a c, B a.block → W.cell? a = some c → W'.cell? a = some c) : ∀ (l : List V) (a : Addr), (0 < l.length → B a.block) → isVas W B l a → isVas W' B l a
  | [], _, _, _ => by unfold isVas; trivial
  | x :: t, a, hb, h => by
    unfold isVas at h ⊢
    have hB : B a.block := hb (by simp)
    have hBi : ∀ i, B (a.add i).block := fun i => by rw [add_block]; exact hB
    obtain ⟨⟨c0, c1, c2, c3, c4, c5, g0, g1, g2, g3, g4, g5, hx⟩, ht⟩ := h
    exact ⟨⟨c0, c1, c2, c3, c4, c5, hc _ _ hB g0, hc _ _ (hBi 1) g1, hc _ _ (hBi 2) g2, hc _ _ (hBi 3) g3, hc _ _ (hBi 4) g4, hc _ _ (hBi 5) g5, isVa_keep hc x _ hx⟩, isVas_keep hc t _ (fun _ => hBi 6) ht⟩
end
theorem isKa_mono {W : World} {B B' : Nat → Prop} (hb : ∀ q, B q → B' q) {ks : List ByteArray} {v : Value} (h : isKa W B ks v) : isKa W B' ks v := by
  obtain ⟨a, cap, h1, h2, h3⟩ := h
  exact ⟨a, cap, h1, fun h => hb _ (h2 h), h3⟩
mutual
theorem isVa_mono {W : World} {B B' : Nat → Prop} (hb : ∀ q, B q → B' q) : ∀ (x : V) (v : Value), isVa W B x v → isVa W B' x v
  | .mk k b n s l ks, v, h => by
    unfold isVa at h ⊢
    obtain ⟨lv, kv, h1, h2, h3, h4, ⟨a, cap, h5, h6, h7⟩, h8⟩ := h
    exact ⟨lv, kv, h1, h2, h3, h4, ⟨a, cap, h5, fun h => hb _ (h6 h), isVas_mono hb l a h7⟩, isKa_mono hb h8⟩
theorem isVas_mono {W : World} {B B' : Nat → Prop} (hb : ∀ q, B q → B' q) : ∀ (l : List V) (a : Addr), isVas W B l a → isVas W B' l a
  | [], _, _ => by unfold isVas; trivial
  | x :: t, a, h => by
    unfold isVas at h ⊢
    obtain ⟨⟨c0, c1, c2, c3, c4, c5, g0, g1, g2, g3, g4, g5, hx⟩, ht⟩ := h
    exact ⟨⟨c0, c1, c2, c3, c4, c5, g0, g1, g2, g3, g4, g5, isVa_mono hb x _ hx⟩, isVas_mono hb t _ ht⟩
end
mutual
theorem isV_of_a {W : World} {B : Nat → Prop} : ∀ (x : V) (v : Value), isVa W B x v → isV W x v
  | .mk k b n s l ks, v, h => by
    unfold isVa at h
    unfold isV
    obtain ⟨lv, kv, h1, h2, h3, h4, ⟨a, cap, h5, h6, h7⟩, ⟨a2, cap2, k1, _, k3⟩⟩ := h
    exact ⟨lv, kv, h1, h2, h3, h4, ⟨a, cap, h5, isVs_of_a l a h7⟩, ⟨a2, cap2, k1, k3⟩⟩
theorem isVs_of_a {W : World} {B : Nat → Prop} : ∀ (l : List V) (a : Addr), isVas W B l a → isVs W l a
  | [], _, _ => by unfold isVs; trivial
  | x :: t, a, h => by
    unfold isVas at h
    unfold isVs
    obtain ⟨⟨c0, c1, c2, c3, c4, c5, g0, g1, g2, g3, g4, g5, hx⟩, ht⟩ := h
    exact ⟨⟨c0, c1, c2, c3, c4, c5, g0, g1, g2, g3, g4, g5, isV_of_a x _ hx⟩, isVs_of_a t _ ht⟩
end
mutual
/-- Every value lies below the heap's size. -/
theorem isVa_of {W : World} : ∀ (x : V) (v : Value), isV W x v → isVa W (fun q => q < W.heap.size) x v
  | .mk k b n s l ks, v, h => by
    unfold isV at h
    unfold isVa
    obtain ⟨lv, kv, h1, h2, h3, h4, ⟨a, cap, h5, h7⟩, ⟨a2, cap2, k1, k3⟩⟩ := h
    refine ⟨lv, kv, h1, h2, h3, h4, ⟨a, cap, h5, fun h0 => ?_, isVas_of l a h7⟩, ⟨a2, cap2, k1, fun h0 => ?_, k3⟩⟩
    · obtain ⟨c0, _, _, _, _, _, g0, _⟩ := isVs_at l a 0 h0 h7
      have := World.block_lt_of_cell? W _ g0
      rw [add_block] at this
      exact this
    · have := World.block_lt_of_cell? W _ (k3 0 h0).1
      rw [add_block] at this
      exact this
theorem isVas_of {W : World} : ∀ (l : List V) (a : Addr), isVs W l a → isVas W (fun q => q < W.heap.size) l a
  | [], _, _ => by unfold isVas; trivial
  | x :: t, a, h => by
    unfold isVs at h
    unfold isVas
    obtain ⟨⟨c0, c1, c2, c3, c4, c5, g0, g1, g2, g3, g4, g5, hx⟩, ht⟩ := h
    exact ⟨⟨c0, c1, c2, c3, c4, c5, g0, g1, g2, g3, g4, g5, isVa_of x _ hx⟩, isVas_of t _ ht⟩
end
/-- While a row of the call's own grows, what lies in other blocks stays. -/
theorem cell_grown {W W' : World} {row : Option Nat} (hg : W.grownBy W' row) : ∀ (a : Addr) (c : Value), (a.block < W.heap.size ∧ some a.block ≠ row) → W.cell? a = some c → W'.cell? a = some c :=
  fun a c hb h => hg.cell h hb.2
theorem isVa_grown {W W' : World} {row : Option Nat} {B : Nat → Prop} (hg : W.grownBy W' row) (hB : ∀ q, B q → some q ≠ row) {x : V} {v : Value} (h : isVa W B x v) : isVa W' B x v :=
  isVa_keep (fun a c hb hc => hg.cell hc (hB _ hb)) x v h
end Go.Proofs.YtdckldfekepopaaGreatDoor
