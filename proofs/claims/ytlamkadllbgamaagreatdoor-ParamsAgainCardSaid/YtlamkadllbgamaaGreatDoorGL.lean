/-
  Values as trees in given blocks, while slices are changed for others that read as the same: for copies. · The store's copy of a value: its world.
-/
import Derived.Test.YtlamkadllbgamaaGreatDoorGD
import Derived.Test.YtlamkadllbgamaaGreatDoorGH
import Derived.Test.YtlamkadllbgamaaGreatDoorGK
import Derived.Test.YtlamkadllbgamaaGreatDoorGJ
set_option linter.unusedVariables false
set_option linter.unusedSimpArgs false
namespace Go.Proofs.YtlamkadllbgamaaGreatDoor
open Go.RowKit

/-- A slice in whose place another is put, which reads as whatever it reads as. -/
def SwA (W : World) (B : Nat → Prop) (c c' : Value) : Prop := (∃ o n cap, c = .slice o n cap) ∧ (∀ l : List V, (∃ a cap, slv c l.length a cap ∧ (0 < l.length → B a.block) ∧ isVas W B l a) → ∃ a cap, slv c' l.length a cap ∧ (0 < l.length → B a.block) ∧ isVas W B l a) ∧ (∀ ks, isKa W B ks c → isKa W B ks c')
def SwAW (W W' : World) (B : Nat → Prop) : Prop := ∀ a c, B a.block → W.cell? a = some c → W'.cell? a = some c ∨ ∃ c', W'.cell? a = some c' ∧ SwA W B c c'
theorem SwAW.int {W W' : World} {B : Nat → Prop} (h : SwAW W W' B) {a : Addr} (hb : B a.block) {k : IntKind} {x : Int} (hc : W.cell? a = some (.int k x)) : W'.cell? a = some (.int k x) := by
  rcases h _ _ hb hc with h | ⟨c', _, ⟨o, n, cap, e⟩, _⟩
  · exact h
  · cases e
theorem SwAW.bool {W W' : World} {B : Nat → Prop} (h : SwAW W W' B) {a : Addr} (hb : B a.block) {x : Bool} (hc : W.cell? a = some (.bool x)) : W'.cell? a = some (.bool x) := by
  rcases h _ _ hb hc with h | ⟨c', _, ⟨o, n, cap, e⟩, _⟩
  · exact h
  · cases e
theorem SwAW.str {W W' : World} {B : Nat → Prop} (h : SwAW W W' B) {a : Addr} (hb : B a.block) {x : ByteArray} (hc : W.cell? a = some (.string x)) : W'.cell? a = some (.string x) := by
  rcases h _ _ hb hc with h | ⟨c', _, ⟨o, n, cap, e⟩, _⟩
  · exact h
  · cases e
theorem isKa_sw {W W' : World} {B : Nat → Prop} (h : SwAW W W' B) {ks : List ByteArray} {v : Value} (hk : isKa W B ks v) : isKa W' B ks v := by
  obtain ⟨a, cap, h1, h2, h3⟩ := hk
  exact ⟨a, cap, h1, h2, fun i hi => ⟨h.str (by rw [add_block]; exact h2 (by omega)) (h3 i hi).1, (h3 i hi).2⟩⟩
mutual
theorem isVa_sw {W W' : World} {B : Nat → Prop} (h : SwAW W W' B) : ∀ (x : V) (v : Value), isVa W B x v → isVa W' B x v
  | .mk k b n s l ks, v, hx => by
    unfold isVa at hx ⊢
    obtain ⟨lv, kv, h1, h2, h3, h4, ⟨a, cap, h5, h6, h7⟩, h8⟩ := hx
    exact ⟨lv, kv, h1, h2, h3, h4, ⟨a, cap, h5, h6, isVas_sw h l a h6 h7⟩, isKa_sw h h8⟩
theorem isVas_sw {W W' : World} {B : Nat → Prop} (h : SwAW W W' B) : ∀ (l : List V) (a : Addr), (0 < l.length → B a.block) → isVas W B l a → isVas W' B l a
  | [], _, _, _ => by unfold isVas; trivial
  | .mk k b n s l ks :: t, a, hb, hl => by
    unfold isVas at hl ⊢
    have hB : B a.block := hb (by simp)
    have hBi : ∀ i, B (a.add i).block := fun i => by rw [add_block]; exact hB
    obtain ⟨⟨c0, c1, c2, c3, c4, c5, g0, g1, g2, g3, g4, g5, hx⟩, ht⟩ := hl
    unfold isVa at hx
    obtain ⟨lv, kv, e, h2, h3, h4, h5, h7⟩ := hx
    simp only [Value.agg.injEq, Array.mk.injEq, List.cons.injEq, and_true] at e
    obtain ⟨rfl, rfl, rfl, rfl, rfl, rfl⟩ := e
    obtain ⟨d4, q4, r4⟩ : ∃ d4, W'.cell? (a.add 4) = some d4 ∧ ∃ a' cap', slv d4 l.length a' cap' ∧ (0 < l.length → B a'.block) ∧ isVas W B l a' := by
      rcases h _ _ (hBi 4) g4 with q | ⟨c', q, _, hs, _⟩
      · exact ⟨_, q, h5⟩
      · exact ⟨c', q, hs l h5⟩
    obtain ⟨d5, q5, r5⟩ : ∃ d5, W'.cell? (a.add 5) = some d5 ∧ isKa W B ks d5 := by
      rcases h _ _ (hBi 5) g5 with q | ⟨c', q, _, _, hs⟩
      · exact ⟨_, q, h7⟩
      · exact ⟨c', q, hs ks h7⟩
    obtain ⟨a', cap', r6, r7, r8⟩ := r4
    refine ⟨⟨_, _, _, _, d4, d5, h.int hB g0, h.bool (hBi 1) g1, h.int (hBi 2) g2, h.str (hBi 3) g3, q4, q5, ?_⟩, isVas_sw h t _ (fun _ => hBi 6) ht⟩
    unfold isVa
    exact ⟨d4, d5, rfl, h2, h3, h4, ⟨a', cap', r6, r7, isVas_sw h l a' r7 r8⟩, isKa_sw h r5⟩
end
/-- The same cells elsewhere. -/
theorem isVas_moved {W : World} {B : Nat → Prop} : ∀ (l : List V) (a a' : Addr), (∀ j, j < l.length * 6 → W.cell? (a'.add j) = W.cell? (a.add j)) → isVas W B l a → isVas W B l a'
  | [], _, _, _, _ => by unfold isVas; trivial
  | x :: t, a, a', hc, h => by
    unfold isVas at h ⊢
    obtain ⟨⟨c0, c1, c2, c3, c4, c5, g0, g1, g2, g3, g4, g5, hx⟩, ht⟩ := h
    have hl : (x :: t).length * 6 = t.length * 6 + 6 := by simp only [List.length_cons]; omega
    have e0 : ∀ b : Addr, b.add 0 = b := fun b => by simp [Addr.add]
    refine ⟨⟨c0, c1, c2, c3, c4, c5, ?_, ?_, ?_, ?_, ?_, ?_, hx⟩, isVas_moved t (a.add 6) (a'.add 6) (fun j hj => ?_) ht⟩
    · have := hc 0 (by omega); rw [e0, e0] at this; rw [this]; exact g0
    · rw [hc 1 (by omega)]; exact g1
    · rw [hc 2 (by omega)]; exact g2
    · rw [hc 3 (by omega)]; exact g3
    · rw [hc 4 (by omega)]; exact g4
    · rw [hc 5 (by omega)]; exact g5
    · rw [add_add, add_add]; exact hc (6 + j) (by omega)
theorem isKa_moved {W : World} {B : Nat → Prop} {o o' : Option Addr} {m c c' : Nat} {g : Nat} (h1 : m ≤ c') (h2 : c' ≤ maxLen) (ho : 0 < m → o' = some ⟨g, 0, none⟩) (hB : 0 < m → B g)
    (hc : ∀ (a : Addr), o = some a → ∀ j, j < m → W.cell? ((⟨g, 0, none⟩ : Addr).add j) = W.cell? (a.add j)) (ks : List ByteArray) (h : isKa W B ks (.slice o m c)) : isKa W B ks (.slice o' m c') := by
  obtain ⟨a, cap, ⟨o1, e, q1, q2, q3⟩, q4, q5⟩ := h
  simp only [Value.slice.injEq] at e
  obtain ⟨rfl, rfl, rfl⟩ := e
  exact ⟨⟨g, 0, none⟩, c', ⟨o', rfl, h1, h2, ho⟩, hB, fun i hi => by rw [hc a (q3 (by omega)) i hi]; exact q5 i hi⟩
theorem lvs_moved {W : World} {B : Nat → Prop} {o o' : Option Addr} {m c c' : Nat} {g : Nat} (h1 : m ≤ c') (h2 : c' ≤ maxLen) (ho : 0 < m → o' = some ⟨g, 0, none⟩) (hB : 0 < m → B g)
    (hc : ∀ (a : Addr), o = some a → ∀ j, j < m * 6 → W.cell? ((⟨g, 0, none⟩ : Addr).add j) = W.cell? (a.add j)) (l : List V) (h : ∃ a cap, slv (.slice o m c) l.length a cap ∧ (0 < l.length → B a.block) ∧ isVas W B l a) :
    ∃ a cap, slv (.slice o' m c') l.length a cap ∧ (0 < l.length → B a.block) ∧ isVas W B l a := by
  obtain ⟨a, cap, ⟨o1, e, q1, q2, q3⟩, q4, q5⟩ := h
  simp only [Value.slice.injEq] at e
  obtain ⟨rfl, rfl, rfl⟩ := e
  refine ⟨⟨g, 0, none⟩, c', ⟨o', rfl, h1, h2, ho⟩, hB, ?_⟩
  rcases Nat.eq_zero_or_pos l.length with h0 | h0
  · have : l = [] := List.eq_nil_of_length_eq_zero h0
    subst this
    unfold isVas; trivial
  · exact isVas_moved l a _ (hc a (q3 h0)) q5
theorem isKa_none {W : World} {B : Nat → Prop} {o o' : Option Addr} {m m' c c' : Nat} {l : List V} {ks : List ByteArray} (h : isKa W B ks (.slice o m c)) : ks.length = m := by
  obtain ⟨a, cap, ⟨o1, e, _⟩, _⟩ := h
  simp only [Value.slice.injEq] at e
  exact e.2.1.symm
/-- Two cells of a row of the call's own are set. -/
theorem row_set {w : World} {b n : Nat} {t : TypeId} {f : Nat → Value} (h : w.rowIs b t n f) (p q : Nat) (hp : p < n) (hq : q < n) (u v : Value) :
    ∃ y1 y2 f', ((∃ u, w.cell? ⟨b, p, none⟩ = some u) ∧ w.frozen? ⟨b, p, none⟩ = false ∧ w.setCell ⟨b, p, none⟩ u = y1) ∧ ((∃ u, y1.cell? ⟨b, q, none⟩ = some u) ∧ y1.frozen? ⟨b, q, none⟩ = false ∧ y1.setCell ⟨b, q, none⟩ v = y2) ∧
      y2.rowIs b t n f' ∧ w.grownBy y2 (some b) ∧ (∀ a, a ≠ ⟨b, p, none⟩ → a ≠ ⟨b, q, none⟩ → y2.cell? a = w.cell? a) ∧ (p ≠ q → y2.cell? ⟨b, p, none⟩ = some u) ∧ y2.cell? ⟨b, q, none⟩ = some v := by
  have h1 := h.set p u
  have h2 := h1.set q v
  refine ⟨_, _, _, ⟨⟨_, h.cell hp⟩, h.frozen _, rfl⟩, ⟨⟨_, h1.cell hq⟩, h1.frozen _, rfl⟩, h2, grown_trans (grown_set _ _ _ _) (grown_set _ _ _ _), fun a ha ha' => ?_, fun hpq => ?_, World.cell?_setCell_same _ _ _ (h1.cell hq)⟩
  · rw [World.cell?_setCell_other _ _ _ _ (Ne.symm ha'), World.cell?_setCell_other _ _ _ _ (Ne.symm ha)]
  · rw [World.cell?_setCell_other _ _ _ _ (by intro e; simp only [Addr.mk.injEq, and_true, true_and] at e; exact hpq e.symm)]
    exact World.cell?_setCell_same _ _ _ (h.cell hp)
end Go.Proofs.YtlamkadllbgamaaGreatDoor

namespace Go.Proofs.YtlamkadllbgamaaGreatDoor
open Go.RowKit Go.Shelf

/-- Neither the result's block nor the list's own. -/
def NB (P : Nat → Prop) (r lb : Nat) (q : Nat) : Prop := P q ∧ q ≠ r ∧ q ≠ lb
/-- A row of values that waits to be copied. -/
def RowOK (P : Nat → Prop) (r lb : Nat) (W : World) (u : Value) : Prop := ∃ (g m c : Nat) (l : List V) (f : Nat → Value), u = .slice (some ⟨g, 0, none⟩) m c ∧ 0 < m ∧ m ≤ c ∧ m ≤ 1000000 ∧ c ≤ maxLen ∧ l.length = m ∧ isVas W (NB P r lb) l ⟨g, 0, none⟩ ∧ W.rowIs g 33 (c * 6) f ∧ P g ∧ r < g ∧ g ≠ lb ∧ ∀ z ∈ l, sizeV z ≤ 1000000 ∧ fineV z
theorem rowIs_size {w : World} {b n n' : Nat} {t t' : TypeId} {f f' : Nat → Value} (h : w.rowIs b t n f) (h' : w.rowIs b t' n' f') : n = n' ∧ t = t' := by
  obtain ⟨c, h1, h2, _⟩ := h
  obtain ⟨c', k1, k2, _⟩ := h'
  rw [h1] at k1
  simp only [Option.some.injEq, Obj.cells.injEq] at k1
  obtain ⟨rfl, rfl, _⟩ := k1
  exact ⟨by omega, rfl⟩
theorem isVas_new {W W' : World} {P : Nat → Prop} {r lb lb' : Nat} {l : List V} {a : Addr} (ha : 0 < l.length → NB P r lb a.block) (h : isVas W (NB P r lb) l a) (hlb : lb' = lb ∨ lb' = W.heap.size) (hc : ∀ a c, a.block ≠ lb → a.block < W.heap.size → W.cell? a = some c → W'.cell? a = some c) : isVas W' (NB P r lb') l a := by
  have h1 := isVas_lt _ _ h
  have h2 : isVas W (fun q => NB P r lb' q ∧ q ≠ lb ∧ q < W.heap.size) l a := isVas_mono (fun q hq => ⟨⟨hq.1.1, hq.1.2.1, by have := hq.1.2.2; have := hq.2; rcases hlb with e | e <;> subst e <;> omega⟩, hq.1.2.2, hq.2⟩) _ _ h1
  refine isVas_mono (fun q hq => hq.1) _ _ (isVas_keep (fun a c hq hcc => hc a c hq.2.1 hq.2.2 hcc) _ _ (fun h0 => ?_) h2)
  obtain ⟨c0, _, _, _, _, _, g0, _⟩ := isVs_at l a 0 h0 (isVs_of_a l a h)
  have := World.block_lt_of_cell? W _ g0
  rw [add_block] at this
  have ha := ha h0
  exact ⟨⟨ha.1, ha.2.1, by have := ha.2.2; rcases hlb with e | e <;> subst e <;> omega⟩, ha.2.2, this⟩
theorem RowOK.below {P : Nat → Prop} {r lb : Nat} {W W' : World} {u : Value} (h : RowOK P r lb W u) (hb : Below W.heap.size W W') : RowOK P r lb W' u := by
  obtain ⟨g, m, c, l, f, e, h1, h2, h3, h4, h5, h6, h7, hp, h8, h9, h10⟩ := h
  exact ⟨g, m, c, l, f, e, h1, h2, h3, h4, h5, isVas_keep (fun a c _ hc => cell_below hb _ _ hc) _ _ (fun _ => ⟨hp, by show g ≠ r; omega, h9⟩) h6, rowIs_grown h7 (grown_bel hb) (by simp), hp, h8, h9, h10⟩
/-- A row of the call's own, in which slices are changed for others that read as the same. -/
theorem RowOK.sw {P : Nat → Prop} {r lb g0 n0 : Nat} {W W' : World} {u : Value} {f0 f0' : Nat → Value} (h : RowOK P r lb W u) (hs : SwAW W W' (NB P r lb)) (hg : W.grownBy W' (some g0)) (hr : W.rowIs g0 33 n0 f0) (hr' : W'.rowIs g0 33 n0 f0') : RowOK P r lb W' u := by
  obtain ⟨g, m, c, l, f, e, h1, h2, h3, h4, h5, h6, h7, hp, h8, h9, h10⟩ := h
  obtain ⟨f', h7'⟩ : ∃ f', W'.rowIs g 33 (c * 6) f' := by
    by_cases e : g = g0
    · subst e
      obtain ⟨e, _⟩ := rowIs_size h7 hr
      rw [e]
      exact ⟨_, hr'⟩
    · exact ⟨f, rowIs_grown h7 hg (fun e' => e (Option.some.inj e'))⟩
  exact ⟨g, m, c, l, f', e, h1, h2, h3, h4, h5, isVas_sw hs _ _ (fun _ => ⟨hp, by show g ≠ r; omega, h9⟩) h6, h7', hp, h8, h9, h10⟩
theorem add0' (g j : Nat) : (⟨g, 0, none⟩ : Addr).add j = ⟨g, j, none⟩ := by
  unfold Addr.add
  by_cases h : j = 0
  · subst h; rfl
  · simp [h]
/-- What lies there while a value is copied. -/
structure CS (P : Nat → Prop) (w : World) (x : V) (lb c k : Nat) (xs : List Value) (W : World) : Prop where
  fresh : ∀ q, w.heap.size ≤ q → P q
  bel : Below w.heap.size w W
  res : W.heap[w.heap.size + 1]? = some (.cells #[.int .i8 0, .bool false, .int .i64 0, .string ⟨#[]⟩, .slice none 0 0, .slice none 0 0] 33 (0, 0))
  whole : isVas W (NB P (w.heap.size + 1) lb) [x] ⟨w.heap.size + 1 + 1, 0, none⟩
  lb1 : w.heap.size + 3 ≤ lb
  lb2 : lb < W.heap.size
  own : W.ownsRow (w.heap.size + 3) 30 1 (.slice (some ⟨lb, 0, none⟩) k c) k xs
  rows : ∀ u ∈ xs, RowOK P (w.heap.size + 1) lb W u
theorem CS.below {P : Nat → Prop} {w : World} {x : V} {lb c k : Nat} {xs : List Value} {W W' : World} (h : CS P w x lb c k xs W) (hb : Below W.heap.size W W') : CS P w x lb c k xs W' where
  fresh := h.fresh
  bel := h.bel.trans (hb.mono h.bel.size)
  res := (hb.block _ (Array.getElem?_eq_some_iff.1 h.res).1).trans h.res
  whole := isVas_keep (fun a c _ hc => cell_below hb _ _ hc) _ _ (fun _ => by have := h.lb1; exact ⟨h.fresh _ (by show w.heap.size ≤ w.heap.size + 1 + 1; omega), by show w.heap.size + 1 + 1 ≠ w.heap.size + 1; omega, by show w.heap.size + 1 + 1 ≠ lb; omega⟩) h.whole
  lb1 := h.lb1
  lb2 := by have := h.lb2; have := hb.size; omega
  own := h.own.kept (grown_bel hb) (.inr (fun e => by cases e))
  rows := fun u hu => (h.rows u hu).below hb
theorem CS.pop {P : Nat → Prop} {w : World} {x : V} {lb c k : Nat} {xs : List Value} {W : World} (h : CS P w x lb c (k + 1) xs W) : ∃ u, xs[k]? = some u ∧ W.cell? ⟨lb, k, none⟩ = some u ∧ RowOK P (w.heap.size + 1) lb W u ∧ CS P w x lb c k (xs.take k) W := by
  have hl : xs.length = k + 1 := by have := h.own.1; omega
  have hk : k < xs.length := by omega
  have hget : xs[k]? = some xs[k] := List.getElem?_eq_getElem hk
  refine ⟨xs[k], hget, ?_, h.rows _ (List.getElem_mem hk), ⟨h.fresh, h.bel, h.res, h.whole, h.lb1, h.lb2, ?_, fun u hu => h.rows u (List.mem_of_mem_take hu)⟩⟩
  · rw [h.own.cellAt k (by omega)]; exact hget
  · have := own_cut h.own k (by omega)
    rwa [Nat.mul_one] at this
/-- Slices of a row are changed for others that read as the same. -/
theorem CS.sw {P : Nat → Prop} {w : World} {x : V} {lb c k g0 n0 : Nat} {xs : List Value} {W W' : World} {f0 f0' : Nat → Value} (h : CS P w x lb c k xs W) (hs : SwAW W W' (NB P (w.heap.size + 1) lb)) (hg : W.grownBy W' (some g0)) (r : W.rowIs g0 33 n0 f0) (r' : W'.rowIs g0 33 n0 f0') (h0 : w.heap.size + 2 ≤ g0) (hne : g0 ≠ lb) : CS P w x lb c k xs W' where
  fresh := h.fresh
  bel := h.bel.grown hg h.bel.size (fun q e => by cases e; omega)
  res := (hg.block _ (Array.getElem?_eq_some_iff.1 h.res).1 (fun e => by have := Option.some.inj e; omega)).trans h.res
  whole := isVas_sw hs _ _ (fun _ => by have := h.lb1; exact ⟨h.fresh _ (by show w.heap.size ≤ w.heap.size + 1 + 1; omega), by show w.heap.size + 1 + 1 ≠ w.heap.size + 1; omega, by show w.heap.size + 1 + 1 ≠ lb; omega⟩) h.whole
  lb1 := h.lb1
  lb2 := by have := h.lb2; have := hg.size; omega
  own := h.own.kept hg (.inr fun e => hne (Option.some.inj e).symm)
  rows := fun u hu => (h.rows u hu).sw hs hg r r'
/-- One more row waits. -/
theorem RowOK.grown {P : Nat → Prop} {r lb lb' : Nat} {W W' : World} {u : Value} (h : RowOK P r lb W u) (hg : W.grownBy W' (some lb)) (hlb : lb' = lb ∨ lb' = W.heap.size) : RowOK P r lb' W' u := by
  obtain ⟨g, m, c, l, f, e, h1, h2, h3, h4, h5, h6, h7, hp, h8, h9, h10⟩ := h
  have hlt := h7.lt
  exact ⟨g, m, c, l, f, e, h1, h2, h3, h4, h5, isVas_new (fun _ => ⟨hp, by show g ≠ r; omega, h9⟩) h6 hlb (fun a c ha _ hc => hg.cell hc (fun e => ha (Option.some.inj e))), rowIs_grown h7 hg (fun e => h9 (Option.some.inj e)), hp, h8, by rcases hlb with e | e <;> omega, h10⟩
theorem CS.push {P : Nat → Prop} {w : World} {x : V} {lb c k lb' c' : Nat} {xs : List Value} {u : Value} {W W' : World} (h : CS P w x lb c k xs W) (hu : RowOK P (w.heap.size + 1) lb W u) (hg : W.grownBy W' (some lb)) (hlb : lb' = lb ∨ lb' = W.heap.size)
    (ho : W'.ownsRow (w.heap.size + 3) 30 1 (.slice (some ⟨lb', 0, none⟩) (k + 1) c') (k + 1) (xs ++ [u])) : CS P w x lb' c' (k + 1) (xs ++ [u]) W' where
  fresh := h.fresh
  bel := h.bel.grown hg h.bel.size (fun q e => by cases e; have := h.lb1; omega)
  res := (hg.block _ (Array.getElem?_eq_some_iff.1 h.res).1 (fun e => by have := Option.some.inj e; have := h.lb1; omega)).trans h.res
  whole := isVas_new (fun _ => by have := h.lb1; exact ⟨h.fresh _ (by show w.heap.size ≤ w.heap.size + 1 + 1; omega), by show w.heap.size + 1 + 1 ≠ w.heap.size + 1; omega, by show w.heap.size + 1 + 1 ≠ lb; omega⟩) h.whole hlb (fun a c ha _ hc => hg.cell hc (fun e => ha (Option.some.inj e)))
  lb1 := by have := h.lb1; have := h.bel.size; have := h.lb2; rcases hlb with e | e <;> omega
  lb2 := ho.lt _ rfl |>.2
  own := ho
  rows := fun v hv => by
    rcases List.mem_append.1 hv with hv | hv
    · exact (h.rows v hv).grown hg hlb
    · rw [List.mem_singleton.1 hv]; exact hu.grown hg hlb
theorem CS.start {P : Nat → Prop} {w : World} {x : V} {k n : Int} {b : Bool} {s : ByteArray} {o o2 : Option Addr} {m c m2 c2 : Nat} (hM : sizeV x ≤ 1000000) (hF : fineV x) (hP2 : ∀ q, w.heap.size ≤ q → P q) (h : isVa w (fun q => P q ∧ q < w.heap.size) x (.agg #[.int .i8 k, .bool b, .int .i64 n, .string s, .slice o m c, .slice o2 m2 c2])) :
    CS P w x (w.heap.size + 1 + 1 + 1) 1 1 [.slice (some ⟨w.heap.size + 1 + 1, 0, none⟩) 1 1]
      ((((w.alloc (.cells #[.int .i8 k, .bool b, .int .i64 n, .string s, .slice o m c, .slice o2 m2 c2] 33)).alloc (.cells #[.int .i8 0, .bool false, .int .i64 0, .string ⟨#[]⟩, .slice none 0 0, .slice none 0 0] 33)).alloc (.cells #[.int .i8 k, .bool b, .int .i64 n, .string s, .slice o m c, .slice o2 m2 c2] 33)).alloc (.cells #[.slice (some ⟨w.heap.size + 1 + 1, 0, none⟩) 1 1] 30)) := by
  have e1 : (w.alloc (.cells #[.int .i8 k, .bool b, .int .i64 n, .string s, .slice o m c, .slice o2 m2 c2] 33)).heap.size = w.heap.size + 1 := by simp
  generalize hA : w.alloc (.cells #[.int .i8 k, .bool b, .int .i64 n, .string s, .slice o m c, .slice o2 m2 c2] 33) = A at *
  have bA : Below w.heap.size w A := by rw [← hA]; exact kbA
  have e2 : (A.alloc (.cells #[.int .i8 0, .bool false, .int .i64 0, .string ⟨#[]⟩, .slice none 0 0, .slice none 0 0] 33)).heap.size = w.heap.size + 1 + 1 := by simp [e1]
  have n2 := World.alloc_heap_new A (.cells #[.int .i8 0, .bool false, .int .i64 0, .string ⟨#[]⟩, .slice none 0 0, .slice none 0 0] 33)
  have bB : Below A.heap.size A (A.alloc (.cells #[.int .i8 0, .bool false, .int .i64 0, .string ⟨#[]⟩, .slice none 0 0, .slice none 0 0] 33)) := kbA
  generalize A.alloc (.cells #[.int .i8 0, .bool false, .int .i64 0, .string ⟨#[]⟩, .slice none 0 0, .slice none 0 0] 33) = B at *
  rw [e1] at n2
  have e3 : (B.alloc (.cells #[.int .i8 k, .bool b, .int .i64 n, .string s, .slice o m c, .slice o2 m2 c2] 33)).heap.size = w.heap.size + 1 + 1 + 1 := by simp [e2]
  have n3 := World.alloc_heap_new B (.cells #[.int .i8 k, .bool b, .int .i64 n, .string s, .slice o m c, .slice o2 m2 c2] 33)
  have bC : Below B.heap.size B (B.alloc (.cells #[.int .i8 k, .bool b, .int .i64 n, .string s, .slice o m c, .slice o2 m2 c2] 33)) := kbA
  generalize B.alloc (.cells #[.int .i8 k, .bool b, .int .i64 n, .string s, .slice o m c, .slice o2 m2 c2] 33) = C at *
  rw [e2] at n3
  have ho := World.ownsRow_lit (base := w.heap.size + 3) (e := 30) (size := 1) C #[.slice (some ⟨w.heap.size + 1 + 1, 0, none⟩) 1 1] 1 (by omega) (by unfold maxLen; omega) rfl
  have bD : Below C.heap.size C (C.alloc (.cells #[.slice (some ⟨w.heap.size + 1 + 1, 0, none⟩) 1 1] 30)) := kbA
  have e4 : (C.alloc (.cells #[.slice (some ⟨w.heap.size + 1 + 1, 0, none⟩) 1 1] 30)).heap.size = w.heap.size + 1 + 1 + 1 + 1 := by simp [e3]
  rw [e3] at ho
  generalize C.alloc (.cells #[.slice (some ⟨w.heap.size + 1 + 1, 0, none⟩) 1 1] 30) = D at *
  have bwD : Below w.heap.size w D := bA.trans ((bB.trans ((bC.trans (bD.mono bC.size)).mono bB.size)).mono bA.size)
  have hD3 : D.heap[w.heap.size + 1 + 1]? = some (.cells #[.int .i8 k, .bool b, .int .i64 n, .string s, .slice o m c, .slice o2 m2 c2] 33 (0, 0)) := (bD.block _ (by omega)).trans n3
  have hD2 : D.heap[w.heap.size + 1]? = some (.cells #[.int .i8 0, .bool false, .int .i64 0, .string ⟨#[]⟩, .slice none 0 0, .slice none 0 0] 33 (0, 0)) := (bD.block _ (by omega)).trans ((bC.block _ (by omega)).trans n2)
  obtain ⟨c0, c1, c2', c3, c4, c5⟩ := six_cells hD3
  have hx : isVa D (NB P (w.heap.size + 1) (w.heap.size + 1 + 1 + 1)) x (.agg #[.int .i8 k, .bool b, .int .i64 n, .string s, .slice o m c, .slice o2 m2 c2]) := isVa_mono (fun q (hq : P q ∧ q < w.heap.size) => ⟨hq.1, by have := hq.2; omega, by have := hq.2; omega⟩) _ _ (isVa_keep (fun a c _ hc => cell_below bwD _ _ hc) _ _ h)
  have hw : isVas D (NB P (w.heap.size + 1) (w.heap.size + 1 + 1 + 1)) [x] ⟨w.heap.size + 1 + 1, 0, none⟩ := by
    unfold isVas
    exact ⟨⟨_, _, _, _, _, _, c0, c1, c2', c3, c4, c5, hx⟩, by unfold isVas; trivial⟩
  refine ⟨hP2, bwD, hD2, hw, Nat.le_refl _, by omega, ho, fun u hu => ?_⟩
  rw [List.mem_singleton.1 hu]
  refine ⟨_, 1, 1, [x], _, rfl, by omega, by omega, by omega, by unfold maxLen; omega, rfl, hw, rowIs_six hD3, hP2 _ (by omega), by omega, by omega, fun z hz => ?_⟩
  rw [List.mem_singleton.1 hz]
  exact ⟨hM, hF⟩
theorem swaw_two {W W' : World} {B : Nat → Prop} {b p q : Nat} {c4 c5 d4 d5 : Value} (h4 : W.cell? ⟨b, p, none⟩ = some c4) (h5 : W.cell? ⟨b, q, none⟩ = some c5) (k4 : W'.cell? ⟨b, p, none⟩ = some d4) (k5 : W'.cell? ⟨b, q, none⟩ = some d5)
    (hoff : ∀ a, a ≠ ⟨b, p, none⟩ → a ≠ ⟨b, q, none⟩ → W'.cell? a = W.cell? a) (s4 : SwA W B c4 d4) (s5 : SwA W B c5 d5) : SwAW W W' B := by
  intro a c _ hc
  by_cases e : a = ⟨b, p, none⟩
  · subst e
    rw [h4] at hc
    obtain rfl := Option.some.inj hc
    exact .inr ⟨_, k4, s4⟩
  · by_cases e' : a = ⟨b, q, none⟩
    · subst e'
      rw [h5] at hc
      obtain rfl := Option.some.inj hc
      exact .inr ⟨_, k5, s5⟩
    · exact .inl (by rw [hoff a e e']; exact hc)
/-- What a clone of a row is. -/
def Cln (W : World) (lo : Nat) (t : TypeId) (sz : Nat) (o : Option Addr) (m : Nat) (ol : Option Addr) (g cap : Nat) : Prop :=
  m ≤ cap ∧ cap ≤ maxLen ∧ (0 < m → ol = some ⟨g, 0, none⟩ ∧ lo ≤ g ∧ g < W.heap.size ∧ (∃ f, W.rowIs g t (cap * sz) f) ∧ ∀ a : Addr, o = some a → ∀ j, j < m * sz → W.cell? ((⟨g, 0, none⟩ : Addr).add j) = W.cell? (a.add j))
theorem Cln.below {W W' : World} {lo : Nat} {t : TypeId} {sz : Nat} {o : Option Addr} {m : Nat} {ol : Option Addr} {g cap : Nat} (h : Cln W lo t sz o m ol g cap) (hb : Below W.heap.size W W') (ho : 0 < m → ∃ a : Addr, o = some a ∧ a.block < W.heap.size) : Cln W' lo t sz o m ol g cap := by
  obtain ⟨h1, h2, h3⟩ := h
  refine ⟨h1, h2, fun h0 => ?_⟩
  obtain ⟨k1, k2, k3, ⟨f, k4⟩, k5⟩ := h3 h0
  obtain ⟨a0, e0, hl⟩ := ho h0
  refine ⟨k1, k2, Nat.lt_of_lt_of_le k3 hb.size, ⟨f, rowIs_grown k4 (grown_bel hb) (by simp)⟩, fun a ea j hj => ?_⟩
  rw [e0] at ea
  obtain rfl := Option.some.inj ea
  rw [hb.cell (by rw [add_block]; exact k3), hb.cell (by rw [add_block]; exact hl)]
  exact k5 _ e0 j hj
theorem swa_list {W : World} {B : Nat → Prop} {lo : Nat} {o1 ol : Option Addr} {m1 p1 g cap : Nat} (h : Cln W lo 33 6 o1 m1 ol g cap) (hB : 0 < m1 → B g) : SwA W B (.slice o1 m1 p1) (.slice ol m1 cap) := by
  obtain ⟨h1, h2, h3⟩ := h
  refine ⟨⟨_, _, _, rfl⟩, fun l hl => ?_, fun ks hk => ?_⟩
  · exact lvs_moved h1 h2 (fun h0 => (h3 h0).1) hB (fun a ea j hj => (h3 (by omega)).2.2.2.2 a ea j hj) l hl
  · exact isKa_moved h1 h2 (fun h0 => (h3 h0).1) hB (fun a ea j hj => (h3 (by omega)).2.2.2.2 a ea j (by omega)) ks hk
theorem head_int {W : World} {B : Nat → Prop} {l : List V} {a : Addr} (h : isVas W B l a) (h0 : 0 < l.length) : ∃ k x, W.cell? a = some (.int k x) := by
  match l, h0 with
  | .mk k b n s l' ks :: t, _ =>
    unfold isVas at h
    obtain ⟨⟨c0, c1, c2, c3, c4, c5, g0, _, _, _, _, _, hx⟩, _⟩ := h
    unfold isVa at hx
    obtain ⟨lv, kv, e, _⟩ := hx
    simp only [Value.agg.injEq, Array.mk.injEq, List.cons.injEq] at e
    obtain ⟨rfl, _⟩ := e
    exact ⟨_, _, g0⟩
theorem swa_keys {W : World} {B : Nat → Prop} {lo : Nat} {o1 ol : Option Addr} {m1 p1 g cap : Nat} {ks : List ByteArray} (hk0 : isKa W B ks (.slice o1 m1 p1)) (h : Cln W lo 9 1 o1 m1 ol g cap) (hB : 0 < m1 → B g) : SwA W B (.slice o1 m1 p1) (.slice ol m1 cap) := by
  obtain ⟨h1, h2, h3⟩ := h
  refine ⟨⟨_, _, _, rfl⟩, fun l hl => ?_, fun ks hk => ?_⟩
  · obtain ⟨a, c, ⟨o, e, q1, q2, q3⟩, q4, q5⟩ := hl
    simp only [Value.slice.injEq] at e
    obtain ⟨rfl, rfl, rfl⟩ := e
    rcases Nat.eq_zero_or_pos l.length with h0 | h0
    · have : l = [] := List.eq_nil_of_length_eq_zero h0
      subst this
      exact ⟨⟨g, 0, none⟩, cap, ⟨ol, rfl, h1, h2, fun h => absurd h (by simp)⟩, fun h => absurd h (by simp), by unfold isVas; trivial⟩
    · exfalso
      obtain ⟨k, x, e1⟩ := head_int q5 h0
      obtain ⟨a', c', ⟨o', e', _, _, r3⟩, _, r5⟩ := hk0
      simp only [Value.slice.injEq] at e'
      obtain ⟨rfl, e', rfl⟩ := e'
      have ha := q3 h0
      rw [r3 (by omega)] at ha
      obtain rfl := Option.some.inj ha
      have := (r5 0 (by omega)).1
      rw [show a'.add 0 = a' by simp [Addr.add], e1] at this
      cases this
  · exact isKa_moved h1 h2 (fun h0 => (h3 h0).1) hB (fun a ea j hj => (h3 (by omega)).2.2.2.2 a ea j (by omega)) ks hk
theorem cln_of {w1 w' : World} {t : TypeId} {sz : Nat} {o : Option Addr} {a : Addr} {m : Nat} {v' : Value} {news : List Value} (ho : 0 < m → o = some a) (hl : news.length = m * sz) (hn : ∀ j u, news[j]? = some u → w'.cell? (a.add j) = some u) (h : w'.ownsRow w1.heap.size t sz v' m news) :
    ∃ ol g cap, v' = .slice ol m cap ∧ Cln w' w1.heap.size t sz o m ol g cap := by
  obtain ⟨ol, g, cap, rfl, c1, c2, h3⟩ := clone_row h
  refine ⟨ol, g, cap, rfl, c1, c2, fun h0 => ?_⟩
  obtain ⟨k1, k2, k3, f, k4, k5⟩ := h3 h0
  refine ⟨k1, k2, k3, ⟨f, k4⟩, fun a' ea j hj => ?_⟩
  rw [ho h0] at ea
  obtain rfl := Option.some.inj ea
  have hj' : j < news.length := by omega
  have e : news[j]? = some news[j] := List.getElem?_eq_getElem hj'
  have hle : m * sz ≤ cap * sz := Nat.mul_le_mul_right sz c1
  rw [add0', k4.cell (by omega), k5 j _ e, hn j _ e]
theorem clnL {W : World} {B : Nat → Prop} {x : V} {k n : Int} {b : Bool} {s : ByteArray} {o o2 : Option Addr} {m c m2 c2 : Nat} (h : isVa W B x (.agg #[.int .i8 k, .bool b, .int .i64 n, .string s, .slice o m c, .slice o2 m2 c2])) (hm : m ≤ 1000000) (w1 : World) (hb : Below W.heap.size W w1) :
    Calls Tryz.prog 61 #[.slice o m c] w1 fun e w' => (∃ ol g cap, e = .returned (.slice ol m cap) ∧ Cln w' w1.heap.size 33 6 o m ol g cap) ∧ Below w1.heap.size w1 w' := by
  obtain ⟨kk, bb, nn, ss, l, ks⟩ := x
  unfold isVa at h
  obtain ⟨lv, kv, e, _, _, _, ⟨a, cap, ⟨o', e2, _, _, ho⟩, _, hvs⟩, _⟩ := h
  simp only [Value.agg.injEq, Array.mk.injEq, List.cons.injEq, Value.int.injEq, Value.string.injEq, Value.bool.injEq, true_and, and_true] at e
  obtain ⟨_, _, _, _, rfl, _⟩ := e
  simp only [Value.slice.injEq] at e2
  obtain ⟨rfl, rfl, rfl⟩ := e2
  obtain ⟨news, hw1, hw2, hw3⟩ := cells_of l a (isVs_of_a _ _ hvs)
  refine (cloneV_any o a l.length c ho hm news w1 hw1 (fun j u h => cell_below hb _ _ (hw2 j u h)) hw3).mono ?_
  rintro e w' ⟨v', rfl, hown, hb'⟩
  obtain ⟨ol, g, cap', rfl, hc⟩ := cln_of ho hw1 (fun j u h => cell_below hb' _ _ (cell_below hb _ _ (hw2 j u h))) hown
  exact ⟨⟨ol, g, cap', rfl, hc⟩, hb'⟩
theorem clnK {W : World} {B : Nat → Prop} {x : V} {k n : Int} {b : Bool} {s : ByteArray} {o o2 : Option Addr} {m c m2 c2 : Nat} (h : isVa W B x (.agg #[.int .i8 k, .bool b, .int .i64 n, .string s, .slice o m c, .slice o2 m2 c2])) (hm : m2 ≤ 1000000) (w1 : World) (hb : Below W.heap.size W w1) :
    Calls Tryz.prog 62 #[.slice o2 m2 c2] w1 fun e w' => (∃ ol g cap, e = .returned (.slice ol m2 cap) ∧ Cln w' w1.heap.size 9 1 o2 m2 ol g cap) ∧ Below w1.heap.size w1 w' := by
  obtain ⟨kk, bb, nn, ss, l, ks⟩ := x
  unfold isVa at h
  obtain ⟨lv, kv, e, _, _, _, _, ⟨a, cap, ⟨o', e2, _, _, ho⟩, _, hks⟩⟩ := h
  simp only [Value.agg.injEq, Array.mk.injEq, List.cons.injEq, Value.int.injEq, Value.string.injEq, Value.bool.injEq, true_and, and_true] at e
  obtain ⟨_, _, _, _, _, rfl⟩ := e
  simp only [Value.slice.injEq] at e2
  obtain ⟨rfl, rfl, rfl⟩ := e2
  have hnews : ∀ j u, (ks.map Value.string)[j]? = some u → W.cell? (a.add j) = some u := fun j u h => by
    rw [List.getElem?_map] at h
    obtain ⟨z, hz, rfl⟩ := Option.map_eq_some_iff.1 h
    obtain ⟨hj, rfl⟩ := List.getElem?_eq_some_iff.1 hz
    exact (hks j hj).1
  refine (cloneS_any o2 a ks.length c2 ho hm (ks.map Value.string) w1 (by simp) (fun j u h => cell_below hb _ _ (hnews j u h)) (fun u hu => by obtain ⟨z, _, rfl⟩ := List.mem_map.1 hu; rfl)).mono ?_
  rintro e w' ⟨v', rfl, hown, hb'⟩
  obtain ⟨ol, g, cap', rfl, hc⟩ := cln_of ho (by simp) (fun j u h => cell_below hb' _ _ (cell_below hb _ _ (hnews j u h))) hown
  exact ⟨⟨ol, g, cap', rfl, hc⟩, hb'⟩
theorem slot_lt {W : World} {B : Nat → Prop} {x : V} {k n : Int} {b : Bool} {s : ByteArray} {o o2 : Option Addr} {m c m2 c2 : Nat} (h : isVa W B x (.agg #[.int .i8 k, .bool b, .int .i64 n, .string s, .slice o m c, .slice o2 m2 c2])) :
    (x.list.length = m ∧ x.keys.length = m2) ∧ (0 < m → ∃ a : Addr, o = some a ∧ a.block < W.heap.size ∧ isVas W B x.list a) ∧ isKa W B x.keys (.slice o2 m2 c2) := by
  obtain ⟨kk, bb, nn, ss, l, ks⟩ := x
  unfold isVa at h
  obtain ⟨lv, kv, e, _, _, _, ⟨a, cap, ⟨o', e2, _, _, ho⟩, _, hvs⟩, hk⟩ := h
  simp only [Value.agg.injEq, Array.mk.injEq, List.cons.injEq, Value.int.injEq, Value.string.injEq, Value.bool.injEq, true_and, and_true] at e
  obtain ⟨_, _, _, _, rfl, rfl⟩ := e
  simp only [Value.slice.injEq] at e2
  obtain ⟨rfl, rfl, rfl⟩ := e2
  have hk' := hk
  obtain ⟨a2, cap2, ⟨o4, e4, _⟩, _⟩ := hk
  simp only [Value.slice.injEq] at e4
  refine ⟨⟨rfl, e4.2.1.symm⟩, fun h0 => ⟨a, ho h0, ?_, hvs⟩, hk'⟩
  obtain ⟨c0, _, _, _, _, _, g0, _⟩ := isVs_at l a 0 h0 (isVs_of_a _ _ hvs)
  have := World.block_lt_of_cell? W _ g0
  rwa [add_block] at this
/-- One part of a row is copied: its two slices are changed for clones. -/
theorem CS.step {P : Nat → Prop} {w : World} {x y : V} {lb c1 k1 g mm cr j m1 p1 m3 p3 gL capL gK capK lo : Nat} {xs1 : List Value} {W2 w4 y2 : World} {k n : Int} {b : Bool} {s : ByteArray} {o1 o3 ol okk : Option Addr} {f1 f2 : Nat → Value}
    (hC : CS P w x lb c1 k1 xs1 W2) (hR : RowOK P (w.heap.size + 1) lb W2 (.slice (some ⟨g, 0, none⟩) mm cr)) (hx : isVa W2 (NB P (w.heap.size + 1) lb) y (.agg #[.int .i8 k, .bool b, .int .i64 n, .string s, .slice o1 m1 p1, .slice o3 m3 p3]))
    (hm : m1 ≤ 1000000) (hz : sizeV y ≤ 1000000 ∧ fineV y) (e4 : W2.cell? ⟨g, j * 6 + 4, none⟩ = some (.slice o1 m1 p1)) (e5 : W2.cell? ⟨g, j * 6 + 5, none⟩ = some (.slice o3 m3 p3)) (hg : w.heap.size + 1 < g ∧ g ≠ lb ∧ P g)
    (hb : Below W2.heap.size W2 w4) (hlo : W2.heap.size ≤ lo) (hcl : Cln w4 W2.heap.size 33 6 o1 m1 ol gL capL) (hck : Cln w4 lo 9 1 o3 m3 okk gK capK)
    (r : w4.rowIs g 33 (cr * 6) f1) (r2 : y2.rowIs g 33 (cr * 6) f2) (hg2 : w4.grownBy y2 (some g)) (hoff : ∀ a, a ≠ ⟨g, j * 6 + 4, none⟩ → a ≠ ⟨g, j * 6 + 5, none⟩ → y2.cell? a = w4.cell? a)
    (d4 : y2.cell? ⟨g, j * 6 + 4, none⟩ = some (.slice ol m1 capL)) (d5 : y2.cell? ⟨g, j * 6 + 5, none⟩ = some (.slice okk m3 capK)) :
    CS P w x lb c1 k1 xs1 y2 ∧ RowOK P (w.heap.size + 1) lb y2 (.slice (some ⟨g, 0, none⟩) mm cr) ∧ (0 < m1 → ol = some ⟨gL, 0, none⟩ ∧ RowOK P (w.heap.size + 1) lb y2 (.slice (some ⟨gL, 0, none⟩) m1 capL)) := by
  have hC4 := hC.below hb
  have hR4 := hR.below hb
  have hx4 := isVa_keep (fun a c _ hc => cell_below hb _ _ hc) _ _ hx
  obtain ⟨⟨hl1, hl3⟩, hls, hks⟩ := slot_lt hx4
  have hW := hC.bel.size
  have hlb := hC.lb2
  have hgl : g < W2.heap.size := World.block_lt_of_cell? _ _ e4
  have nbL : ∀ q, W2.heap.size ≤ q → NB P (w.heap.size + 1) lb q := fun q hq => ⟨hC.fresh q (by omega), by omega, by omega⟩
  have s4 : SwA w4 (NB P (w.heap.size + 1) lb) (.slice o1 m1 p1) (.slice ol m1 capL) := swa_list hcl (fun h0 => nbL _ (hcl.2.2 h0).2.1)
  have s5 : SwA w4 (NB P (w.heap.size + 1) lb) (.slice o3 m3 p3) (.slice okk m3 capK) := swa_keys hks hck (fun h0 => nbL _ (Nat.le_trans hlo (hck.2.2 h0).2.1))
  have hsw : SwAW w4 y2 (NB P (w.heap.size + 1) lb) := swaw_two (cell_below hb _ _ e4) (cell_below hb _ _ e5) d4 d5 hoff s4 s5
  refine ⟨hC4.sw hsw hg2 r r2 (by omega) hg.2.1, hR4.sw hsw hg2 r r2, fun h0 => ?_⟩
  obtain ⟨q1, q2, q3, ⟨fL, q4⟩, q5⟩ := hcl.2.2 h0
  obtain ⟨a, ea, _, hvs⟩ := hls h0
  refine ⟨q1, gL, m1, capL, y.list, fL, rfl, h0, hcl.1, hm, hcl.2.1, hl1, ?_, rowIs_grown q4 hg2 (fun e => by have := Option.some.inj e; omega), hC.fresh _ (by omega), by omega, by omega, fun z hz' => ⟨Nat.le_trans (size_in hz') hz.1, fine_in hz' hz.2⟩⟩
  refine isVas_sw hsw _ _ (fun _ => nbL _ q2) (isVas_moved _ a _ (fun i hi => q5 a ea i (by omega)) hvs)
/-- The end: the whole is read, and stored as what is told. -/
theorem CS.ends {P : Nat → Prop} {w : World} {x : V} {lb c k : Nat} {xs : List Value} {W : World} (h : CS P w x lb c k xs W) : ∃ (kk n : Int) (b : Bool) (s : ByteArray) (o : Option Addr) (m cc : Nat) (o2 : Option Addr) (m2 c2 : Nat) (x1 x2 x3 x4 x5 x6 : World),
    (W.cell? ⟨w.heap.size + 1 + 1, 0, none⟩ = some (.int .i8 kk) ∧ W.cell? ⟨w.heap.size + 1 + 1, 1, none⟩ = some (.bool b) ∧ W.cell? ⟨w.heap.size + 1 + 1, 2, none⟩ = some (.int .i64 n) ∧ W.cell? ⟨w.heap.size + 1 + 1, 3, none⟩ = some (.string s) ∧ W.cell? ⟨w.heap.size + 1 + 1, 4, none⟩ = some (.slice o m cc) ∧ W.cell? ⟨w.heap.size + 1 + 1, 5, none⟩ = some (.slice o2 m2 c2)) ∧
    ((∃ u, W.cell? ⟨w.heap.size + 1, 0, none⟩ = some u) ∧ W.frozen? ⟨w.heap.size + 1, 0, none⟩ = false ∧ W.setCell ⟨w.heap.size + 1, 0, none⟩ (.int .i8 kk) = x1) ∧
    ((∃ u, x1.cell? ⟨w.heap.size + 1, 1, none⟩ = some u) ∧ x1.frozen? ⟨w.heap.size + 1, 1, none⟩ = false ∧ x1.setCell ⟨w.heap.size + 1, 1, none⟩ (.bool b) = x2) ∧
    ((∃ u, x2.cell? ⟨w.heap.size + 1, 2, none⟩ = some u) ∧ x2.frozen? ⟨w.heap.size + 1, 2, none⟩ = false ∧ x2.setCell ⟨w.heap.size + 1, 2, none⟩ (.int .i64 n) = x3) ∧
    ((∃ u, x3.cell? ⟨w.heap.size + 1, 3, none⟩ = some u) ∧ x3.frozen? ⟨w.heap.size + 1, 3, none⟩ = false ∧ x3.setCell ⟨w.heap.size + 1, 3, none⟩ (.string s) = x4) ∧
    ((∃ u, x4.cell? ⟨w.heap.size + 1, 4, none⟩ = some u) ∧ x4.frozen? ⟨w.heap.size + 1, 4, none⟩ = false ∧ x4.setCell ⟨w.heap.size + 1, 4, none⟩ (.slice o m cc) = x5) ∧
    ((∃ u, x5.cell? ⟨w.heap.size + 1, 5, none⟩ = some u) ∧ x5.frozen? ⟨w.heap.size + 1, 5, none⟩ = false ∧ x5.setCell ⟨w.heap.size + 1, 5, none⟩ (.slice o2 m2 c2) = x6) ∧
    Hid ((x6.cell? ⟨w.heap.size + 1, 0, none⟩ = some (.int .i8 kk) ∧ x6.cell? ⟨w.heap.size + 1, 1, none⟩ = some (.bool b) ∧ x6.cell? ⟨w.heap.size + 1, 2, none⟩ = some (.int .i64 n) ∧ x6.cell? ⟨w.heap.size + 1, 3, none⟩ = some (.string s) ∧ x6.cell? ⟨w.heap.size + 1, 4, none⟩ = some (.slice o m cc) ∧ x6.cell? ⟨w.heap.size + 1, 5, none⟩ = some (.slice o2 m2 c2)) ∧
      isVa x6 P x (.agg #[.int .i8 kk, .bool b, .int .i64 n, .string s, .slice o m cc, .slice o2 m2 c2]) ∧ Below w.heap.size w x6) := by
  have hw := h.whole
  unfold isVas at hw
  obtain ⟨⟨a0, a1, a2, a3, a4, a5, g0, g1, g2, g3, g4, g5, hx⟩, _⟩ := hw
  obtain ⟨kk, b, n, s, o, m, cc, o2, m2, c2, e⟩ := isV_six (isV_of_a _ _ hx)
  simp only [Value.agg.injEq, Array.mk.injEq, List.cons.injEq, and_true] at e
  obtain ⟨rfl, rfl, rfl, rfl, rfl, rfl⟩ := e
  obtain ⟨x1, x2, x3, x4, x5, x6, f', t1, t2, t3, t4, t5, t6, hf7, hg7, e0, e1, e2, e3, e4, e5, -⟩ := store_six (rowIs_six h.res) 0 (by decide) (.int .i8 kk) (.bool b) (.int .i64 n) (.string s) (.slice o m cc) (.slice o2 m2 c2) (by intro u hu; simp only [List.mem_cons, List.not_mem_nil, or_false] at hu; rcases hu with rfl | rfl | rfl | rfl | rfl | rfl <;> rfl)
  simp only [Nat.zero_add] at t2 t3 t4 t5 t6 e1 e2 e3 e4 e5
  have d0 := hf7.cell (show 0 < 6 by decide)
  have d1 := hf7.cell (show 1 < 6 by decide)
  have d2 := hf7.cell (show 2 < 6 by decide)
  have d3 := hf7.cell (show 3 < 6 by decide)
  have d4 := hf7.cell (show 4 < 6 by decide)
  have d5 := hf7.cell (show 5 < 6 by decide)
  rw [e0] at d0
  rw [e1] at d1
  rw [e2] at d2
  rw [e3] at d3
  rw [e4] at d4
  rw [e5] at d5
  have hx6 := isVa_mono (B' := P) (fun q hq => hq.1) _ _ (isVa_keep (W' := x6) (fun a c hq hc => hg7.cell hc (fun e => hq.2.1 (Option.some.inj e))) _ _ hx)
  refine ⟨kk, n, b, s, o, m, cc, o2, m2, c2, x1, x2, x3, x4, x5, x6, ⟨g0, ?_, ?_, ?_, ?_, ?_⟩, t1, t2, t3, t4, t5, t6, Lib.hid ⟨⟨d0, d1, d2, d3, d4, d5⟩, hx6, h.bel.grown hg7 h.bel.size (fun r e => by cases e; omega)⟩⟩
  · have := g1; rw [add0'] at this; exact this
  · have := g2; rw [add0'] at this; exact this
  · have := g3; rw [add0'] at this; exact this
  · have := g4; rw [add0'] at this; exact this
  · have := g5; rw [add0'] at this; exact this
end Go.Proofs.YtlamkadllbgamaaGreatDoor
