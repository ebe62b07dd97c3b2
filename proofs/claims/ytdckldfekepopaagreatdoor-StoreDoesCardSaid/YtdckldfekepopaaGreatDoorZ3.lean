/-
  Stores as they read: things, rows of things. · Values as trees in given blocks, while slices are changed for others that read as the same: for copies.
-/
import Derived.Test.YtdckldfekepopaaGreatDoorZW
import Derived.Test.YtdckldfekepopaaGreatDoorZH
import Derived.Test.YtdckldfekepopaaGreatDoorZP
set_option linter.unusedVariables false
set_option linter.unusedSimpArgs false
namespace Go.Proofs.YtdckldfekepopaaGreatDoor
open Go.RowKit

/-- A thing. -/
structure Th where
  ph : ByteArray
  ty : ByteArray
  ps : List G
/-- A store. -/
structure St where
  l : List Th
  made : Int
def isTh (W : World) (t : Th) (v : Value) : Prop := ∃ pv, v = .agg #[.string t.ph, .string t.ty, pv] ∧ isGs W t.ps pv ∧ t.ph.size ≤ maxLen ∧ t.ty.size ≤ maxLen
/-- .. at an address. -/
def isTat (W : World) (t : Th) (a : Addr) : Prop := ∃ pv, W.cell? a = some (.string t.ph) ∧ W.cell? ⟨a.block, a.off + 1, none⟩ = some (.string t.ty) ∧ W.cell? ⟨a.block, a.off + 2, none⟩ = some pv ∧ isGs W t.ps pv ∧ t.ph.size ≤ maxLen ∧ t.ty.size ≤ maxLen
def isTs (W : World) (L : List Th) (v : Value) : Prop := ∃ a cap, slv v L.length a cap ∧ ∀ i (h : i < L.length), isTat W L[i] (a.add (i * 3))
def isS (W : World) (s : St) (v : Value) : Prop := ∃ lv, v = .agg #[lv, .int .i64 s.made] ∧ isTs W s.l lv ∧ (-9223372036854775808 ≤ s.made ∧ s.made ≤ 9223372036854775807)
theorem isTat_below {W W' : World} (hb : Below W.heap.size W W') {t : Th} {a : Addr} (h : isTat W t a) : isTat W' t a := by
  obtain ⟨pv, g0, g1, g2, h2, h3, h4⟩ := h
  have k := cell_below hb
  exact ⟨pv, k _ _ g0, k _ _ g1, k _ _ g2, isGs_below hb h2, h3, h4⟩
theorem isTs_below {W W' : World} (hb : Below W.heap.size W W') {L : List Th} {v : Value} (h : isTs W L v) : isTs W' L v := by
  obtain ⟨a, cap, h1, h2⟩ := h
  exact ⟨a, cap, h1, fun i hi => isTat_below hb (h2 i hi)⟩
theorem isTh_below {W W' : World} (hb : Below W.heap.size W W') {t : Th} {v : Value} (h : isTh W t v) : isTh W' t v := by
  obtain ⟨pv, h1, h2, h3, h4⟩ := h
  exact ⟨pv, h1, isGs_below hb h2, h3, h4⟩
theorem isS_below {W W' : World} (hb : Below W.heap.size W W') {s : St} {v : Value} (h : isS W s v) : isS W' s v := by
  obtain ⟨lv, h1, h2, h3⟩ := h
  exact ⟨lv, h1, isTs_below hb h2, h3⟩

/-! Readings whose cells lie in given blocks. -/
def isGata (W : World) (B : Nat → Prop) (g : G) (a : Addr) : Prop := ∃ c0 c1 c2 c3 c4 c5, W.cell? a = some (.string g.nm) ∧ W.cell? ⟨a.block, a.off + 1, none⟩ = some (.bool g.unk) ∧
  W.cell? ⟨a.block, a.off + 2, none⟩ = some c0 ∧ W.cell? ⟨a.block, a.off + 3, none⟩ = some c1 ∧ W.cell? ⟨a.block, a.off + 4, none⟩ = some c2 ∧ W.cell? ⟨a.block, a.off + 5, none⟩ = some c3 ∧ W.cell? ⟨a.block, a.off + 6, none⟩ = some c4 ∧ W.cell? ⟨a.block, a.off + 7, none⟩ = some c5 ∧
  isVa W B g.v (.agg #[c0, c1, c2, c3, c4, c5]) ∧ g.nm.size ≤ maxLen
def isGsa (W : World) (B : Nat → Prop) (L : List G) (v : Value) : Prop := ∃ a cap, slv v L.length a cap ∧ (0 < L.length → B a.block) ∧ ∀ i (h : i < L.length), isGata W B L[i] (a.add (i * 8))
theorem isGs_of_a {W : World} {B : Nat → Prop} {L : List G} {v : Value} (h : isGsa W B L v) : isGs W L v := by
  obtain ⟨a, cap, h1, _, h2⟩ := h
  refine ⟨a, cap, h1, fun i hi => ?_⟩
  obtain ⟨c0, c1, c2, c3, c4, c5, g0, g1, g2, g3, g4, g5, g6, g7, hv, hn⟩ := h2 i hi
  exact ⟨c0, c1, c2, c3, c4, c5, g0, g1, g2, g3, g4, g5, g6, g7, isV_of_a _ _ hv, hn⟩
theorem isGsa_of {W : World} {L : List G} {v : Value} (h : isGs W L v) : isGsa W (fun q => q < W.heap.size) L v := by
  obtain ⟨a, cap, h1, h2⟩ := h
  refine ⟨a, cap, h1, fun h0 => ?_, fun i hi => ?_⟩
  · obtain ⟨_, _, _, _, _, _, g0, _⟩ := h2 0 h0
    have := World.block_lt_of_cell? W _ g0
    rwa [add_block] at this
  · obtain ⟨c0, c1, c2, c3, c4, c5, g0, g1, g2, g3, g4, g5, g6, g7, hv, hn⟩ := h2 i hi
    exact ⟨c0, c1, c2, c3, c4, c5, g0, g1, g2, g3, g4, g5, g6, g7, isVa_of _ _ hv, hn⟩
theorem isGsa_keep {W W' : World} {B : Nat → Prop} (hc : ∀ a c, B a.block → W.cell? a = some c → W'.cell? a = some c) {L : List G} {v : Value} (h : isGsa W B L v) : isGsa W' B L v := by
  obtain ⟨a, cap, h1, h2, h3⟩ := h
  refine ⟨a, cap, h1, h2, fun i hi => ?_⟩
  obtain ⟨c0, c1, c2, c3, c4, c5, g0, g1, g2, g3, g4, g5, g6, g7, hv, hn⟩ := h3 i hi
  have hb : B a.block := h2 (by omega)
  have hbi : ∀ k, B (⟨(a.add (i * 8)).block, (a.add (i * 8)).off + k, none⟩ : Addr).block := fun k => by show B (a.add (i * 8)).block; rw [add_block]; exact hb
  exact ⟨c0, c1, c2, c3, c4, c5, hc _ _ (by rw [add_block]; exact hb) g0, hc _ _ (hbi 1) g1, hc _ _ (hbi 2) g2, hc _ _ (hbi 3) g3, hc _ _ (hbi 4) g4, hc _ _ (hbi 5) g5, hc _ _ (hbi 6) g6, hc _ _ (hbi 7) g7, isVa_keep hc _ _ hv, hn⟩
theorem isGsa_mono {W : World} {B B' : Nat → Prop} (hb : ∀ q, B q → B' q) {L : List G} {v : Value} (h : isGsa W B L v) : isGsa W B' L v := by
  obtain ⟨a, cap, h1, h2, h3⟩ := h
  refine ⟨a, cap, h1, fun h0 => hb _ (h2 h0), fun i hi => ?_⟩
  obtain ⟨c0, c1, c2, c3, c4, c5, g0, g1, g2, g3, g4, g5, g6, g7, hv, hn⟩ := h3 i hi
  exact ⟨c0, c1, c2, c3, c4, c5, g0, g1, g2, g3, g4, g5, g6, g7, isVa_mono hb _ _ hv, hn⟩
end Go.Proofs.YtdckldfekepopaaGreatDoor

namespace Go.Proofs.YtdckldfekepopaaGreatDoor
open Go.RowKit

/-- A slice in whose place another is put, which reads as whatever it reads as. -/
def SwA (W : World) (B : Nat → Prop) (c c' : Value) : Prop := (∃ o n cap, c = .slice o n cap) ∧ (∀ l : List V, (∃ a cap, slv c l.length a cap ∧ (0 < l.length → B a.block) ∧ isVas W B l a) → ∃ a cap, slv c' l.length a cap ∧ (0 < l.length → B a.block) ∧ isVas W B l a) ∧ (∀ ks, isKa W B ks c → isKa W B ks c')
def SwAW (W W' : World) (B : Nat → Prop) : Prop := ∀ a c, B a.block → W.cell? a = some c → W'.cell? a = some c ∨ ∃ c', W'.cell? a = some c' ∧ SwA W B c c'
theorem SwAW.int {W W' : World} {B : Nat → Prop} (h : SwAW W W' B) {a : Addr} (hb : B a.block) {k : IntKind} {x : Int} (hc : W.cell? a = some (.int k x)) : W'.cell? a = some (.int k x) := by
  rcases h _ _ hb hc with h | ⟨c', _, ⟨o, n, cap, e⟩, _⟩
  · exact h
  · cases e
theorem SwAW.bool {W W' : World} {B : Nat → Prop} (h : SwAW W W' B) {a : Addr} (hb : B a.block) {x : Bool} (hc : W.cell? a = some (.bool x)) : W'.cell? a = some (.bool x) := by
  rcases h _ _ hb hc with h | ⟨c', _, ⟨o, n, cap, e⟩, _⟩
  · exact h
  · cases e
theorem SwAW.str {W W' : World} {B : Nat → Prop} (h : SwAW W W' B) {a : Addr} (hb : B a.block) {x : ByteArray} (hc : W.cell? a = some (.string x)) : W'.cell? a = some (.string x) := by
  rcases h _ _ hb hc with h | ⟨c', _, ⟨o, n, cap, e⟩, _⟩
  · exact h
  · cases e
theorem isKa_sw {W W' : World} {B : Nat → Prop} (h : SwAW W W' B) {ks : List ByteArray} {v : Value} (hk : isKa W B ks v) : isKa W' B ks v := by
  obtain ⟨a, cap, h1, h2, h3⟩ := hk
  exact ⟨a, cap, h1, h2, fun i hi => ⟨h.str (by rw [add_block]; exact h2 (by omega)) (h3 i hi).1, (h3 i hi).2⟩⟩
mutual
theorem isVa_sw {W W' : World} {B : Nat → Prop} (h : SwAW W W' B) : ∀ (x : V) (v : Value), isVa W B x v → isVa W' B x v
  | .mk k b n s l ks, v, hx => by
    unfold isVa at hx ⊢
    obtain ⟨lv, kv, h1, h2, h3, h4, ⟨a, cap, h5, h6, h7⟩, h8⟩ := hx
    exact ⟨lv, kv, h1, h2, h3, h4, ⟨a, cap, h5, h6, isVas_sw h l a h6 h7⟩, isKa_sw h h8⟩
theorem isVas_sw {W W' : World} {B : Nat → Prop} (h : SwAW W W' B) : ∀ (l : List V) (a : Addr), (0 < l.length → B a.block) → isVas W B l a → isVas W' B l a
  | [], _, _, _ => by unfold isVas; trivial
  | .mk k b n s l ks :: t, a, hb, hl => by
    unfold isVas at hl ⊢
    have hB : B a.block := hb (by simp)
    have hBi : ∀ i, B (a.add i).block := fun i => by rw [add_block]; exact hB
    obtain ⟨⟨c0, c1, c2, c3, c4, c5, g0, g1, g2, g3, g4, g5, hx⟩, ht⟩ := hl
    unfold isVa at hx
    obtain ⟨lv, kv, e, h2, h3, h4, h5, h7⟩ := hx
    simp only [Value.agg.injEq, Array.mk.injEq, List.cons.injEq, and_true] at e
    obtain ⟨rfl, rfl, rfl, rfl, rfl, rfl⟩ := e
    obtain ⟨d4, q4, r4⟩ : ∃ d4, W'.cell? (a.add 4) = some d4 ∧ ∃ a' cap', slv d4 l.length a' cap' ∧ (0 < l.length → B a'.block) ∧ isVas W B l a' := by
      rcases h _ _ (hBi 4) g4 with q | ⟨c', q, _, hs, _⟩
      · exact ⟨_, q, h5⟩
      · exact ⟨c', q, hs l h5⟩
    obtain ⟨d5, q5, r5⟩ : ∃ d5, W'.cell? (a.add 5) = some d5 ∧ isKa W B ks d5 := by
      rcases h _ _ (hBi 5) g5 with q | ⟨c', q, _, _, hs⟩
      · exact ⟨_, q, h7⟩
      · exact ⟨c', q, hs ks h7⟩
    obtain ⟨a', cap', r6, r7, r8⟩ := r4
    refine ⟨⟨_, _, _, _, d4, d5, h.int hB g0, h.bool (hBi 1) g1, h.int (hBi 2) g2, h.str (hBi 3) g3, q4, q5, ?_⟩, isVas_sw h t _ (fun _ => hBi 6) ht⟩
    unfold isVa
    exact ⟨d4, d5, rfl, h2, h3, h4, ⟨a', cap', r6, r7, isVas_sw h l a' r7 r8⟩, isKa_sw h r5⟩
end
/-- The same cells elsewhere. -/
theorem isVas_moved {W : World} {B : Nat → Prop} : ∀ (l : List V) (a a' : Addr), (∀ j, j < l.length * 6 → W.cell? (a'.add j) = W.cell? (a.add j)) → isVas W B l a → isVas W B l a'
  | [], _, _, _, _ => by unfold isVas; trivial
  | x :: t, a, a', hc, h => by
    unfold isVas at h ⊢
    obtain ⟨⟨c0, c1, c2, c3, c4, c5, g0, g1, g2, g3, g4, g5, hx⟩, ht⟩ := h
    have hl : (x :: t).length * 6 = t.length * 6 + 6 := by simp only [List.length_cons]; omega
    have e0 : ∀ b : Addr, b.add 0 = b := fun b => by simp [Addr.add]
    refine ⟨⟨c0, c1, c2, c3, c4, c5, ?_, ?_, ?_, ?_, ?_, ?_, hx⟩, isVas_moved t (a.add 6) (a'.add 6) (fun j hj => ?_) ht⟩
    · have := hc 0 (by omega); rw [e0, e0] at this; rw [this]; exact g0
    · rw [hc 1 (by omega)]; exact g1
    · rw [hc 2 (by omega)]; exact g2
    · rw [hc 3 (by omega)]; exact g3
    · rw [hc 4 (by omega)]; exact g4
    · rw [hc 5 (by omega)]; exact g5
    · rw [add_add, add_add]; exact hc (6 + j) (by omega)
theorem isKa_moved {W : World} {B : Nat → Prop} {o o' : Option Addr} {m c c' : Nat} {g : Nat} (h1 : m ≤ c') (h2 : c' ≤ maxLen) (ho : 0 < m → o' = some ⟨g, 0, none⟩) (hB : 0 < m → B g)
    (hc : ∀ (a : Addr), o = some a → ∀ j, j < m → W.cell? ((⟨g, 0, none⟩ : Addr).add j) = W.cell? (a.add j)) (ks : List ByteArray) (h : isKa W B ks (.slice o m c)) : isKa W B ks (.slice o' m c') := by
  obtain ⟨a, cap, ⟨o1, e, q1, q2, q3⟩, q4, q5⟩ := h
  simp only [Value.slice.injEq] at e
  obtain ⟨rfl, rfl, rfl⟩ := e
  exact ⟨⟨g, 0, none⟩, c', ⟨o', rfl, h1, h2, ho⟩, hB, fun i hi => by rw [hc a (q3 (by omega)) i hi]; exact q5 i hi⟩
theorem lvs_moved {W : World} {B : Nat → Prop} {o o' : Option Addr} {m c c' : Nat} {g : Nat} (h1 : m ≤ c') (h2 : c' ≤ maxLen) (ho : 0 < m → o' = some ⟨g, 0, none⟩) (hB : 0 < m → B g)
    (hc : ∀ (a : Addr), o = some a → ∀ j, j < m * 6 → W.cell? ((⟨g, 0, none⟩ : Addr).add j) = W.cell? (a.add j)) (l : List V) (h : ∃ a cap, slv (.slice o m c) l.length a cap ∧ (0 < l.length → B a.block) ∧ isVas W B l a) :
    ∃ a cap, slv (.slice o' m c') l.length a cap ∧ (0 < l.length → B a.block) ∧ isVas W B l a := by
  obtain ⟨a, cap, ⟨o1, e, q1, q2, q3⟩, q4, q5⟩ := h
  simp only [Value.slice.injEq] at e
  obtain ⟨rfl, rfl, rfl⟩ := e
  refine ⟨⟨g, 0, none⟩, c', ⟨o', rfl, h1, h2, ho⟩, hB, ?_⟩
  rcases Nat.eq_zero_or_pos l.length with h0 | h0
  · have : l = [] := List.eq_nil_of_length_eq_zero h0
    subst this
    unfold isVas; trivial
  · exact isVas_moved l a _ (hc a (q3 h0)) q5
theorem isKa_none {W : World} {B : Nat → Prop} {o o' : Option Addr} {m m' c c' : Nat} {l : List V} {ks : List ByteArray} (h : isKa W B ks (.slice o m c)) : ks.length = m := by
  obtain ⟨a, cap, ⟨o1, e, _⟩, _⟩ := h
  simp only [Value.slice.injEq] at e
  exact e.2.1.symm
/-- Two cells of a row of the call's own are set. -/
theorem row_set {w : World} {b n : Nat} {t : TypeId} {f : Nat → Value} (h : w.rowIs b t n f) (p q : Nat) (hp : p < n) (hq : q < n) (u v : Value) :
    ∃ y1 y2 f', ((∃ u, w.cell? ⟨b, p, none⟩ = some u) ∧ w.frozen? ⟨b, p, none⟩ = false ∧ w.setCell ⟨b, p, none⟩ u = y1) ∧ ((∃ u, y1.cell? ⟨b, q, none⟩ = some u) ∧ y1.frozen? ⟨b, q, none⟩ = false ∧ y1.setCell ⟨b, q, none⟩ v = y2) ∧
      y2.rowIs b t n f' ∧ w.grownBy y2 (some b) ∧ (∀ a, a ≠ ⟨b, p, none⟩ → a ≠ ⟨b, q, none⟩ → y2.cell? a = w.cell? a) ∧ (p ≠ q → y2.cell? ⟨b, p, none⟩ = some u) ∧ y2.cell? ⟨b, q, none⟩ = some v := by
  have h1 := h.set p u
  have h2 := h1.set q v
  refine ⟨_, _, _, ⟨⟨_, h.cell hp⟩, h.frozen _, rfl⟩, ⟨⟨_, h1.cell hq⟩, h1.frozen _, rfl⟩, h2, grown_trans (grown_set _ _ _ _) (grown_set _ _ _ _), fun a ha ha' => ?_, fun hpq => ?_, World.cell?_setCell_same _ _ _ (h1.cell hq)⟩
  · rw [World.cell?_setCell_other _ _ _ _ (Ne.symm ha'), World.cell?_setCell_other _ _ _ _ (Ne.symm ha)]
  · rw [World.cell?_setCell_other _ _ _ _ (by intro e; simp only [Addr.mk.injEq, and_true, true_and] at e; exact hpq e.symm)]
    exact World.cell?_setCell_same _ _ _ (h.cell hp)
end Go.Proofs.YtdckldfekepopaaGreatDoor
