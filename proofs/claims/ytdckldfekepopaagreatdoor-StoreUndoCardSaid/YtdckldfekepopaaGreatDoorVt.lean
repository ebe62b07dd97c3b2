/-
  Properties, things, stores the rows of whose values don't begin with a frozen cell.
-/
import Derived.Test.YtdckldfekepopaaGreatDoorVr
set_option linter.unusedVariables false
set_option linter.unusedSimpArgs false
namespace Go.Proofs.YtdckldfekepopaaGreatDoor
open Go.RowKit

def uG (W : World) (g : G) (v : Value) : Prop := ∃ n u c0 c1 c2 c3 c4 c5, v = .agg #[n, u, c0, c1, c2, c3, c4, c5] ∧ uV W g.v (.agg #[c0, c1, c2, c3, c4, c5])
def uGat (W : World) (g : G) (a : Addr) : Prop := ∃ c0 c1 c2 c3 c4 c5, W.cell? ⟨a.block, a.off + 2, none⟩ = some c0 ∧ W.cell? ⟨a.block, a.off + 3, none⟩ = some c1 ∧ W.cell? ⟨a.block, a.off + 4, none⟩ = some c2 ∧ W.cell? ⟨a.block, a.off + 5, none⟩ = some c3 ∧ W.cell? ⟨a.block, a.off + 6, none⟩ = some c4 ∧ W.cell? ⟨a.block, a.off + 7, none⟩ = some c5 ∧ uV W g.v (.agg #[c0, c1, c2, c3, c4, c5])
def uGs (W : World) (L : List G) (v : Value) : Prop := ∃ o m c, v = .slice o m c ∧ ∀ a, o = some a → ∀ i (h : i < L.length), uGat W L[i] (a.add (i * 8))
def uTat (W : World) (t : Th) (a : Addr) : Prop := ∃ pv, W.cell? ⟨a.block, a.off + 2, none⟩ = some pv ∧ uGs W t.ps pv
def uTs (W : World) (L : List Th) (v : Value) : Prop := ∃ o m c, v = .slice o m c ∧ ∀ a, o = some a → ∀ i (h : i < L.length), uTat W L[i] (a.add (i * 3))
def uTh (W : World) (t : Th) (v : Value) : Prop := ∃ p q pv, v = .agg #[p, q, pv] ∧ uGs W t.ps pv
def uS (W : World) (s : St) (v : Value) : Prop := ∃ lv m, v = .agg #[lv, m] ∧ uTs W s.l lv
section
variable {W W' : World} (hb : Below W.heap.size W W')
include hb
theorem uG_below {g : G} {v : Value} (h : uG W g v) : uG W' g v := by
  obtain ⟨n, u, c0, c1, c2, c3, c4, c5, e, h⟩ := h
  exact ⟨n, u, c0, c1, c2, c3, c4, c5, e, uV_below hb _ _ h⟩
theorem uGat_below {g : G} {a : Addr} (h : uGat W g a) : uGat W' g a := by
  obtain ⟨c0, c1, c2, c3, c4, c5, g0, g1, g2, g3, g4, g5, h⟩ := h
  have k := cell_below hb
  exact ⟨c0, c1, c2, c3, c4, c5, k _ _ g0, k _ _ g1, k _ _ g2, k _ _ g3, k _ _ g4, k _ _ g5, uV_below hb _ _ h⟩
theorem uGs_below {L : List G} {v : Value} (h : uGs W L v) : uGs W' L v := by
  obtain ⟨o, m, c, e, h⟩ := h
  exact ⟨o, m, c, e, fun a ha i hi => uGat_below hb (h a ha i hi)⟩
theorem uTat_below {t : Th} {a : Addr} (h : uTat W t a) : uTat W' t a := by
  obtain ⟨pv, g, h⟩ := h
  exact ⟨pv, cell_below hb _ _ g, uGs_below hb h⟩
theorem uTs_below {L : List Th} {v : Value} (h : uTs W L v) : uTs W' L v := by
  obtain ⟨o, m, c, e, h⟩ := h
  exact ⟨o, m, c, e, fun a ha i hi => uTat_below hb (h a ha i hi)⟩
theorem uTh_below {t : Th} {v : Value} (h : uTh W t v) : uTh W' t v := by
  obtain ⟨p, q, pv, e, h⟩ := h
  exact ⟨p, q, pv, e, uGs_below hb h⟩
theorem uS_below {s : St} {v : Value} (h : uS W s v) : uS W' s v := by
  obtain ⟨lv, m, e, h⟩ := h
  exact ⟨lv, m, e, uTs_below hb h⟩
end
theorem uG_v {W : World} {g : G} {n u c0 c1 c2 c3 c4 c5 : Value} (h : uG W g (.agg #[n, u, c0, c1, c2, c3, c4, c5])) : uV W g.v (.agg #[c0, c1, c2, c3, c4, c5]) := by
  obtain ⟨_, _, _, _, _, _, _, _, e, h⟩ := h
  simp only [Value.agg.injEq, Array.mk.injEq, List.cons.injEq, and_true] at e
  obtain ⟨-, -, rfl, rfl, rfl, rfl, rfl, rfl⟩ := e
  exact h
theorem uG_at {W : World} {g : G} {a : Addr} {n u c0 c1 c2 c3 c4 c5 : Value} (h : uGat W g a) (g0 : W.cell? ⟨a.block, a.off + 2, none⟩ = some c0) (g1 : W.cell? ⟨a.block, a.off + 3, none⟩ = some c1) (g2 : W.cell? ⟨a.block, a.off + 4, none⟩ = some c2) (g3 : W.cell? ⟨a.block, a.off + 5, none⟩ = some c3) (g4 : W.cell? ⟨a.block, a.off + 6, none⟩ = some c4) (g5 : W.cell? ⟨a.block, a.off + 7, none⟩ = some c5) : uG W g (.agg #[n, u, c0, c1, c2, c3, c4, c5]) := by
  obtain ⟨_, _, _, _, _, _, f0, f1, f2, f3, f4, f5, h⟩ := h
  obtain rfl := Option.some.inj (f0.symm.trans g0)
  obtain rfl := Option.some.inj (f1.symm.trans g1)
  obtain rfl := Option.some.inj (f2.symm.trans g2)
  obtain rfl := Option.some.inj (f3.symm.trans g3)
  obtain rfl := Option.some.inj (f4.symm.trans g4)
  obtain rfl := Option.some.inj (f5.symm.trans g5)
  exact ⟨_, _, _, _, _, _, _, _, rfl, h⟩
theorem uGs_el {W : World} {L : List G} {a : Addr} {m c : Nat} (h : uGs W L (.slice (some a) m c)) (i : Nat) (hi : i < L.length) : uGat W L[i] (a.add (i * 8)) := by
  obtain ⟨o, _, _, e, h⟩ := h
  simp only [Value.slice.injEq] at e
  exact h a e.1.symm i hi
theorem uTs_el {W : World} {L : List Th} {a : Addr} {m c : Nat} (h : uTs W L (.slice (some a) m c)) (i : Nat) (hi : i < L.length) : uTat W L[i] (a.add (i * 3)) := by
  obtain ⟨o, _, _, e, h⟩ := h
  simp only [Value.slice.injEq] at e
  exact h a e.1.symm i hi
theorem uTh_at {W : World} {t : Th} {a : Addr} {p q pv : Value} (h : uTat W t a) (g : W.cell? ⟨a.block, a.off + 2, none⟩ = some pv) : uTh W t (.agg #[p, q, pv]) := by
  obtain ⟨_, f, h⟩ := h
  obtain rfl := Option.some.inj (f.symm.trans g)
  exact ⟨_, _, _, rfl, h⟩
theorem uTh_v {W : World} {t : Th} {p q pv : Value} (h : uTh W t (.agg #[p, q, pv])) : uGs W t.ps pv := by
  obtain ⟨_, _, _, e, h⟩ := h
  simp only [Value.agg.injEq, Array.mk.injEq, List.cons.injEq, and_true] at e
  obtain ⟨-, -, rfl⟩ := e
  exact h
theorem uS_v {W : World} {s : St} {lv m : Value} (h : uS W s (.agg #[lv, m])) : uTs W s.l lv := by
  obtain ⟨_, _, e, h⟩ := h
  simp only [Value.agg.injEq, Array.mk.injEq, List.cons.injEq, and_true] at e
  obtain ⟨rfl, -⟩ := e
  exact h
end Go.Proofs.YtdckldfekepopaaGreatDoor
