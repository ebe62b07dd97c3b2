/-
  Parameters as they read; what may be one, and its values, in plain words.
-/
import Derived.Test.YtlamkadllbgamaaGreatDoorGJ
import Derived.Test.YtlamkadllbgamaaGreatDoorBase
set_option linter.unusedVariables false
set_option linter.unusedSimpArgs false
namespace Go.Proofs.YtlamkadllbgamaaGreatDoor
open Go.RowKit

/-- A parameter. -/
structure PR where
  nm : ByteArray
  num : Bool
  has : Bool
  d : V
  al : List V
def isP (W : World) (p : PR) (v : Value) : Prop := ∃ (k : Int) (b : Bool) (n : Int) (s : ByteArray) (o : Option Addr) (m c : Nat) (o2 : Option Addr) (m2 c2 : Nat) (oa : Option Addr) (ca : Nat) (a : Addr),
  v = .agg #[.string p.nm, .bool p.num, .bool p.has, .int .i8 k, .bool b, .int .i64 n, .string s, .slice o m c, .slice o2 m2 c2, .slice oa p.al.length ca] ∧
  isV W p.d (.agg #[.int .i8 k, .bool b, .int .i64 n, .string s, .slice o m c, .slice o2 m2 c2]) ∧ slv (.slice oa p.al.length ca) p.al.length a ca ∧ isVs W p.al a ∧ p.nm.size ≤ maxLen
/-- .. at an address. -/
def isPat (W : World) (p : PR) (a : Addr) : Prop := ∃ c0 c1 c2 c3 c4 c5 c6 c7 c8 c9, W.cell? a = some c0 ∧ W.cell? ⟨a.block, a.off + 1, none⟩ = some c1 ∧ W.cell? ⟨a.block, a.off + 2, none⟩ = some c2 ∧ W.cell? ⟨a.block, a.off + 3, none⟩ = some c3 ∧ W.cell? ⟨a.block, a.off + 4, none⟩ = some c4 ∧ W.cell? ⟨a.block, a.off + 5, none⟩ = some c5 ∧ W.cell? ⟨a.block, a.off + 6, none⟩ = some c6 ∧ W.cell? ⟨a.block, a.off + 7, none⟩ = some c7 ∧ W.cell? ⟨a.block, a.off + 8, none⟩ = some c8 ∧ W.cell? ⟨a.block, a.off + 9, none⟩ = some c9 ∧ isP W p (.agg #[c0, c1, c2, c3, c4, c5, c6, c7, c8, c9])
def isPs (W : World) (L : List PR) (v : Value) : Prop := ∃ a cap, slv v L.length a cap ∧ ∀ i (h : i < L.length), isPat W L[i] (a.add (i * 10))
theorem isP_below {W W' : World} (hb : Below W.heap.size W W') {p : PR} {v : Value} (h : isP W p v) : isP W' p v := by
  obtain ⟨k, b, n, s, o, m, c, o2, m2, c2, oa, ca, a, e, h1, h2, h3, h4⟩ := h
  exact ⟨k, b, n, s, o, m, c, o2, m2, c2, oa, ca, a, e, isV_below hb h1, h2, isVs_keep (cell_below hb) _ a h3, h4⟩
theorem isPat_below {W W' : World} (hb : Below W.heap.size W W') {p : PR} {a : Addr} (h : isPat W p a) : isPat W' p a := by
  obtain ⟨c0, c1, c2, c3, c4, c5, c6, c7, c8, c9, g0, g1, g2, g3, g4, g5, g6, g7, g8, g9, h⟩ := h
  have k := cell_below hb
  exact ⟨c0, c1, c2, c3, c4, c5, c6, c7, c8, c9, k _ _ g0, k _ _ g1, k _ _ g2, k _ _ g3, k _ _ g4, k _ _ g5, k _ _ g6, k _ _ g7, k _ _ g8, k _ _ g9, isP_below hb h⟩
theorem isPs_below {W W' : World} (hb : Below W.heap.size W W') {L : List PR} {v : Value} (h : isPs W L v) : isPs W' L v := by
  obtain ⟨a, cap, h1, h2⟩ := h
  exact ⟨a, cap, h1, fun i hi => isPat_below hb (h2 i hi)⟩
theorem isPat_ten {W : World} {p : PR} {a : Addr} (h : isPat W p a) : ∃ (k : Int) (b : Bool) (n : Int) (s : ByteArray) (o : Option Addr) (m c : Nat) (o2 : Option Addr) (m2 c2 : Nat) (oa : Option Addr) (ca : Nat),
    W.cell? a = some (.string p.nm) ∧ W.cell? ⟨a.block, a.off + 1, none⟩ = some (.bool p.num) ∧ W.cell? ⟨a.block, a.off + 2, none⟩ = some (.bool p.has) ∧ W.cell? ⟨a.block, a.off + 3, none⟩ = some (.int .i8 k) ∧ W.cell? ⟨a.block, a.off + 4, none⟩ = some (.bool b) ∧ W.cell? ⟨a.block, a.off + 5, none⟩ = some (.int .i64 n) ∧ W.cell? ⟨a.block, a.off + 6, none⟩ = some (.string s) ∧ W.cell? ⟨a.block, a.off + 7, none⟩ = some (.slice o m c) ∧ W.cell? ⟨a.block, a.off + 8, none⟩ = some (.slice o2 m2 c2) ∧ W.cell? ⟨a.block, a.off + 9, none⟩ = some (.slice oa p.al.length ca) ∧
    isP W p (.agg #[.string p.nm, .bool p.num, .bool p.has, .int .i8 k, .bool b, .int .i64 n, .string s, .slice o m c, .slice o2 m2 c2, .slice oa p.al.length ca]) := by
  obtain ⟨c0, c1, c2, c3, c4, c5, c6, c7, c8, c9, g0, g1, g2, g3, g4, g5, g6, g7, g8, g9, h⟩ := h
  obtain ⟨k, b, n, s, o, m, c, o2, m2, c2', oa, ca, a', e, h1, h2, h3, h4⟩ := h
  simp only [Value.agg.injEq, Array.mk.injEq, List.cons.injEq, and_true] at e
  obtain ⟨rfl, rfl, rfl, rfl, rfl, rfl, rfl, rfl, rfl, rfl⟩ := e
  exact ⟨k, b, n, s, o, m, c, o2, m2, c2', oa, ca, g0, g1, g2, g3, g4, g5, g6, g7, g8, g9, k, b, n, s, o, m, c, o2, m2, c2', oa, ca, a', rfl, h1, h2, h3, h4⟩
theorem ten_cells {W : World} {B : Nat} {c0 c1 c2 c3 c4 c5 c6 c7 c8 c9 : Value} {t : TypeId} (h : W.heap[B]? = some (.cells #[c0, c1, c2, c3, c4, c5, c6, c7, c8, c9] t (0, 0))) :
    W.cell? ⟨B, 0, none⟩ = some c0 ∧ W.cell? ⟨B, 1, none⟩ = some c1 ∧ W.cell? ⟨B, 2, none⟩ = some c2 ∧ W.cell? ⟨B, 3, none⟩ = some c3 ∧ W.cell? ⟨B, 4, none⟩ = some c4 ∧ W.cell? ⟨B, 5, none⟩ = some c5 ∧ W.cell? ⟨B, 6, none⟩ = some c6 ∧ W.cell? ⟨B, 7, none⟩ = some c7 ∧ W.cell? ⟨B, 8, none⟩ = some c8 ∧ W.cell? ⟨B, 9, none⟩ = some c9 := by
  simp [World.cell?, h]
theorem eight_cells {W : World} {B : Nat} {c0 c1 c2 c3 c4 c5 c6 c7 : Value} {t : TypeId} (h : W.heap[B]? = some (.cells #[c0, c1, c2, c3, c4, c5, c6, c7] t (0, 0))) :
    W.cell? ⟨B, 0, none⟩ = some c0 ∧ W.cell? ⟨B, 1, none⟩ = some c1 ∧ W.cell? ⟨B, 2, none⟩ = some c2 ∧ W.cell? ⟨B, 3, none⟩ = some c3 ∧ W.cell? ⟨B, 4, none⟩ = some c4 ∧ W.cell? ⟨B, 5, none⟩ = some c5 ∧ W.cell? ⟨B, 6, none⟩ = some c6 ∧ W.cell? ⟨B, 7, none⟩ = some c7 := by
  simp [World.cell?, h]
theorem isGat_eight {W : World} {g : G} {a : Addr} (h : isGat W g a) : ∃ (k : Int) (b : Bool) (n : Int) (s : ByteArray) (o : Option Addr) (m c : Nat) (o2 : Option Addr) (m2 c2 : Nat),
    W.cell? a = some (.string g.nm) ∧ W.cell? ⟨a.block, a.off + 1, none⟩ = some (.bool g.unk) ∧ W.cell? ⟨a.block, a.off + 2, none⟩ = some (.int .i8 k) ∧ W.cell? ⟨a.block, a.off + 3, none⟩ = some (.bool b) ∧ W.cell? ⟨a.block, a.off + 4, none⟩ = some (.int .i64 n) ∧ W.cell? ⟨a.block, a.off + 5, none⟩ = some (.string s) ∧ W.cell? ⟨a.block, a.off + 6, none⟩ = some (.slice o m c) ∧ W.cell? ⟨a.block, a.off + 7, none⟩ = some (.slice o2 m2 c2) ∧
    isG W g (.agg #[.string g.nm, .bool g.unk, .int .i8 k, .bool b, .int .i64 n, .string s, .slice o m c, .slice o2 m2 c2]) := by
  obtain ⟨c0, c1, c2, c3, c4, c5, g0, g1, g2, g3, g4, g5, g6, g7, hv, hn⟩ := h
  obtain ⟨k, b, n, s, o, m, c, o2, m2, c2', e⟩ := isV_six hv
  simp only [Value.agg.injEq, Array.mk.injEq, List.cons.injEq, and_true] at e
  obtain ⟨rfl, rfl, rfl, rfl, rfl, rfl⟩ := e
  exact ⟨k, b, n, s, o, m, c, o2, m2, c2', g0, g1, g2, g3, g4, g5, g6, g7, _, _, _, _, _, _, rfl, hv, hn⟩

/-- May a value be of a kind? -/
noncomputable def kindB (num : Bool) (x : V) : Bool := if x.kind = 3 then wordB x.text && (!num && decide (pcheckV x = 0)) else if x.kind = 2 then num && decide (pcheckV x = 0) else false
noncomputable def amongB (l : List V) (x : V) : Bool := l.any (fun u => eqA x u)
noncomputable def allowedB (p : PR) (x : V) : Bool := decide (p.al.length = 0) || amongB p.al x
noncomputable def stepAl (p : PR) (i : Nat) : Bool := kindB p.num (p.al.getD i zV) && !amongB (p.al.take i) (p.al.getD i zV)
noncomputable def mayAl (p : PR) : Bool := (List.range p.al.length).all (stepAl p)
noncomputable def mayDef (p : PR) : Bool := if p.has then kindB p.num p.d && allowedB p p.d else sm p.d zV
noncomputable def mayBe (p : PR) : Bool := nameB p.nm.data.toList && (decide (p.al.length ≤ 8) && (mayAl p && mayDef p))
noncomputable def mayP (p : PR) (g : G) : Bool := mayBe p && (if g.unk then sm g.v zV && (!p.num && decide (p.al.length = 0)) else kindB p.num g.v && allowedB p g.v)
def riseB (l : List ByteArray) : Bool := (List.range (l.length - 1)).all (fun i => Op.bytesLess (l.getD i ⟨#[]⟩).toList (l.getD (i + 1) ⟨#[]⟩).toList)
noncomputable def checkP (L : List PR) : Int := if 6 < L.length then 3 else if riseB (L.map PR.nm) && L.all mayBe then 0 else 2
def findG (L : List G) (s : ByteArray) : Option G := L.find? (fun g => decide (g.nm = s))
def valP (gs : List G) (p : PR) : G := (findG gs p.nm).getD ⟨p.nm, false, p.d⟩
/-- What is wrong with what is given, if the parameters and the names' order may be. -/
noncomputable def bindE (L : List PR) (gs : List G) : ByteArray × Int :=
  if checkP L ≠ 0 then (⟨#[]⟩, checkP L) else if riseB (gs.map G.nm) = false then (⟨#[]⟩, 2) else
  match gs.find? (fun g => !(L.map PR.nm).any (fun n => decide (n = g.nm))) with
  | some g => (g.nm, 140)
  | none => match L.find? (fun p => !mayP p (valP gs p)) with
    | some p => (p.nm, 140)
    | none => (⟨#[]⟩, 0)
def fineL (l : List V) : Prop := l.length ≤ 1000000 ∧ ∀ x ∈ l, sizeV x ≤ 1000000 ∧ fineV x
def fineP (p : PR) : Prop := sizeV p.d ≤ 1000000 ∧ fineV p.d ∧ fineL p.al
def fineG (L : List G) : Prop := L.length ≤ 1000000 ∧ ∀ g ∈ L, sizeV g.v ≤ 1000000 ∧ fineV g.v
def finePs (L : List PR) : Prop := L.length ≤ 1000000 ∧ ∀ p ∈ L, fineP p
end Go.Proofs.YtlamkadllbgamaaGreatDoor
