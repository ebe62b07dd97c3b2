/-
  Rows of rows of properties, rows of bools that come in. · CloudBad, plain.
-/
import Derived.Test.YtkigeegahepnaaaGreatDoorHF
import Derived.Test.YtkigeegahepnaaaGreatDoorHJ
set_option linter.unusedVariables false
set_option linter.unusedSimpArgs false
namespace Go.Proofs.YtkigeegahepnaaaGreatDoor
open Go.ChangeShapes Go.WideShapes Go.ChangeAt Go.RowKit Go.ChangeMaps

def isGss (W : World) (LL : List (List G)) (v : Value) : Prop := ∃ a cap, slv v LL.length a cap ∧ ∀ i (h : i < LL.length), ∃ pv, W.cell? (a.add (i * 1)) = some pv ∧ isGs W LL[i] pv
def isBs (W : World) (l : List Bool) (v : Value) : Prop := ∃ a cap, slv v l.length a cap ∧ ∀ i (h : i < l.length), W.cell? (a.add (i * 1)) = some (.bool l[i])
theorem isGss_below {W W' : World} (hb : Below W.heap.size W W') {LL : List (List G)} {v : Value} (h : isGss W LL v) : isGss W' LL v := by
  obtain ⟨a, cap, h1, h2⟩ := h
  exact ⟨a, cap, h1, fun i hi => by
    obtain ⟨pv, q1, q2⟩ := h2 i hi
    exact ⟨pv, cell_below hb _ _ q1, isGs_below hb q2⟩⟩
theorem isBs_below {W W' : World} (hb : Below W.heap.size W W') {l : List Bool} {v : Value} (h : isBs W l v) : isBs W' l v := by
  obtain ⟨a, cap, h1, h2⟩ := h
  exact ⟨a, cap, h1, fun i hi => cell_below hb _ _ (h2 i hi)⟩
theorem cellsBool : Tryz.prog.cellsOf 4 = 1 := by kernel_rfl
section
variable {H : Type} {enc : TypeId × Value → H} {w : World} {base : Nat} {spare : Nat → Bool} {held : Bool}
set_option maxRecDepth 100000 in
/-- An argument of type [][]api.Given. -/
theorem open_arg_gss {r : Reach} {b0 : Nat} {v : Value} {d : DataW H} {ps : List MemPlace} (hv : Value.okWide Tryz.prog w r b0 62 v) (h : DataW.Trod enc Tryz.prog w base spare held 62 v d ps) : ∃ LL : List (List G), isGss w LL v := by
  obtain ⟨o, n0, c0, rfl⟩ := okWide_slice Tryz.underlying62 hv
  obtain ⟨fuel, hf⟩ := h
  have e4 : DataW.trod enc Tryz.prog w base spare held fuel 62 [.slice o n0 c0] = some (d, ps) := by simpa [Value.cells] using hf
  rcases DataW.trod_slice Tryz.underlying62 e4 with ⟨h0, _⟩ | ⟨a, len, cap, elems, rest, n', hn', h0, _, _, hlc, hcm, hel, hall, _⟩
  · exact ⟨[], ⟨0, 0, none⟩, 0, ⟨none, by simpa using h0, Nat.le_refl _, by unfold maxLen; omega, fun h => absurd h (by decide)⟩, fun i hi => absurd hi (by simp)⟩
  · obtain ⟨l, hl, hp⟩ := list_of len (fun i (X : List G) => ∃ pv, w.cell? (a.add (i * 1)) = some pv ∧ isGs w X pv) (fun i hi => by
      have hi2 := hall i hi
      rw [List.getElem?_eq_getElem (by omega)] at hi2
      obtain ⟨ds, hd1, hd2⟩ := Option.bind_eq_some_iff.1 hi2
      rw [cellsGs] at hd1
      obtain ⟨_, hdl, hdc⟩ := World.cells?_some hd1
      obtain ⟨x, rfl⟩ : ∃ x, ds = [x] := by
        match ds, hdl with
        | [x], _ => exact ⟨x, rfl⟩
      have g0 := hdc 0 (by omega)
      rw [add_add] at g0
      obtain ⟨L, hL⟩ := open_gs hd2
      exact ⟨L, x, g0, hL⟩)
    subst hl
    exact ⟨l, a, cap, ⟨some a, by simpa using h0, hlc, hcm, fun _ => rfl⟩, hp⟩
set_option maxRecDepth 100000 in
/-- An argument of type []bool. -/
theorem open_arg_bs {r : Reach} {b0 : Nat} {v : Value} {d : DataW H} {ps : List MemPlace} (hv : Value.okWide Tryz.prog w r b0 63 v) (h : DataW.Trod enc Tryz.prog w base spare held 63 v d ps) : ∃ l : List Bool, isBs w l v := by
  obtain ⟨o, n0, c0, rfl⟩ := okWide_slice Tryz.underlying63 hv
  obtain ⟨fuel, hf⟩ := h
  have e4 : DataW.trod enc Tryz.prog w base spare held fuel 63 [.slice o n0 c0] = some (d, ps) := by simpa [Value.cells] using hf
  rcases DataW.trod_slice Tryz.underlying63 e4 with ⟨h0, _⟩ | ⟨a, len, cap, elems, rest, n', hn', h0, _, _, hlc, hcm, hel, hall, _⟩
  · exact ⟨[], ⟨0, 0, none⟩, 0, ⟨none, by simpa using h0, Nat.le_refl _, by unfold maxLen; omega, fun h => absurd h (by decide)⟩, fun i hi => absurd hi (by simp)⟩
  · obtain ⟨l, hl, hp⟩ := list_of len (fun i (X : Bool) => w.cell? (a.add (i * 1)) = some (.bool X)) (fun i hi => by
      have hi2 := hall i hi
      rw [List.getElem?_eq_getElem (by omega)] at hi2
      obtain ⟨ds, hd1, hd2⟩ := Option.bind_eq_some_iff.1 hi2
      rw [cellsBool] at hd1
      obtain ⟨_, hdl, hdc⟩ := World.cells?_some hd1
      obtain ⟨x, rfl⟩ : ∃ x, ds = [x] := by
        match ds, hdl with
        | [x], _ => exact ⟨x, rfl⟩
      have g0 := hdc 0 (by omega)
      rw [add_add] at g0
      obtain ⟨b, e0, _⟩ := DataW.trod_bool Tryz.underlying4 hd2
      simp only [List.cons.injEq, and_true] at e0
      exact ⟨b, by rw [← e0]; exact g0⟩)
    subst hl
    exact ⟨l, a, cap, ⟨some a, by simpa using h0, hlc, hcm, fun _ => rfl⟩, hp⟩
end
end Go.Proofs.YtkigeegahepnaaaGreatDoor

namespace Go.Proofs.YtkigeegahepnaaaGreatDoor
open Go.RowKit Go.Maps Go.Deep

def callB (j : Nat) (ps : List G) : Cl := ⟨(j : Int) + 1, 0, ⟨#[]⟩, ⟨#[78, 111, 100, 101]⟩, ps⟩
theorem fine_callB {j : Nat} (hj : j ≤ 1000) {ps : List G} (h : greatG ps = false) : fineX (callB j ps) := ⟨h, by show (4 : Nat) ≤ 200; decide, by show (0 : Nat) ≤ 200; decide, ⟨by show (-9223372036854775808 : Int) ≤ (j : Int) + 1; omega, by show (j : Int) + 1 ≤ 9223372036854775807; omega⟩, by show (-128 : Int) ≤ 0 ∧ (0 : Int) ≤ 127; omega⟩
structure BI (c d : CSt) (j : Nat) : Prop where
  g1 : goodC c j
  g2 : goodC d j
  f1 : c.fl = []
  f2 : d.fl = []
  s : c.s = d.s
  t1 : ∀ p ∈ c.L, p.1.tok ≤ j
  t2 : ∀ p ∈ d.L, p.1.tok ≤ j
theorem BI.mono {c d : CSt} {j : Nat} (h : BI c d j) : BI c d (j + 1) :=
  ⟨h.g1.mono (Nat.le_succ j), h.g2.mono (Nat.le_succ j), h.f1, h.f2, h.s, fun p hp => by have := h.t1 p hp; omega, fun p hp => by have := h.t2 p hp; omega⟩
theorem BI.zero : BI zC zC 0 := ⟨good_zC 0, good_zC 0, rfl, rfl, rfl, fun p hp => absurd (show p ∈ ([] : List (Cl × An)) from hp) List.not_mem_nil, fun p hp => absurd (show p ∈ ([] : List (Cl × An)) from hp) List.not_mem_nil⟩
/-- One that is alone in flight. -/
theorem alone {c : CSt} {n : Nat} (hg : goodC c n) (hf : c.fl = []) {x : Cl} (hx : fineX x) (hw : wrongC x = 0) (hn : ∀ p ∈ c.L, p.1.tok ≠ x.tok) (well : Bool) :
    (submitC c x).2 = 0 ∧ (endC (submitC c x).1 0 well).1.fl = [] ∧ (endC (submitC c x).1 0 well).1.s = (endA c.s x well).1 ∧ ∀ p ∈ (endC (submitC c x).1 0 well).1.L, p ∈ c.L ∨ p.1 = x := by
  have hf0 := findC_none.2 hn
  have hs : submitC c x = (⟨c.s, c.L ++ [(x, zAn)], [x.tok]⟩, 0) := by
    rcases submit_new (c := c) (x := x) (by rw [hf0]; rfl) with ⟨-, h⟩ | ⟨h, -⟩
    · rw [h, hf]; rfl
    · exact absurd hw h
  have hg1 := good_submit hg hx
  rw [hs] at hg1
  have hfind : findC (⟨c.s, c.L ++ [(x, zAn)], [x.tok]⟩ : CSt).L ((⟨c.s, c.L ++ [(x, zAn)], [x.tok]⟩ : CSt).fl[0]'(by simp)) = some (x, zAn) := by
    show findC (c.L ++ [(x, zAn)]) x.tok = _
    rw [findC_snoc, hf0, Option.none_or, if_pos rfl]
  have he := endC_good hg1 (i := 0) (by simp) well hfind
  rw [hs]
  rw [show ((0 : Nat) : Int) = 0 from rfl] at he
  rw [he]
  refine ⟨rfl, rfl, rfl, fun p hp => ?_⟩
  have hp' : p ∈ setA (c.L ++ [(x, zAn)]) x.tok (endA c.s x well).2 := hp
  rcases (mem_setA hg1.uniq).1 hp' with ⟨h1, h2⟩ | ⟨h1, h2, q, hq, e⟩
  · rcases List.mem_append.1 h1 with h1 | h1
    · exact .inl h1
    · rw [List.mem_singleton.1 h1]; exact .inr rfl
  · rcases List.mem_append.1 hq with hq | hq
    · exact absurd (by rw [e, h1]) (hn q hq)
    · rw [List.mem_singleton.1 hq] at e; exact .inr e.symm
theorem BI.wrong {c d : CSt} {j : Nat} (h : BI c d j) {x : Cl} (hw : wrongC x ≠ 0) : submitC c x = (c, wrongC x) := by
  unfold submitC
  rw [if_neg hw]
theorem BI.bad {c d : CSt} {j : Nat} (h : BI c d j) (hj : j < 1000) {ps : List G} (hx : fineX (callB j ps)) (hw : wrongC (callB j ps) = 0) : BI (endC (submitC c (callB j ps)).1 0 false).1 d (j + 1) := by
  obtain ⟨a1, a2, a3, a4⟩ := alone h.g1 h.f1 hx hw (fun p hp e => by have := h.t1 p hp; rw [e] at this; change (j : Int) + 1 ≤ j at this; omega) false
  refine ⟨good_end (by omega) (good_submit h.g1 hx) _ _, h.g2.mono (Nat.le_succ j), a2, h.f2, a3.trans h.s, fun p hp => ?_, fun p hp => by have := h.t2 p hp; omega⟩
  rcases a4 p hp with h1 | h1
  · have := h.t1 p h1; omega
  · rw [h1]; show (j : Int) + 1 ≤ _; omega
theorem BI.good {c d : CSt} {j : Nat} (h : BI c d j) (hj : j < 1000) {ps : List G} (hx : fineX (callB j ps)) (hw : wrongC (callB j ps) = 0) : BI (endC (submitC c (callB j ps)).1 0 true).1 (endC (submitC d (callB j ps)).1 0 true).1 (j + 1) := by
  obtain ⟨a1, a2, a3, a4⟩ := alone h.g1 h.f1 hx hw (fun p hp e => by have := h.t1 p hp; rw [e] at this; change (j : Int) + 1 ≤ j at this; omega) true
  obtain ⟨b1, b2, b3, b4⟩ := alone h.g2 h.f2 hx hw (fun p hp e => by have := h.t2 p hp; rw [e] at this; change (j : Int) + 1 ≤ j at this; omega) true
  refine ⟨good_end (by omega) (good_submit h.g1 hx) _ _, good_end (by omega) (good_submit h.g2 hx) _ _, a2, b2, by rw [a3, b3, h.s], fun p hp => ?_, fun p hp => ?_⟩
  · rcases a4 p hp with h1 | h1
    · have := h.t1 p h1; omega
    · rw [h1]; show (j : Int) + 1 ≤ _; omega
  · rcases b4 p hp with h1 | h1
    · have := h.t2 p h1; omega
    · rw [h1]; show (j : Int) + 1 ≤ _; omega
end Go.Proofs.YtkigeegahepnaaaGreatDoor
