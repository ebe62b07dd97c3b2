/-
  Rows of given parameters and of parameters that come in.
-/
import Derived.Test.YtlamkadllbgamaaGreatDoorEj
import Derived.Test.YtlamkadllbgamaaGreatDoorGD
import Derived.Carry
import Derived.OpenShut
import Derived.ChangeArms
set_option linter.unusedVariables false
set_option linter.unusedSimpArgs false
namespace Go.Proofs.YtlamkadllbgamaaGreatDoor
open Go.ChangeShapes Go.WideShapes Go.ChangeAt Go.RowKit Go.ChangeMaps

instance : Inhabited G := ⟨zG⟩
instance : Inhabited PR := ⟨⟨⟨#[]⟩, false, false, zV, []⟩⟩
theorem cells9 : Tryz.prog.cellsOf 9 = 1 := by kernel_rfl
theorem cells4 : Tryz.prog.cellsOf 4 = 1 := by kernel_rfl
theorem cellsVs : Tryz.prog.cellsOf 30 = 1 := by kernel_rfl
theorem list3 {α : Type} {l : List α} (h : l.length = 3) : ∃ a b c, l = [a, b, c] := by
  match l, h with
  | [a, b, c], _ => exact ⟨a, b, c, rfl⟩
theorem list5 {α : Type} {l : List α} (h : l.length = 5) : ∃ a b c d e, l = [a, b, c, d, e] := by
  match l, h with
  | [a, b, c, d, e], _ => exact ⟨a, b, c, d, e, rfl⟩
theorem und48 : ∃ f0 f1 f2 : Field, Tryz.prog.underlying 35 = some (.struct #[f0, f1, f2]) ∧ f0.type = 9 ∧ f0.offset = 0 ∧ f1.type = 4 ∧ f1.offset = 1 ∧ f2.type = 33 ∧ f2.offset = 2 :=
  ⟨_, _, _, Tryz.underlying35, rfl, rfl, rfl, rfl, rfl, rfl⟩
theorem undP : ∃ f0 f1 f2 f3 f4 : Field, Tryz.prog.underlying 37 = some (.struct #[f0, f1, f2, f3, f4]) ∧ f0.type = 9 ∧ f0.offset = 0 ∧ f1.type = 4 ∧ f1.offset = 1 ∧ f2.type = 4 ∧ f2.offset = 2 ∧ f3.type = 33 ∧ f3.offset = 3 ∧ f4.type = 30 ∧ f4.offset = 9 :=
  ⟨_, _, _, _, _, Tryz.underlying37, rfl, rfl, rfl, rfl, rfl, rfl, rfl, rfl, rfl, rfl⟩
theorem cells46 : Tryz.prog.cellsOf 33 = 6 := by kernel_rfl
theorem cells48 : Tryz.prog.cellsOf 35 = 8 := by kernel_rfl
theorem cellsP : Tryz.prog.cellsOf 37 = 10 := by kernel_rfl
theorem list8 {α : Type} {l : List α} (h : l.length = 8) : ∃ a b c d e f g i, l = [a, b, c, d, e, f, g, i] := by
  match l, h with
  | [a, b, c, d, e, f, g, i], _ => exact ⟨a, b, c, d, e, f, g, i, rfl⟩
theorem list10 {α : Type} {l : List α} (h : l.length = 10) : ∃ a b c d e f g i j k, l = [a, b, c, d, e, f, g, i, j, k] := by
  match l, h with
  | [a, b, c, d, e, f, g, i, j, k], _ => exact ⟨a, b, c, d, e, f, g, i, j, k, rfl⟩

section
variable {H : Type} {enc : TypeId × Value → H} {w : World} {base : Nat} {spare : Nat → Bool} {held : Bool}
theorem given_cells {n : Nat} {cs : List Value} {x : DataW H × List MemPlace} (h : DataW.trod enc Tryz.prog w base spare held n 35 cs = some x) :
    ∃ (g : G) (c0 c1 c2 c3 c4 c5 : Value), cs = [.string g.nm, .bool g.unk, c0, c1, c2, c3, c4, c5] ∧ isV w g.v (.agg #[c0, c1, c2, c3, c4, c5]) ∧ g.nm.size ≤ maxLen := by
  obtain ⟨f0', f1', f2', hu, t0, o0, t1, o1, t2, o2⟩ := und48
  obtain ⟨xs, m, rfl, hx, hl, hxl, hall⟩ := DataW.trod_struct hu h
  rw [cells48] at hl
  obtain ⟨d0, d1, c0, c1, c2, c3, c4, c5, rfl⟩ := list8 hl
  obtain ⟨a, b, c, rfl⟩ := list3 (l := xs) hxl
  have h0 := hall 0 f0' rfl
  have h1 := hall 1 f1' rfl
  have h2 := hall 2 f2' rfl
  simp only [t0, o0, t1, o1, t2, o2, cells9, cells4, cells46, List.drop_succ_cons, List.drop_zero, List.take_succ_cons, List.take_zero, List.getElem?_cons_zero, List.getElem?_cons_succ] at h0 h1 h2
  obtain ⟨s', e0, f0, hs⟩ := DataW.trod_string Tryz.underlying9 h0
  obtain ⟨r', e1, f1⟩ := DataW.trod_bool Tryz.underlying4 h1
  obtain ⟨X, hX⟩ := open_val m m _ _ (Nat.le_refl _) h2
  simp only [List.cons.injEq, and_true] at e0 e1
  exact ⟨⟨s', r', X⟩, c0, c1, c2, c3, c4, c5, by rw [e0, e1], hX, hs⟩

/-- A row of values. -/
theorem vals_cell {n : Nat} {c4 : Value} {x : DataW H × List MemPlace} (e4 : DataW.trod enc Tryz.prog w base spare held n 30 [c4] = some x) :
    ∃ (l : List V) (a : Addr) (cap : Nat), slv c4 l.length a cap ∧ isVs w l a := by
  rcases DataW.trod_slice Tryz.underlying30 e4 with ⟨h0, _⟩ | ⟨a, len, cap, elems, rest, n', hn', h0, _, _, hlc, hcm, hel, hall, _⟩
  · exact ⟨[], ⟨0, 0, none⟩, 0, ⟨none, by simpa using h0, Nat.le_refl _, by unfold maxLen; omega, fun h => absurd h (by decide)⟩, by unfold isVs; trivial⟩
  · obtain ⟨l, hl, hp⟩ := list_of len (fun i X => ∃ c0 c1 c2 c3 c4 c5, w.cell? (a.add (i * 6)) = some c0 ∧ w.cell? (a.add (i * 6 + 1)) = some c1 ∧ w.cell? (a.add (i * 6 + 2)) = some c2 ∧ w.cell? (a.add (i * 6 + 3)) = some c3 ∧ w.cell? (a.add (i * 6 + 4)) = some c4 ∧ w.cell? (a.add (i * 6 + 5)) = some c5 ∧ isV w X (.agg #[c0, c1, c2, c3, c4, c5])) (fun i hi => by
      have hi2 := hall i hi
      rw [List.getElem?_eq_getElem (by omega)] at hi2
      obtain ⟨ds, hd1, hd2⟩ := Option.bind_eq_some_iff.1 hi2
      rw [show Tryz.prog.cellsOf 33 = 6 by kernel_rfl] at hd1
      obtain ⟨_, hdl, hdc⟩ := World.cells?_some hd1
      obtain ⟨X, hX⟩ := open_val n' n' ds _ (Nat.le_refl _) hd2
      match ds, hdl with
      | [d0, d1, d2, d3, d4, d5], _ =>
        have g0 := hdc 0 (by omega)
        have g1 := hdc 1 (by omega)
        have g2 := hdc 2 (by omega)
        have g3 := hdc 3 (by omega)
        have g4 := hdc 4 (by omega)
        have g5 := hdc 5 (by omega)
        rw [add_add] at g0 g1 g2 g3 g4 g5
        exact ⟨X, d0, d1, d2, d3, d4, d5, g0, g1, g2, g3, g4, g5, hX⟩)
    subst hl
    exact ⟨l, a, cap, ⟨some a, by simpa using h0, hlc, hcm, fun _ => rfl⟩, isVs_of l a hp⟩
theorem param_cells {n : Nat} {cs : List Value} {x : DataW H × List MemPlace} (h : DataW.trod enc Tryz.prog w base spare held n 37 cs = some x) :
    ∃ (p : PR) (c1 c2 c3 c4 c5 c6 c7 c8 c9 : Value), cs = [.string p.nm, c1, c2, c3, c4, c5, c6, c7, c8, c9] ∧ isP w p (.agg #[.string p.nm, c1, c2, c3, c4, c5, c6, c7, c8, c9]) := by
  obtain ⟨f0', f1', f2', f3', f4', hu, t0, o0, t1, o1, t2, o2, t3, o3, t4, o4⟩ := undP
  obtain ⟨xs, m, rfl, hx, hl, hxl, hall⟩ := DataW.trod_struct hu h
  rw [cellsP] at hl
  obtain ⟨d0, d1, d2, c0, c1, c2, c3, c4, c5, c6, rfl⟩ := list10 hl
  obtain ⟨a, b, c, d, e, rfl⟩ := list5 (l := xs) hxl
  have h0 := hall 0 f0' rfl
  have h1 := hall 1 f1' rfl
  have h2 := hall 2 f2' rfl
  have h3 := hall 3 f3' rfl
  have h4 := hall 4 f4' rfl
  simp only [t0, o0, t1, o1, t2, o2, t3, o3, t4, o4, cells9, cells4, cells46, cellsVs, List.drop_succ_cons, List.drop_zero, List.take_succ_cons, List.take_zero, List.getElem?_cons_zero, List.getElem?_cons_succ] at h0 h1 h2 h3 h4
  obtain ⟨s', e0, f0, hs⟩ := DataW.trod_string Tryz.underlying9 h0
  obtain ⟨r', e1, f1⟩ := DataW.trod_bool Tryz.underlying4 h1
  obtain ⟨q', e2, f2⟩ := DataW.trod_bool Tryz.underlying4 h2
  obtain ⟨X, hX⟩ := open_val m m _ _ (Nat.le_refl _) h3
  obtain ⟨l, al, cl, hsl, hvl⟩ := vals_cell h4
  simp only [List.cons.injEq, and_true] at e0 e1 e2
  obtain ⟨k, bb, nn, s, o, m1, c1', o2', m2, c2', e6⟩ := isV_six hX
  simp only [Value.agg.injEq, Array.mk.injEq, List.cons.injEq, and_true] at e6
  obtain ⟨rfl, rfl, rfl, rfl, rfl, rfl⟩ := e6
  obtain ⟨oo, rfl, q1, q2, q3⟩ := hsl
  subst e0 e1 e2
  exact ⟨⟨s', r', q', X, l⟩, _, _, _, _, _, _, _, _, _, rfl, _, _, _, _, _, _, _, _, _, _, _, _, _, rfl, hX, ⟨oo, rfl, q1, q2, q3⟩, hvl, hs⟩

set_option maxRecDepth 100000 in
/-- An argument of type []Given. -/
theorem open_arg_gs {r : Reach} {b0 : Nat} {v : Value} {d : DataW H} {ps : List MemPlace} (hv : Value.okWide Tryz.prog w r b0 23 v) (h : DataW.Trod enc Tryz.prog w base spare held 23 v d ps) : ∃ L : List G, isGs w L v := by
  obtain ⟨o, n0, c0, rfl⟩ := okWide_slice Tryz.underlying23 hv
  obtain ⟨fuel, hf⟩ := h
  have e4 : DataW.trod enc Tryz.prog w base spare held fuel 23 [.slice o n0 c0] = some (d, ps) := by simpa [Value.cells] using hf
  rcases DataW.trod_slice Tryz.underlying23 e4 with ⟨h0, _⟩ | ⟨a, len, cap, elems, rest, n', hn', h0, _, _, hlc, hcm, hel, hall, _⟩
  · exact ⟨[], ⟨0, 0, none⟩, 0, ⟨none, by simpa using h0, Nat.le_refl _, by unfold maxLen; omega, fun h => absurd h (by decide)⟩, fun i hi => absurd hi (by simp)⟩
  · obtain ⟨l, hl, hp⟩ := list_of len (fun i (g : G) => isGat w g (a.add (i * 8))) (fun i hi => by
      have hi2 := hall i hi
      rw [List.getElem?_eq_getElem (by omega)] at hi2
      obtain ⟨ds, hd1, hd2⟩ := Option.bind_eq_some_iff.1 hi2
      rw [cells48] at hd1
      obtain ⟨_, hdl, hdc⟩ := World.cells?_some hd1
      obtain ⟨g, c0, c1, c2, c3, c4, c5, hds, hX, hs⟩ := given_cells hd2
      subst hds
      have g0 := hdc 0 (by omega)
      have g1 := hdc 1 (by omega)
      have g2 := hdc 2 (by omega)
      have g3 := hdc 3 (by omega)
      have g4 := hdc 4 (by omega)
      have g5 := hdc 5 (by omega)
      have g6 := hdc 6 (by omega)
      have g7 := hdc 7 (by omega)
      rw [add_add] at g0 g1 g2 g3 g4 g5 g6 g7
      rw [add_succ _ _ _ (by decide)] at g1 g2 g3 g4 g5 g6 g7
      exact ⟨g, c0, c1, c2, c3, c4, c5, g0, g1, g2, g3, g4, g5, g6, g7, hX, hs⟩)
    subst hl
    exact ⟨l, a, cap, ⟨some a, by simpa using h0, hlc, hcm, fun _ => rfl⟩, hp⟩
set_option maxRecDepth 100000 in
/-- An argument of type []Param. -/
theorem open_arg_ps {r : Reach} {b0 : Nat} {v : Value} {d : DataW H} {ps : List MemPlace} (hv : Value.okWide Tryz.prog w r b0 22 v) (h : DataW.Trod enc Tryz.prog w base spare held 22 v d ps) : ∃ L : List PR, isPs w L v := by
  obtain ⟨o, n0, c0, rfl⟩ := okWide_slice Tryz.underlying22 hv
  obtain ⟨fuel, hf⟩ := h
  have e4 : DataW.trod enc Tryz.prog w base spare held fuel 22 [.slice o n0 c0] = some (d, ps) := by simpa [Value.cells] using hf
  rcases DataW.trod_slice Tryz.underlying22 e4 with ⟨h0, _⟩ | ⟨a, len, cap, elems, rest, n', hn', h0, _, _, hlc, hcm, hel, hall, _⟩
  · exact ⟨[], ⟨0, 0, none⟩, 0, ⟨none, by simpa using h0, Nat.le_refl _, by unfold maxLen; omega, fun h => absurd h (by decide)⟩, fun i hi => absurd hi (by simp)⟩
  · obtain ⟨l, hl, hp⟩ := list_of len (fun i (g : PR) => isPat w g (a.add (i * 10))) (fun i hi => by
      have hi2 := hall i hi
      rw [List.getElem?_eq_getElem (by omega)] at hi2
      obtain ⟨ds, hd1, hd2⟩ := Option.bind_eq_some_iff.1 hi2
      rw [cellsP] at hd1
      obtain ⟨_, hdl, hdc⟩ := World.cells?_some hd1
      obtain ⟨p, c1, c2, c3, c4, c5, c6, c7, c8, c9, hds, hX⟩ := param_cells hd2
      subst hds
      have g0 := hdc 0 (by omega)
      have g1 := hdc 1 (by omega)
      have g2 := hdc 2 (by omega)
      have g3 := hdc 3 (by omega)
      have g4 := hdc 4 (by omega)
      have g5 := hdc 5 (by omega)
      have g6 := hdc 6 (by omega)
      have g7 := hdc 7 (by omega)
      have g8 := hdc 8 (by omega)
      have g9 := hdc 9 (by omega)
      rw [add_add] at g0 g1 g2 g3 g4 g5 g6 g7 g8 g9
      rw [add_succ _ _ _ (by decide)] at g1 g2 g3 g4 g5 g6 g7 g8 g9
      exact ⟨p, _, _, _, _, _, _, _, _, _, _, g0, g1, g2, g3, g4, g5, g6, g7, g8, g9, hX⟩)
    subst hl
    exact ⟨l, a, cap, ⟨some a, by simpa using h0, hlc, hcm, fun _ => rfl⟩, hp⟩
end
theorem paramsAgain_at (v : Value) (L : List PR) (u : Value) (gs : List G) (dr : Int) (w : World) (hE : Env w) (h : isPs w L v) (h' : isGs w gs u) (wm : (Lit.int IntKind.i64 dr).wf = true) :
    Calls Tryz.prog 3 #[v, u, .int .i64 dr] w fun e w' => e = .returned (.bool true) ∧ Below w.heap.size w w' :=
  paramsAgain_any L gs dr v u w hE h h' (by simp [Lit.wf, IntKind.min, IntKind.max, IntKind.bits, IntKind.signed] at wm; omega)
end Go.Proofs.YtlamkadllbgamaaGreatDoor
