/-
  What the rows' condition on the package variables gives the walks: unicode/utf8's two tables. · What the rows' condition on the package variables gives the walks: schema's rows, beside utf8's two tables. · Rows of given properties that come in.
-/
import Derived.Test.YtkigeegahepnaaaGreatDoorRows
import Derived.Test.YtkigeegahepnaaaGreatDoorGG
import Derived.Lib.LaidU8T
import Derived.PinnedBridge
import Derived.ProofKit
import Derived.OpenShut
import Derived.ShutString
import Derived.ChangeOld
import Derived.LaidMore
import Derived.Lay
import Derived.Test.YtkigeegahepnaaaGreatDoorGK
import Derived.ChangeArms
import Derived.Test.YtkigeegahepnaaaGreatDoorGD
import Derived.Carry
set_option linter.unusedVariables false
set_option linter.unusedSimpArgs false
namespace Go.Proofs.YtkigeegahepnaaaGreatDoor
open Go.ChangeShapes Go.WideShapes Go.ChangeAt Go.RowKit Go.Shelf

theorem accept_eq : (Rows.laid_unicode_utf8_acceptRanges : DataW Unit) = Lib.acceptData := by kernel_rfl
theorem first_eq : Rows.laid_unicode_utf8_first = Lib.firstData := Pinned.utf8First_eq
theorem u8x : U8Extra Tryz.prog Tryz.lays196_ren := {
  n3 := by kernel_rfl
  n4 := by kernel_rfl
  y3 := by kernel_rfl
  y4 := by kernel_rfl
  c5 := by kernel_rfl
  c119 := by kernel_rfl
  c138 := by kernel_rfl }
theorem env_of_laid {laid : List (String × DataW Unit)} (hm : ("unicode/utf8.first", Rows.laid_unicode_utf8_first) ∈ laid) (hm2 : ("unicode/utf8.acceptRanges", Rows.laid_unicode_utf8_acceptRanges) ∈ laid)
    {W : World} (h : laidMet Tryz.prog laid W) : Env W := by
  have r1 := Lib.laidMet.reads h hm
  have r2 := Lib.laidMet.reads h hm2
  rw [first_eq] at r1
  rw [accept_eq] at r2
  have ht : Lib.Utf8Tabs 1 2 W := utf8Tabs_of_readsT (U8Types.of196 Tryz.lays196) u8x r1 r2
  have h2 := World.block_lt_of_cell? _ _ (ht.2 0 (by decide)).1
  exact ⟨by simp at h2; omega, ht⟩
end Go.Proofs.YtkigeegahepnaaaGreatDoor

namespace Go.Proofs.YtkigeegahepnaaaGreatDoor
open Go.ChangeShapes Go.WideShapes Go.ChangeAt Go.RowKit

theorem cells9 : Tryz.prog.cellsOf 9 = 1 := by kernel_rfl
theorem cells29 : Tryz.prog.cellsOf 29 = 1 := by kernel_rfl
theorem cells4 : Tryz.prog.cellsOf 4 = 1 := by kernel_rfl
theorem cells31 : Tryz.prog.cellsOf 125 = 3 := by kernel_rfl
theorem cells72 : Tryz.prog.cellsOf 148 = 4 := by kernel_rfl
theorem cells73 : Tryz.prog.cellsOf 149 = 44 := by kernel_rfl
theorem list3 {α : Type} {l : List α} (h : l.length = 3) : ∃ a b c, l = [a, b, c] := by
  match l, h with
  | [a, b, c], _ => exact ⟨a, b, c, rfl⟩
theorem list2 {α : Type} {l : List α} (h : l.length = 2) : ∃ a b, l = [a, b] := by
  match l, h with
  | [a, b], _ => exact ⟨a, b, rfl⟩
theorem list4 {α : Type} {l : List α} (h : l.length = 4) : ∃ a b c d, l = [a, b, c, d] := by
  match l, h with
  | [a, b, c, d], _ => exact ⟨a, b, c, d, rfl⟩

theorem und31 : ∃ f0 f1 f2 : Field, Tryz.prog.underlying 125 = some (.struct #[f0, f1, f2]) ∧ f0.type = 9 ∧ f0.offset = 0 ∧ f1.type = 29 ∧ f1.offset = 1 ∧ f2.type = 4 ∧ f2.offset = 2 :=
  ⟨_, _, _, Tryz.underlying125, rfl, rfl, rfl, rfl, rfl, rfl⟩
theorem und72 : ∃ f0 f1 : Field, Tryz.prog.underlying 148 = some (.struct #[f0, f1]) ∧ f0.type = 9 ∧ f0.offset = 0 ∧ f1.type = 125 ∧ f1.offset = 1 :=
  ⟨_, _, Tryz.underlying148, rfl, rfl, rfl, rfl⟩
section
variable {H : Type} {enc : TypeId × Value → H} {W : World} {base : Nat} {sp : Nat → Bool} {held : Bool}
theorem spec_cells {n : Nat} {cs : List Value} {s : List UInt8} {q : Int} {r : Bool} {p : List MemPlace} (h : DataW.trod enc Tryz.prog W base sp held n 125 cs = some (.agg [.lit (.string s), .lit (.int .i8 q), .lit (.bool r)], p)) :
    cs = [.string ⟨s.toArray⟩, .int .i8 q, .bool r] := by
  obtain ⟨f0', f1', f2', hu, t0, o0, t1, o1, t2, o2⟩ := und31
  obtain ⟨xs, m, rfl, hx, hl, hxl, hall⟩ := DataW.trod_struct hu h
  rw [cells31] at hl
  obtain ⟨c0, c1, c2, rfl⟩ := list3 hl
  obtain ⟨⟨a, pa⟩, ⟨b, pb⟩, ⟨c, pc⟩, rfl⟩ := list3 (l := xs) hxl
  simp only [List.map_cons, List.map_nil, Prod.mk.injEq, DataW.agg.injEq, List.cons.injEq, and_true] at hx
  obtain ⟨⟨rfl, rfl, rfl⟩, _⟩ := hx
  have h0 := hall 0 f0' rfl
  have h1 := hall 1 f1' rfl
  have h2 := hall 2 f2' rfl
  simp only [t0, o0, t1, o1, t2, o2, cells9, cells29, cells4, List.drop_succ_cons, List.drop_zero, List.take_succ_cons, List.take_zero, List.getElem?_cons_zero, List.getElem?_cons_succ] at h0 h1 h2
  obtain ⟨s', e0, f0, _⟩ := DataW.trod_string Tryz.underlying9 h0
  obtain ⟨q', e1, f1, _⟩ := DataW.trod_int Tryz.underlying29 h1
  obtain ⟨r', e2, f2⟩ := DataW.trod_bool Tryz.underlying4 h2
  simp only [List.cons.injEq, and_true] at e0 e1 e2
  simp only [Prod.mk.injEq, DataW.lit.injEq, Lit.string.injEq, Lit.int.injEq, Lit.bool.injEq, true_and] at f0 f1 f2
  rw [e0, e1, e2, f0.1, f1.1, f2.1]
theorem row_cells {n : Nat} {cs : List Value} {k s : List UInt8} {q : Int} {r : Bool} {p : List MemPlace} (h : DataW.trod enc Tryz.prog W base sp held n 148 cs = some (.agg [.lit (.string k), .agg [.lit (.string s), .lit (.int .i8 q), .lit (.bool r)]], p)) :
    cs = [.string ⟨k.toArray⟩, .string ⟨s.toArray⟩, .int .i8 q, .bool r] := by
  obtain ⟨f0', f1', hu, t0, o0, t1, o1⟩ := und72
  obtain ⟨xs, m, rfl, hx, hl, hxl, hall⟩ := DataW.trod_struct hu h
  rw [cells72] at hl
  obtain ⟨c0, c1, c2, c3, rfl⟩ := list4 hl
  obtain ⟨⟨a, pa⟩, ⟨b, pb⟩, rfl⟩ := list2 (l := xs) hxl
  simp only [List.map_cons, List.map_nil, Prod.mk.injEq, DataW.agg.injEq, List.cons.injEq, and_true] at hx
  obtain ⟨⟨rfl, rfl⟩, _⟩ := hx
  have h0 := hall 0 f0' rfl
  have h1 := hall 1 f1' rfl
  simp only [t0, o0, t1, o1, cells9, cells31, List.drop_succ_cons, List.drop_zero, List.take_succ_cons, List.take_zero, List.getElem?_cons_zero, List.getElem?_cons_succ] at h0 h1
  obtain ⟨s', e0, f0, _⟩ := DataW.trod_string Tryz.underlying9 h0
  have e1 := spec_cells h1
  simp only [List.cons.injEq, and_true] at e0 e1
  simp only [Prod.mk.injEq, DataW.lit.injEq, Lit.string.injEq] at f0
  rw [e0, e1.1, e1.2.1, e1.2.2, f0.1]
end

theorem four_rows : ∀ (rs : List (List Value)) (l : List Value), l.length = rs.length * 4 → (∀ i (h : i < rs.length), (l.drop (i * 4)).take 4 = rs[i]) → l = rs.flatten
  | [], l, hl, _ => by simpa using List.eq_nil_of_length_eq_zero (by simpa using hl)
  | r :: t, l, hl, h => by
    have h0 := h 0 (by simp)
    simp only [Nat.zero_mul, List.drop_zero, List.getElem_cons_zero] at h0
    have ht := four_rows t (l.drop 4) (by simp only [List.length_drop, List.length_cons] at *; omega) (fun i hi => by
      have := h (i + 1) (by simpa using hi)
      simp only [List.getElem_cons_succ] at this
      rw [← this, List.drop_drop]
      congr 2
      omega)
    rw [List.flatten_cons, ← ht, ← h0, List.take_append_drop]
def encD (x : RwS) : DataW Unit := .agg [.lit (.string x.K.data.toList), .agg [.lit (.string x.nm.data.toList), .lit (.int .i8 x.q), .lit (.bool x.r)]]
theorem laid_eq : (Rows.laid_hoarding_schema_rows : DataW Unit) = .agg (rowsL.map encD) := by kernel_rfl
theorem rows_of_laid {laid : List (String × DataW Unit)} (hm : ("hoarding/schema.rows", Rows.laid_hoarding_schema_rows) ∈ laid) {W : World} (h : laidMet Tryz.prog laid W) : RowsE W := by
  obtain ⟨g, t, cs, fuel, p, hg, ht, hv, htr⟩ := Lib.laidMet.reads h hm
  obtain rfl : g = 0 := (Option.some.inj ((show Tryz.prog.globalNamed "hoarding/schema.rows" = some 0 by kernel_rfl).symm.trans hg)).symm
  obtain rfl : t = 149 := (Option.some.inj ((show (Tryz.prog.globals[0]?).map (·.type) = some 149 by kernel_rfl).symm.trans ht)).symm
  obtain ⟨xs, m, rfl, hx, hl, hxl, hall⟩ := DataW.trod_array Tryz.underlying149 htr
  rw [cells73] at hl
  have hcs : cs.toList = rowsV := by
    rw [laid_eq] at hx
    have hx1 : rowsL.map encD = xs.map (·.1) := by simpa using congrArg (fun z => match z with | (DataW.agg l, _) => l | _ => []) hx
    have hr : rowsV = (rowsL.map encRW).flatten := by unfold rowsV; rw [List.flatMap_def]
    rw [hr]
    refine four_rows _ _ (by rw [hl]; rfl) (fun i hi => ?_)
    have hi' : i < 11 := by simpa [rows_len] using hi
    have h1 := hall i hi'
    rw [cells72] at h1
    have hxi : i < xs.length := by rw [hxl]; exact hi'
    rw [List.getElem?_eq_getElem hxi] at h1
    have h2 : xs[i].1 = encD (rowsL[i]'(by rw [rows_len]; exact hi')) := by
      have := congrArg (·[i]?) hx1
      simp only [List.getElem?_map, List.getElem?_eq_getElem hxi, List.getElem?_eq_getElem (show i < rowsL.length by rw [rows_len]; exact hi'), Option.map_some] at this
      exact (Option.some.inj this).symm
    rw [show xs[i] = (xs[i].1, xs[i].2) from rfl, h2] at h1
    have h3 := row_cells h1
    rw [h3, List.getElem_map]
    rfl
  unfold World.var? at hv
  rw [hg] at hv
  simp only [Option.bind_some] at hv
  cases ho : W.heap[0]? with
  | none => rw [ho] at hv; cases hv
  | some o =>
    rw [ho] at hv
    cases o with
    | cells c t2 fr =>
      obtain rfl : c = cs := by simpa using hv
      refine ⟨t2, fr, ?_⟩
      rw [ho, ← hcs]
    | _ => cases hv
end Go.Proofs.YtkigeegahepnaaaGreatDoor

namespace Go.Proofs.YtkigeegahepnaaaGreatDoor
open Go.ChangeShapes Go.WideShapes Go.ChangeAt Go.RowKit Go.ChangeMaps

instance : Inhabited G := ⟨zG⟩
theorem und48 : ∃ f0 f1 f2 : Field, Tryz.prog.underlying 99 = some (.struct #[f0, f1, f2]) ∧ f0.type = 9 ∧ f0.offset = 0 ∧ f1.type = 4 ∧ f1.offset = 1 ∧ f2.type = 97 ∧ f2.offset = 2 :=
  ⟨_, _, _, Tryz.underlying99, rfl, rfl, rfl, rfl, rfl, rfl⟩
theorem cells46 : Tryz.prog.cellsOf 97 = 6 := by kernel_rfl
theorem cells48 : Tryz.prog.cellsOf 99 = 8 := by kernel_rfl
theorem list8 {α : Type} {l : List α} (h : l.length = 8) : ∃ a b c d e f g i, l = [a, b, c, d, e, f, g, i] := by
  match l, h with
  | [a, b, c, d, e, f, g, i], _ => exact ⟨a, b, c, d, e, f, g, i, rfl⟩

section
variable {H : Type} {enc : TypeId × Value → H} {w : World} {base : Nat} {spare : Nat → Bool} {held : Bool}
theorem given_cells {n : Nat} {cs : List Value} {x : DataW H × List MemPlace} (h : DataW.trod enc Tryz.prog w base spare held n 99 cs = some x) :
    ∃ (g : G) (c0 c1 c2 c3 c4 c5 : Value), cs = [.string g.nm, .bool g.unk, c0, c1, c2, c3, c4, c5] ∧ isV w g.v (.agg #[c0, c1, c2, c3, c4, c5]) ∧ g.nm.size ≤ maxLen := by
  obtain ⟨f0', f1', f2', hu, t0, o0, t1, o1, t2, o2⟩ := und48
  obtain ⟨xs, m, rfl, hx, hl, hxl, hall⟩ := DataW.trod_struct hu h
  rw [cells48] at hl
  obtain ⟨d0, d1, c0, c1, c2, c3, c4, c5, rfl⟩ := list8 hl
  obtain ⟨a, b, c, rfl⟩ := list3 (l := xs) hxl
  have h0 := hall 0 f0' rfl
  have h1 := hall 1 f1' rfl
  have h2 := hall 2 f2' rfl
  simp only [t0, o0, t1, o1, t2, o2, cells9, cells4, cells46, List.drop_succ_cons, List.drop_zero, List.take_succ_cons, List.take_zero, List.getElem?_cons_zero, List.getElem?_cons_succ] at h0 h1 h2
  obtain ⟨s', e0, f0, hs⟩ := DataW.trod_string Tryz.underlying9 h0
  obtain ⟨r', e1, f1⟩ := DataW.trod_bool Tryz.underlying4 h1
  obtain ⟨X, hX⟩ := open_val m m _ _ (Nat.le_refl _) h2
  simp only [List.cons.injEq, and_true] at e0 e1
  exact ⟨⟨s', r', X⟩, c0, c1, c2, c3, c4, c5, by rw [e0, e1], hX, hs⟩

set_option maxRecDepth 100000 in
/-- An argument of type []Given. -/
theorem open_arg_gs {r : Reach} {b0 : Nat} {v : Value} {d : DataW H} {ps : List MemPlace} (hv : Value.okWide Tryz.prog w r b0 30 v) (h : DataW.Trod enc Tryz.prog w base spare held 30 v d ps) : ∃ L : List G, isGs w L v := by
  obtain ⟨o, n0, c0, rfl⟩ := okWide_slice Tryz.underlying30 hv
  obtain ⟨fuel, hf⟩ := h
  have e4 : DataW.trod enc Tryz.prog w base spare held fuel 30 [.slice o n0 c0] = some (d, ps) := by simpa [Value.cells] using hf
  rcases DataW.trod_slice Tryz.underlying30 e4 with ⟨h0, _⟩ | ⟨a, len, cap, elems, rest, n', hn', h0, _, _, hlc, hcm, hel, hall, _⟩
  · exact ⟨[], ⟨0, 0, none⟩, 0, ⟨none, by simpa using h0, Nat.le_refl _, by unfold maxLen; omega, fun h => absurd h (by decide)⟩, fun i hi => absurd hi (by simp)⟩
  · obtain ⟨l, hl, hp⟩ := list_of len (fun i (g : G) => isGat w g (a.add (i * 8))) (fun i hi => by
      have hi2 := hall i hi
      rw [List.getElem?_eq_getElem (by omega)] at hi2
      obtain ⟨ds, hd1, hd2⟩ := Option.bind_eq_some_iff.1 hi2
      rw [cells48] at hd1
      obtain ⟨_, hdl, hdc⟩ := World.cells?_some hd1
      obtain ⟨g, c0, c1, c2, c3, c4, c5, hds, hX, hs⟩ := given_cells hd2
      subst hds
      have g0 := hdc 0 (by omega)
      have g1 := hdc 1 (by omega)
      have g2 := hdc 2 (by omega)
      have g3 := hdc 3 (by omega)
      have g4 := hdc 4 (by omega)
      have g5 := hdc 5 (by omega)
      have g6 := hdc 6 (by omega)
      have g7 := hdc 7 (by omega)
      rw [add_add] at g0 g1 g2 g3 g4 g5 g6 g7
      rw [add_succ _ _ _ (by decide)] at g1 g2 g3 g4 g5 g6 g7
      exact ⟨g, c0, c1, c2, c3, c4, c5, g0, g1, g2, g3, g4, g5, g6, g7, hX, hs⟩)
    subst hl
    exact ⟨l, a, cap, ⟨some a, by simpa using h0, hlc, hcm, fun _ => rfl⟩, hp⟩
variable {P : Program}
theorem trodAll_five {t t' t'' t3 t4 : TypeId} {args : Array Value} {ds : List (DataW H)} {ps : List MemPlace} (h : DataW.TrodAll enc P w base spare held [t, t', t'', t3, t4] args.toList ds ps) :
    ∃ v v' v'' v3 v4 d d' d'' d3 d4 p p' p'' p3 p4, args = #[v, v', v'', v3, v4] ∧ ds = [d, d', d'', d3, d4] ∧ ps = p ++ p' ++ p'' ++ p3 ++ p4 ∧ DataW.Trod enc P w base spare held t v d p ∧ DataW.Trod enc P w base spare held t' v' d' p' ∧ DataW.Trod enc P w base spare held t'' v'' d'' p'' ∧ DataW.Trod enc P w base spare held t3 v3 d3 p3 ∧ DataW.Trod enc P w base spare held t4 v4 d4 p4 := by
  obtain ⟨v, vs, d, ds', p, q, hargs, rfl, rfl, hd, hrest⟩ := trodAll_cons h
  obtain ⟨v', vs', d', ds'', p', q', rfl, rfl, rfl, hd', hrest'⟩ := trodAll_cons hrest
  obtain ⟨v'', vs'', d'', ds''', p'', q'', rfl, rfl, rfl, hd'', hrest''⟩ := trodAll_cons hrest'
  obtain ⟨v3, vs3, d3, ds3, p3, q3, rfl, rfl, rfl, hd3, hrest3⟩ := trodAll_cons hrest''
  obtain ⟨v4, vs4, d4, ds4, p4, q4, rfl, rfl, rfl, hd4, hrest4⟩ := trodAll_cons hrest3
  obtain ⟨rfl, rfl, rfl⟩ := trodAll_nil hrest4
  exact ⟨v, v', v'', v3, v4, d, d', d'', d3, d4, p, p', p'', p3, p4, by cases args; simp_all, rfl, by simp, hd, hd', hd'', hd3, hd4⟩
end
end Go.Proofs.YtkigeegahepnaaaGreatDoor
