/-
  What arguments of type []Act read as; great.
-/
import Derived.Test.YtbjdbphnccdpbaaJr
set_option linter.unusedVariables false
namespace Go.Proofs.Ytbjdbphnccdpbaa
open Go.RowKit Go.ChangeShapes Go.WideShapes Go.Deep Go.Lib Go.Shelf

/-- An act. -/
structure AC where
  d : Int
  b : List UInt8
  L : List (List UInt8)
  n : Int
instance : Inhabited AC := ⟨⟨0, [], [], 0⟩⟩
def slv (v : Value) (n : Nat) (a : Addr) (cap : Nat) : Prop := ∃ o, v = .slice o n cap ∧ n ≤ cap ∧ cap ≤ maxLen ∧ (0 < n → o = some a)
def isAs (W : World) (l : List AC) (a : Addr) : Prop := ∀ i (h : i < l.length), ∃ c1 c2, W.cell? (a.add (i * 4)) = some (.int .i64 l[i].d) ∧ W.cell? (a.add (i * 4 + 1)) = some c1 ∧ W.cell? (a.add (i * 4 + 2)) = some c2 ∧ W.cell? (a.add (i * 4 + 3)) = some (.int .i64 l[i].n) ∧ rd W l[i].b c1 ∧ rds W l[i].L c2
set_option maxRecDepth 100000 in
set_option maxHeartbeats 1000000 in
theorem open_rds {H : Type} {enc : TypeId × Value → H} {w : World} {base : Nat} {spare : Nat → Bool} {held : Bool} {fuel : Nat} {c : Value} {y : DataW H × List MemPlace} (h : DataW.trod enc Try.prog w base spare held fuel 28 [c] = some y) : ∃ L : List (List UInt8), rds w L c := by
  rcases DataW.trod_slice Try.underlying28 h with ⟨h0, _⟩ | ⟨a, len, cap, elems, rest, n', hn', h0, _, _, hlc, hcm, hel, hall, _⟩
  · obtain rfl : c = .slice none 0 0 := by simpa using h0
    exact ⟨[], none, ⟨0, 0, none⟩, 0, rfl, Nat.le_refl _, by unfold maxLen; omega, fun h => absurd h (by decide), fun i hi => absurd hi (by simp)⟩
  · obtain ⟨l, hl, hp⟩ := list_of len (fun i (X : List UInt8) => ∃ ob cb, w.cell? (a.add i) = some (.slice ob X.length cb) ∧ rd w X (.slice ob X.length cb)) (fun i hi => by
      have hi2 := hall i hi
      rw [List.getElem?_eq_getElem (by omega)] at hi2
      obtain ⟨ds, hd1, hd2⟩ := Option.bind_eq_some_iff.1 hi2
      rw [show Try.prog.cellsOf 27 = 1 by kernel_rfl, Nat.mul_one] at hd1
      obtain ⟨_, hdl, hdc⟩ := World.cells?_some hd1
      have hd3 : ∃ c, ds = [c] := by
        match ds, hdl with
        | [c], _ => exact ⟨c, rfl⟩
      obtain ⟨c, rfl⟩ := hd3
      obtain ⟨X, hX, _⟩ := open_rd hd2
      have g0 := hdc 0 (by omega)
      rw [add_add] at g0
      obtain ⟨ob, cb, rfl, _⟩ := hX.form
      exact ⟨X, ob, cb, g0, hX⟩)
    subst hl
    obtain rfl : c = .slice (some a) l.length cap := by simpa using h0
    exact ⟨l, some a, a, cap, rfl, hlc, hcm, fun _ => rfl, hp⟩
theorem fieldsA : ∃ fs, Try.prog.underlying 30 = some (.struct fs) ∧ oneCellFields Try.prog fs = true ∧ fs.size = 4 ∧ fs.toList.map (·.type) = [3, 27, 28, 3] :=
  ⟨_, Try.underlying30, by kernel_rfl, by kernel_rfl, by kernel_rfl⟩
set_option maxRecDepth 100000 in
set_option maxHeartbeats 2000000 in
theorem open_act {H : Type} {enc : TypeId × Value → H} {w : World} {base : Nat} {spare : Nat → Bool} {held : Bool} (fuel : Nat) (cs : List Value) (x : DataW H × List MemPlace) (h : DataW.trod enc Try.prog w base spare held fuel 30 cs = some x) : ∃ (X : AC) (c1 c2 : Value), cs = [.int .i64 X.d, c1, c2, .int .i64 X.n] ∧ rd w X.b c1 ∧ rds w X.L c2 := by
  obtain ⟨fs, hu, h1c, hsz, hty⟩ := fieldsA
  obtain ⟨xs, n, hfu, hx, hlen, hxl, hf⟩ := DataW.trod_struct hu h
  have hone := hone_of h1c
  have h6 : cs.length = 4 := hlen.trans (by kernel_rfl)
  have hg : ∀ (i t : Nat) (c : Value), [3, 27, 28, 3][i]? = some t → cs[i]? = some c → ∃ y, DataW.trod enc Try.prog w base spare held n t [c] = some y := fun i t c ht hc => by
    rw [← hty, List.getElem?_map] at ht
    obtain ⟨f, hfi, rfl⟩ := Option.map_eq_some_iff.1 ht
    have hfi' : fs[i]? = some f := by rw [← Array.getElem?_toList]; exact hfi
    have e1 := hf i f hfi'
    obtain ⟨ho, hk⟩ := hone i f hfi'
    rw [ho, hk] at e1
    have hil := (List.getElem?_eq_some_iff.1 hc).1
    rw [List.drop_eq_getElem_cons hil, (List.getElem?_eq_some_iff.1 hc).2] at e1
    have hxi : i < xs.length := by
      rw [hxl]; exact (Array.getElem?_eq_some_iff.1 hfi').1
    exact ⟨xs[i], by rw [List.getElem?_eq_getElem hxi] at e1; exact e1⟩
  match cs, h6 with
  | [c0, c1, c2, c3], _ =>
    obtain ⟨y0, e0⟩ := hg 0 _ c0 rfl rfl
    obtain ⟨y1, e1⟩ := hg 1 _ c1 rfl rfl
    obtain ⟨y2, e2⟩ := hg 2 _ c2 rfl rfl
    obtain ⟨y3, e3⟩ := hg 3 _ c3 rfl rfl
    obtain ⟨k, hk, _, wk⟩ := DataW.trod_int Try.underlying3 e0
    obtain ⟨m, hm, _, wm⟩ := DataW.trod_int Try.underlying3 e3
    obtain ⟨b, hb, _⟩ := open_rd e1
    obtain ⟨L, hL⟩ := open_rds e2
    obtain rfl : c0 = .int .i64 k := by simpa using hk
    obtain rfl : c3 = .int .i64 m := by simpa using hm
    exact ⟨⟨k, b, L, m⟩, _, _, rfl, hb, hL⟩
set_option maxRecDepth 100000 in
set_option maxHeartbeats 1000000 in
/-- An argument of type []Act. -/
theorem open_as {H : Type} {enc : TypeId × Value → H} {r : Reach} {b0 : Nat} {w : World} {base : Nat} {spare : Nat → Bool} {held : Bool} {v : Value} {d : DataW H} {ps : List MemPlace} (hv : Value.okWide Try.prog w r b0 22 v) (h : DataW.Trod enc Try.prog w base spare held 22 v d ps) : ∃ l : List AC, ∃ a cap, slv v l.length a cap ∧ isAs w l a := by
  obtain ⟨o, n0, c0, rfl⟩ := okWide_slice Try.underlying22 hv
  obtain ⟨fuel, hf⟩ := h
  have e4 : DataW.trod enc Try.prog w base spare held fuel 22 [.slice o n0 c0] = some (d, ps) := by simpa [Value.cells] using hf
  rcases DataW.trod_slice Try.underlying22 e4 with ⟨h0, _⟩ | ⟨a, len, cap, elems, rest, n', hn', h0, _, _, hlc, hcm, hel, hall, _⟩
  · exact ⟨[], ⟨0, 0, none⟩, 0, ⟨none, by simpa using h0, Nat.le_refl _, by unfold maxLen; omega, fun h => absurd h (by decide)⟩, fun i hi => absurd hi (by simp)⟩
  · obtain ⟨l, hl, hp⟩ := list_of len (fun i (X : AC) => ∃ c1 c2, w.cell? (a.add (i * 4)) = some (.int .i64 X.d) ∧ w.cell? (a.add (i * 4 + 1)) = some c1 ∧ w.cell? (a.add (i * 4 + 2)) = some c2 ∧ w.cell? (a.add (i * 4 + 3)) = some (.int .i64 X.n) ∧ rd w X.b c1 ∧ rds w X.L c2) (fun i hi => by
      have hi2 := hall i hi
      rw [List.getElem?_eq_getElem (by omega)] at hi2
      obtain ⟨ds, hd1, hd2⟩ := Option.bind_eq_some_iff.1 hi2
      rw [show Try.prog.cellsOf 30 = 4 by kernel_rfl] at hd1
      obtain ⟨_, hdl, hdc⟩ := World.cells?_some hd1
      obtain ⟨X, c1, c2, rfl, h1, h2⟩ := open_act n' ds _ hd2
      have g0 := hdc 0 (by omega)
      have g1 := hdc 1 (by omega)
      have g2 := hdc 2 (by omega)
      have g3 := hdc 3 (by omega)
      rw [add_add] at g0 g1 g2 g3
      exact ⟨X, c1, c2, g0, g1, g2, g3, h1, h2⟩)
    subst hl
    exact ⟨l, a, cap, ⟨some a, by simpa using h0, hlc, hcm, fun _ => rfl⟩, hp⟩
/-- An act's cells, as they are loaded. -/
theorem as_later {w wr : World} {l : List AC} {a : Addr} (h : isAs w l a) (hb : Below w.heap.size w wr) (i : Nat) (hi : i < l.length) : ∃ c1 c2, wr.cell? (a.add (i * 4)) = some (.int .i64 l[i].d) ∧ wr.cell? ⟨(a.add (i * 4)).block, (a.add (i * 4)).off + 1, none⟩ = some c1 ∧ wr.cell? ⟨(a.add (i * 4)).block, (a.add (i * 4)).off + 2, none⟩ = some c2 ∧ wr.cell? ⟨(a.add (i * 4)).block, (a.add (i * 4)).off + 3, none⟩ = some (.int .i64 l[i].n) ∧ rd w l[i].b c1 ∧ rds w l[i].L c2 := by
  obtain ⟨c1, c2, g0, g1, g2, g3, h1, h2⟩ := h i hi
  have hc : ∀ a c, w.cell? a = some c → wr.cell? a = some c := fun a c hc => (Fr.of_below (B := fun _ => False) hb).cell a c (fun h => h) hc
  have hadd : ∀ k, a.add (i * 4 + (k + 1)) = ⟨(a.add (i * 4)).block, (a.add (i * 4)).off + (k + 1), none⟩ := fun k => by
    unfold Addr.add
    split <;> split <;> simp_all <;> omega
  refine ⟨c1, c2, hc _ _ g0, ?_, ?_, ?_, h1, h2⟩
  · rw [← hadd 0]; exact hc _ _ g1
  · rw [← hadd 1]; exact hc _ _ g2
  · rw [← hadd 2]; exact hc _ _ g3
end Go.Proofs.Ytbjdbphnccdpbaa
