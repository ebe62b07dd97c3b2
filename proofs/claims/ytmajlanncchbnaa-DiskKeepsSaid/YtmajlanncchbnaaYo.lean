/-
  What arguments of type Act, []Act read as.
-/
import Derived.Test.YtmajlanncchbnaaYm
import Derived.Deep.Slices
import Derived.Deep.Fields
set_option linter.unusedVariables false
namespace Go.Proofs.Ytmajlanncchbnaa
open Go.RowKit Go.ChangeShapes Go.WideShapes Go.Deep Go.Lib Go.Shelf

/-- An act. -/
structure AC where
  d : Int
  b : List UInt8
  n : Int
instance : Inhabited AC := ⟨⟨0, [], 0⟩⟩
def isA (W : World) (x : AC) (c0 c1 c2 : Value) : Prop := c0 = .int .i64 x.d ∧ rd W x.b c1 ∧ c2 = .int .i64 x.n
def slv (v : Value) (n : Nat) (a : Addr) (cap : Nat) : Prop := ∃ o, v = .slice o n cap ∧ n ≤ cap ∧ cap ≤ maxLen ∧ (0 < n → o = some a)
def isAs (W : World) (l : List AC) (a : Addr) : Prop := ∀ i (h : i < l.length), ∃ c1, W.cell? (a.add (i * 3)) = some (.int .i64 l[i].d) ∧ W.cell? (a.add (i * 3 + 1)) = some c1 ∧ W.cell? (a.add (i * 3 + 2)) = some (.int .i64 l[i].n) ∧ rd W l[i].b c1
theorem isAs.below {W W' : World} {l : List AC} {a : Addr} (h : isAs W l a) (hb : Below W.heap.size W W') : isAs W' l a := fun i hi => by
  obtain ⟨c1, h0, h1, h2, h3⟩ := h i hi
  have hc : ∀ a c, W.cell? a = some c → W'.cell? a = some c := fun a c hc => (Fr.of_below (B := fun _ => False) hb).cell a c (fun h => h) hc
  exact ⟨c1, hc _ _ h0, hc _ _ h1, hc _ _ h2, h3.below hb⟩
theorem add_add (a : Addr) (i j : Nat) : (a.add i).add j = a.add (i + j) := by
  unfold Addr.add
  split <;> split <;> simp_all <;> omega
theorem list_of {α : Type} [Inhabited α] (n : Nat) (P : Nat → α → Prop) (h : ∀ i, i < n → ∃ x, P i x) : ∃ l : List α, l.length = n ∧ ∀ i (hi : i < l.length), P i l[i] := by
  induction n with
  | zero => exact ⟨[], rfl, fun i hi => absurd hi (by simp)⟩
  | succ n ih =>
    obtain ⟨l, hl, hp⟩ := ih (fun i hi => h i (by omega))
    obtain ⟨x, hx⟩ := h n (by omega)
    refine ⟨l ++ [x], by simp [hl], fun i hi => ?_⟩
    by_cases e : i < l.length
    · rw [List.getElem_append_left e]; exact hp i e
    · have : i = l.length := by simp at hi; omega
      subst this
      rw [List.getElem_append_right (Nat.le_refl _)]
      simp only [Nat.sub_self, List.getElem_cons_zero]
      rw [hl]; exact hx
instance : Inhabited UInt8 := ⟨0⟩
set_option maxRecDepth 100000 in
set_option maxHeartbeats 1000000 in
theorem open_rd {H : Type} {enc : TypeId × Value → H} {w : World} {base : Nat} {spare : Nat → Bool} {held : Bool} {fuel : Nat} {c : Value} {y : DataW H × List MemPlace} (h : DataW.trod enc Try.prog w base spare held fuel 29 [c] = some y) : ∃ x, rd w x c := by
  rcases DataW.trod_slice Try.underlying29 h with ⟨h0, _⟩ | ⟨a, len, cap, elems, rest, n', hn', h0, _, _, hlc, hcm, hel, hall, _⟩
  · refine ⟨[], ?_⟩
    obtain rfl : c = .slice none 0 0 := by simpa using h0
    exact rd_nil w
  · obtain ⟨l, hl, hp⟩ := list_of len (fun i (B : UInt8) => w.cell? (a.add i) = some (.int .u8 B.toNat)) (fun i hi => by
      have hi2 := hall i hi
      rw [List.getElem?_eq_getElem (by omega)] at hi2
      obtain ⟨ds, hd1, hd2⟩ := Option.bind_eq_some_iff.1 hi2
      rw [show Try.prog.cellsOf 5 = 1 by kernel_rfl, Nat.mul_one] at hd1
      obtain ⟨_, hdl, hdc⟩ := World.cells?_some hd1
      obtain ⟨k, hk, _, wk⟩ := DataW.trod_int Try.underlying5 hd2
      subst hk
      have g0 := hdc 0 (by omega)
      rw [add_add] at g0
      have hb : 0 ≤ k ∧ k ≤ 255 := by simp [Lit.wf, IntKind.min, IntKind.max, IntKind.bits, IntKind.signed] at wk; omega
      refine ⟨UInt8.ofNat k.toNat, ?_⟩
      have : ((UInt8.ofNat k.toNat).toNat : Int) = k := by rw [UInt8.toNat_ofNat']; omega
      rw [this]
      exact g0)
    subst hl
    obtain rfl : c = .slice (some a) l.length cap := by simpa using h0
    refine ⟨l, some a, a, cap, rfl, hlc, hcm, fun _ => rfl, fun j u hj => ?_⟩
    unfold byteCells at hj
    rw [List.getElem?_map] at hj
    obtain ⟨B, hB, rfl⟩ := Option.map_eq_some_iff.1 hj
    obtain ⟨hlt, rfl⟩ := List.getElem?_eq_some_iff.1 hB
    exact hp j hlt
theorem fieldsA : ∃ fs, Try.prog.underlying 31 = some (.struct fs) ∧ oneCellFields Try.prog fs = true ∧ fs.size = 3 ∧ fs.toList.map (·.type) = [3, 29, 3] :=
  ⟨_, Try.underlying31, by kernel_rfl, by kernel_rfl, by kernel_rfl⟩
set_option maxRecDepth 100000 in
set_option maxHeartbeats 2000000 in
theorem open_act {H : Type} {enc : TypeId × Value → H} {w : World} {base : Nat} {spare : Nat → Bool} {held : Bool} (fuel : Nat) (cs : List Value) (x : DataW H × List MemPlace) (h : DataW.trod enc Try.prog w base spare held fuel 31 cs = some x) : ∃ X c0 c1 c2, cs = [c0, c1, c2] ∧ isA w X c0 c1 c2 := by
  obtain ⟨fs, hu, h1c, hsz, hty⟩ := fieldsA
  obtain ⟨xs, n, hfu, hx, hlen, hxl, hf⟩ := DataW.trod_struct hu h
  have hone := hone_of h1c
  have h6 : cs.length = 3 := hlen.trans (by kernel_rfl)
  have hg : ∀ (i t : Nat) (c : Value), [3, 29, 3][i]? = some t → cs[i]? = some c → ∃ y, DataW.trod enc Try.prog w base spare held n t [c] = some y := fun i t c ht hc => by
    rw [← hty, List.getElem?_map] at ht
    obtain ⟨f, hfi, rfl⟩ := Option.map_eq_some_iff.1 ht
    have hfi' : fs[i]? = some f := by rw [← Array.getElem?_toList]; exact hfi
    have e1 := hf i f hfi'
    obtain ⟨ho, hk⟩ := hone i f hfi'
    rw [ho, hk] at e1
    have hil := (List.getElem?_eq_some_iff.1 hc).1
    rw [List.drop_eq_getElem_cons hil, (List.getElem?_eq_some_iff.1 hc).2] at e1
    have hxi : i < xs.length := by
      rw [hxl]; exact (Array.getElem?_eq_some_iff.1 hfi').1
    exact ⟨xs[i], by rw [List.getElem?_eq_getElem hxi] at e1; exact e1⟩
  match cs, h6 with
  | [c0, c1, c2], _ =>
    obtain ⟨y0, e0⟩ := hg 0 _ c0 rfl rfl
    obtain ⟨y1, e1⟩ := hg 1 _ c1 rfl rfl
    obtain ⟨y2, e2⟩ := hg 2 _ c2 rfl rfl
    obtain ⟨k, hk, _, wk⟩ := DataW.trod_int Try.underlying3 e0
    obtain ⟨m, hm, _, wm⟩ := DataW.trod_int Try.underlying3 e2
    obtain ⟨b, hb⟩ := open_rd e1
    obtain rfl : c0 = .int .i64 k := by simpa using hk
    obtain rfl : c2 = .int .i64 m := by simpa using hm
    exact ⟨⟨k, b, m⟩, _, _, _, rfl, rfl, hb, rfl⟩
set_option maxRecDepth 100000 in
/-- An argument of type Act. -/
theorem open_a {H : Type} {enc : TypeId × Value → H} {r : Reach} {b0 : Nat} {w : World} {base : Nat} {spare : Nat → Bool} {held : Bool} {v : Value} {d : DataW H} {ps : List MemPlace} (hv : Value.okWide Try.prog w r b0 31 v) (h : DataW.Trod enc Try.prog w base spare held 31 v d ps) : ∃ (X : AC) (c1 : Value), v = .agg #[.int .i64 X.d, c1, .int .i64 X.n] ∧ rd w X.b c1 := by
  obtain ⟨cs, rfl, hsz⟩ := okWide_struct Try.underlying31 hv
  obtain ⟨fuel, hf⟩ := h
  obtain ⟨X, c0, c1, c2, e, rfl, h1, rfl⟩ := open_act fuel _ _ hf
  refine ⟨X, c1, ?_, h1⟩
  have : cs.toList = [.int .i64 X.d, c1, .int .i64 X.n] := by simpa [Value.cells] using e
  rw [← Array.toArray_toList (xs := cs), this]
set_option maxRecDepth 100000 in
set_option maxHeartbeats 1000000 in
/-- An argument of type []Act. -/
theorem open_as {H : Type} {enc : TypeId × Value → H} {r : Reach} {b0 : Nat} {w : World} {base : Nat} {spare : Nat → Bool} {held : Bool} {v : Value} {d : DataW H} {ps : List MemPlace} (hv : Value.okWide Try.prog w r b0 22 v) (h : DataW.Trod enc Try.prog w base spare held 22 v d ps) : ∃ l : List AC, ∃ a cap, slv v l.length a cap ∧ isAs w l a := by
  obtain ⟨o, n0, c0, rfl⟩ := okWide_slice Try.underlying22 hv
  obtain ⟨fuel, hf⟩ := h
  have e4 : DataW.trod enc Try.prog w base spare held fuel 22 [.slice o n0 c0] = some (d, ps) := by simpa [Value.cells] using hf
  rcases DataW.trod_slice Try.underlying22 e4 with ⟨h0, _⟩ | ⟨a, len, cap, elems, rest, n', hn', h0, _, _, hlc, hcm, hel, hall, _⟩
  · exact ⟨[], ⟨0, 0, none⟩, 0, ⟨none, by simpa using h0, Nat.le_refl _, by unfold maxLen; omega, fun h => absurd h (by decide)⟩, fun i hi => absurd hi (by simp)⟩
  · obtain ⟨l, hl, hp⟩ := list_of len (fun i (X : AC) => ∃ c1, w.cell? (a.add (i * 3)) = some (.int .i64 X.d) ∧ w.cell? (a.add (i * 3 + 1)) = some c1 ∧ w.cell? (a.add (i * 3 + 2)) = some (.int .i64 X.n) ∧ rd w X.b c1) (fun i hi => by
      have hi2 := hall i hi
      rw [List.getElem?_eq_getElem (by omega)] at hi2
      obtain ⟨ds, hd1, hd2⟩ := Option.bind_eq_some_iff.1 hi2
      rw [show Try.prog.cellsOf 31 = 3 by kernel_rfl] at hd1
      obtain ⟨_, hdl, hdc⟩ := World.cells?_some hd1
      obtain ⟨X, c0, c1, c2, rfl, rfl, h1, rfl⟩ := open_act n' ds _ hd2
      have g0 := hdc 0 (by omega)
      have g1 := hdc 1 (by omega)
      have g2 := hdc 2 (by omega)
      rw [add_add] at g0 g1 g2
      exact ⟨X, c1, g0, g1, g2, h1⟩)
    subst hl
    exact ⟨l, a, cap, ⟨some a, by simpa using h0, hlc, hcm, fun _ => rfl⟩, hp⟩
end Go.Proofs.Ytmajlanncchbnaa
