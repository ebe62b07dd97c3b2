/-
  What an argument of type Value reads as: a tree.
-/
import Derived.Test.YtdckldfekepopaaGreatDoorZD
import Derived.Deep.Slices
import Derived.Deep.Fields
set_option linter.unusedVariables false
set_option linter.unusedSimpArgs false
namespace Go.Proofs.YtdckldfekepopaaGreatDoor
open Go.RowKit Go.ChangeShapes Go.WideShapes Go.Deep

theorem isVs_of {W : World} : ∀ (l : List V) (a : Addr), (∀ i (h : i < l.length), ∃ c0 c1 c2 c3 c4 c5, W.cell? (a.add (i * 6)) = some c0 ∧ W.cell? (a.add (i * 6 + 1)) = some c1 ∧ W.cell? (a.add (i * 6 + 2)) = some c2 ∧ W.cell? (a.add (i * 6 + 3)) = some c3 ∧ W.cell? (a.add (i * 6 + 4)) = some c4 ∧ W.cell? (a.add (i * 6 + 5)) = some c5 ∧ isV W l[i] (.agg #[c0, c1, c2, c3, c4, c5])) → isVs W l a
  | [], _, _ => by unfold isVs; trivial
  | x :: t, a, h => by
    unfold isVs
    have e : a.add 0 = a := by simp [Addr.add]
    refine ⟨?_, isVs_of t (a.add 6) (fun i hi => ?_)⟩
    · obtain ⟨c0, c1, c2, c3, c4, c5, g0, g1, g2, g3, g4, g5, hx⟩ := h 0 (by simp)
      simp only [Nat.zero_mul, Nat.zero_add, e] at g0 g1 g2 g3 g4 g5
      exact ⟨c0, c1, c2, c3, c4, c5, g0, g1, g2, g3, g4, g5, hx⟩
    · obtain ⟨c0, c1, c2, c3, c4, c5, g0, g1, g2, g3, g4, g5, hx⟩ := h (i + 1) (by simpa using hi)
      refine ⟨c0, c1, c2, c3, c4, c5, ?_, ?_, ?_, ?_, ?_, ?_, hx⟩
      · rw [add_add, show 6 + i * 6 = (i + 1) * 6 by omega]; exact g0
      · rw [add_add, show 6 + (i * 6 + 1) = (i + 1) * 6 + 1 by omega]; exact g1
      · rw [add_add, show 6 + (i * 6 + 2) = (i + 1) * 6 + 2 by omega]; exact g2
      · rw [add_add, show 6 + (i * 6 + 3) = (i + 1) * 6 + 3 by omega]; exact g3
      · rw [add_add, show 6 + (i * 6 + 4) = (i + 1) * 6 + 4 by omega]; exact g4
      · rw [add_add, show 6 + (i * 6 + 5) = (i + 1) * 6 + 5 by omega]; exact g5
theorem list_of {α : Type} [Inhabited α] (n : Nat) (P : Nat → α → Prop) (h : ∀ i, i < n → ∃ x, P i x) : ∃ l : List α, l.length = n ∧ ∀ i (hi : i < l.length), P i l[i] := by
  induction n with
  | zero => exact ⟨[], rfl, fun i hi => absurd hi (by simp)⟩
  | succ n ih =>
    obtain ⟨l, hl, hp⟩ := ih (fun i hi => h i (by omega))
    obtain ⟨x, hx⟩ := h n (by omega)
    refine ⟨l ++ [x], by simp [hl], fun i hi => ?_⟩
    by_cases e : i < l.length
    · rw [List.getElem_append_left e]; exact hp i e
    · have : i = l.length := by simp at hi; omega
      subst this
      rw [List.getElem_append_right (Nat.le_refl _)]
      simp only [Nat.sub_self, List.getElem_cons_zero]
      rw [hl]; exact hx
instance : Inhabited V := ⟨.mk 0 false 0 ⟨#[]⟩ [] []⟩
instance : Inhabited ByteArray := ⟨⟨#[]⟩⟩

theorem fieldsV : ∃ fs, Tryz.prog.underlying 64 = some (.struct fs) ∧ oneCellFields Tryz.prog fs = true ∧ fs.size = 6 ∧ fs.toList.map (·.type) = [60, 4, 3, 9, 61, 62] :=
  ⟨_, Tryz.underlying64, by kernel_rfl, by kernel_rfl, by kernel_rfl⟩

set_option maxRecDepth 100000 in
set_option maxHeartbeats 2000000 in
theorem open_val {H : Type} {enc : TypeId × Value → H} {w : World} {base : Nat} {spare : Nat → Bool} {held : Bool} (N : Nat) : ∀ (fuel : Nat) (cs : List Value) (x : DataW H × List MemPlace), fuel ≤ N → DataW.trod enc Tryz.prog w base spare held fuel 64 cs = some x → ∃ X, isV w X (.agg cs.toArray) := by
  induction N with
  | zero =>
    intro fuel cs x hN h
    obtain ⟨xs, n, hf, _⟩ := DataW.trod_struct Tryz.underlying64 h
    omega
  | succ N ih =>
    intro fuel cs x hN h
    obtain ⟨fs, hu, h1c, hsz, hty⟩ := fieldsV
    obtain ⟨xs, n, hfu, hx, hlen, hxl, hf⟩ := DataW.trod_struct hu h
    have hone := hone_of h1c
    have h6 : cs.length = 6 := hlen.trans (by kernel_rfl)
    have hg : ∀ (i t : Nat) (c : Value), [60, 4, 3, 9, 61, 62][i]? = some t → cs[i]? = some c → ∃ y, DataW.trod enc Tryz.prog w base spare held n t [c] = some y := fun i t c ht hc => by
      rw [← hty, List.getElem?_map] at ht
      obtain ⟨f, hfi, rfl⟩ := Option.map_eq_some_iff.1 ht
      have hfi' : fs[i]? = some f := by rw [← Array.getElem?_toList]; exact hfi
      have e1 := hf i f hfi'
      obtain ⟨ho, hk⟩ := hone i f hfi'
      rw [ho, hk] at e1
      have hil := (List.getElem?_eq_some_iff.1 hc).1
      rw [List.drop_eq_getElem_cons hil, (List.getElem?_eq_some_iff.1 hc).2] at e1
      have hxi : i < xs.length := by
        rw [hxl]; exact (Array.getElem?_eq_some_iff.1 hfi').1
      exact ⟨xs[i], by rw [List.getElem?_eq_getElem hxi] at e1; exact e1⟩
    match cs, h6 with
    | [c0, c1, c2, c3, c4, c5], _ =>
      obtain ⟨y0, e0⟩ := hg 0 _ c0 rfl rfl
      obtain ⟨y1, e1⟩ := hg 1 _ c1 rfl rfl
      obtain ⟨y2, e2⟩ := hg 2 _ c2 rfl rfl
      obtain ⟨y3, e3⟩ := hg 3 _ c3 rfl rfl
      obtain ⟨y4, e4⟩ := hg 4 _ c4 rfl rfl
      obtain ⟨y5, e5⟩ := hg 5 _ c5 rfl rfl
      obtain ⟨k, hk, _, wk⟩ := DataW.trod_int Tryz.underlying60 e0
      obtain ⟨b, hb, _⟩ := DataW.trod_bool Tryz.underlying4 e1
      obtain ⟨m, hm, _, wm⟩ := DataW.trod_int Tryz.underlying3 e2
      obtain ⟨s, hs, _, ws⟩ := DataW.trod_string Tryz.underlying9 e3
      obtain rfl : c0 = .int .i8 k := by simpa using hk
      obtain rfl : c1 = .bool b := by simpa using hb
      obtain rfl : c2 = .int .i64 m := by simpa using hm
      obtain rfl : c3 = .string s := by simpa using hs
      have hk2 : -128 ≤ k ∧ k ≤ 127 := by simp [Lit.wf, IntKind.min, IntKind.max, IntKind.bits, IntKind.signed] at wk; omega
      have hm2 : -9223372036854775808 ≤ m ∧ m ≤ 9223372036854775807 := by simp [Lit.wf, IntKind.min, IntKind.max, IntKind.bits, IntKind.signed] at wm; omega
      have hL : ∃ (l : List V) (a : Addr) (cap : Nat), slv c4 l.length a cap ∧ isVs w l a := by
        rcases DataW.trod_slice Tryz.underlying61 e4 with ⟨h0, _⟩ | ⟨a, len, cap, elems, rest, n', hn', h0, _, _, hlc, hcm, hel, hall, _⟩
        · exact ⟨[], ⟨0, 0, none⟩, 0, ⟨none, by simpa using h0, Nat.le_refl _, by unfold maxLen; omega, fun h => absurd h (by decide)⟩, by unfold isVs; trivial⟩
        · obtain ⟨l, hl, hp⟩ := list_of len (fun i X => ∃ c0 c1 c2 c3 c4 c5, w.cell? (a.add (i * 6)) = some c0 ∧ w.cell? (a.add (i * 6 + 1)) = some c1 ∧ w.cell? (a.add (i * 6 + 2)) = some c2 ∧ w.cell? (a.add (i * 6 + 3)) = some c3 ∧ w.cell? (a.add (i * 6 + 4)) = some c4 ∧ w.cell? (a.add (i * 6 + 5)) = some c5 ∧ isV w X (.agg #[c0, c1, c2, c3, c4, c5])) (fun i hi => by
            have hi2 := hall i hi
            rw [List.getElem?_eq_getElem (by omega)] at hi2
            obtain ⟨ds, hd1, hd2⟩ := Option.bind_eq_some_iff.1 hi2
            rw [show Tryz.prog.cellsOf 64 = 6 by kernel_rfl] at hd1
            obtain ⟨_, hdl, hdc⟩ := World.cells?_some hd1
            obtain ⟨X, hX⟩ := ih n' ds _ (by omega) hd2
            match ds, hdl with
            | [d0, d1, d2, d3, d4, d5], _ =>
              have g0 := hdc 0 (by omega)
              have g1 := hdc 1 (by omega)
              have g2 := hdc 2 (by omega)
              have g3 := hdc 3 (by omega)
              have g4 := hdc 4 (by omega)
              have g5 := hdc 5 (by omega)
              rw [add_add] at g0 g1 g2 g3 g4 g5
              exact ⟨X, d0, d1, d2, d3, d4, d5, g0, g1, g2, g3, g4, g5, hX⟩)
          subst hl
          exact ⟨l, a, cap, ⟨some a, by simpa using h0, hlc, hcm, fun _ => rfl⟩, isVs_of l a hp⟩
      have hK : ∃ ks : List ByteArray, isK w ks c5 := by
        rcases DataW.trod_slice Tryz.underlying62 e5 with ⟨h0, _⟩ | ⟨a, len, cap, elems, rest, n', hn', h0, _, _, hlc, hcm, hel, hall, _⟩
        · exact ⟨[], ⟨0, 0, none⟩, 0, ⟨none, by simpa using h0, Nat.le_refl _, by unfold maxLen; omega, fun h => absurd h (by decide)⟩, fun i h => absurd h (by simp)⟩
        · obtain ⟨l, hl, hp⟩ := list_of len (fun i (S : ByteArray) => w.cell? (a.add i) = some (.string S) ∧ S.size ≤ maxLen) (fun i hi => by
            have hi2 := hall i hi
            rw [List.getElem?_eq_getElem (by omega)] at hi2
            obtain ⟨ds, hd1, hd2⟩ := Option.bind_eq_some_iff.1 hi2
            rw [show Tryz.prog.cellsOf 9 = 1 by kernel_rfl, Nat.mul_one] at hd1
            obtain ⟨_, hdl, hdc⟩ := World.cells?_some hd1
            obtain ⟨S, hS, _, wS⟩ := DataW.trod_string Tryz.underlying9 hd2
            subst hS
            have g0 := hdc 0 (by omega)
            rw [add_add] at g0
            exact ⟨S, g0, wS⟩)
          subst hl
          exact ⟨l, a, cap, ⟨some a, by simpa using h0, hlc, hcm, fun _ => rfl⟩, hp⟩
      obtain ⟨l, a, cap, hl1, hl2⟩ := hL
      obtain ⟨ks, hks⟩ := hK
      refine ⟨.mk k b m s l ks, ?_⟩
      unfold isV
      exact ⟨c4, c5, rfl, hk2, hm2, ws, ⟨a, cap, hl1, hl2⟩, hks⟩
set_option maxRecDepth 100000 in
/-- An argument of type Value. -/
theorem open_arg {H : Type} {enc : TypeId × Value → H} {r : Reach} {b0 : Nat} {w : World} {base : Nat} {spare : Nat → Bool} {held : Bool} {v : Value} {d : DataW H} {ps : List MemPlace} (hv : Value.okWide Tryz.prog w r b0 64 v) (h : DataW.Trod enc Tryz.prog w base spare held 64 v d ps) : ∃ X, isV w X v := by
  obtain ⟨cs, rfl, hsz⟩ := okWide_struct Tryz.underlying64 hv
  obtain ⟨fuel, hf⟩ := h
  obtain ⟨X, hX⟩ := open_val fuel fuel _ _ (Nat.le_refl _) hf
  exact ⟨X, by simpa [Value.cells] using hX⟩
end Go.Proofs.YtdckldfekepopaaGreatDoor
