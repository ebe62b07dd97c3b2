/-
  What arguments of type []byte, [][]byte read as.
-/
import Derived.Test.YtbjdbphnccdpbaaGg
import Derived.Deep.Slices
import Derived.Deep.Fields
set_option linter.unusedVariables false
namespace Go.Proofs.Ytbjdbphnccdpbaa
open Go.RowKit Go.ChangeShapes Go.WideShapes Go.Deep Go.Lib Go.Shelf

theorem add_add (a : Addr) (i j : Nat) : (a.add i).add j = a.add (i + j) := by
  unfold Addr.add
  split <;> split <;> simp_all <;> omega
theorem list_of {α : Type} [Inhabited α] (n : Nat) (P : Nat → α → Prop) (h : ∀ i, i < n → ∃ x, P i x) : ∃ l : List α, l.length = n ∧ ∀ i (hi : i < l.length), P i l[i] := by
  induction n with
  | zero => exact ⟨[], rfl, fun i hi => absurd hi (by simp)⟩
  | succ n ih =>
    obtain ⟨l, hl, hp⟩ := ih (fun i hi => h i (by omega))
    obtain ⟨x, hx⟩ := h n (by omega)
    refine ⟨l ++ [x], by simp [hl], fun i hi => ?_⟩
    by_cases e : i < l.length
    · rw [List.getElem_append_left e]; exact hp i e
    · have : i = l.length := by simp at hi; omega
      subst this
      rw [List.getElem_append_right (Nat.le_refl _)]
      simp only [Nat.sub_self, List.getElem_cons_zero]
      rw [hl]; exact hx
instance : Inhabited UInt8 := ⟨0⟩
set_option maxRecDepth 100000 in
set_option maxHeartbeats 1000000 in
theorem open_rd {H : Type} {enc : TypeId × Value → H} {w : World} {base : Nat} {spare : Nat → Bool} {held : Bool} {fuel : Nat} {c : Value} {y : DataW H × List MemPlace} (h : DataW.trod enc Try.prog w base spare held fuel 27 [c] = some y) : ∃ x, rd w x c ∧ fit c := by
  rcases DataW.trod_slice Try.underlying27 h with ⟨h0, _⟩ | ⟨a, len, cap, elems, rest, n', hn', h0, _, _, hlc, hcm, hel, hall, _⟩
  · refine ⟨[], ?_⟩
    obtain rfl : c = .slice none 0 0 := by simpa using h0
    exact ⟨rd_nil w, .inl rfl⟩
  · obtain ⟨l, hl, hp⟩ := list_of len (fun i (B : UInt8) => w.cell? (a.add i) = some (.int .u8 B.toNat)) (fun i hi => by
      have hi2 := hall i hi
      rw [List.getElem?_eq_getElem (by omega)] at hi2
      obtain ⟨ds, hd1, hd2⟩ := Option.bind_eq_some_iff.1 hi2
      rw [show Try.prog.cellsOf 5 = 1 by kernel_rfl, Nat.mul_one] at hd1
      obtain ⟨_, hdl, hdc⟩ := World.cells?_some hd1
      obtain ⟨k, hk, _, wk⟩ := DataW.trod_int Try.underlying5 hd2
      subst hk
      have g0 := hdc 0 (by omega)
      rw [add_add] at g0
      have hb : 0 ≤ k ∧ k ≤ 255 := by simp [Lit.wf, IntKind.min, IntKind.max, IntKind.bits, IntKind.signed] at wk; omega
      refine ⟨UInt8.ofNat k.toNat, ?_⟩
      have : ((UInt8.ofNat k.toNat).toNat : Int) = k := by rw [UInt8.toNat_ofNat']; omega
      rw [this]
      exact g0)
    subst hl
    obtain rfl : c = .slice (some a) l.length cap := by simpa using h0
    refine ⟨l, ⟨some a, a, cap, rfl, hlc, hcm, fun _ => rfl, fun j u hj => ?_⟩, .inr ⟨_, _, _, rfl⟩⟩
    unfold byteCells at hj
    rw [List.getElem?_map] at hj
    obtain ⟨B, hB, rfl⟩ := Option.map_eq_some_iff.1 hj
    obtain ⟨hlt, rfl⟩ := List.getElem?_eq_some_iff.1 hB
    exact hp j hlt
set_option maxRecDepth 100000 in
set_option maxHeartbeats 1000000 in
/-- An argument of type []byte. -/
theorem open_bs {H : Type} {enc : TypeId × Value → H} {r : Reach} {b0 : Nat} {w : World} {base : Nat} {spare : Nat → Bool} {held : Bool} {v : Value} {d : DataW H} {ps : List MemPlace} (hv : Value.okWide Try.prog w r b0 27 v) (h : DataW.Trod enc Try.prog w base spare held 27 v d ps) : ∃ x : List UInt8, rd w x v ∧ fit v := by
  obtain ⟨o, n0, c0, rfl⟩ := okWide_slice Try.underlying27 hv
  obtain ⟨fuel, hf⟩ := h
  have e4 : DataW.trod enc Try.prog w base spare held fuel 27 [.slice o n0 c0] = some (d, ps) := by simpa [Value.cells] using hf
  exact open_rd e4
set_option maxRecDepth 100000 in
set_option maxHeartbeats 1000000 in
/-- An argument of type [][]byte. -/
theorem open_bss {H : Type} {enc : TypeId × Value → H} {r : Reach} {b0 : Nat} {w : World} {base : Nat} {spare : Nat → Bool} {held : Bool} {v : Value} {d : DataW H} {ps : List MemPlace} (hv : Value.okWide Try.prog w r b0 28 v) (h : DataW.Trod enc Try.prog w base spare held 28 v d ps) : ∃ L : List (List UInt8), rds w L v := by
  obtain ⟨o, n0, c0, rfl⟩ := okWide_slice Try.underlying28 hv
  obtain ⟨fuel, hf⟩ := h
  have e4 : DataW.trod enc Try.prog w base spare held fuel 28 [.slice o n0 c0] = some (d, ps) := by simpa [Value.cells] using hf
  rcases DataW.trod_slice Try.underlying28 e4 with ⟨h0, _⟩ | ⟨a, len, cap, elems, rest, n', hn', h0, _, _, hlc, hcm, hel, hall, _⟩
  · exact ⟨[], none, ⟨0, 0, none⟩, 0, by simpa using h0, Nat.le_refl _, by unfold maxLen; omega, fun h => absurd h (by decide), fun i hi => absurd hi (by simp)⟩
  · obtain ⟨l, hl, hp⟩ := list_of len (fun i (X : List UInt8) => ∃ ob cb, w.cell? (a.add i) = some (.slice ob X.length cb) ∧ rd w X (.slice ob X.length cb)) (fun i hi => by
      have hi2 := hall i hi
      rw [List.getElem?_eq_getElem (by omega)] at hi2
      obtain ⟨ds, hd1, hd2⟩ := Option.bind_eq_some_iff.1 hi2
      rw [show Try.prog.cellsOf 27 = 1 by kernel_rfl, Nat.mul_one] at hd1
      obtain ⟨_, hdl, hdc⟩ := World.cells?_some hd1
      have hd3 : ∃ c, ds = [c] := by
        match ds, hdl with
        | [c], _ => exact ⟨c, rfl⟩
      obtain ⟨c, rfl⟩ := hd3
      obtain ⟨X, hX, _⟩ := open_rd hd2
      have g0 := hdc 0 (by omega)
      rw [add_add] at g0
      obtain ⟨ob, cb, rfl, _⟩ := hX.form
      exact ⟨X, ob, cb, g0, hX⟩)
    subst hl
    exact ⟨l, some a, a, cap, by simpa using h0, hlc, hcm, fun _ => rfl, hp⟩
end Go.Proofs.Ytbjdbphnccdpbaa
