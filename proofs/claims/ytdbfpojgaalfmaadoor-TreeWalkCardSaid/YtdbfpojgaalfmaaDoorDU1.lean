/-
  A list of one value, an object of one key: what lies there reads as.
-/
import Derived.Test.YtdbfpojgaalfmaaDoorDU
import Derived.Deep.RegionHeld3
import Derived.IntWalk
set_option linter.unusedVariables false
namespace Go.Proofs.YtdbfpojgaalfmaaDoor
open Go.RowKit Go.Shelf

theorem wrapL_isV {W : World} {x : V} {g : Nat} {t : TypeId} {c0 c1 c2 c3 c4 c5 : Value} (h : W.heap[g]? = some (.cells #[c0, c1, c2, c3, c4, c5] t (0, 0))) (hx : isV W x (.agg #[c0, c1, c2, c3, c4, c5])) :
    isV W (wrapL x) (.agg #[.int .i8 4, .bool false, .int .i64 0, .string ⟨#[]⟩, .slice (some ⟨g, 0, none⟩) 1 1, .slice none 0 0]) := by
  obtain ⟨e0, e1, e2, e3, e4, e5⟩ := six_cells h
  unfold wrapL isV
  refine ⟨_, _, rfl, by omega, by omega, by decide, ⟨⟨g, 0, none⟩, 1, ⟨_, rfl, Nat.le_refl _, by unfold maxLen; decide, fun _ => rfl⟩, ?_⟩, ⟨⟨0, 0, none⟩, 0, ⟨_, rfl, Nat.le_refl _, by unfold maxLen; decide, fun h => absurd h (by decide)⟩, fun i hi => absurd hi (by simp)⟩⟩
  unfold isVs
  refine ⟨⟨_, _, _, _, _, _, e0, e1, e2, e3, e4, e5, hx⟩, ?_⟩
  unfold isVs
  trivial
theorem wrapO_isV {W : World} {x : V} {g gk : Nat} {t tk : TypeId} {key : ByteArray} {c0 c1 c2 c3 c4 c5 : Value} (h : W.heap[g]? = some (.cells #[c0, c1, c2, c3, c4, c5] t (0, 0))) (hx : isV W x (.agg #[c0, c1, c2, c3, c4, c5])) (hK : W.heap[gk]? = some (.cells #[.string key] tk (0, 0))) (hk : key.size ≤ maxLen) :
    isV W (wrapO key x) (.agg #[.int .i8 5, .bool false, .int .i64 0, .string ⟨#[]⟩, .slice (some ⟨g, 0, none⟩) 1 1, .slice (some ⟨gk, 0, none⟩) 1 1]) := by
  obtain ⟨e0, e1, e2, e3, e4, e5⟩ := six_cells h
  unfold wrapO isV
  refine ⟨_, _, rfl, by omega, by omega, by decide, ⟨⟨g, 0, none⟩, 1, ⟨_, rfl, Nat.le_refl _, by unfold maxLen; decide, fun _ => rfl⟩, ?_⟩, ⟨⟨gk, 0, none⟩, 1, ⟨_, rfl, Nat.le_refl _, by unfold maxLen; decide, fun _ => rfl⟩, fun i hi => ?_⟩⟩
  · unfold isVs
    refine ⟨⟨_, _, _, _, _, _, e0, e1, e2, e3, e4, e5, hx⟩, ?_⟩
    unfold isVs
    trivial
  · obtain rfl : i = 0 := by simp at hi; exact hi
    refine ⟨?_, hk⟩
    unfold World.cell?
    simp [Addr.add, hK]
theorem hkb_drew {W w : World} : Hid (KB W w.drew) ↔ Hid (KB W w) := ⟨fun h => Lib.hid (h.out.trans (⟨rfl, rfl, rfl, Nat.le_refl _, fun _ _ => rfl⟩ : Below W.heap.size w.drew w)), fun h => Lib.hid h.out.drew⟩
theorem Calls.hk {f : Nat} {args : Array Value} {w0 w : World} {v : Value} (hK : Hid (KB w0 w)) (h : Calls Tryd.prog f args w fun e w' => e = .returned v ∧ Below w.heap.size w w') : Calls Tryd.prog f args w fun e w' => e = .returned v ∧ Hid (KB w0 w') :=
  (Calls.kb hK.out h).mono fun e w' h => ⟨h.1, Lib.hid h.2⟩

end Go.Proofs.YtdbfpojgaalfmaaDoor
