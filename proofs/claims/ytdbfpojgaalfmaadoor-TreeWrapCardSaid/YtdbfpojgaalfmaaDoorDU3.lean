/-
  TreeWrap returns true, of whatever values.
-/
import Derived.Test.YtdbfpojgaalfmaaDoorDU2A
import Derived.Test.YtdbfpojgaalfmaaDoorDU2B
import Derived.Test.YtdbfpojgaalfmaaDoorDU2C
set_option linter.unusedVariables false
namespace Go.Proofs.YtdbfpojgaalfmaaDoor
open Go.RowKit Go.Shelf

theorem wrap_any (va : Value) (x : V) (vb : Value) (y : V) (key : ByteArray) (w : World) (hE : Env w) (h : isV w x va) (h' : isV w y vb) (hk : key.size ≤ maxLen) :
    Calls Tryd.prog 8 #[va, vb, .string key] w fun e w' => e = .returned (.bool true) ∧ Below w.heap.size w w' := by
  by_cases hg : greatB x = true ∨ greatB y = true ∨ 200 < key.size
  · exact wrapGreat_any va x vb y key w hE h h' hk hg
  · have g1 : greatB x = false := by
      cases hx : greatB x with
      | false => rfl
      | true => exact absurd (.inl hx) hg
    have g2 : greatB y = false := by
      cases hx : greatB y with
      | false => rfl
      | true => exact absurd (.inr (.inl hx)) hg
    have g3 : key.size ≤ 200 := by
      by_cases hs : 200 < key.size
      · exact absurd (.inr (.inr hs)) hg
      · omega
    by_cases hx : pcheckV (wrapL x) = 0
    · by_cases hy : pcheckV (wrapL y) = 0
      · exact wrapFineA_any va x vb y key w hE h h' hk g1 g2 g3 ⟨hx, hy⟩
      · exact wrapFineB_any va x vb y key w hE h h' hk g1 g2 g3 ⟨hx, hy⟩
    · exact wrapFineC_any va x vb y key w hE h h' hk g1 g2 g3 hx
end Go.Proofs.YtdbfpojgaalfmaaDoor
