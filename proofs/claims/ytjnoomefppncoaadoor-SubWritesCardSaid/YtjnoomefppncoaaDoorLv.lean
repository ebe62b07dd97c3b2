/-
  The program's Valid.
-/
import Derived.Test.YtjnoomefppncoaaDoorLb
import Derived.Test.YtjnoomefppncoaaDoorShelfB
set_option linter.unusedVariables false
namespace Go.Proofs.YtjnoomefppncoaaDoor
open Go.RowKit Go.Shelf

set_option maxHeartbeats 1000000 in
theorem valid_any (s : ByteArray) (hs : s.size ≤ maxLen) (w : World) (hE : Env w) : Calls Tryd.prog 19 #[.string s] w fun e w' => e = .returned (.bool (Lib.validD s.data.toList)) ∧ Below w.heap.size w w' := by
  have HV := Lib.hid (Tryd.utf8_ValidString s w (by unfold maxLen at hs; omega) hE.2.1)
  generalize Lib.validD s.data.toList = r at *
  clear hE hs
  go_enter Tryd.func19, Tryd.ntmps19
  go_wp2_with (go_at_call 36; refine HV.out.mono ?_; rintro e w5 ⟨rfl, hb5⟩)
  go_ret
  exact ⟨rfl, hb5⟩
end Go.Proofs.YtjnoomefppncoaaDoor
