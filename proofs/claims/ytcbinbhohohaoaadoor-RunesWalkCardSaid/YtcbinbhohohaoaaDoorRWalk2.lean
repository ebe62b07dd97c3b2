/-
  The statement RunesWalk, at every input.
-/
import Derived.Test.YtcbinbhohohaoaaDoorRWalk
set_option linter.unusedVariables false
namespace Go.Proofs.YtcbinbhohohaoaaDoor
open Go.RowKit Go.Shelf
theorem walk_any (s : ByteArray) (stop : Int) (w : World) (hE : Env w) (hs : s.size ≤ maxLen) {p : Prop} (_ : p) :
    Calls Tryd.prog 5 #[.string s, .int .i64 stop] w fun e w' => e = .returned (.bool true) ∧ Below w.heap.size w w' := by
  by_cases h : 2000 < s.size
  · exact walk_long s stop w hE hs h
  · exact walk_short s stop w hE (by omega)
end Go.Proofs.YtcbinbhohohaoaaDoor
