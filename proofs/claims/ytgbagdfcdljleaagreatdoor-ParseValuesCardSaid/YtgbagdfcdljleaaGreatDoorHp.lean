/-
  (What Hh imports: strings.HasPrefix as the shelf has it.)
-/
import Derived.Test.YtgbagdfcdljleaaGreatDoorShelf
set_option linter.unusedVariables false
set_option linter.unusedSimpArgs false
namespace Go.Proofs.YtgbagdfcdljleaaGreatDoor
end Go.Proofs.YtgbagdfcdljleaaGreatDoor
