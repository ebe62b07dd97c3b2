/-
  The contract of strings.HasPrefix is the shelf's.
-/
import Derived.Test.YtgbagdfcdljleaaDoorShelf
