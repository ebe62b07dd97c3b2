/-
  What the rows' condition on the package variables gives the walks: unicode/utf8's two tables.
-/
import Derived.Test.YtlamkadllbgamaaGreatDoorRows
import Derived.Test.YtlamkadllbgamaaGreatDoorGG
import Derived.Lib.LaidU8T
import Derived.PinnedBridge
import Derived.ProofKit
import Derived.OpenShut
import Derived.ShutString
import Derived.ChangeOld
import Derived.LaidMore
import Derived.Lay
set_option linter.unusedVariables false
set_option linter.unusedSimpArgs false
namespace Go.Proofs.YtlamkadllbgamaaGreatDoor
open Go.ChangeShapes Go.WideShapes Go.ChangeAt Go.RowKit Go.Shelf

theorem accept_eq : (Rows.laid_unicode_utf8_acceptRanges : DataW Unit) = Lib.acceptData := by kernel_rfl
theorem first_eq : Rows.laid_unicode_utf8_first = Lib.firstData := Pinned.utf8First_eq
theorem u8x : U8Extra Tryz.prog Tryz.lays196_ren := {
  n3 := by kernel_rfl
  n4 := by kernel_rfl
  y3 := by kernel_rfl
  y4 := by kernel_rfl
  c5 := by kernel_rfl
  c119 := by kernel_rfl
  c138 := by kernel_rfl }
theorem env_of_laid {laid : List (String × DataW Unit)} (hm : ("unicode/utf8.first", Rows.laid_unicode_utf8_first) ∈ laid) (hm2 : ("unicode/utf8.acceptRanges", Rows.laid_unicode_utf8_acceptRanges) ∈ laid)
    {W : World} (h : laidMet Tryz.prog laid W) : Env W := by
  have r1 := Lib.laidMet.reads h hm
  have r2 := Lib.laidMet.reads h hm2
  rw [first_eq] at r1
  rw [accept_eq] at r2
  have ht : Lib.Utf8Tabs 0 1 W := utf8Tabs_of_readsT (U8Types.of196 Tryz.lays196) u8x r1 r2
  have h2 := World.block_lt_of_cell? _ _ (ht.2 0 (by decide)).1
  exact ⟨by simp at h2; omega, ht⟩
end Go.Proofs.YtlamkadllbgamaaGreatDoor
