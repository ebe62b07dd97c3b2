/-
  The contracts of package runes at every input, and of the statements' helper 'wakes'.
-/
import Derived.Test.YtgbagdfcdljleaaGreatDoorUqm
set_option linter.unusedVariables false
set_option linter.unusedSimpArgs false
namespace Go.Proofs.YtgbagdfcdljleaaGreatDoor.Ru
open Go.RowKit Go.Shelf Go.Maps

def quoteR (l : List UInt8) : Value := if Lib.validD l then .tuple #[.string ⟨(quoteL l).toArray⟩, .int .i64 0] else .tuple #[.string ⟨#[]⟩, .int .i64 10]
/-- Unquote's answer. -/
def unqI (L : List UInt8) (at' : Int) : UAns :=
  if at' < 0 ∨ (L.length : Int) < at' then ([], 0, 2) else if at'.toNat = L.length ∨ L.getD at'.toNat 0 ≠ 34 then ([], at'.toNat, 10) else unqL L at'.toNat
theorem unquote_any (s : ByteArray) (at' : Int) (hs : s.size ≤ 4294967296) (w : World) (hE : Env w) :
    Calls Tryz.prog 52 #[.string s, .int .i64 at'] w fun e w' => e = .returned (ansV (unqI s.data.toList at')) ∧ Below w.heap.size w w' := by
  have hM : s.size ≤ maxLen := by unfold maxLen; omega
  unfold unqI
  rw [toList_length]
  split
  · rename_i h
    exact unq_arg s at' h hM w
  · rename_i h
    obtain ⟨p, rfl⟩ : ∃ p : Nat, at' = p := ⟨at'.toNat, by omega⟩
    rw [Int.toNat_natCast]
    have hp : p ≤ s.size := by omega
    split
    · rename_i h2
      exact unq_noquote s p hp h2 hM w
    · rename_i h2
      have h3 : p < s.size := by omega
      refine unq_yes s p h3 ?_ hs w hE
      have h4 : s.data.toList.getD p 0 = 34 := Decidable.not_not.1 fun e => h2 (.inr e)
      rw [List.getD, toList_getElem s p h3] at h4
      exact h4

theorem wake_q : quoteR [97, 10] = .tuple #[.string ⟨#[34, 97, 92, 110, 34]⟩, .int .i64 0] := by kernel_rfl
theorem wake_u : ansV (unqI [34, 92, 117, 48, 48, 52, 49, 34] 0) = .tuple #[.string ⟨#[65]⟩, .int .i64 8, .int .i64 0] := by kernel_rfl

end Go.Proofs.YtgbagdfcdljleaaGreatDoor.Ru
