/-
  The contracts of package runes at every input, and of the statements' helper 'wakes'.
-/
import Derived.Test.YtoojfgajlakonaaDoorUqm
set_option linter.unusedVariables false
namespace Go.Proofs.YtoojfgajlakonaaDoor
open Go.RowKit Go.Shelf Go.Maps

def quoteR (l : List UInt8) : Value := if Lib.validD l then .tuple #[.string ⟨(quoteL l).toArray⟩, .int .i64 0] else .tuple #[.string ⟨#[]⟩, .int .i64 10]
theorem quote_any (s : ByteArray) (hs : s.size ≤ 4294967296) (w : World) (hE : Env w) :
    Calls Tryd.prog 10 #[.string s] w fun e w' => e = .returned (quoteR s.data.toList) ∧ Below w.heap.size w w' := by
  have h7 := hE.1
  unfold quoteR
  cases hv : Lib.validD s.data.toList with
  | false => exact quote_no s w hv (by unfold maxLen; omega) hE.2.1
  | true => exact quote_yes s w hv hs (by omega) hE.2.1

/-- Unquote's answer. -/
def unqI (L : List UInt8) (at' : Int) : UAns :=
  if at' < 0 ∨ (L.length : Int) < at' then ([], 0, 2) else if at'.toNat = L.length ∨ L.getD at'.toNat 0 ≠ 34 then ([], at'.toNat, 10) else unqL L at'.toNat
theorem unquote_any (s : ByteArray) (at' : Int) (hs : s.size ≤ 4294967296) (w : World) (hE : Env w) :
    Calls Tryd.prog 18 #[.string s, .int .i64 at'] w fun e w' => e = .returned (ansV (unqI s.data.toList at')) ∧ Below w.heap.size w w' := by
  have hM : s.size ≤ maxLen := by unfold maxLen; omega
  unfold unqI
  rw [toList_length]
  split
  · rename_i h
    exact unq_arg s at' h hM w
  · rename_i h
    obtain ⟨p, rfl⟩ : ∃ p : Nat, at' = p := ⟨at'.toNat, by omega⟩
    rw [Int.toNat_natCast]
    have hp : p ≤ s.size := by omega
    split
    · rename_i h2
      exact unq_noquote s p hp h2 hM w
    · rename_i h2
      have h3 : p < s.size := by omega
      refine unq_yes s p h3 ?_ hs w hE
      have h4 : s.data.toList.getD p 0 = 34 := Decidable.not_not.1 fun e => h2 (.inr e)
      rw [List.getD, toList_getElem s p h3] at h4
      exact h4

theorem wake_q : quoteR [97, 10] = .tuple #[.string ⟨#[34, 97, 92, 110, 34]⟩, .int .i64 0] := by kernel_rfl
theorem wake_u : ansV (unqI [34, 92, 117, 48, 48, 52, 49, 34] 0) = .tuple #[.string ⟨#[65]⟩, .int .i64 8, .int .i64 0] := by kernel_rfl

set_option maxHeartbeats 1000000 in
theorem wakes_any (w : World) (hE : Env w) : Calls Tryd.prog 9 #[] w fun e w' => e = .returned (.bool true) ∧ Below w.heap.size w w' := by
  have h7 := hE.1
  have hq := quote_any ⟨#[97, 10]⟩ (by decide) w hE
  rw [show (ByteArray.mk #[97, 10]).data.toList = [97, 10] from rfl, wake_q] at hq
  have HQ := Lib.hid hq
  have HU : Hid (∀ w1, Env w1 → Calls Tryd.prog 18 #[.string ⟨#[34, 92, 117, 48, 48, 52, 49, 34]⟩, .int .i64 0] w1 fun e w' => e = .returned (.tuple #[.string ⟨#[65]⟩, .int .i64 8, .int .i64 0]) ∧ Below w1.heap.size w1 w') := Lib.hid fun w1 hE1 => by
    have hu := unquote_any ⟨#[34, 92, 117, 48, 48, 52, 49, 34]⟩ 0 (by decide) w1 hE1
    rw [show (ByteArray.mk #[34, 92, 117, 48, 48, 52, 49, 34]).data.toList = [34, 92, 117, 48, 48, 52, 49, 34] from rfl, wake_u] at hu
    exact hu
  clear hq
  go_enter Tryd.func9, Tryd.ntmps9
  go_wp2_with fail
  refine HQ.out.mono ?_
  rintro e w1 ⟨rfl, hb1⟩
  have hE1 := hE.below hb1 h7
  go_wp2_with fail
  refine (HU.out _ hE1).mono ?_
  rintro e w2 ⟨rfl, hb2⟩
  go_wp2_with fail
  go_ret
  exact ⟨rfl, hb1.trans (hb2.mono hb1.size)⟩
end Go.Proofs.YtoojfgajlakonaaDoor
