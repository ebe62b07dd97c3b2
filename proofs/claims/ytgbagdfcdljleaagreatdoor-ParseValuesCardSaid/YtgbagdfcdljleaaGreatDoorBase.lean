/-
  Contracts of the small functions of package runes and of its reference: letter, digit, Name.
-/
import Derived.Test.YtgbagdfcdljleaaGreatDoorProg
import Derived.WalkKit
import Derived.ProofKit
import Derived.Below
import Derived.Deep.QuietTactic
import Derived.BigQuiet
import Derived.Lib.Hide
set_option linter.unusedVariables false
set_option linter.unusedSimpArgs false
namespace Go.Proofs.YtgbagdfcdljleaaGreatDoor.Ru
open Go.RowKit

/-- A byte is an ASCII letter. -/
def letB (c : UInt8) : Bool := (decide (97 ≤ c.toNat) && decide (c.toNat ≤ 122)) || (decide (65 ≤ c.toNat) && decide (c.toNat ≤ 90))
def digB (c : UInt8) : Bool := decide (48 ≤ c.toNat) && decide (c.toNat ≤ 57)
/-- The bytes are a name. -/
def nameB (l : List UInt8) : Bool := decide (1 ≤ l.length) && decide (l.length ≤ 32) && (letB (l.getD 0 0) && l.all fun c => letB c || digB c)

theorem nameB_short {l : List UInt8} (h : l.length < 1) : nameB l = false := by
  unfold nameB; rw [decide_eq_false (by omega)]; rfl
theorem nameB_long {l : List UInt8} (h : 32 < l.length) : nameB l = false := by
  unfold nameB; rw [decide_eq_false (by omega : ¬ l.length ≤ 32)]; simp
theorem nameB_head {l : List UInt8} {c : UInt8} (e : l.getD 0 0 = c) (h : letB c = false) : nameB l = false := by
  unfold nameB; rw [e, h]; simp
theorem ret_bool {a b : Bool} (h : a = b) : Ending.returned (.bool a) = .returned (.bool b) := by rw [h]
theorem ret_int {k : IntKind} {a b : Int} (h : a = b) : Ending.returned (.int k a) = .returned (.int k b) := by rw [h]
theorem toList_length (s : ByteArray) : s.data.toList.length = s.size := by rw [Array.length_toList]; rfl
theorem toList_getElem (s : ByteArray) (k : Nat) (h : k < s.size) : s.data.toList[k]? = some s[k] := by
  rw [List.getElem?_eq_getElem (by rw [toList_length]; exact h)]; rfl
theorem take_snoc (s : ByteArray) (k : Nat) (h : k < s.size) : s.data.toList.take (k + 1) = s.data.toList.take k ++ [s[k]] := by
  rw [List.take_succ_eq_append_getElem (by simpa using h)]; rfl
theorem nameB_first (s : ByteArray) (h0 : 0 < s.size) : s.data.toList.getD 0 0 = s[0] := by
  rw [List.getD, toList_getElem s 0 h0]; rfl

end Go.Proofs.YtgbagdfcdljleaaGreatDoor.Ru
