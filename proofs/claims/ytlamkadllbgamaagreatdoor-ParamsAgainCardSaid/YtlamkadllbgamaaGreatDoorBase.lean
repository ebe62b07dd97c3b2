/-
  Contracts of the small functions of package runes and of its reference: letter, digit, Name.
-/
import Derived.Test.YtlamkadllbgamaaGreatDoorProg
import Derived.WalkKit
import Derived.ProofKit
import Derived.Below
import Derived.Deep.QuietTactic
import Derived.BigQuiet
import Derived.Lib.Hide
set_option linter.unusedVariables false
set_option linter.unusedSimpArgs false
namespace Go.Proofs.YtlamkadllbgamaaGreatDoor
open Go.RowKit

/-- A byte is an ASCII letter. -/
def letB (c : UInt8) : Bool := (decide (97 ≤ c.toNat) && decide (c.toNat ≤ 122)) || (decide (65 ≤ c.toNat) && decide (c.toNat ≤ 90))
def digB (c : UInt8) : Bool := decide (48 ≤ c.toNat) && decide (c.toNat ≤ 57)
/-- The bytes are a name. -/
def nameB (l : List UInt8) : Bool := decide (1 ≤ l.length) && decide (l.length ≤ 32) && (letB (l.getD 0 0) && l.all fun c => letB c || digB c)

theorem nameB_short {l : List UInt8} (h : l.length < 1) : nameB l = false := by
  unfold nameB; rw [decide_eq_false (by omega)]; rfl
theorem nameB_long {l : List UInt8} (h : 32 < l.length) : nameB l = false := by
  unfold nameB; rw [decide_eq_false (by omega : ¬ l.length ≤ 32)]; simp
theorem nameB_head {l : List UInt8} {c : UInt8} (e : l.getD 0 0 = c) (h : letB c = false) : nameB l = false := by
  unfold nameB; rw [e, h]; simp
theorem letter_yes (c : UInt8) (h : letB c = true) (w : World) : Calls Tryz.prog 63 #[.int .u8 c.toNat] w fun e w' => e = .returned (.bool true) ∧ w = w' := by
  have h' : (97 ≤ c.toNat ∧ c.toNat ≤ 122) ∨ (65 ≤ c.toNat ∧ c.toNat ≤ 90) := by simpa [letB] using h
  clear h
  rcases h' with ⟨h1, h2⟩ | ⟨h1, h2⟩
  · go_enter Tryz.func63, Tryz.ntmps63
    go_wp2
    go_ret
    exact ⟨rfl, rfl⟩
  · have h3 : ¬ 97 ≤ c.toNat := by omega
    go_enter Tryz.func63, Tryz.ntmps63
    go_wp2
    go_ret
    exact ⟨by simp <;> omega, rfl⟩
theorem letter_no (c : UInt8) (h : letB c = false) (w : World) : Calls Tryz.prog 63 #[.int .u8 c.toNat] w fun e w' => e = .returned (.bool false) ∧ w = w' := by
  have h' : ¬ (97 ≤ c.toNat ∧ c.toNat ≤ 122) ∧ ¬ (65 ≤ c.toNat ∧ c.toNat ≤ 90) := by
    have : ¬ ((97 ≤ c.toNat ∧ c.toNat ≤ 122) ∨ (65 ≤ c.toNat ∧ c.toNat ≤ 90)) := fun e => by
      have : letB c = true := by simpa [letB] using e
      rw [h] at this; cases this
    exact ⟨fun e => this (.inl e), fun e => this (.inr e)⟩
  clear h
  by_cases h1 : 97 ≤ c.toNat <;> by_cases h2 : c.toNat ≤ 122 <;> by_cases h3 : 65 ≤ c.toNat <;> by_cases h4 : c.toNat ≤ 90 <;> first | (exfalso; omega) | skip
  all_goals
    clear h'
    go_enter Tryz.func63, Tryz.ntmps63
    go_wp2
    go_ret
    exact ⟨by simp <;> omega, rfl⟩
theorem digit_yes (c : UInt8) (h : digB c = true) (w : World) : Calls Tryz.prog 64 #[.int .u8 c.toNat] w fun e w' => e = .returned (.bool true) ∧ w = w' := by
  obtain ⟨h1, h2⟩ : 48 ≤ c.toNat ∧ c.toNat ≤ 57 := by simpa [digB] using h
  clear h
  go_enter Tryz.func64, Tryz.ntmps64
  go_wp2
  go_ret
  exact ⟨by simp <;> omega, rfl⟩
theorem digit_no (c : UInt8) (h : digB c = false) (w : World) : Calls Tryz.prog 64 #[.int .u8 c.toNat] w fun e w' => e = .returned (.bool false) ∧ w = w' := by
  have h' : ¬ (48 ≤ c.toNat ∧ c.toNat ≤ 57) := fun e => by
    have : digB c = true := by simpa [digB] using e
    rw [h] at this; cases this
  clear h
  by_cases h1 : 48 ≤ c.toNat <;> by_cases h2 : c.toNat ≤ 57 <;> first | (exfalso; omega) | skip
  all_goals
    clear h'
    go_enter Tryz.func64, Tryz.ntmps64
    go_wp2
    go_ret
    exact ⟨by simp <;> omega, rfl⟩

theorem ret_bool {a b : Bool} (h : a = b) : Ending.returned (.bool a) = .returned (.bool b) := by rw [h]
theorem ret_int {k : IntKind} {a b : Int} (h : a = b) : Ending.returned (.int k a) = .returned (.int k b) := by rw [h]
theorem toList_length (s : ByteArray) : s.data.toList.length = s.size := by rw [Array.length_toList]; rfl
theorem toList_getElem (s : ByteArray) (k : Nat) (h : k < s.size) : s.data.toList[k]? = some s[k] := by
  rw [List.getElem?_eq_getElem (by rw [toList_length]; exact h)]; rfl
theorem take_snoc (s : ByteArray) (k : Nat) (h : k < s.size) : s.data.toList.take (k + 1) = s.data.toList.take k ++ [s[k]] := by
  rw [List.take_succ_eq_append_getElem (by simpa using h)]; rfl
theorem nameB_first (s : ByteArray) (h0 : 0 < s.size) : s.data.toList.getD 0 0 = s[0] := by
  rw [List.getD, toList_getElem s 0 h0]; rfl

set_option maxHeartbeats 400000 in
theorem name_any (s : ByteArray) (w : World) (hs : s.size ≤ maxLen) :
    Calls Tryz.prog 45 #[.string s] w fun e w' => e = .returned (.bool (nameB s.data.toList)) ∧ w = w' := by
  unfold maxLen at hs
  by_cases h1 : s.size < 1
  · rw [nameB_short (by rw [toList_length]; exact h1)]
    go_enter Tryz.func45, Tryz.ntmps45
    go_wp2_with fail
    go_ret
    exact ⟨rfl, rfl⟩
  by_cases h2 : 32 < s.size
  · rw [nameB_long (by rw [toList_length]; exact h2)]
    go_enter Tryz.func45, Tryz.ntmps45
    go_wp2_with fail
    go_ret
    exact ⟨rfl, rfl⟩
  have h0 : 0 < s.size := by omega
  have hfst := nameB_first s h0
  cases hL : letB s[0] with
  | false =>
    rw [nameB_head hfst hL]
    have HL := Lib.hid hL
    clear hfst hL
    go_enter Tryz.func45, Tryz.ntmps45
    go_wp2_with (go_at_call 63; refine (letter_no _ HL.out _).mono ?_; rintro e w' ⟨rfl, rfl⟩)
    go_ret
    exact ⟨rfl, rfl⟩
  | true =>
    have hv : nameB s.data.toList = s.data.toList.all fun c => letB c || digB c := by
      have a1 : 1 ≤ s.data.toList.length := by rw [toList_length]; omega
      have a2 : s.data.toList.length ≤ 32 := by rw [toList_length]; omega
      unfold nameB
      rw [hfst, hL, decide_eq_true a1, decide_eq_true a2]; rfl
    have HL := Lib.hid hL
    have HV := Lib.hid hv
    clear hv hfst hL
    go_enter Tryz.func45, Tryz.ntmps45
    go_wp2_with (go_at_call 63; refine (letter_yes _ HL.out _).mono ?_; rintro e w' ⟨rfl, rfl⟩)
    go_loop [20] (fun i => ∃ k : Nat, k ≤ s.size ∧ i = .int .i64 k ∧ (s.data.toList.take k).all (fun c => letB c || digB c) = true) (fun i => s.size - (intOf i).toNat)
    case atStart => exact ⟨0, Nat.zero_le _, rfl, rfl⟩
    case round =>
      obtain ⟨k, hk, rfl, hall⟩ := hrel
      by_cases hlt : k < s.size
      · have hsn := take_snoc s k hlt
        have HA := Lib.hid hall
        have HS := Lib.hid hsn
        clear hall hsn
        cases h3 : letB s[k] with
        | true =>
          have H3 := Lib.hid h3
          clear h3
          go_wp2_with (go_at_call 63; refine (letter_yes _ H3.out _).mono ?_; rintro e w' ⟨rfl, rfl⟩)
          go_round
          case rel => exact ⟨k + 1, by omega, by go_num, by rw [HS.out, List.all_append, HA.out]; simp [H3.out]⟩
          case measure => simp [intOf]; omega
        | false =>
          have H3 := Lib.hid h3
          clear h3
          cases h4 : digB s[k] with
          | true =>
            have H4 := Lib.hid h4
            clear h4
            go_wp2_with (first | (go_at_call 63; refine (letter_no _ H3.out _).mono ?_; rintro e w' ⟨rfl, rfl⟩) | (go_at_call 64; refine (digit_yes _ H4.out _).mono ?_; rintro e w' ⟨rfl, rfl⟩))
            go_round
            case rel => exact ⟨k + 1, by omega, by go_num, by rw [HS.out, List.all_append, HA.out]; simp [H4.out]⟩
            case measure => simp [intOf]; omega
          | false =>
            have H4 := Lib.hid h4
            clear h4
            have hm : s[k] ∈ s.data.toList := List.mem_of_getElem? (toList_getElem s k hlt)
            go_wp2_with (first | (go_at_call 63; refine (letter_no _ H3.out _).mono ?_; rintro e w' ⟨rfl, rfl⟩) | (go_at_call 64; refine (digit_no _ H4.out _).mono ?_; rintro e w' ⟨rfl, rfl⟩))
            go_ret
            refine ⟨?_, rfl⟩
            have : nameB s.data.toList = false := by
              rw [HV.out, List.all_eq_false]
              exact ⟨s[k], hm, by simp [H3.out, H4.out]⟩
            exact ret_bool this.symm
      · have hke : k = s.size := by omega
        subst hke
        have HA := Lib.hid hall
        clear hall
        go_wp2_with fail
        go_ret
        refine ⟨?_, rfl⟩
        have := HA.out
        rw [List.take_of_length_le (by rw [toList_length]; omega), ← HV.out] at this
        exact ret_bool this.symm
end Go.Proofs.YtlamkadllbgamaaGreatDoor
