/-
  The statement NumberOrder: the call returns true, and writes nothing that was there.
-/
import Derived.Test.YtgbbbcojeaolbaaNTells
import Derived.Test.YtgbbbcojeaolbaaNM2
set_option linter.unusedVariables false
namespace Go.Proofs.Ytgbbbcojeaolbaa
open Go.RowKit

theorem bl_eq : ∀ (x y : List UInt8), Op.bytesLess x y = decide (x < y)
  | [], [] => by simp [Op.bytesLess]
  | _ :: _, [] => by simp [Op.bytesLess]
  | [], _ :: _ => by simp [Op.bytesLess]
  | a :: x, b :: y => by
    rw [Op.bytesLess, bl_eq x y, Bool.eq_iff_iff]
    simp [List.cons_lt_cons_iff]
/-- Two calls of Text, as the walk meets them. -/
theorem text_at {n : Int} {S : ByteArray} {E : Int} (hS : (⟨(txt n).toArray⟩ : ByteArray) = S) (hE : errN (fitB n) = E) (w : World) : Hid (∀ w1, KB w w1 → Calls Try.prog 7 #[.int .i64 n] w1 fun e w' => e = .returned (.tuple #[.string S, .int .i64 E]) ∧ KB w w') :=
  Lib.hid fun w1 hK => Calls.kb hK (by have := text_any n w1; rw [hS, hE] at this; exact this)

set_option maxHeartbeats 4000000 in
set_option maxRecDepth 100000 in
theorem order_any (n m : Int) (w : World) :
    Calls Try.prog 6 #[.int .i64 n, .int .i64 m] w fun e w' => e = .returned (.bool true) ∧ Below w.heap.size w w' := by
  refine Calls.mono (R := fun e w' => e = .returned (.bool true) ∧ KB w w') ?_ fun e w' h => h
  have hK0 : KB w w := Below.refl _ _
  have l1 := txt_len n
  have l2 := txt_len m
  obtain ⟨A, hA⟩ : ∃ S : ByteArray, (⟨(txt n).toArray⟩ : ByteArray) = S := ⟨_, rfl⟩
  obtain ⟨B, hB⟩ : ∃ S : ByteArray, (⟨(txt m).toArray⟩ : ByteArray) = S := ⟨_, rfl⟩
  have sA : A.size = (txt n).length := by rw [← hA, size_arr]
  have sB : B.size = (txt m).length := by rw [← hB, size_arr]
  have a17 : A.size ≤ 17 := by omega
  have b17 : B.size ≤ 17 := by omega
  have HW : Hid (∀ w1, KB w w1 → Calls Try.prog 15 #[] w1 fun e w' => e = .returned (.bool true) ∧ KB w w') := Lib.hid fun w1 hK => Calls.k0 hK (wakes_any w1)
  cases hn : fitB n with
  | false =>
    cases hm : fitB m with
    | false =>
      have H1 := text_at (E := 20) hA (by rw [hn]; rfl) w
      have H2 := text_at (E := 20) hB (by rw [hm]; rfl) w
      clear hA hB sA sB hn hm l1 l2
      go_enter Try.func6, Try.ntmps6
      go_wp2_with (first | (go_at_call 7; first | ((with_reducible refine (H1.out _ (by assumption)).mono ?_); rintro e w' ⟨rfl, hK⟩) | ((with_reducible refine (H2.out _ (by assumption)).mono ?_); rintro e w' ⟨rfl, hK⟩)) | (go_at_call 15; (with_reducible refine (HW.out _ (by assumption)).mono ?_); rintro e w' ⟨rfl, hK⟩))
      go_ret
      exact ⟨rfl, by assumption⟩
    | true =>
      have H1 := text_at (E := 20) hA (by rw [hn]; rfl) w
      have H2 := text_at (E := 0) hB (by rw [hm]; rfl) w
      clear hA hB sA sB hn hm l1 l2
      go_enter Try.func6, Try.ntmps6
      go_wp2_with (first | (go_at_call 7; first | ((with_reducible refine (H1.out _ (by assumption)).mono ?_); rintro e w' ⟨rfl, hK⟩) | ((with_reducible refine (H2.out _ (by assumption)).mono ?_); rintro e w' ⟨rfl, hK⟩)) | (go_at_call 15; (with_reducible refine (HW.out _ (by assumption)).mono ?_); rintro e w' ⟨rfl, hK⟩))
      go_ret
      exact ⟨rfl, by assumption⟩
  | true =>
    cases hm : fitB m with
    | false =>
      have H1 := text_at (E := 0) hA (by rw [hn]; rfl) w
      have H2 := text_at (E := 20) hB (by rw [hm]; rfl) w
      clear hA hB sA sB hn hm l1 l2
      go_enter Try.func6, Try.ntmps6
      go_wp2_with (first | (go_at_call 7; first | ((with_reducible refine (H1.out _ (by assumption)).mono ?_); rintro e w' ⟨rfl, hK⟩) | ((with_reducible refine (H2.out _ (by assumption)).mono ?_); rintro e w' ⟨rfl, hK⟩)) | (go_at_call 15; (with_reducible refine (HW.out _ (by assumption)).mono ?_); rintro e w' ⟨rfl, hK⟩))
      go_ret
      exact ⟨rfl, by assumption⟩
    | true =>
      have H1 := text_at (E := 0) hA (by rw [hn]; rfl) w
      have H2 := text_at (E := 0) hB (by rw [hm]; rfl) w
      have hcmp : Op.bytesLess A.toList B.toList = decide (txt n < txt m) := by
        rw [bl_eq, Lib.toList_data, Lib.toList_data, ← hA, ← hB]
      by_cases h0 : n < 0
      · have e0 : decide (n < 0) = true := decide_eq_true h0
        by_cases h1 : m < 0
        · have e1 : decide (m < 0) = true := decide_eq_true h1
          by_cases hl : A.size = B.size
          · have hlt := txt_lt_neg hn hm h0 h1 (by omega)
            have hc : Op.bytesLess A.toList B.toList = decide (m < n) := by rw [hcmp, decide_eq_decide]; exact hlt
            clear sA sB hn hm l1 l2 hlt hA hB hcmp h0 h1
            go_enter Try.func6, Try.ntmps6
            go_wp2_with (first | (go_at_call 7; first | ((with_reducible refine (H1.out _ (by assumption)).mono ?_); rintro e w' ⟨rfl, hK⟩) | ((with_reducible refine (H2.out _ (by assumption)).mono ?_); rintro e w' ⟨rfl, hK⟩)) | (go_at_call 15; (with_reducible refine (HW.out _ (by assumption)).mono ?_); rintro e w' ⟨rfl, hK⟩))
            go_ret
            exact ⟨rfl, by assumption⟩
          · have hlt := txt_len_neg hn hm h0 h1 (by omega)
            have hg : A.size < B.size ↔ ¬ n < m := by rw [sA, sB]; exact hlt
            clear sA sB hn hm l1 l2 hlt hA hB hcmp h0 h1
            by_cases hnm : n < m
            · have hle : decide (A.size < B.size) = false := decide_eq_false fun h => hg.1 h hnm
              have e2 : decide (n < m) = true := decide_eq_true hnm
              clear hg hnm
              go_enter Try.func6, Try.ntmps6
              go_wp2_with (first | (go_at_call 7; first | ((with_reducible refine (H1.out _ (by assumption)).mono ?_); rintro e w' ⟨rfl, hK⟩) | ((with_reducible refine (H2.out _ (by assumption)).mono ?_); rintro e w' ⟨rfl, hK⟩)) | (go_at_call 15; (with_reducible refine (HW.out _ (by assumption)).mono ?_); rintro e w' ⟨rfl, hK⟩))
              go_ret
              exact ⟨rfl, by assumption⟩
            · have hle : decide (A.size < B.size) = true := decide_eq_true (hg.2 hnm)
              have e2 : decide (n < m) = false := decide_eq_false hnm
              clear hg hnm
              go_enter Try.func6, Try.ntmps6
              go_wp2_with (first | (go_at_call 7; first | ((with_reducible refine (H1.out _ (by assumption)).mono ?_); rintro e w' ⟨rfl, hK⟩) | ((with_reducible refine (H2.out _ (by assumption)).mono ?_); rintro e w' ⟨rfl, hK⟩)) | (go_at_call 15; (with_reducible refine (HW.out _ (by assumption)).mono ?_); rintro e w' ⟨rfl, hK⟩))
              go_ret
              exact ⟨rfl, by assumption⟩
        · have e1 : decide (m < 0) = false := decide_eq_false h1
          clear sA sB hn hm l1 l2 hA hB hcmp h0 h1
          go_enter Try.func6, Try.ntmps6
          go_wp2_with (first | (go_at_call 7; first | ((with_reducible refine (H1.out _ (by assumption)).mono ?_); rintro e w' ⟨rfl, hK⟩) | ((with_reducible refine (H2.out _ (by assumption)).mono ?_); rintro e w' ⟨rfl, hK⟩)) | (go_at_call 15; (with_reducible refine (HW.out _ (by assumption)).mono ?_); rintro e w' ⟨rfl, hK⟩))
          go_ret
          exact ⟨rfl, by assumption⟩
      · have e0 : decide (n < 0) = false := decide_eq_false h0
        by_cases h1 : m < 0
        · have e1 : decide (m < 0) = true := decide_eq_true h1
          clear sA sB hn hm l1 l2 hA hB hcmp h0 h1
          go_enter Try.func6, Try.ntmps6
          go_wp2_with (first | (go_at_call 7; first | ((with_reducible refine (H1.out _ (by assumption)).mono ?_); rintro e w' ⟨rfl, hK⟩) | ((with_reducible refine (H2.out _ (by assumption)).mono ?_); rintro e w' ⟨rfl, hK⟩)) | (go_at_call 15; (with_reducible refine (HW.out _ (by assumption)).mono ?_); rintro e w' ⟨rfl, hK⟩))
          go_ret
          exact ⟨rfl, by assumption⟩
        · have e1 : decide (m < 0) = false := decide_eq_false h1
          by_cases hl : A.size = B.size
          · have hlt := txt_lt_pos hn hm h0 h1 (by omega)
            have hc : Op.bytesLess A.toList B.toList = decide (n < m) := by rw [hcmp, decide_eq_decide]; exact hlt
            clear sA sB hn hm l1 l2 hlt hA hB hcmp h0 h1
            go_enter Try.func6, Try.ntmps6
            go_wp2_with (first | (go_at_call 7; first | ((with_reducible refine (H1.out _ (by assumption)).mono ?_); rintro e w' ⟨rfl, hK⟩) | ((with_reducible refine (H2.out _ (by assumption)).mono ?_); rintro e w' ⟨rfl, hK⟩)) | (go_at_call 15; (with_reducible refine (HW.out _ (by assumption)).mono ?_); rintro e w' ⟨rfl, hK⟩))
            go_ret
            exact ⟨rfl, by assumption⟩
          · have hlt := txt_len_pos hn hm h0 h1 (by omega)
            have hg : A.size < B.size ↔ n < m := by rw [sA, sB]; exact hlt
            clear sA sB hn hm l1 l2 hlt hA hB hcmp h0 h1
            by_cases hnm : n < m
            · have hle : decide (A.size < B.size) = true := decide_eq_true (hg.2 hnm)
              have e2 : decide (n < m) = true := decide_eq_true hnm
              clear hg hnm
              go_enter Try.func6, Try.ntmps6
              go_wp2_with (first | (go_at_call 7; first | ((with_reducible refine (H1.out _ (by assumption)).mono ?_); rintro e w' ⟨rfl, hK⟩) | ((with_reducible refine (H2.out _ (by assumption)).mono ?_); rintro e w' ⟨rfl, hK⟩)) | (go_at_call 15; (with_reducible refine (HW.out _ (by assumption)).mono ?_); rintro e w' ⟨rfl, hK⟩))
              go_ret
              exact ⟨rfl, by assumption⟩
            · have hle : decide (A.size < B.size) = false := decide_eq_false fun h => hnm (hg.1 h)
              have e2 : decide (n < m) = false := decide_eq_false hnm
              clear hg hnm
              go_enter Try.func6, Try.ntmps6
              go_wp2_with (first | (go_at_call 7; first | ((with_reducible refine (H1.out _ (by assumption)).mono ?_); rintro e w' ⟨rfl, hK⟩) | ((with_reducible refine (H2.out _ (by assumption)).mono ?_); rintro e w' ⟨rfl, hK⟩)) | (go_at_call 15; (with_reducible refine (HW.out _ (by assumption)).mono ?_); rintro e w' ⟨rfl, hK⟩))
              go_ret
              exact ⟨rfl, by assumption⟩
theorem order_row (n m : Int) (w : World) {p q : Prop} (_ : p) (_ : q) :
    Calls Try.prog 6 #[.int .i64 n, .int .i64 m] w fun e w' => e = .returned (.bool true) ∧ Below w.heap.size w w' := order_any n m w
end Go.Proofs.Ytgbbbcojeaolbaa
