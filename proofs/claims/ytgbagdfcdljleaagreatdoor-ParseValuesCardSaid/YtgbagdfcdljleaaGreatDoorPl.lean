/-
  Plain functions on lists of bytes: the runes of a text with their places, how a text is written between quotes, how it is read back. No program in it.
-/
import Derived.Lib.MapLaws
import Derived.Lib.ValidLaws
import Derived.Lib.TrimUEq
import Derived.Lib.TrimAscii
set_option linter.unusedVariables false
set_option linter.unusedSimpArgs false
namespace Go.Proofs.YtgbagdfcdljleaaGreatDoor.Ru
open Go.Lib

/-- No rune stands at the head. -/
def bad (l : List UInt8) : Bool := decide ((decodeL l).1 = 65533 ∧ (decodeL l).2 = 1)

def stepsF : Nat → Nat → List UInt8 → List (Nat × Nat)
  | 0, _, _ => []
  | n + 1, p, l => if l = [] then [] else if bad l then [] else (p, (decodeL l).1) :: stepsF n (p + (decodeL l).2) (l.drop (decodeL l).2)
/-- The places (from p on) and the runes of l, up to where it is no text. -/
def stepsP (p : Nat) (l : List UInt8) : List (Nat × Nat) := stepsF l.length p l
def steps (l : List UInt8) : List (Nat × Nat) := stepsP 0 l

theorem stepsF_fuel : ∀ (n m p : Nat) (l : List UInt8), l.length ≤ n → l.length ≤ m → stepsF n p l = stepsF m p l
  | 0, m, p, l, hn, _ => by
    have : l = [] := List.eq_nil_of_length_eq_zero (by omega)
    subst this
    cases m <;> simp [stepsF]
  | n + 1, 0, p, l, _, hm => by
    have : l = [] := List.eq_nil_of_length_eq_zero (by omega)
    subst this
    simp [stepsF]
  | n + 1, m + 1, p, l, hn, hm => by
    unfold stepsF
    by_cases h0 : l = []
    · simp [h0]
    rw [if_neg h0, if_neg h0]
    cases hb : bad l with
    | true => rfl
    | false =>
      have hw := decodeL_width l
      have := List.length_pos_iff.2 h0
      simp only [Bool.false_eq_true, if_false]
      rw [stepsF_fuel n m _ _ (by simp; omega) (by simp; omega)]

theorem stepsP_nil (p : Nat) : stepsP p [] = [] := rfl
theorem stepsP_bad (p : Nat) {l : List UInt8} (h : bad l = true) : stepsP p l = [] := by
  unfold stepsP
  cases l with
  | nil => rfl
  | cons c t => simp [stepsF, h]
theorem stepsP_good (p : Nat) {l : List UInt8} (h0 : l ≠ []) (h : bad l = false) : stepsP p l = (p, (decodeL l).1) :: stepsP (p + (decodeL l).2) (l.drop (decodeL l).2) := by
  unfold stepsP
  have hw := decodeL_width l
  obtain ⟨n, hn⟩ : ∃ n, l.length = n + 1 := ⟨l.length - 1, by have := List.length_pos_iff.2 h0; omega⟩
  rw [hn]
  simp only [stepsF, if_neg h0, h, Bool.false_eq_true, if_false]
  rw [stepsF_fuel n (l.drop (decodeL l).2).length _ _ (by simp; omega) (Nat.le_refl _)]

theorem bad_false {l : List UInt8} (h : bad l = false) : ¬ ((decodeL l).1 = 65533 ∧ (decodeL l).2 = 1) := by simpa [bad] using h

theorem stepsP_len : ∀ (n p : Nat) (l : List UInt8), l.length ≤ n → (stepsP p l).length ≤ l.length
  | 0, p, l, h => by
    have : l = [] := List.eq_nil_of_length_eq_zero (by omega)
    subst this; simp [stepsP_nil]
  | n + 1, p, l, h => by
    by_cases h0 : l = []
    · subst h0; simp [stepsP_nil]
    cases hb : bad l with
    | true => rw [stepsP_bad p hb]; simp
    | false =>
      have hw := decodeL_width l
      have hl := decodeL_le l h0
      have ih := stepsP_len n (p + (decodeL l).2) (l.drop (decodeL l).2) (by simp; omega)
      rw [stepsP_good p h0 hb]
      simp at ih ⊢
      omega
theorem steps_length (l : List UInt8) : (steps l).length ≤ l.length := stepsP_len _ _ _ (Nat.le_refl _)

theorem stepsP_mem : ∀ (n p : Nat) (l : List UInt8), l.length ≤ n → ∀ x ∈ stepsP p l, p ≤ x.1 ∧ x.1 < p + l.length ∧ x.2 ≤ 1114111 ∧ x.2 = (decodeL (l.drop (x.1 - p))).1 ∧ bad (l.drop (x.1 - p)) = false
  | 0, p, l, h => by
    have : l = [] := List.eq_nil_of_length_eq_zero (by omega)
    subst this; simp [stepsP_nil]
  | n + 1, p, l, h => by
    by_cases h0 : l = []
    · subst h0; simp [stepsP_nil]
    cases hb : bad l with
    | true => rw [stepsP_bad p hb]; simp
    | false =>
      have hw := decodeL_width l
      have hl := decodeL_le l h0
      have hr := decodeL_rune l
      have h1 := List.length_pos_iff.2 h0
      have ih := stepsP_mem n (p + (decodeL l).2) (l.drop (decodeL l).2) (by simp; omega)
      rw [stepsP_good p h0 hb]
      intro x hx
      rcases List.mem_cons.1 hx with rfl | hx
      · exact ⟨Nat.le_refl _, Nat.lt_add_of_pos_right h1, hr, by rw [Nat.sub_self, List.drop_zero], by rw [Nat.sub_self, List.drop_zero]; exact hb⟩
      · generalize (decodeL l).2 = K at hw hl ih hx
        obtain ⟨a, b, c, d, e⟩ := ih x hx
        have e1 : (l.drop K).drop (x.1 - (p + K)) = l.drop (x.1 - p) := by
          rw [List.drop_drop, show K + (x.1 - (p + K)) = x.1 - p by omega]
        rw [e1] at d e
        rw [List.length_drop] at b
        exact ⟨by omega, by omega, c, d, e⟩
/-- What a step of a text is. -/
theorem steps_mem {l : List UInt8} {x : Nat × Nat} (h : x ∈ steps l) : x.1 < l.length ∧ x.2 ≤ 1114111 ∧ x.2 = (decodeL (l.drop x.1)).1 ∧ bad (l.drop x.1) = false := by
  obtain ⟨_, b, c, d, e⟩ := stepsP_mem l.length 0 l (Nat.le_refl _) x h
  exact ⟨by simpa using b, c, d, e⟩

/-- A step whose bytes are written out. -/
abbrev Stp (l : List UInt8) := { x : Nat × Nat // x ∈ steps l }
end Go.Proofs.YtgbagdfcdljleaaGreatDoor.Ru
