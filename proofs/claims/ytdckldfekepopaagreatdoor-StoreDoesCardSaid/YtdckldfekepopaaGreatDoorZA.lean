/-
  Plain functions on lists of bytes: the runes of a text with their places, how a text is written between quotes, how it is read back. No program in it. · Plain facts on texts: a text behind a text; texts of ASCII letters. No program in it. · Small lemmas on endings and strings, for seats without package runes (there: Base).
-/
import Derived.Lib.MapLaws
import Derived.Lib.ValidLaws
import Derived.Lib.TrimUEq
import Derived.Lib.TrimAscii
import Derived.Test.YtdckldfekepopaaGreatDoorProg
import Derived.WalkKit
import Derived.ProofKit
import Derived.Below
import Derived.Deep.QuietTactic
import Derived.BigQuiet
import Derived.Lib.Hide
set_option linter.unusedVariables false
set_option linter.unusedSimpArgs false
namespace Go.Proofs.YtdckldfekepopaaGreatDoor
open Go.Lib

/-- No rune stands at the head. -/
def bad (l : List UInt8) : Bool := decide ((decodeL l).1 = 65533 ∧ (decodeL l).2 = 1)

def stepsF : Nat → Nat → List UInt8 → List (Nat × Nat)
  | 0, _, _ => []
  | n + 1, p, l => if l = [] then [] else if bad l then [] else (p, (decodeL l).1) :: stepsF n (p + (decodeL l).2) (l.drop (decodeL l).2)
/-- The places (from p on) and the runes of l, up to where it is no text. -/
def stepsP (p : Nat) (l : List UInt8) : List (Nat × Nat) := stepsF l.length p l
def steps (l : List UInt8) : List (Nat × Nat) := stepsP 0 l

theorem stepsF_fuel : ∀ (n m p : Nat) (l : List UInt8), l.length ≤ n → l.length ≤ m → stepsF n p l = stepsF m p l
  | 0, m, p, l, hn, _ => by
    have : l = [] := List.eq_nil_of_length_eq_zero (by omega)
    subst this
    cases m <;> simp [stepsF]
  | n + 1, 0, p, l, _, hm => by
    have : l = [] := List.eq_nil_of_length_eq_zero (by omega)
    subst this
    simp [stepsF]
  | n + 1, m + 1, p, l, hn, hm => by
    unfold stepsF
    by_cases h0 : l = []
    · simp [h0]
    rw [if_neg h0, if_neg h0]
    cases hb : bad l with
    | true => rfl
    | false =>
      have hw := decodeL_width l
      have := List.length_pos_iff.2 h0
      simp only [Bool.false_eq_true, if_false]
      rw [stepsF_fuel n m _ _ (by simp; omega) (by simp; omega)]

theorem stepsP_nil (p : Nat) : stepsP p [] = [] := rfl
theorem stepsP_bad (p : Nat) {l : List UInt8} (h : bad l = true) : stepsP p l = [] := by
  unfold stepsP
  cases l with
  | nil => rfl
  | cons c t => simp [stepsF, h]
theorem stepsP_good (p : Nat) {l : List UInt8} (h0 : l ≠ []) (h : bad l = false) : stepsP p l = (p, (decodeL l).1) :: stepsP (p + (decodeL l).2) (l.drop (decodeL l).2) := by
  unfold stepsP
  have hw := decodeL_width l
  obtain ⟨n, hn⟩ : ∃ n, l.length = n + 1 := ⟨l.length - 1, by have := List.length_pos_iff.2 h0; omega⟩
  rw [hn]
  simp only [stepsF, if_neg h0, h, Bool.false_eq_true, if_false]
  rw [stepsF_fuel n (l.drop (decodeL l).2).length _ _ (by simp; omega) (Nat.le_refl _)]

theorem bad_false {l : List UInt8} (h : bad l = false) : ¬ ((decodeL l).1 = 65533 ∧ (decodeL l).2 = 1) := by simpa [bad] using h

theorem stepsP_len : ∀ (n p : Nat) (l : List UInt8), l.length ≤ n → (stepsP p l).length ≤ l.length
  | 0, p, l, h => by
    have : l = [] := List.eq_nil_of_length_eq_zero (by omega)
    subst this; simp [stepsP_nil]
  | n + 1, p, l, h => by
    by_cases h0 : l = []
    · subst h0; simp [stepsP_nil]
    cases hb : bad l with
    | true => rw [stepsP_bad p hb]; simp
    | false =>
      have hw := decodeL_width l
      have hl := decodeL_le l h0
      have ih := stepsP_len n (p + (decodeL l).2) (l.drop (decodeL l).2) (by simp; omega)
      rw [stepsP_good p h0 hb]
      simp at ih ⊢
      omega
theorem steps_length (l : List UInt8) : (steps l).length ≤ l.length := stepsP_len _ _ _ (Nat.le_refl _)

theorem stepsP_mem : ∀ (n p : Nat) (l : List UInt8), l.length ≤ n → ∀ x ∈ stepsP p l, p ≤ x.1 ∧ x.1 < p + l.length ∧ x.2 ≤ 1114111 ∧ x.2 = (decodeL (l.drop (x.1 - p))).1 ∧ bad (l.drop (x.1 - p)) = false
  | 0, p, l, h => by
    have : l = [] := List.eq_nil_of_length_eq_zero (by omega)
    subst this; simp [stepsP_nil]
  | n + 1, p, l, h => by
    by_cases h0 : l = []
    · subst h0; simp [stepsP_nil]
    cases hb : bad l with
    | true => rw [stepsP_bad p hb]; simp
    | false =>
      have hw := decodeL_width l
      have hl := decodeL_le l h0
      have hr := decodeL_rune l
      have h1 := List.length_pos_iff.2 h0
      have ih := stepsP_mem n (p + (decodeL l).2) (l.drop (decodeL l).2) (by simp; omega)
      rw [stepsP_good p h0 hb]
      intro x hx
      rcases List.mem_cons.1 hx with rfl | hx
      · exact ⟨Nat.le_refl _, Nat.lt_add_of_pos_right h1, hr, by rw [Nat.sub_self, List.drop_zero], by rw [Nat.sub_self, List.drop_zero]; exact hb⟩
      · generalize (decodeL l).2 = K at hw hl ih hx
        obtain ⟨a, b, c, d, e⟩ := ih x hx
        have e1 : (l.drop K).drop (x.1 - (p + K)) = l.drop (x.1 - p) := by
          rw [List.drop_drop, show K + (x.1 - (p + K)) = x.1 - p by omega]
        rw [e1] at d e
        rw [List.length_drop] at b
        exact ⟨by omega, by omega, c, d, e⟩
/-- What a step of a text is. -/
theorem steps_mem {l : List UInt8} {x : Nat × Nat} (h : x ∈ steps l) : x.1 < l.length ∧ x.2 ≤ 1114111 ∧ x.2 = (decodeL (l.drop x.1)).1 ∧ bad (l.drop x.1) = false := by
  obtain ⟨_, b, c, d, e⟩ := stepsP_mem l.length 0 l (Nat.le_refl _) x h
  exact ⟨by simpa using b, c, d, e⟩

/-- A step whose bytes are written out. -/
abbrev Stp (l : List UInt8) := { x : Nat × Nat // x ∈ steps l }
end Go.Proofs.YtdckldfekepopaaGreatDoor

namespace Go.Proofs.YtdckldfekepopaaGreatDoor
open Go.Lib

set_option maxHeartbeats 4000000 in
set_option maxRecDepth 100000 in
theorem decodeN_more (n n' b0 b1 b2 b3 c1 c2 c3 : Nat) (hn : n ≤ n') (h1 : 1 < n → c1 = b1) (h2 : 2 < n → c2 = b2) (h3 : 3 < n → c3 = b3)
    (hg : ¬ ((decodeN n b0 b1 b2 b3).1 = 65533 ∧ (decodeN n b0 b1 b2 b3).2 = 1)) : decodeN n' b0 c1 c2 c3 = decodeN n b0 b1 b2 b3 := by
  by_cases q0 : b0 < 128
  · simp [decodeN, q0]
  by_cases q1 : b0 / 32 = 6 ∧ (1 < n ∧ b1 / 64 = 2)
  · have e1 := h1 q1.2.1
    subst e1
    have q1' : b0 / 32 = 6 ∧ (1 < n' ∧ c1 / 64 = 2) := ⟨q1.1, by omega, q1.2.2⟩
    simp only [decodeN, if_neg q0, if_pos q1, if_pos q1']
  by_cases q2 : b0 / 16 = 14 ∧ (1 < n ∧ b1 / 64 = 2) ∧ (2 < n ∧ b2 / 64 = 2)
  · have e1 := h1 q2.2.1.1
    have e2 := h2 q2.2.2.1
    subst e1 e2
    have q2' : b0 / 16 = 14 ∧ (1 < n' ∧ c1 / 64 = 2) ∧ (2 < n' ∧ c2 / 64 = 2) := ⟨q2.1, ⟨by omega, q2.2.1.2⟩, by omega, q2.2.2.2⟩
    have q1' : ¬ (b0 / 32 = 6 ∧ (1 < n' ∧ c1 / 64 = 2)) := by omega
    simp only [decodeN, if_neg q0, if_neg q1, if_neg q1', if_pos q2, if_pos q2']
  by_cases q3 : b0 / 8 = 30 ∧ (1 < n ∧ b1 / 64 = 2) ∧ (2 < n ∧ b2 / 64 = 2) ∧ (3 < n ∧ b3 / 64 = 2)
  · have e1 := h1 q3.2.1.1
    have e2 := h2 q3.2.2.1.1
    have e3 := h3 q3.2.2.2.1
    subst e1 e2 e3
    have q3' : b0 / 8 = 30 ∧ (1 < n' ∧ c1 / 64 = 2) ∧ (2 < n' ∧ c2 / 64 = 2) ∧ (3 < n' ∧ c3 / 64 = 2) := ⟨q3.1, ⟨by omega, q3.2.1.2⟩, ⟨by omega, q3.2.2.1.2⟩, by omega, q3.2.2.2.2⟩
    have q1' : ¬ (b0 / 32 = 6 ∧ (1 < n' ∧ c1 / 64 = 2)) := by omega
    have q2' : ¬ (b0 / 16 = 14 ∧ (1 < n' ∧ c1 / 64 = 2) ∧ (2 < n' ∧ c2 / 64 = 2)) := by omega
    simp only [decodeN, if_neg q0, if_neg q1, if_neg q1', if_neg q2, if_neg q2', if_pos q3, if_pos q3']
  · exfalso
    apply hg
    simp [decodeN, q0, q1, q2, q3]

theorem dec_append {a : List UInt8} (b : List UInt8) (h0 : a ≠ []) (h : bad a = false) : decodeL (a ++ b) = decodeL a := by
  have hb := bad_false h
  have hl := List.length_pos_iff.2 h0
  rw [decodeL_N, decodeL_N a] at *
  have g : ∀ i, i < a.length → (a ++ b).getD i 0 = a.getD i 0 := fun i hi => by
    rw [List.getD, List.getD, List.getElem?_append_left hi]
  rw [g 0 hl]
  refine decodeN_more _ _ _ _ _ _ _ _ _ (by rw [List.length_append]; omega) (fun h => by rw [g 1 h]) (fun h => by rw [g 2 h]) (fun h => by rw [g 3 h]) hb
theorem bad_append {a : List UInt8} (b : List UInt8) (h0 : a ≠ []) (h : bad a = false) : bad (a ++ b) = false := by
  unfold bad at *
  rw [dec_append b h0 (by unfold bad; exact h)]
  exact h

theorem validD_bad {l : List UInt8} (h0 : l ≠ []) : validD l = if bad l then false else validD (l.drop (decodeL l).2) := by
  rw [validD_step l h0]
  unfold bad
  by_cases h : (decodeL l).1 = 65533 ∧ (decodeL l).2 = 1
  · rw [if_pos h, decide_eq_true h]; rfl
  · rw [if_neg h, decide_eq_false h]; rfl

/-- By the runes of a text. -/
theorem valid_ind {P : List UInt8 → Prop} (hnil : P []) (hstep : ∀ l, l ≠ [] → bad l = false → validD (l.drop (decodeL l).2) = true → P (l.drop (decodeL l).2) → P l) : ∀ (n : Nat) (l : List UInt8), l.length ≤ n → validD l = true → P l
  | 0, l, h, _ => by
    have : l = [] := List.eq_nil_of_length_eq_zero (by omega)
    subst this; exact hnil
  | n + 1, l, h, hv => by
    by_cases h0 : l = []
    · subst h0; exact hnil
    rw [validD_bad h0] at hv
    cases hb : bad l with
    | true => rw [hb] at hv; cases hv
    | false =>
      rw [hb] at hv
      have hw := decodeL_width l
      have := List.length_pos_iff.2 h0
      exact hstep l h0 hb hv (valid_ind hnil hstep n _ (by rw [List.length_drop]; omega) hv)

theorem valid_append {a : List UInt8} (b : List UInt8) (h : validD a = true) : validD (a ++ b) = validD b := by
  refine valid_ind (P := fun a => validD (a ++ b) = validD b) rfl ?_ a.length a (Nat.le_refl _) h
  intro l h0 hb hv ih
  have hl := decodeL_le l h0
  have h1 : l ++ b ≠ [] := by simp [h0]
  rw [validD_bad h1, bad_append b h0 hb, dec_append b h0 hb, List.drop_append_of_le_length hl]
  exact ih
theorem stepsP_append {a : List UInt8} (b : List UInt8) (h : validD a = true) : ∀ p, stepsP p (a ++ b) = stepsP p a ++ stepsP (p + a.length) b := by
  refine valid_ind (P := fun a => ∀ p, stepsP p (a ++ b) = stepsP p a ++ stepsP (p + a.length) b) (fun p => by simp [stepsP_nil]) ?_ a.length a (Nat.le_refl _) h
  intro l h0 hb hv ih p
  have hl := decodeL_le l h0
  have h1 : l ++ b ≠ [] := by simp [h0]
  rw [stepsP_good p h1 (bad_append b h0 hb), dec_append b h0 hb, List.drop_append_of_le_length hl, ih, stepsP_good p h0 hb, List.cons_append, List.length_drop]
  congr 3
  omega
theorem steps_shift (l : List UInt8) : ∀ (n p : Nat), l.length ≤ n → (stepsP p l).map (·.2) = (stepsP 0 l).map (·.2) := by
  have : ∀ (n : Nat) (l : List UInt8) (p q : Nat), l.length ≤ n → (stepsP p l).map (·.2) = (stepsP q l).map (·.2) := by
    intro n
    induction n with
    | zero =>
      intro l p q h
      have : l = [] := List.eq_nil_of_length_eq_zero (by omega)
      subst this; rfl
    | succ n ih =>
      intro l p q h
      by_cases h0 : l = []
      · subst h0; rfl
      cases hb : bad l with
      | true => rw [stepsP_bad p hb, stepsP_bad q hb]
      | false =>
        have hw := decodeL_width l
        rw [stepsP_good p h0 hb, stepsP_good q h0 hb, List.map_cons, List.map_cons, ih _ _ (q + (decodeL l).2) (by rw [List.length_drop]; omega)]
  intro n p h
  exact this n l p 0 h
theorem steps_append_len {a b : List UInt8} (h : validD a = true) : (steps (a ++ b)).length = (steps a).length + (steps b).length := by
  unfold steps
  rw [stepsP_append b h, List.length_append]
  have := congrArg List.length (steps_shift b b.length (0 + a.length) (Nat.le_refl _))
  simp only [List.length_map] at this
  rw [this]

theorem bad_ascii {c : UInt8} (t : List UInt8) (h : c.toNat < 128) : bad (c :: t) = false := by
  unfold bad
  rw [decodeL_ascii c t h]
  exact decide_eq_false (by simp; omega)
theorem stepsP_ascii {c : UInt8} (t : List UInt8) (h : c.toNat < 128) (p : Nat) : stepsP p (c :: t) = (p, c.toNat) :: stepsP (p + 1) t := by
  rw [stepsP_good p (by simp) (bad_ascii t h), decodeL_ascii c t h]; rfl
theorem valid_ascii : ∀ (l : List UInt8), (∀ c ∈ l, c.toNat < 128) → validD l = true
  | [], _ => rfl
  | c :: t, h => by
    rw [validD_cons c t (h c (by simp))]
    exact valid_ascii t fun x hx => h x (by simp [hx])
theorem steps_ascii : ∀ (l : List UInt8) (p : Nat), (∀ c ∈ l, c.toNat < 128) → (stepsP p l).length = l.length
  | [], _, _ => rfl
  | c :: t, p, h => by
    rw [stepsP_ascii t (h c (by simp)), List.length_cons, List.length_cons, steps_ascii t _ fun x hx => h x (by simp [hx])]
end Go.Proofs.YtdckldfekepopaaGreatDoor

namespace Go.Proofs.YtdckldfekepopaaGreatDoor
open Go.RowKit

theorem ret_bool {a b : Bool} (h : a = b) : Ending.returned (.bool a) = .returned (.bool b) := by rw [h]
theorem ret_int {k : IntKind} {a b : Int} (h : a = b) : Ending.returned (.int k a) = .returned (.int k b) := by rw [h]
theorem toList_length (s : ByteArray) : s.data.toList.length = s.size := by rw [Array.length_toList]; rfl
theorem toList_getElem (s : ByteArray) (k : Nat) (h : k < s.size) : s.data.toList[k]? = some s[k] := by
  rw [List.getElem?_eq_getElem (by rw [toList_length]; exact h)]; rfl
theorem take_snoc (s : ByteArray) (k : Nat) (h : k < s.size) : s.data.toList.take (k + 1) = s.data.toList.take k ++ [s[k]] := by
  rw [List.take_succ_eq_append_getElem (by simpa using h)]; rfl
end Go.Proofs.YtdckldfekepopaaGreatDoor
