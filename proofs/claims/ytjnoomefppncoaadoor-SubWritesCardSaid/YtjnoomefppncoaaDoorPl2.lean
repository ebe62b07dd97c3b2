/-
  Plain facts on texts: a text behind a text; texts of ASCII letters. No program in it.
-/
import Derived.Test.YtjnoomefppncoaaDoorPl
namespace Go.Proofs.YtjnoomefppncoaaDoor
open Go.Lib

set_option maxHeartbeats 4000000 in
set_option maxRecDepth 100000 in
theorem decodeN_more (n n' b0 b1 b2 b3 c1 c2 c3 : Nat) (hn : n ≤ n') (h1 : 1 < n → c1 = b1) (h2 : 2 < n → c2 = b2) (h3 : 3 < n → c3 = b3)
    (hg : ¬ ((decodeN n b0 b1 b2 b3).1 = 65533 ∧ (decodeN n b0 b1 b2 b3).2 = 1)) : decodeN n' b0 c1 c2 c3 = decodeN n b0 b1 b2 b3 := by
  by_cases q0 : b0 < 128
  · simp [decodeN, q0]
  by_cases q1 : b0 / 32 = 6 ∧ (1 < n ∧ b1 / 64 = 2)
  · have e1 := h1 q1.2.1
    subst e1
    have q1' : b0 / 32 = 6 ∧ (1 < n' ∧ c1 / 64 = 2) := ⟨q1.1, by omega, q1.2.2⟩
    simp only [decodeN, if_neg q0, if_pos q1, if_pos q1']
  by_cases q2 : b0 / 16 = 14 ∧ (1 < n ∧ b1 / 64 = 2) ∧ (2 < n ∧ b2 / 64 = 2)
  · have e1 := h1 q2.2.1.1
    have e2 := h2 q2.2.2.1
    subst e1 e2
    have q2' : b0 / 16 = 14 ∧ (1 < n' ∧ c1 / 64 = 2) ∧ (2 < n' ∧ c2 / 64 = 2) := ⟨q2.1, ⟨by omega, q2.2.1.2⟩, by omega, q2.2.2.2⟩
    have q1' : ¬ (b0 / 32 = 6 ∧ (1 < n' ∧ c1 / 64 = 2)) := by omega
    simp only [decodeN, if_neg q0, if_neg q1, if_neg q1', if_pos q2, if_pos q2']
  by_cases q3 : b0 / 8 = 30 ∧ (1 < n ∧ b1 / 64 = 2) ∧ (2 < n ∧ b2 / 64 = 2) ∧ (3 < n ∧ b3 / 64 = 2)
  · have e1 := h1 q3.2.1.1
    have e2 := h2 q3.2.2.1.1
    have e3 := h3 q3.2.2.2.1
    subst e1 e2 e3
    have q3' : b0 / 8 = 30 ∧ (1 < n' ∧ c1 / 64 = 2) ∧ (2 < n' ∧ c2 / 64 = 2) ∧ (3 < n' ∧ c3 / 64 = 2) := ⟨q3.1, ⟨by omega, q3.2.1.2⟩, ⟨by omega, q3.2.2.1.2⟩, by omega, q3.2.2.2.2⟩
    have q1' : ¬ (b0 / 32 = 6 ∧ (1 < n' ∧ c1 / 64 = 2)) := by omega
    have q2' : ¬ (b0 / 16 = 14 ∧ (1 < n' ∧ c1 / 64 = 2) ∧ (2 < n' ∧ c2 / 64 = 2)) := by omega
    simp only [decodeN, if_neg q0, if_neg q1, if_neg q1', if_neg q2, if_neg q2', if_pos q3, if_pos q3']
  · exfalso
    apply hg
    simp [decodeN, q0, q1, q2, q3]

theorem dec_append {a : List UInt8} (b : List UInt8) (h0 : a ≠ []) (h : bad a = false) : decodeL (a ++ b) = decodeL a := by
  have hb := bad_false h
  have hl := List.length_pos_iff.2 h0
  rw [decodeL_N, decodeL_N a] at *
  have g : ∀ i, i < a.length → (a ++ b).getD i 0 = a.getD i 0 := fun i hi => by
    rw [List.getD, List.getD, List.getElem?_append_left hi]
  rw [g 0 hl]
  refine decodeN_more _ _ _ _ _ _ _ _ _ (by rw [List.length_append]; omega) (fun h => by rw [g 1 h]) (fun h => by rw [g 2 h]) (fun h => by rw [g 3 h]) hb
theorem bad_append {a : List UInt8} (b : List UInt8) (h0 : a ≠ []) (h : bad a = false) : bad (a ++ b) = false := by
  unfold bad at *
  rw [dec_append b h0 (by unfold bad; exact h)]
  exact h

theorem validD_bad {l : List UInt8} (h0 : l ≠ []) : validD l = if bad l then false else validD (l.drop (decodeL l).2) := by
  rw [validD_step l h0]
  unfold bad
  by_cases h : (decodeL l).1 = 65533 ∧ (decodeL l).2 = 1
  · rw [if_pos h, decide_eq_true h]; rfl
  · rw [if_neg h, decide_eq_false h]; rfl

/-- By the runes of a text. -/
theorem valid_ind {P : List UInt8 → Prop} (hnil : P []) (hstep : ∀ l, l ≠ [] → bad l = false → validD (l.drop (decodeL l).2) = true → P (l.drop (decodeL l).2) → P l) : ∀ (n : Nat) (l : List UInt8), l.length ≤ n → validD l = true → P l
  | 0, l, h, _ => by
    have : l = [] := List.eq_nil_of_length_eq_zero (by omega)
    subst this; exact hnil
  | n + 1, l, h, hv => by
    by_cases h0 : l = []
    · subst h0; exact hnil
    rw [validD_bad h0] at hv
    cases hb : bad l with
    | true => rw [hb] at hv; cases hv
    | false =>
      rw [hb] at hv
      have hw := decodeL_width l
      have := List.length_pos_iff.2 h0
      exact hstep l h0 hb hv (valid_ind hnil hstep n _ (by rw [List.length_drop]; omega) hv)

theorem valid_append {a : List UInt8} (b : List UInt8) (h : validD a = true) : validD (a ++ b) = validD b := by
  refine valid_ind (P := fun a => validD (a ++ b) = validD b) rfl ?_ a.length a (Nat.le_refl _) h
  intro l h0 hb hv ih
  have hl := decodeL_le l h0
  have h1 : l ++ b ≠ [] := by simp [h0]
  rw [validD_bad h1, bad_append b h0 hb, dec_append b h0 hb, List.drop_append_of_le_length hl]
  exact ih
theorem stepsP_append {a : List UInt8} (b : List UInt8) (h : validD a = true) : ∀ p, stepsP p (a ++ b) = stepsP p a ++ stepsP (p + a.length) b := by
  refine valid_ind (P := fun a => ∀ p, stepsP p (a ++ b) = stepsP p a ++ stepsP (p + a.length) b) (fun p => by simp [stepsP_nil]) ?_ a.length a (Nat.le_refl _) h
  intro l h0 hb hv ih p
  have hl := decodeL_le l h0
  have h1 : l ++ b ≠ [] := by simp [h0]
  rw [stepsP_good p h1 (bad_append b h0 hb), dec_append b h0 hb, List.drop_append_of_le_length hl, ih, stepsP_good p h0 hb, List.cons_append, List.length_drop]
  congr 3
  omega
theorem steps_shift (l : List UInt8) : ∀ (n p : Nat), l.length ≤ n → (stepsP p l).map (·.2) = (stepsP 0 l).map (·.2) := by
  have : ∀ (n : Nat) (l : List UInt8) (p q : Nat), l.length ≤ n → (stepsP p l).map (·.2) = (stepsP q l).map (·.2) := by
    intro n
    induction n with
    | zero =>
      intro l p q h
      have : l = [] := List.eq_nil_of_length_eq_zero (by omega)
      subst this; rfl
    | succ n ih =>
      intro l p q h
      by_cases h0 : l = []
      · subst h0; rfl
      cases hb : bad l with
      | true => rw [stepsP_bad p hb, stepsP_bad q hb]
      | false =>
        have hw := decodeL_width l
        rw [stepsP_good p h0 hb, stepsP_good q h0 hb, List.map_cons, List.map_cons, ih _ _ (q + (decodeL l).2) (by rw [List.length_drop]; omega)]
  intro n p h
  exact this n l p 0 h
theorem steps_append_len {a b : List UInt8} (h : validD a = true) : (steps (a ++ b)).length = (steps a).length + (steps b).length := by
  unfold steps
  rw [stepsP_append b h, List.length_append]
  have := congrArg List.length (steps_shift b b.length (0 + a.length) (Nat.le_refl _))
  simp only [List.length_map] at this
  rw [this]

theorem bad_ascii {c : UInt8} (t : List UInt8) (h : c.toNat < 128) : bad (c :: t) = false := by
  unfold bad
  rw [decodeL_ascii c t h]
  exact decide_eq_false (by simp; omega)
theorem stepsP_ascii {c : UInt8} (t : List UInt8) (h : c.toNat < 128) (p : Nat) : stepsP p (c :: t) = (p, c.toNat) :: stepsP (p + 1) t := by
  rw [stepsP_good p (by simp) (bad_ascii t h), decodeL_ascii c t h]; rfl
theorem valid_ascii : ∀ (l : List UInt8), (∀ c ∈ l, c.toNat < 128) → validD l = true
  | [], _ => rfl
  | c :: t, h => by
    rw [validD_cons c t (h c (by simp))]
    exact valid_ascii t fun x hx => h x (by simp [hx])
theorem steps_ascii : ∀ (l : List UInt8) (p : Nat), (∀ c ∈ l, c.toNat < 128) → (stepsP p l).length = l.length
  | [], _, _ => rfl
  | c :: t, p, h => by
    rw [stepsP_ascii t (h c (by simp)), List.length_cons, List.length_cons, steps_ascii t _ fun x hx => h x (by simp [hx])]
end Go.Proofs.YtjnoomefppncoaaDoor
