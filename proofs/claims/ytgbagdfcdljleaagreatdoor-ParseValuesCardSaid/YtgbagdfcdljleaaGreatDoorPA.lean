/-
  Plain facts on texts: a text behind a text; texts of ASCII letters. No program in it. · Plain facts on what is written and read between quotes: Unquote's loop as a recursion over the bytes; what is written reads as the text, whatever stands behind.
-/
import Derived.Test.YtgbagdfcdljleaaGreatDoorPl
import Derived.Test.YtgbagdfcdljleaaGreatDoorUqP
set_option linter.unusedVariables false
set_option linter.unusedSimpArgs false
namespace Go.Proofs.YtgbagdfcdljleaaGreatDoor.Ru
open Go.Lib

set_option maxHeartbeats 4000000 in
set_option maxRecDepth 100000 in
theorem decodeN_more (n n' b0 b1 b2 b3 c1 c2 c3 : Nat) (hn : n ≤ n') (h1 : 1 < n → c1 = b1) (h2 : 2 < n → c2 = b2) (h3 : 3 < n → c3 = b3)
    (hg : ¬ ((decodeN n b0 b1 b2 b3).1 = 65533 ∧ (decodeN n b0 b1 b2 b3).2 = 1)) : decodeN n' b0 c1 c2 c3 = decodeN n b0 b1 b2 b3 := by
  by_cases q0 : b0 < 128
  · simp [decodeN, q0]
  by_cases q1 : b0 / 32 = 6 ∧ (1 < n ∧ b1 / 64 = 2)
  · have e1 := h1 q1.2.1
    subst e1
    have q1' : b0 / 32 = 6 ∧ (1 < n' ∧ c1 / 64 = 2) := ⟨q1.1, by omega, q1.2.2⟩
    simp only [decodeN, if_neg q0, if_pos q1, if_pos q1']
  by_cases q2 : b0 / 16 = 14 ∧ (1 < n ∧ b1 / 64 = 2) ∧ (2 < n ∧ b2 / 64 = 2)
  · have e1 := h1 q2.2.1.1
    have e2 := h2 q2.2.2.1
    subst e1 e2
    have q2' : b0 / 16 = 14 ∧ (1 < n' ∧ c1 / 64 = 2) ∧ (2 < n' ∧ c2 / 64 = 2) := ⟨q2.1, ⟨by omega, q2.2.1.2⟩, by omega, q2.2.2.2⟩
    have q1' : ¬ (b0 / 32 = 6 ∧ (1 < n' ∧ c1 / 64 = 2)) := by omega
    simp only [decodeN, if_neg q0, if_neg q1, if_neg q1', if_pos q2, if_pos q2']
  by_cases q3 : b0 / 8 = 30 ∧ (1 < n ∧ b1 / 64 = 2) ∧ (2 < n ∧ b2 / 64 = 2) ∧ (3 < n ∧ b3 / 64 = 2)
  · have e1 := h1 q3.2.1.1
    have e2 := h2 q3.2.2.1.1
    have e3 := h3 q3.2.2.2.1
    subst e1 e2 e3
    have q3' : b0 / 8 = 30 ∧ (1 < n' ∧ c1 / 64 = 2) ∧ (2 < n' ∧ c2 / 64 = 2) ∧ (3 < n' ∧ c3 / 64 = 2) := ⟨q3.1, ⟨by omega, q3.2.1.2⟩, ⟨by omega, q3.2.2.1.2⟩, by omega, q3.2.2.2.2⟩
    have q1' : ¬ (b0 / 32 = 6 ∧ (1 < n' ∧ c1 / 64 = 2)) := by omega
    have q2' : ¬ (b0 / 16 = 14 ∧ (1 < n' ∧ c1 / 64 = 2) ∧ (2 < n' ∧ c2 / 64 = 2)) := by omega
    simp only [decodeN, if_neg q0, if_neg q1, if_neg q1', if_neg q2, if_neg q2', if_pos q3, if_pos q3']
  · exfalso
    apply hg
    simp [decodeN, q0, q1, q2, q3]

theorem dec_append {a : List UInt8} (b : List UInt8) (h0 : a ≠ []) (h : bad a = false) : decodeL (a ++ b) = decodeL a := by
  have hb := bad_false h
  have hl := List.length_pos_iff.2 h0
  rw [decodeL_N, decodeL_N a] at *
  have g : ∀ i, i < a.length → (a ++ b).getD i 0 = a.getD i 0 := fun i hi => by
    rw [List.getD, List.getD, List.getElem?_append_left hi]
  rw [g 0 hl]
  refine decodeN_more _ _ _ _ _ _ _ _ _ (by rw [List.length_append]; omega) (fun h => by rw [g 1 h]) (fun h => by rw [g 2 h]) (fun h => by rw [g 3 h]) hb
theorem bad_append {a : List UInt8} (b : List UInt8) (h0 : a ≠ []) (h : bad a = false) : bad (a ++ b) = false := by
  unfold bad at *
  rw [dec_append b h0 (by unfold bad; exact h)]
  exact h

theorem validD_bad {l : List UInt8} (h0 : l ≠ []) : validD l = if bad l then false else validD (l.drop (decodeL l).2) := by
  rw [validD_step l h0]
  unfold bad
  by_cases h : (decodeL l).1 = 65533 ∧ (decodeL l).2 = 1
  · rw [if_pos h, decide_eq_true h]; rfl
  · rw [if_neg h, decide_eq_false h]; rfl

/-- By the runes of a text. -/
theorem valid_ind {P : List UInt8 → Prop} (hnil : P []) (hstep : ∀ l, l ≠ [] → bad l = false → validD (l.drop (decodeL l).2) = true → P (l.drop (decodeL l).2) → P l) : ∀ (n : Nat) (l : List UInt8), l.length ≤ n → validD l = true → P l
  | 0, l, h, _ => by
    have : l = [] := List.eq_nil_of_length_eq_zero (by omega)
    subst this; exact hnil
  | n + 1, l, h, hv => by
    by_cases h0 : l = []
    · subst h0; exact hnil
    rw [validD_bad h0] at hv
    cases hb : bad l with
    | true => rw [hb] at hv; cases hv
    | false =>
      rw [hb] at hv
      have hw := decodeL_width l
      have := List.length_pos_iff.2 h0
      exact hstep l h0 hb hv (valid_ind hnil hstep n _ (by rw [List.length_drop]; omega) hv)

theorem valid_append {a : List UInt8} (b : List UInt8) (h : validD a = true) : validD (a ++ b) = validD b := by
  refine valid_ind (P := fun a => validD (a ++ b) = validD b) rfl ?_ a.length a (Nat.le_refl _) h
  intro l h0 hb hv ih
  have hl := decodeL_le l h0
  have h1 : l ++ b ≠ [] := by simp [h0]
  rw [validD_bad h1, bad_append b h0 hb, dec_append b h0 hb, List.drop_append_of_le_length hl]
  exact ih
theorem stepsP_append {a : List UInt8} (b : List UInt8) (h : validD a = true) : ∀ p, stepsP p (a ++ b) = stepsP p a ++ stepsP (p + a.length) b := by
  refine valid_ind (P := fun a => ∀ p, stepsP p (a ++ b) = stepsP p a ++ stepsP (p + a.length) b) (fun p => by simp [stepsP_nil]) ?_ a.length a (Nat.le_refl _) h
  intro l h0 hb hv ih p
  have hl := decodeL_le l h0
  have h1 : l ++ b ≠ [] := by simp [h0]
  rw [stepsP_good p h1 (bad_append b h0 hb), dec_append b h0 hb, List.drop_append_of_le_length hl, ih, stepsP_good p h0 hb, List.cons_append, List.length_drop]
  congr 3
  omega
theorem steps_shift (l : List UInt8) : ∀ (n p : Nat), l.length ≤ n → (stepsP p l).map (·.2) = (stepsP 0 l).map (·.2) := by
  have : ∀ (n : Nat) (l : List UInt8) (p q : Nat), l.length ≤ n → (stepsP p l).map (·.2) = (stepsP q l).map (·.2) := by
    intro n
    induction n with
    | zero =>
      intro l p q h
      have : l = [] := List.eq_nil_of_length_eq_zero (by omega)
      subst this; rfl
    | succ n ih =>
      intro l p q h
      by_cases h0 : l = []
      · subst h0; rfl
      cases hb : bad l with
      | true => rw [stepsP_bad p hb, stepsP_bad q hb]
      | false =>
        have hw := decodeL_width l
        rw [stepsP_good p h0 hb, stepsP_good q h0 hb, List.map_cons, List.map_cons, ih _ _ (q + (decodeL l).2) (by rw [List.length_drop]; omega)]
  intro n p h
  exact this n l p 0 h
theorem steps_append_len {a b : List UInt8} (h : validD a = true) : (steps (a ++ b)).length = (steps a).length + (steps b).length := by
  unfold steps
  rw [stepsP_append b h, List.length_append]
  have := congrArg List.length (steps_shift b b.length (0 + a.length) (Nat.le_refl _))
  simp only [List.length_map] at this
  rw [this]

theorem bad_ascii {c : UInt8} (t : List UInt8) (h : c.toNat < 128) : bad (c :: t) = false := by
  unfold bad
  rw [decodeL_ascii c t h]
  exact decide_eq_false (by simp; omega)
theorem stepsP_ascii {c : UInt8} (t : List UInt8) (h : c.toNat < 128) (p : Nat) : stepsP p (c :: t) = (p, c.toNat) :: stepsP (p + 1) t := by
  rw [stepsP_good p (by simp) (bad_ascii t h), decodeL_ascii c t h]; rfl
theorem valid_ascii : ∀ (l : List UInt8), (∀ c ∈ l, c.toNat < 128) → validD l = true
  | [], _ => rfl
  | c :: t, h => by
    rw [validD_cons c t (h c (by simp))]
    exact valid_ascii t fun x hx => h x (by simp [hx])
theorem steps_ascii : ∀ (l : List UInt8) (p : Nat), (∀ c ∈ l, c.toNat < 128) → (stepsP p l).length = l.length
  | [], _, _ => rfl
  | c :: t, p, h => by
    rw [stepsP_ascii t (h c (by simp)), List.length_cons, List.length_cons, steps_ascii t _ fun x hx => h x (by simp [hx])]
end Go.Proofs.YtgbagdfcdljleaaGreatDoor.Ru

namespace Go.Proofs.YtgbagdfcdljleaaGreatDoor.Ru
open Go.Lib

set_option maxHeartbeats 4000000 in
set_option maxRecDepth 100000 in
theorem decodeN_same (n n' b0 b1 b2 b3 c1 c2 c3 : Nat) (hg : ¬ ((decodeN n b0 b1 b2 b3).1 = 65533 ∧ (decodeN n b0 b1 b2 b3).2 = 1)) (hn : (decodeN n b0 b1 b2 b3).2 ≤ n')
    (h1 : 1 < (decodeN n b0 b1 b2 b3).2 → c1 = b1) (h2 : 2 < (decodeN n b0 b1 b2 b3).2 → c2 = b2) (h3 : 3 < (decodeN n b0 b1 b2 b3).2 → c3 = b3) : decodeN n' b0 c1 c2 c3 = decodeN n b0 b1 b2 b3 := by
  by_cases q0 : b0 < 128
  · simp [decodeN, q0]
  by_cases q1 : b0 / 32 = 6 ∧ (1 < n ∧ b1 / 64 = 2)
  · by_cases qv : b0 % 32 * 64 + b1 % 64 ≥ 128
    · have e : decodeN n b0 b1 b2 b3 = (b0 % 32 * 64 + b1 % 64, 2) := by simp only [decodeN, if_neg q0, if_pos q1, if_pos qv]
      rw [e] at hn h1 ⊢
      have e1 := h1 (by simp)
      subst e1
      have q1' : b0 / 32 = 6 ∧ (1 < n' ∧ c1 / 64 = 2) := ⟨q1.1, hn, q1.2.2⟩
      simp only [decodeN, if_neg q0, if_pos q1', if_pos qv]
    · exact absurd (by simp only [decodeN, if_neg q0, if_pos q1, if_neg qv]; trivial) hg
  by_cases q2 : b0 / 16 = 14 ∧ (1 < n ∧ b1 / 64 = 2) ∧ (2 < n ∧ b2 / 64 = 2)
  · by_cases qv : b0 % 16 * 4096 + b1 % 64 * 64 + b2 % 64 ≥ 2048 ∧ (b0 % 16 * 4096 + b1 % 64 * 64 + b2 % 64 < 55296 ∨ (57344 ≤ b0 % 16 * 4096 + b1 % 64 * 64 + b2 % 64 ∧ b0 % 16 * 4096 + b1 % 64 * 64 + b2 % 64 ≤ 1114111))
    · have e : decodeN n b0 b1 b2 b3 = (b0 % 16 * 4096 + b1 % 64 * 64 + b2 % 64, 3) := by simp only [decodeN, if_neg q0, if_neg q1, if_pos q2, if_pos qv]
      rw [e] at hn h1 h2 ⊢
      have e1 := h1 (by simp)
      have e2 := h2 (by simp)
      subst e1 e2
      have q2' : b0 / 16 = 14 ∧ (1 < n' ∧ c1 / 64 = 2) ∧ (2 < n' ∧ c2 / 64 = 2) := ⟨q2.1, ⟨by simp at hn; omega, q2.2.1.2⟩, hn, q2.2.2.2⟩
      have q1' : ¬ (b0 / 32 = 6 ∧ (1 < n' ∧ c1 / 64 = 2)) := by omega
      simp only [decodeN, if_neg q0, if_neg q1', if_pos q2', if_pos qv]
    · exact absurd (by simp only [decodeN, if_neg q0, if_neg q1, if_pos q2, if_neg qv]; trivial) hg
  by_cases q3 : b0 / 8 = 30 ∧ (1 < n ∧ b1 / 64 = 2) ∧ (2 < n ∧ b2 / 64 = 2) ∧ (3 < n ∧ b3 / 64 = 2)
  · by_cases qv : b0 % 8 * 262144 + b1 % 64 * 4096 + b2 % 64 * 64 + b3 % 64 ≥ 65536 ∧ (b0 % 8 * 262144 + b1 % 64 * 4096 + b2 % 64 * 64 + b3 % 64 < 55296 ∨ (57344 ≤ b0 % 8 * 262144 + b1 % 64 * 4096 + b2 % 64 * 64 + b3 % 64 ∧ b0 % 8 * 262144 + b1 % 64 * 4096 + b2 % 64 * 64 + b3 % 64 ≤ 1114111))
    · have e : decodeN n b0 b1 b2 b3 = (b0 % 8 * 262144 + b1 % 64 * 4096 + b2 % 64 * 64 + b3 % 64, 4) := by simp only [decodeN, if_neg q0, if_neg q1, if_neg q2, if_pos q3, if_pos qv]
      rw [e] at hn h1 h2 h3 ⊢
      have e1 := h1 (by simp)
      have e2 := h2 (by simp)
      have e3 := h3 (by simp)
      subst e1 e2 e3
      have hn4 : 4 ≤ n' := hn
      have q3' : b0 / 8 = 30 ∧ (1 < n' ∧ c1 / 64 = 2) ∧ (2 < n' ∧ c2 / 64 = 2) ∧ (3 < n' ∧ c3 / 64 = 2) := ⟨q3.1, ⟨by omega, q3.2.1.2⟩, ⟨by omega, q3.2.2.1.2⟩, by omega, q3.2.2.2.2⟩
      have q1' : ¬ (b0 / 32 = 6 ∧ (1 < n' ∧ c1 / 64 = 2)) := by omega
      have q2' : ¬ (b0 / 16 = 14 ∧ (1 < n' ∧ c1 / 64 = 2) ∧ (2 < n' ∧ c2 / 64 = 2)) := by omega
      simp only [decodeN, if_neg q0, if_neg q1', if_neg q2', if_pos q3', if_pos qv]
    · exact absurd (by simp only [decodeN, if_neg q0, if_neg q1, if_neg q2, if_pos q3, if_neg qv]; trivial) hg
  · exact absurd (by simp only [decodeN, if_neg q0, if_neg q1, if_neg q2, if_neg q3]; trivial) hg

/-- A rune's bytes decide. -/
theorem dec_take {l : List UInt8} (h0 : l ≠ []) (h : bad l = false) (m : List UInt8) : decodeL (l.take (decodeL l).2 ++ m) = decodeL l ∧ bad (l.take (decodeL l).2 ++ m) = false := by
  have hb := bad_false h
  have hle := decodeL_le l h0
  have hw := decodeL_width l
  have e : decodeL (l.take (decodeL l).2 ++ m) = decodeL l := by
    have g : ∀ i, i < (decodeL l).2 → (l.take (decodeL l).2 ++ m).getD i 0 = l.getD i 0 := fun i hi => by
      rw [List.getD, List.getD, List.getElem?_append_left (by rw [List.length_take]; omega), List.getElem?_take_of_lt hi]
    have g0 := g 0 (by omega)
    have hlen : (decodeL l).2 ≤ (l.take (decodeL l).2 ++ m).length := by rw [List.length_append, List.length_take]; omega
    rw [decodeL_N (l.take (decodeL l).2 ++ m), g0]
    rw [decodeL_N l] at hb hlen g ⊢
    exact decodeN_same _ _ _ _ _ _ _ _ _ hb hlen (fun h => by rw [g 1 h]) (fun h => by rw [g 2 h]) (fun h => by rw [g 3 h])
  refine ⟨e, ?_⟩
  unfold bad
  rw [e]
  exact decide_eq_false hb

/-- What is read between quotes, byte by byte. -/
def uqR : Nat → List UInt8 → Nat → List UInt8 → UAns
  | 0, _, q, _ => ([], q, 10)
  | n + 1, l, q, acc =>
    if l = [] then ([], q, 10) else if bad l then ([], q, 10)
    else if (decodeL l).1 = 34 then (acc, q + 1, 0)
    else if (decodeL l).1 < 32 then ([], q, 10)
    else if (decodeL l).1 = 92 then
      match escL l with
      | none => ([], q, 10)
      | some y => uqR n (l.drop y.2) (q + y.2) (acc ++ encodeRune y.1)
    else uqR n (l.drop (decodeL l).2) (q + (decodeL l).2) (acc ++ encodeRune (decodeL l).1)
def finU : (Nat × List UInt8) ⊕ UAns → UAns
  | .inl st => ([], st.1, 10)
  | .inr a => a

theorem hexv_ascii {c : Nat} (h : hexv c < 16) : c < 128 := by
  unfold hexv at h
  (repeat' split at h) <;> omega
theorem unitL_ascii {l : List UInt8} {n : Nat} (h : unitL l = some n) : ∀ c ∈ l.take 6, c.toNat < 128 := by
  unfold unitL at h
  split at h
  · rename_i x y a b c d t
    split at h
    · rename_i hxy
      obtain ⟨rfl, rfl⟩ := hxy
      have step : ∀ {acc : Nat} {c : UInt8} {t : List UInt8} {m : Nat}, parse16 acc (c :: t) = some m → c.toNat < 128 ∧ ∃ acc', parse16 acc' t = some m := by
        intro acc c t m h
        unfold parse16 at h
        split at h
        · rename_i hx; exact ⟨hexv_ascii hx, _, h⟩
        · cases h
      obtain ⟨ha, _, h⟩ := step h
      obtain ⟨hb, _, h⟩ := step h
      obtain ⟨hc, _, h⟩ := step h
      obtain ⟨hd, _, h⟩ := step h
      intro z hz
      simp only [List.take_succ_cons, List.take_zero, List.mem_cons, List.not_mem_nil, or_false] at hz
      rcases hz with rfl | rfl | rfl | rfl | rfl | rfl
      · decide
      · decide
      · exact ha
      · exact hb
      · exact hc
      · exact hd
    · cases h
  · cases h
theorem longL_ascii {l : List UInt8} {y : Nat × Nat} (h : longL l = some y) : y.2 ≤ l.length ∧ ∀ c ∈ l.take y.2, c.toNat < 128 := by
  unfold longL at h
  split at h
  · cases h
  · rename_i u hu
    have h1 := unitL_ascii hu
    have h2 := unitL_some_le hu
    split at h
    · split at h
      · cases h
      · rename_i v hv
        have h3 := unitL_ascii hv
        have h4 := unitL_some_le hv
        rw [List.length_drop] at h4
        split at h
        · simp only [Option.some.injEq] at h
          subst h
          refine ⟨by omega, fun c hc => ?_⟩
          rw [show (12 : Nat) = 6 + 6 from rfl, List.take_add] at hc
          rcases List.mem_append.1 hc with hc | hc
          · exact h1 c hc
          · exact h3 c hc
        · cases h
    · split at h
      · cases h
      · simp only [Option.some.injEq] at h
        subst h
        exact ⟨h2, h1⟩
theorem meanN_ascii {c : Nat} (h : meanN c ≠ 0) : c < 128 := by
  unfold meanN at h
  (repeat' split at h) <;> omega
theorem escL_ascii {l : List UInt8} {y : Nat × Nat} (h : escL l = some y) (h0 : ∀ c ∈ l.take 1, c.toNat < 128) : y.2 ≤ l.length ∧ (∀ c ∈ l.take y.2, c.toNat < 128) ∧ 2 ≤ y.2 := by
  have h2 := (escL_rune h).2.2
  unfold escL at h
  split at h
  · rename_i x c t
    split at h
    · obtain ⟨a, b⟩ := longL_ascii h
      exact ⟨a, b, by omega⟩
    · split at h
      · rename_i hm
        simp only [Option.some.injEq] at h
        subst h
        refine ⟨by simp, fun z hz => ?_, Nat.le_refl _⟩
        simp only [List.take_succ_cons, List.take_zero, List.mem_cons, List.not_mem_nil, or_false] at hz
        rcases hz with rfl | rfl
        · exact h0 _ (by simp)
        · exact meanN_ascii hm
      · cases h
  · cases h

theorem finU_eq (L : List UInt8) (p : Nat) : unqL L p = finU (foldU L p (p + 1, []) (steps (L.drop (p + 1)))) := by
  unfold unqL finU
  split <;> simp_all

/-- Steps that lie within what has been read are passed over. -/
theorem fold_skip (L : List UInt8) (p : Nat) (acc : List UInt8) : ∀ (d i : Nat) (l : List UInt8), d ≤ l.length → (∀ c ∈ l.take d, c.toNat < 128) →
    foldU L p (p + 1 + i + d, acc) (stepsP i l) = foldU L p (p + 1 + i + d, acc) (stepsP (i + d) (l.drop d))
  | 0, i, l, _, _ => by simp
  | d + 1, i, [], h, _ => by simp at h
  | d + 1, i, c :: t, h, ha => by
    have hc : c.toNat < 128 := ha c (by simp)
    rw [stepsP_ascii t hc, List.drop_succ_cons]
    have e1 : stepU L p (p + 1 + i + (d + 1), acc) (i, c.toNat) = .inl (p + 1 + i + (d + 1), acc) := by
      unfold stepU
      rw [if_pos (by simp only; omega)]
    have e2 : foldU L p (p + 1 + i + (d + 1), acc) ((i, c.toNat) :: stepsP (i + 1) t) = foldU L p (p + 1 + i + (d + 1), acc) (stepsP (i + 1) t) := by
      rw [foldU, e1]
    rw [e2, show p + 1 + i + (d + 1) = p + 1 + (i + 1) + d by omega, fold_skip L p acc d (i + 1) t (by simpa using h) (fun z hz => ha z (by simp [hz])), show i + (d + 1) = i + 1 + d by omega]

theorem take_append_enc {l : List UInt8} (h0 : l ≠ []) (hb : bad l = false) : (encodeRune ((decodeL l).1 : Int)) = l.take (decodeL l).2 ∧ (encodeRune ((decodeL l).1 : Int)).length = (decodeL l).2 := by
  have e := encode_decode l h0 (bad_false hb)
  refine ⟨e, ?_⟩
  rw [e, List.length_take]
  have := decodeL_le l h0
  omega

theorem head_ascii {l : List UInt8} (h0 : l ≠ []) (hb : bad l = false) {r : Nat} (hr : (decodeL l).1 = r) (h : r < 128) : ∃ t, l = r.toUInt8 :: t ∧ (decodeL l).2 = 1 := by
  have e := (take_append_enc h0 hb).1
  rw [hr] at e
  have e2 : encodeRune (r : Int) = [r.toUInt8] := by
    unfold encodeRune
    rw [encodeRuneZ_one (by omega) (by omega)]
    simp
  have hk := (take_append_enc h0 hb).2
  rw [hr, e2] at hk
  rw [e2, ← hk] at e
  match l, h0 with
  | c :: t, _ =>
    simp at e
    exact ⟨t, by rw [show r.toUInt8 = c from e], hk.symm⟩

/-- THE LOOP IS THE RECURSION. -/
theorem fold_uqR (L : List UInt8) (p : Nat) : ∀ (n i : Nat) (acc : List UInt8), (L.drop (p + 1 + i)).length ≤ n →
    finU (foldU L p (p + 1 + i, acc) (stepsP i (L.drop (p + 1 + i)))) = uqR (n + 1) (L.drop (p + 1 + i)) (p + 1 + i) acc := by
  intro n
  induction n with
  | zero =>
    intro i acc hn
    have : L.drop (p + 1 + i) = [] := List.eq_nil_of_length_eq_zero (by omega)
    rw [this]
    rfl
  | succ n ih =>
    intro i acc hn
    generalize hl : L.drop (p + 1 + i) = l at hn
    rw [uqR]
    by_cases h0 : l = []
    · rw [if_pos h0, h0]; rfl
    rw [if_neg h0]
    cases hb : bad l with
    | true =>
      rw [if_pos rfl, stepsP_bad i hb]; rfl
    | false =>
      rw [if_neg (by simp)]
      have hw := decodeL_width l
      have hle := decodeL_le l h0
      have hpos := List.length_pos_iff.2 h0
      rw [stepsP_good i h0 hb, foldU]
      by_cases h34 : (decodeL l).1 = 34
      · have : stepU L p (p + 1 + i, acc) (i, (decodeL l).1) = .inr (acc, p + 1 + i + 1, 0) := by
          unfold stepU; rw [if_neg (by simp), if_pos h34]
        rw [this, if_pos h34]; rfl
      rw [if_neg h34]
      by_cases h32 : (decodeL l).1 < 32
      · have : stepU L p (p + 1 + i, acc) (i, (decodeL l).1) = .inr ([], p + 1 + i, 10) := by
          unfold stepU; rw [if_neg (by simp), if_neg h34, if_pos h32]
        rw [this, if_pos h32]; rfl
      rw [if_neg h32]
      by_cases h92 : (decodeL l).1 = 92
      · rw [if_pos h92]
        obtain ⟨t, ht, hk1⟩ := head_ascii h0 hb h92 (by decide)
        cases he : escL l with
        | none =>
          have : stepU L p (p + 1 + i, acc) (i, (decodeL l).1) = .inr ([], p + 1 + i, 10) := by
            unfold stepU; rw [if_neg (by simp), if_neg h34, if_neg h32, if_pos h92]; simp only [hl, he]
          rw [this]; rfl
        | some y =>
          have : stepU L p (p + 1 + i, acc) (i, (decodeL l).1) = .inl (p + 1 + i + y.2, acc ++ encodeRune y.1) := by
            unfold stepU; rw [if_neg (by simp), if_neg h34, if_neg h32, if_pos h92]; simp only [hl, he]
          rw [this]
          obtain ⟨hy1, hy2, hy3⟩ := escL_ascii he (fun c hc => by rw [ht] at hc; simp at hc; subst hc; decide)
          have hd1 : l.drop 1 = t := by rw [ht]; rfl
          have sk := fold_skip L p (acc ++ encodeRune y.1) (y.2 - 1) (i + 1) (l.drop 1) (by rw [List.length_drop]; omega) (fun c hc => hy2 c (by
            have : l.take y.2 = l.take 1 ++ (l.drop 1).take (y.2 - 1) := by rw [← List.take_add]; congr 1; omega
            rw [this]; exact List.mem_append_right _ hc))
          rw [show p + 1 + (i + 1) + (y.2 - 1) = p + 1 + i + y.2 by omega, show i + 1 + (y.2 - 1) = i + y.2 by omega, List.drop_drop, show 1 + (y.2 - 1) = y.2 by omega] at sk
          have hdl : l.drop y.2 = L.drop (p + 1 + (i + y.2)) := by rw [← hl, List.drop_drop]; congr 1; omega
          have ih2 := ih (i + y.2) (acc ++ encodeRune y.1) (by rw [← hdl, List.length_drop]; omega)
          rw [← hdl] at ih2
          rw [show p + 1 + (i + y.2) = p + 1 + i + y.2 by omega] at ih2
          show finU (foldU L p (p + 1 + i + y.2, acc ++ encodeRune y.1) (stepsP (i + (decodeL l).2) (l.drop (decodeL l).2))) = _
          rw [hk1, sk]
          exact ih2
      · rw [if_neg h92]
        obtain ⟨_, hel⟩ := take_append_enc h0 hb
        have : stepU L p (p + 1 + i, acc) (i, (decodeL l).1) = .inl (p + 1 + i + (decodeL l).2, acc ++ encodeRune (decodeL l).1) := by
          unfold stepU; rw [if_neg (by simp), if_neg h34, if_neg h32, if_neg h92]; simp only [hel]
        rw [this]
        have hdl : l.drop (decodeL l).2 = L.drop (p + 1 + (i + (decodeL l).2)) := by rw [← hl, List.drop_drop]; congr 1; omega
        have ih2 := ih (i + (decodeL l).2) (acc ++ encodeRune (decodeL l).1) (by rw [← hdl, List.length_drop]; omega)
        rw [← hdl] at ih2
        rw [show p + 1 + (i + (decodeL l).2) = p + 1 + i + (decodeL l).2 by omega] at ih2
        exact ih2
theorem unqL_uqR (L : List UInt8) (p n : Nat) (hn : L.length ≤ n) : unqL L p = uqR (n + 1) (L.drop (p + 1)) (p + 1) [] := by
  rw [finU_eq]
  have h := fold_uqR L p n 0 [] (by rw [List.length_drop]; omega)
  rw [Nat.add_zero] at h
  exact h
end Go.Proofs.YtgbagdfcdljleaaGreatDoor.Ru
