/-
  Plain functions on lists of bytes: the runes of a text with their places, how a text is written between quotes, how it is read back. No program in it. · Plain facts on texts: a text behind a text; texts of ASCII letters. No program in it. · The reference's One: the rune at a place, as the decoder has it. · The reference's One, at every place; its Valid and Count. · The reference's Valid (for seats without package runes; there: RVal).
-/
import Derived.Lib.MapLaws
import Derived.Lib.ValidLaws
import Derived.Lib.TrimUEq
import Derived.Lib.TrimAscii
import Derived.Test.YtlamkadllbgamaaGreatDoorProg
import Derived.Test.YtlamkadllbgamaaGreatDoorBase
import Derived.WalkKit
import Derived.ProofKit
import Derived.Handy
import Derived.Lib.Hide
set_option linter.unusedVariables false
set_option linter.unusedSimpArgs false
namespace Go.Proofs.YtlamkadllbgamaaGreatDoor
open Go.Lib

/-- No rune stands at the head. -/
def bad (l : List UInt8) : Bool := decide ((decodeL l).1 = 65533 ∧ (decodeL l).2 = 1)

def stepsF : Nat → Nat → List UInt8 → List (Nat × Nat)
  | 0, _, _ => []
  | n + 1, p, l => if l = [] then [] else if bad l then [] else (p, (decodeL l).1) :: stepsF n (p + (decodeL l).2) (l.drop (decodeL l).2)
/-- The places (from p on) and the runes of l, up to where it is no text. -/
def stepsP (p : Nat) (l : List UInt8) : List (Nat × Nat) := stepsF l.length p l
def steps (l : List UInt8) : List (Nat × Nat) := stepsP 0 l

theorem stepsF_fuel : ∀ (n m p : Nat) (l : List UInt8), l.length ≤ n → l.length ≤ m → stepsF n p l = stepsF m p l
  | 0, m, p, l, hn, _ => by
    have : l = [] := List.eq_nil_of_length_eq_zero (by omega)
    subst this
    cases m <;> simp [stepsF]
  | n + 1, 0, p, l, _, hm => by
    have : l = [] := List.eq_nil_of_length_eq_zero (by omega)
    subst this
    simp [stepsF]
  | n + 1, m + 1, p, l, hn, hm => by
    unfold stepsF
    by_cases h0 : l = []
    · simp [h0]
    rw [if_neg h0, if_neg h0]
    cases hb : bad l with
    | true => rfl
    | false =>
      have hw := decodeL_width l
      have := List.length_pos_iff.2 h0
      simp only [Bool.false_eq_true, if_false]
      rw [stepsF_fuel n m _ _ (by simp; omega) (by simp; omega)]

theorem stepsP_nil (p : Nat) : stepsP p [] = [] := rfl
theorem stepsP_bad (p : Nat) {l : List UInt8} (h : bad l = true) : stepsP p l = [] := by
  unfold stepsP
  cases l with
  | nil => rfl
  | cons c t => simp [stepsF, h]
theorem stepsP_good (p : Nat) {l : List UInt8} (h0 : l ≠ []) (h : bad l = false) : stepsP p l = (p, (decodeL l).1) :: stepsP (p + (decodeL l).2) (l.drop (decodeL l).2) := by
  unfold stepsP
  have hw := decodeL_width l
  obtain ⟨n, hn⟩ : ∃ n, l.length = n + 1 := ⟨l.length - 1, by have := List.length_pos_iff.2 h0; omega⟩
  rw [hn]
  simp only [stepsF, if_neg h0, h, Bool.false_eq_true, if_false]
  rw [stepsF_fuel n (l.drop (decodeL l).2).length _ _ (by simp; omega) (Nat.le_refl _)]

theorem bad_false {l : List UInt8} (h : bad l = false) : ¬ ((decodeL l).1 = 65533 ∧ (decodeL l).2 = 1) := by simpa [bad] using h

theorem stepsP_len : ∀ (n p : Nat) (l : List UInt8), l.length ≤ n → (stepsP p l).length ≤ l.length
  | 0, p, l, h => by
    have : l = [] := List.eq_nil_of_length_eq_zero (by omega)
    subst this; simp [stepsP_nil]
  | n + 1, p, l, h => by
    by_cases h0 : l = []
    · subst h0; simp [stepsP_nil]
    cases hb : bad l with
    | true => rw [stepsP_bad p hb]; simp
    | false =>
      have hw := decodeL_width l
      have hl := decodeL_le l h0
      have ih := stepsP_len n (p + (decodeL l).2) (l.drop (decodeL l).2) (by simp; omega)
      rw [stepsP_good p h0 hb]
      simp at ih ⊢
      omega
theorem steps_length (l : List UInt8) : (steps l).length ≤ l.length := stepsP_len _ _ _ (Nat.le_refl _)

theorem stepsP_mem : ∀ (n p : Nat) (l : List UInt8), l.length ≤ n → ∀ x ∈ stepsP p l, p ≤ x.1 ∧ x.1 < p + l.length ∧ x.2 ≤ 1114111 ∧ x.2 = (decodeL (l.drop (x.1 - p))).1 ∧ bad (l.drop (x.1 - p)) = false
  | 0, p, l, h => by
    have : l = [] := List.eq_nil_of_length_eq_zero (by omega)
    subst this; simp [stepsP_nil]
  | n + 1, p, l, h => by
    by_cases h0 : l = []
    · subst h0; simp [stepsP_nil]
    cases hb : bad l with
    | true => rw [stepsP_bad p hb]; simp
    | false =>
      have hw := decodeL_width l
      have hl := decodeL_le l h0
      have hr := decodeL_rune l
      have h1 := List.length_pos_iff.2 h0
      have ih := stepsP_mem n (p + (decodeL l).2) (l.drop (decodeL l).2) (by simp; omega)
      rw [stepsP_good p h0 hb]
      intro x hx
      rcases List.mem_cons.1 hx with rfl | hx
      · exact ⟨Nat.le_refl _, Nat.lt_add_of_pos_right h1, hr, by rw [Nat.sub_self, List.drop_zero], by rw [Nat.sub_self, List.drop_zero]; exact hb⟩
      · generalize (decodeL l).2 = K at hw hl ih hx
        obtain ⟨a, b, c, d, e⟩ := ih x hx
        have e1 : (l.drop K).drop (x.1 - (p + K)) = l.drop (x.1 - p) := by
          rw [List.drop_drop, show K + (x.1 - (p + K)) = x.1 - p by omega]
        rw [e1] at d e
        rw [List.length_drop] at b
        exact ⟨by omega, by omega, c, d, e⟩
/-- What a step of a text is. -/
theorem steps_mem {l : List UInt8} {x : Nat × Nat} (h : x ∈ steps l) : x.1 < l.length ∧ x.2 ≤ 1114111 ∧ x.2 = (decodeL (l.drop x.1)).1 ∧ bad (l.drop x.1) = false := by
  obtain ⟨_, b, c, d, e⟩ := stepsP_mem l.length 0 l (Nat.le_refl _) x h
  exact ⟨by simpa using b, c, d, e⟩

/-- A step whose bytes are written out. -/
abbrev Stp (l : List UInt8) := { x : Nat × Nat // x ∈ steps l }
end Go.Proofs.YtlamkadllbgamaaGreatDoor

namespace Go.Proofs.YtlamkadllbgamaaGreatDoor
open Go.Lib

set_option maxHeartbeats 4000000 in
set_option maxRecDepth 100000 in
theorem decodeN_more (n n' b0 b1 b2 b3 c1 c2 c3 : Nat) (hn : n ≤ n') (h1 : 1 < n → c1 = b1) (h2 : 2 < n → c2 = b2) (h3 : 3 < n → c3 = b3)
    (hg : ¬ ((decodeN n b0 b1 b2 b3).1 = 65533 ∧ (decodeN n b0 b1 b2 b3).2 = 1)) : decodeN n' b0 c1 c2 c3 = decodeN n b0 b1 b2 b3 := by
  by_cases q0 : b0 < 128
  · simp [decodeN, q0]
  by_cases q1 : b0 / 32 = 6 ∧ (1 < n ∧ b1 / 64 = 2)
  · have e1 := h1 q1.2.1
    subst e1
    have q1' : b0 / 32 = 6 ∧ (1 < n' ∧ c1 / 64 = 2) := ⟨q1.1, by omega, q1.2.2⟩
    simp only [decodeN, if_neg q0, if_pos q1, if_pos q1']
  by_cases q2 : b0 / 16 = 14 ∧ (1 < n ∧ b1 / 64 = 2) ∧ (2 < n ∧ b2 / 64 = 2)
  · have e1 := h1 q2.2.1.1
    have e2 := h2 q2.2.2.1
    subst e1 e2
    have q2' : b0 / 16 = 14 ∧ (1 < n' ∧ c1 / 64 = 2) ∧ (2 < n' ∧ c2 / 64 = 2) := ⟨q2.1, ⟨by omega, q2.2.1.2⟩, by omega, q2.2.2.2⟩
    have q1' : ¬ (b0 / 32 = 6 ∧ (1 < n' ∧ c1 / 64 = 2)) := by omega
    simp only [decodeN, if_neg q0, if_neg q1, if_neg q1', if_pos q2, if_pos q2']
  by_cases q3 : b0 / 8 = 30 ∧ (1 < n ∧ b1 / 64 = 2) ∧ (2 < n ∧ b2 / 64 = 2) ∧ (3 < n ∧ b3 / 64 = 2)
  · have e1 := h1 q3.2.1.1
    have e2 := h2 q3.2.2.1.1
    have e3 := h3 q3.2.2.2.1
    subst e1 e2 e3
    have q3' : b0 / 8 = 30 ∧ (1 < n' ∧ c1 / 64 = 2) ∧ (2 < n' ∧ c2 / 64 = 2) ∧ (3 < n' ∧ c3 / 64 = 2) := ⟨q3.1, ⟨by omega, q3.2.1.2⟩, ⟨by omega, q3.2.2.1.2⟩, by omega, q3.2.2.2.2⟩
    have q1' : ¬ (b0 / 32 = 6 ∧ (1 < n' ∧ c1 / 64 = 2)) := by omega
    have q2' : ¬ (b0 / 16 = 14 ∧ (1 < n' ∧ c1 / 64 = 2) ∧ (2 < n' ∧ c2 / 64 = 2)) := by omega
    simp only [decodeN, if_neg q0, if_neg q1, if_neg q1', if_neg q2, if_neg q2', if_pos q3, if_pos q3']
  · exfalso
    apply hg
    simp [decodeN, q0, q1, q2, q3]

theorem dec_append {a : List UInt8} (b : List UInt8) (h0 : a ≠ []) (h : bad a = false) : decodeL (a ++ b) = decodeL a := by
  have hb := bad_false h
  have hl := List.length_pos_iff.2 h0
  rw [decodeL_N, decodeL_N a] at *
  have g : ∀ i, i < a.length → (a ++ b).getD i 0 = a.getD i 0 := fun i hi => by
    rw [List.getD, List.getD, List.getElem?_append_left hi]
  rw [g 0 hl]
  refine decodeN_more _ _ _ _ _ _ _ _ _ (by rw [List.length_append]; omega) (fun h => by rw [g 1 h]) (fun h => by rw [g 2 h]) (fun h => by rw [g 3 h]) hb
theorem bad_append {a : List UInt8} (b : List UInt8) (h0 : a ≠ []) (h : bad a = false) : bad (a ++ b) = false := by
  unfold bad at *
  rw [dec_append b h0 (by unfold bad; exact h)]
  exact h

theorem validD_bad {l : List UInt8} (h0 : l ≠ []) : validD l = if bad l then false else validD (l.drop (decodeL l).2) := by
  rw [validD_step l h0]
  unfold bad
  by_cases h : (decodeL l).1 = 65533 ∧ (decodeL l).2 = 1
  · rw [if_pos h, decide_eq_true h]; rfl
  · rw [if_neg h, decide_eq_false h]; rfl

/-- By the runes of a text. -/
theorem valid_ind {P : List UInt8 → Prop} (hnil : P []) (hstep : ∀ l, l ≠ [] → bad l = false → validD (l.drop (decodeL l).2) = true → P (l.drop (decodeL l).2) → P l) : ∀ (n : Nat) (l : List UInt8), l.length ≤ n → validD l = true → P l
  | 0, l, h, _ => by
    have : l = [] := List.eq_nil_of_length_eq_zero (by omega)
    subst this; exact hnil
  | n + 1, l, h, hv => by
    by_cases h0 : l = []
    · subst h0; exact hnil
    rw [validD_bad h0] at hv
    cases hb : bad l with
    | true => rw [hb] at hv; cases hv
    | false =>
      rw [hb] at hv
      have hw := decodeL_width l
      have := List.length_pos_iff.2 h0
      exact hstep l h0 hb hv (valid_ind hnil hstep n _ (by rw [List.length_drop]; omega) hv)

theorem valid_append {a : List UInt8} (b : List UInt8) (h : validD a = true) : validD (a ++ b) = validD b := by
  refine valid_ind (P := fun a => validD (a ++ b) = validD b) rfl ?_ a.length a (Nat.le_refl _) h
  intro l h0 hb hv ih
  have hl := decodeL_le l h0
  have h1 : l ++ b ≠ [] := by simp [h0]
  rw [validD_bad h1, bad_append b h0 hb, dec_append b h0 hb, List.drop_append_of_le_length hl]
  exact ih
theorem stepsP_append {a : List UInt8} (b : List UInt8) (h : validD a = true) : ∀ p, stepsP p (a ++ b) = stepsP p a ++ stepsP (p + a.length) b := by
  refine valid_ind (P := fun a => ∀ p, stepsP p (a ++ b) = stepsP p a ++ stepsP (p + a.length) b) (fun p => by simp [stepsP_nil]) ?_ a.length a (Nat.le_refl _) h
  intro l h0 hb hv ih p
  have hl := decodeL_le l h0
  have h1 : l ++ b ≠ [] := by simp [h0]
  rw [stepsP_good p h1 (bad_append b h0 hb), dec_append b h0 hb, List.drop_append_of_le_length hl, ih, stepsP_good p h0 hb, List.cons_append, List.length_drop]
  congr 3
  omega
theorem steps_shift (l : List UInt8) : ∀ (n p : Nat), l.length ≤ n → (stepsP p l).map (·.2) = (stepsP 0 l).map (·.2) := by
  have : ∀ (n : Nat) (l : List UInt8) (p q : Nat), l.length ≤ n → (stepsP p l).map (·.2) = (stepsP q l).map (·.2) := by
    intro n
    induction n with
    | zero =>
      intro l p q h
      have : l = [] := List.eq_nil_of_length_eq_zero (by omega)
      subst this; rfl
    | succ n ih =>
      intro l p q h
      by_cases h0 : l = []
      · subst h0; rfl
      cases hb : bad l with
      | true => rw [stepsP_bad p hb, stepsP_bad q hb]
      | false =>
        have hw := decodeL_width l
        rw [stepsP_good p h0 hb, stepsP_good q h0 hb, List.map_cons, List.map_cons, ih _ _ (q + (decodeL l).2) (by rw [List.length_drop]; omega)]
  intro n p h
  exact this n l p 0 h
theorem steps_append_len {a b : List UInt8} (h : validD a = true) : (steps (a ++ b)).length = (steps a).length + (steps b).length := by
  unfold steps
  rw [stepsP_append b h, List.length_append]
  have := congrArg List.length (steps_shift b b.length (0 + a.length) (Nat.le_refl _))
  simp only [List.length_map] at this
  rw [this]

theorem bad_ascii {c : UInt8} (t : List UInt8) (h : c.toNat < 128) : bad (c :: t) = false := by
  unfold bad
  rw [decodeL_ascii c t h]
  exact decide_eq_false (by simp; omega)
theorem stepsP_ascii {c : UInt8} (t : List UInt8) (h : c.toNat < 128) (p : Nat) : stepsP p (c :: t) = (p, c.toNat) :: stepsP (p + 1) t := by
  rw [stepsP_good p (by simp) (bad_ascii t h), decodeL_ascii c t h]; rfl
theorem valid_ascii : ∀ (l : List UInt8), (∀ c ∈ l, c.toNat < 128) → validD l = true
  | [], _ => rfl
  | c :: t, h => by
    rw [validD_cons c t (h c (by simp))]
    exact valid_ascii t fun x hx => h x (by simp [hx])
theorem steps_ascii : ∀ (l : List UInt8) (p : Nat), (∀ c ∈ l, c.toNat < 128) → (stepsP p l).length = l.length
  | [], _, _ => rfl
  | c :: t, p, h => by
    rw [stepsP_ascii t (h c (by simp)), List.length_cons, List.length_cons, steps_ascii t _ fun x hx => h x (by simp [hx])]
end Go.Proofs.YtlamkadllbgamaaGreatDoor

namespace Go.Proofs.YtlamkadllbgamaaGreatDoor
open Go.RowKit

set_option maxRecDepth 100000 in
theorem and31 : ∀ X : Fin 256, bits .and .i64 ((X.val : Nat) : Int) 31 = ((X.val % 32 : Nat) : Int) := by decide
set_option maxRecDepth 100000 in
theorem and15b : ∀ X : Fin 256, bits .and .i64 ((X.val : Nat) : Int) 15 = ((X.val % 16 : Nat) : Int) := by decide
set_option maxRecDepth 100000 in
theorem and7b : ∀ X : Fin 256, bits .and .i64 ((X.val : Nat) : Int) 7 = ((X.val % 8 : Nat) : Int) := by decide

/-- The rune at the head of l, and how many bytes it has; (0, 0): there is none. -/
def oneL (l : List UInt8) : Nat × Nat := if l = [] then (0, 0) else if bad l then (0, 0) else Lib.decodeL l
def pairV (x : Nat × Nat) : Value := .tuple #[.int .i64 (x.1 : Nat), .int .i64 (x.2 : Nat)]

theorem oneL_N {l : List UInt8} (h : l ≠ []) : oneL l = if Lib.decodeN l.length (l.getD 0 0).toNat (l.getD 1 0).toNat (l.getD 2 0).toNat (l.getD 3 0).toNat = (65533, 1) then (0, 0) else Lib.decodeN l.length (l.getD 0 0).toNat (l.getD 1 0).toNat (l.getD 2 0).toNat (l.getD 3 0).toNat := by
  unfold oneL bad
  rw [if_neg h, Lib.decodeL_N]
  generalize Lib.decodeN l.length (l.getD 0 0).toNat (l.getD 1 0).toNat (l.getD 2 0).toNat (l.getD 3 0).toNat = d
  obtain ⟨d1, d2⟩ := d
  by_cases e : d1 = 65533 ∧ d2 = 1
  · rw [decide_eq_true e, if_pos (show (d1, d2) = (65533, 1) by rw [e.1, e.2]), if_pos rfl]
  · rw [decide_eq_false e, if_neg (fun h => e ⟨congrArg Prod.fst h, congrArg Prod.snd h⟩)]; rfl

theorem ret_pair {a b : Int} {x : Nat × Nat} (h : a = x.1) (h2 : b = x.2 := by rfl) : Ending.returned (.tuple #[.int .i64 a, .int .i64 b]) = .returned (pairV x) := by rw [h, h2]; rfl

set_option maxHeartbeats 1000000 in
set_option maxRecDepth 100000 in
theorem one_out (s : ByteArray) (a : Int) (h : a < 0 ∨ (s.size : Int) ≤ a) (hs : s.size ≤ maxLen) (w : World) :
    Calls Tryz.prog 82 #[.string s, .int .i64 a] w fun e w' => e = .returned (pairV (0, 0)) ∧ w = w' := by
  have hs9 : s.size ≤ 9223372036854775807 := by unfold maxLen at hs; omega
  clear hs
  by_cases h0 : a < 0
  · clear h
    go_enter Tryz.func82, Tryz.ntmps82
    go_wp2_with fail
    go_ret2
    exact ⟨rfl, rfl⟩
  · have h1 : (s.size : Int) ≤ a := by omega
    clear h
    go_enter Tryz.func82, Tryz.ntmps82
    go_wp2_with fail
    go_ret2
    exact ⟨rfl, rfl⟩



set_option maxHeartbeats 1000000 in
set_option maxRecDepth 100000 in
theorem one_ascii (s : ByteArray) (p : Nat) (hp : p < s.size) (hs : s.size ≤ 9223372036854775807) (w : World) (h : (s[p]'hp).toNat < 128) :
    Calls Tryz.prog 82 #[.string s, .int .i64 p] w fun e w' => e = .returned (pairV ((s[p]'hp).toNat, 1)) ∧ w = w' := by
  go_enter Tryz.func82, Tryz.ntmps82
  go_wp2_with fail
  go_ret2
  exact ⟨rfl, rfl⟩
set_option maxHeartbeats 1000000 in
set_option maxRecDepth 100000 in
theorem one_stray (s : ByteArray) (p : Nat) (hp : p < s.size) (hs : s.size ≤ 9223372036854775807) (w : World) (h : (128 ≤ (s[p]'hp).toNat ∧ (s[p]'hp).toNat < 192) ∨ 248 ≤ (s[p]'hp).toNat) :
    Calls Tryz.prog 82 #[.string s, .int .i64 p] w fun e w' => e = .returned (pairV (0, 0)) ∧ w = w' := by
  have hb := (s[p]'hp).toNat_lt
  rcases h with ⟨h1, h2⟩ | h
  all_goals
    go_enter Tryz.func82, Tryz.ntmps82
    go_wp2_with fail
    go_ret2
    exact ⟨rfl, rfl⟩

set_option maxHeartbeats 1000000 in
set_option maxRecDepth 100000 in
theorem one_2_short (s : ByteArray) (p : Nat) (hp : p < s.size) (hs : s.size ≤ 4611686018427387904) (w : World) (h1 : 192 ≤ (s[p]'hp).toNat) (h2 : (s[p]'hp).toNat < 224) (h3 : s.size < p + 2) :
    Calls Tryz.prog 82 #[.string s, .int .i64 p] w fun e w' => e = .returned (pairV (0, 0)) ∧ w = w' := by
  have hb := (s[p]'hp).toNat_lt
  go_enter Tryz.func82, Tryz.ntmps82
  go_wp2_with fail
  go_ret2
  exact ⟨rfl, rfl⟩

set_option maxHeartbeats 2000000 in
set_option maxRecDepth 100000 in
theorem one_2_bad1 (s : ByteArray) (p : Nat) (hp : p < s.size) (hs : s.size ≤ 4611686018427387904) (w : World) (h1 : 192 ≤ (s[p]'hp).toNat) (h2 : (s[p]'hp).toNat < 224) (h3 : p + 2 ≤ s.size) (h4 : (s[p + 1]'(by omega)).toNat < 128 ∨ 191 < (s[p + 1]'(by omega)).toNat) :
    Calls Tryz.prog 82 #[.string s, .int .i64 p] w fun e w' => e = .returned (pairV (0, 0)) ∧ w = w' := by
  have hand := and31 ⟨(s[p]'hp).toNat, (s[p]'hp).toNat_lt⟩
  dsimp only at hand
  have b1 := (s[p + 1]'(by omega)).toNat_lt
  rcases h4 with h4 | h4
  all_goals
    go_enter Tryz.func82, Tryz.ntmps82
    go_wp2_with fail
    go_rounds 4
    go_ret2
    exact ⟨rfl, rfl⟩

set_option maxHeartbeats 2000000 in
set_option maxRecDepth 100000 in
theorem one_2_no (s : ByteArray) (p : Nat) (hp : p < s.size) (hs : s.size ≤ 4611686018427387904) (w : World) (h1 : 192 ≤ (s[p]'hp).toNat) (h2 : (s[p]'hp).toNat < 224) (h3 : p + 2 ≤ s.size) (g1 : 128 ≤ (s[p + 1]'(by omega)).toNat ∧ (s[p + 1]'(by omega)).toNat ≤ 191) (r : Nat) (hr : ((s[p]'hp).toNat % 32) * 64 + (s[p + 1]'(by omega)).toNat % 64 = r) (h4 : r < 128) :
    Calls Tryz.prog 82 #[.string s, .int .i64 p] w fun e w' => e = .returned (pairV (0, 0)) ∧ w = w' := by
  have hand := and31 ⟨(s[p]'hp).toNat, (s[p]'hp).toNat_lt⟩
  dsimp only at hand
  have b1 := (s[p + 1]'(by omega)).toNat_lt
  obtain ⟨u1, v1⟩ := g1
  have RR := Lib.hid hr
  have r1 : r ≤ ((s[p]'hp).toNat % 32) * 64 + (s[p + 1]'(by omega)).toNat % 64 := by omega
  have r2 : ((s[p]'hp).toNat % 32) * 64 + (s[p + 1]'(by omega)).toNat % 64 ≤ r := by omega
  clear hr
  all_goals
    go_enter Tryz.func82, Tryz.ntmps82
    go_wp2_with fail
    go_rounds 4
    go_ret2
    exact ⟨rfl, rfl⟩

set_option maxHeartbeats 2000000 in
set_option maxRecDepth 100000 in
theorem one_2_ok (s : ByteArray) (p : Nat) (hp : p < s.size) (hs : s.size ≤ 4611686018427387904) (w : World) (h1 : 192 ≤ (s[p]'hp).toNat) (h2 : (s[p]'hp).toNat < 224) (h3 : p + 2 ≤ s.size) (g1 : 128 ≤ (s[p + 1]'(by omega)).toNat ∧ (s[p + 1]'(by omega)).toNat ≤ 191) (r : Nat) (hr : ((s[p]'hp).toNat % 32) * 64 + (s[p + 1]'(by omega)).toNat % 64 = r) (h4 : 128 ≤ r) :
    Calls Tryz.prog 82 #[.string s, .int .i64 p] w fun e w' => e = .returned (pairV (r, 2)) ∧ w = w' := by
  have hand := and31 ⟨(s[p]'hp).toNat, (s[p]'hp).toNat_lt⟩
  dsimp only at hand
  have b1 := (s[p + 1]'(by omega)).toNat_lt
  obtain ⟨u1, v1⟩ := g1
  have RR := Lib.hid hr
  have r1 : r ≤ ((s[p]'hp).toNat % 32) * 64 + (s[p + 1]'(by omega)).toNat % 64 := by omega
  have r2 : ((s[p]'hp).toNat % 32) * 64 + (s[p + 1]'(by omega)).toNat % 64 ≤ r := by omega
  clear hr
  all_goals
    go_enter Tryz.func82, Tryz.ntmps82
    go_wp2_with fail
    go_rounds 4
    go_ret2
    exact ⟨ret_pair (by omega), rfl⟩

set_option maxHeartbeats 1000000 in
set_option maxRecDepth 100000 in
theorem one_3_short (s : ByteArray) (p : Nat) (hp : p < s.size) (hs : s.size ≤ 4611686018427387904) (w : World) (h1 : 224 ≤ (s[p]'hp).toNat) (h2 : (s[p]'hp).toNat < 240) (h3 : s.size < p + 3) :
    Calls Tryz.prog 82 #[.string s, .int .i64 p] w fun e w' => e = .returned (pairV (0, 0)) ∧ w = w' := by
  have hb := (s[p]'hp).toNat_lt
  go_enter Tryz.func82, Tryz.ntmps82
  go_wp2_with fail
  go_ret2
  exact ⟨rfl, rfl⟩

set_option maxHeartbeats 2000000 in
set_option maxRecDepth 100000 in
theorem one_3_bad1 (s : ByteArray) (p : Nat) (hp : p < s.size) (hs : s.size ≤ 4611686018427387904) (w : World) (h1 : 224 ≤ (s[p]'hp).toNat) (h2 : (s[p]'hp).toNat < 240) (h3 : p + 3 ≤ s.size) (h4 : (s[p + 1]'(by omega)).toNat < 128 ∨ 191 < (s[p + 1]'(by omega)).toNat) :
    Calls Tryz.prog 82 #[.string s, .int .i64 p] w fun e w' => e = .returned (pairV (0, 0)) ∧ w = w' := by
  have hand := and15b ⟨(s[p]'hp).toNat, (s[p]'hp).toNat_lt⟩
  dsimp only at hand
  have b1 := (s[p + 1]'(by omega)).toNat_lt
  have b2 := (s[p + 2]'(by omega)).toNat_lt
  rcases h4 with h4 | h4
  all_goals
    go_enter Tryz.func82, Tryz.ntmps82
    go_wp2_with fail
    go_rounds 4
    go_ret2
    exact ⟨rfl, rfl⟩

set_option maxHeartbeats 2000000 in
set_option maxRecDepth 100000 in
theorem one_3_bad2 (s : ByteArray) (p : Nat) (hp : p < s.size) (hs : s.size ≤ 4611686018427387904) (w : World) (h1 : 224 ≤ (s[p]'hp).toNat) (h2 : (s[p]'hp).toNat < 240) (h3 : p + 3 ≤ s.size) (g1 : 128 ≤ (s[p + 1]'(by omega)).toNat ∧ (s[p + 1]'(by omega)).toNat ≤ 191) (h4 : (s[p + 2]'(by omega)).toNat < 128 ∨ 191 < (s[p + 2]'(by omega)).toNat) :
    Calls Tryz.prog 82 #[.string s, .int .i64 p] w fun e w' => e = .returned (pairV (0, 0)) ∧ w = w' := by
  have hand := and15b ⟨(s[p]'hp).toNat, (s[p]'hp).toNat_lt⟩
  dsimp only at hand
  have b1 := (s[p + 1]'(by omega)).toNat_lt
  have b2 := (s[p + 2]'(by omega)).toNat_lt
  obtain ⟨u1, v1⟩ := g1
  rcases h4 with h4 | h4
  all_goals
    go_enter Tryz.func82, Tryz.ntmps82
    go_wp2_with fail
    go_rounds 4
    go_ret2
    exact ⟨rfl, rfl⟩

set_option maxHeartbeats 2000000 in
set_option maxRecDepth 100000 in
theorem one_3_no (s : ByteArray) (p : Nat) (hp : p < s.size) (hs : s.size ≤ 4611686018427387904) (w : World) (h1 : 224 ≤ (s[p]'hp).toNat) (h2 : (s[p]'hp).toNat < 240) (h3 : p + 3 ≤ s.size) (g1 : 128 ≤ (s[p + 1]'(by omega)).toNat ∧ (s[p + 1]'(by omega)).toNat ≤ 191) (g2 : 128 ≤ (s[p + 2]'(by omega)).toNat ∧ (s[p + 2]'(by omega)).toNat ≤ 191) (r : Nat) (hr : (((s[p]'hp).toNat % 16) * 64 + (s[p + 1]'(by omega)).toNat % 64) * 64 + (s[p + 2]'(by omega)).toNat % 64 = r) (h4 : r < 2048 ∨ (55296 ≤ r ∧ r ≤ 57343)) :
    Calls Tryz.prog 82 #[.string s, .int .i64 p] w fun e w' => e = .returned (pairV (0, 0)) ∧ w = w' := by
  have hand := and15b ⟨(s[p]'hp).toNat, (s[p]'hp).toNat_lt⟩
  dsimp only at hand
  have b1 := (s[p + 1]'(by omega)).toNat_lt
  have b2 := (s[p + 2]'(by omega)).toNat_lt
  obtain ⟨u1, v1⟩ := g1
  obtain ⟨u2, v2⟩ := g2
  have RR := Lib.hid hr
  have r1 : r ≤ (((s[p]'hp).toNat % 16) * 64 + (s[p + 1]'(by omega)).toNat % 64) * 64 + (s[p + 2]'(by omega)).toNat % 64 := by omega
  have r2 : (((s[p]'hp).toNat % 16) * 64 + (s[p + 1]'(by omega)).toNat % 64) * 64 + (s[p + 2]'(by omega)).toNat % 64 ≤ r := by omega
  clear hr
  rcases h4 with h4 | h4
  all_goals
    go_enter Tryz.func82, Tryz.ntmps82
    go_wp2_with fail
    go_rounds 4
    go_ret2
    exact ⟨rfl, rfl⟩

set_option maxHeartbeats 2000000 in
set_option maxRecDepth 100000 in
theorem one_3_ok (s : ByteArray) (p : Nat) (hp : p < s.size) (hs : s.size ≤ 4611686018427387904) (w : World) (h1 : 224 ≤ (s[p]'hp).toNat) (h2 : (s[p]'hp).toNat < 240) (h3 : p + 3 ≤ s.size) (g1 : 128 ≤ (s[p + 1]'(by omega)).toNat ∧ (s[p + 1]'(by omega)).toNat ≤ 191) (g2 : 128 ≤ (s[p + 2]'(by omega)).toNat ∧ (s[p + 2]'(by omega)).toNat ≤ 191) (r : Nat) (hr : (((s[p]'hp).toNat % 16) * 64 + (s[p + 1]'(by omega)).toNat % 64) * 64 + (s[p + 2]'(by omega)).toNat % 64 = r) (h4 : 2048 ≤ r ∧ (r < 55296 ∨ 57343 < r)) :
    Calls Tryz.prog 82 #[.string s, .int .i64 p] w fun e w' => e = .returned (pairV (r, 3)) ∧ w = w' := by
  have hand := and15b ⟨(s[p]'hp).toNat, (s[p]'hp).toNat_lt⟩
  dsimp only at hand
  have b1 := (s[p + 1]'(by omega)).toNat_lt
  have b2 := (s[p + 2]'(by omega)).toNat_lt
  obtain ⟨u1, v1⟩ := g1
  obtain ⟨u2, v2⟩ := g2
  have RR := Lib.hid hr
  have r1 : r ≤ (((s[p]'hp).toNat % 16) * 64 + (s[p + 1]'(by omega)).toNat % 64) * 64 + (s[p + 2]'(by omega)).toNat % 64 := by omega
  have r2 : (((s[p]'hp).toNat % 16) * 64 + (s[p + 1]'(by omega)).toNat % 64) * 64 + (s[p + 2]'(by omega)).toNat % 64 ≤ r := by omega
  clear hr
  obtain ⟨h4, h5⟩ := h4
  rcases h5 with h5 | h5
  all_goals
    go_enter Tryz.func82, Tryz.ntmps82
    go_wp2_with fail
    go_rounds 4
    go_ret2
    exact ⟨ret_pair (by omega), rfl⟩

set_option maxHeartbeats 1000000 in
set_option maxRecDepth 100000 in
theorem one_4_short (s : ByteArray) (p : Nat) (hp : p < s.size) (hs : s.size ≤ 4611686018427387904) (w : World) (h1 : 240 ≤ (s[p]'hp).toNat) (h2 : (s[p]'hp).toNat < 248) (h3 : s.size < p + 4) :
    Calls Tryz.prog 82 #[.string s, .int .i64 p] w fun e w' => e = .returned (pairV (0, 0)) ∧ w = w' := by
  have hb := (s[p]'hp).toNat_lt
  go_enter Tryz.func82, Tryz.ntmps82
  go_wp2_with fail
  go_ret2
  exact ⟨rfl, rfl⟩

set_option maxHeartbeats 2000000 in
set_option maxRecDepth 100000 in
theorem one_4_bad1 (s : ByteArray) (p : Nat) (hp : p < s.size) (hs : s.size ≤ 4611686018427387904) (w : World) (h1 : 240 ≤ (s[p]'hp).toNat) (h2 : (s[p]'hp).toNat < 248) (h3 : p + 4 ≤ s.size) (h4 : (s[p + 1]'(by omega)).toNat < 128 ∨ 191 < (s[p + 1]'(by omega)).toNat) :
    Calls Tryz.prog 82 #[.string s, .int .i64 p] w fun e w' => e = .returned (pairV (0, 0)) ∧ w = w' := by
  have hand := and7b ⟨(s[p]'hp).toNat, (s[p]'hp).toNat_lt⟩
  dsimp only at hand
  have b1 := (s[p + 1]'(by omega)).toNat_lt
  have b2 := (s[p + 2]'(by omega)).toNat_lt
  have b3 := (s[p + 3]'(by omega)).toNat_lt
  rcases h4 with h4 | h4
  all_goals
    go_enter Tryz.func82, Tryz.ntmps82
    go_wp2_with fail
    go_rounds 4
    go_ret2
    exact ⟨rfl, rfl⟩

set_option maxHeartbeats 2000000 in
set_option maxRecDepth 100000 in
theorem one_4_bad2 (s : ByteArray) (p : Nat) (hp : p < s.size) (hs : s.size ≤ 4611686018427387904) (w : World) (h1 : 240 ≤ (s[p]'hp).toNat) (h2 : (s[p]'hp).toNat < 248) (h3 : p + 4 ≤ s.size) (g1 : 128 ≤ (s[p + 1]'(by omega)).toNat ∧ (s[p + 1]'(by omega)).toNat ≤ 191) (h4 : (s[p + 2]'(by omega)).toNat < 128 ∨ 191 < (s[p + 2]'(by omega)).toNat) :
    Calls Tryz.prog 82 #[.string s, .int .i64 p] w fun e w' => e = .returned (pairV (0, 0)) ∧ w = w' := by
  have hand := and7b ⟨(s[p]'hp).toNat, (s[p]'hp).toNat_lt⟩
  dsimp only at hand
  have b1 := (s[p + 1]'(by omega)).toNat_lt
  have b2 := (s[p + 2]'(by omega)).toNat_lt
  have b3 := (s[p + 3]'(by omega)).toNat_lt
  obtain ⟨u1, v1⟩ := g1
  rcases h4 with h4 | h4
  all_goals
    go_enter Tryz.func82, Tryz.ntmps82
    go_wp2_with fail
    go_rounds 4
    go_ret2
    exact ⟨rfl, rfl⟩

set_option maxHeartbeats 2000000 in
set_option maxRecDepth 100000 in
theorem one_4_bad3 (s : ByteArray) (p : Nat) (hp : p < s.size) (hs : s.size ≤ 4611686018427387904) (w : World) (h1 : 240 ≤ (s[p]'hp).toNat) (h2 : (s[p]'hp).toNat < 248) (h3 : p + 4 ≤ s.size) (g1 : 128 ≤ (s[p + 1]'(by omega)).toNat ∧ (s[p + 1]'(by omega)).toNat ≤ 191) (g2 : 128 ≤ (s[p + 2]'(by omega)).toNat ∧ (s[p + 2]'(by omega)).toNat ≤ 191) (h4 : (s[p + 3]'(by omega)).toNat < 128 ∨ 191 < (s[p + 3]'(by omega)).toNat) :
    Calls Tryz.prog 82 #[.string s, .int .i64 p] w fun e w' => e = .returned (pairV (0, 0)) ∧ w = w' := by
  have hand := and7b ⟨(s[p]'hp).toNat, (s[p]'hp).toNat_lt⟩
  dsimp only at hand
  have b1 := (s[p + 1]'(by omega)).toNat_lt
  have b2 := (s[p + 2]'(by omega)).toNat_lt
  have b3 := (s[p + 3]'(by omega)).toNat_lt
  obtain ⟨u1, v1⟩ := g1
  obtain ⟨u2, v2⟩ := g2
  rcases h4 with h4 | h4
  all_goals
    go_enter Tryz.func82, Tryz.ntmps82
    go_wp2_with fail
    go_rounds 4
    go_ret2
    exact ⟨rfl, rfl⟩

set_option maxHeartbeats 2000000 in
set_option maxRecDepth 100000 in
theorem one_4_no (s : ByteArray) (p : Nat) (hp : p < s.size) (hs : s.size ≤ 4611686018427387904) (w : World) (h1 : 240 ≤ (s[p]'hp).toNat) (h2 : (s[p]'hp).toNat < 248) (h3 : p + 4 ≤ s.size) (g1 : 128 ≤ (s[p + 1]'(by omega)).toNat ∧ (s[p + 1]'(by omega)).toNat ≤ 191) (g2 : 128 ≤ (s[p + 2]'(by omega)).toNat ∧ (s[p + 2]'(by omega)).toNat ≤ 191) (g3 : 128 ≤ (s[p + 3]'(by omega)).toNat ∧ (s[p + 3]'(by omega)).toNat ≤ 191) (r : Nat) (hr : ((((s[p]'hp).toNat % 8) * 64 + (s[p + 1]'(by omega)).toNat % 64) * 64 + (s[p + 2]'(by omega)).toNat % 64) * 64 + (s[p + 3]'(by omega)).toNat % 64 = r) (h4 : r < 65536 ∨ 1114111 < r) :
    Calls Tryz.prog 82 #[.string s, .int .i64 p] w fun e w' => e = .returned (pairV (0, 0)) ∧ w = w' := by
  have hand := and7b ⟨(s[p]'hp).toNat, (s[p]'hp).toNat_lt⟩
  dsimp only at hand
  have b1 := (s[p + 1]'(by omega)).toNat_lt
  have b2 := (s[p + 2]'(by omega)).toNat_lt
  have b3 := (s[p + 3]'(by omega)).toNat_lt
  obtain ⟨u1, v1⟩ := g1
  obtain ⟨u2, v2⟩ := g2
  obtain ⟨u3, v3⟩ := g3
  have RR := Lib.hid hr
  have r1 : r ≤ ((((s[p]'hp).toNat % 8) * 64 + (s[p + 1]'(by omega)).toNat % 64) * 64 + (s[p + 2]'(by omega)).toNat % 64) * 64 + (s[p + 3]'(by omega)).toNat % 64 := by omega
  have r2 : ((((s[p]'hp).toNat % 8) * 64 + (s[p + 1]'(by omega)).toNat % 64) * 64 + (s[p + 2]'(by omega)).toNat % 64) * 64 + (s[p + 3]'(by omega)).toNat % 64 ≤ r := by omega
  clear hr
  rcases h4 with h4 | h4
  all_goals
    go_enter Tryz.func82, Tryz.ntmps82
    go_wp2_with fail
    go_rounds 4
    go_ret2
    exact ⟨rfl, rfl⟩

set_option maxHeartbeats 2000000 in
set_option maxRecDepth 100000 in
theorem one_4_ok (s : ByteArray) (p : Nat) (hp : p < s.size) (hs : s.size ≤ 4611686018427387904) (w : World) (h1 : 240 ≤ (s[p]'hp).toNat) (h2 : (s[p]'hp).toNat < 248) (h3 : p + 4 ≤ s.size) (g1 : 128 ≤ (s[p + 1]'(by omega)).toNat ∧ (s[p + 1]'(by omega)).toNat ≤ 191) (g2 : 128 ≤ (s[p + 2]'(by omega)).toNat ∧ (s[p + 2]'(by omega)).toNat ≤ 191) (g3 : 128 ≤ (s[p + 3]'(by omega)).toNat ∧ (s[p + 3]'(by omega)).toNat ≤ 191) (r : Nat) (hr : ((((s[p]'hp).toNat % 8) * 64 + (s[p + 1]'(by omega)).toNat % 64) * 64 + (s[p + 2]'(by omega)).toNat % 64) * 64 + (s[p + 3]'(by omega)).toNat % 64 = r) (h4 : 65536 ≤ r ∧ r ≤ 1114111) :
    Calls Tryz.prog 82 #[.string s, .int .i64 p] w fun e w' => e = .returned (pairV (r, 4)) ∧ w = w' := by
  have hand := and7b ⟨(s[p]'hp).toNat, (s[p]'hp).toNat_lt⟩
  dsimp only at hand
  have b1 := (s[p + 1]'(by omega)).toNat_lt
  have b2 := (s[p + 2]'(by omega)).toNat_lt
  have b3 := (s[p + 3]'(by omega)).toNat_lt
  obtain ⟨u1, v1⟩ := g1
  obtain ⟨u2, v2⟩ := g2
  obtain ⟨u3, v3⟩ := g3
  have RR := Lib.hid hr
  have r1 : r ≤ ((((s[p]'hp).toNat % 8) * 64 + (s[p + 1]'(by omega)).toNat % 64) * 64 + (s[p + 2]'(by omega)).toNat % 64) * 64 + (s[p + 3]'(by omega)).toNat % 64 := by omega
  have r2 : ((((s[p]'hp).toNat % 8) * 64 + (s[p + 1]'(by omega)).toNat % 64) * 64 + (s[p + 2]'(by omega)).toNat % 64) * 64 + (s[p + 3]'(by omega)).toNat % 64 ≤ r := by omega
  clear hr
  obtain ⟨h4, h5⟩ := h4
  all_goals
    go_enter Tryz.func82, Tryz.ntmps82
    go_wp2_with fail
    go_rounds 4
    go_ret2
    exact ⟨ret_pair (by omega), rfl⟩

end Go.Proofs.YtlamkadllbgamaaGreatDoor

namespace Go.Proofs.YtlamkadllbgamaaGreatDoor
open Go.RowKit

theorem drop_get (s : ByteArray) (p i : Nat) (h : p + i < s.size) : (s.data.toList.drop p).getD i 0 = s[p + i]'h := by
  rw [List.getD, List.getElem?_drop, toList_getElem s (p + i) h]; rfl
theorem drop_len (s : ByteArray) (p : Nat) : (s.data.toList.drop p).length = s.size - p := by rw [List.length_drop, toList_length]
theorem drop_ne (s : ByteArray) (p : Nat) (h : p < s.size) : s.data.toList.drop p ≠ [] := by
  intro e
  have := congrArg List.length e
  rw [drop_len] at this
  simp at this; omega

theorem one_at (s : ByteArray) (p : Nat) (hp : p < s.size) (hs : s.size ≤ 4611686018427387904) (w : World) :
    Calls Tryz.prog 82 #[.string s, .int .i64 p] w fun e w' => e = .returned (pairV (oneL (s.data.toList.drop p))) ∧ w = w' := by
  have g0 : (s.data.toList.drop p).getD 0 0 = s[p]'hp := drop_get s p 0 hp
  have hN := oneL_N (drop_ne s p hp)
  rw [drop_len, g0] at hN
  have hb := (s[p]'hp).toNat_lt
  have z1 : ¬ p + 1 < s.size → True := fun _ => trivial
  by_cases q0 : (s[p]'hp).toNat < 128
  · have : oneL (s.data.toList.drop p) = ((s[p]'hp).toNat, 1) := by
      rw [hN]
      have e : ∀ a b c, Lib.decodeN (s.size - p) (s[p]'hp).toNat a b c = ((s[p]'hp).toNat, 1) := fun a b c => by unfold Lib.decodeN; rw [if_pos q0]
      rw [e, if_neg (fun h => by have := congrArg Prod.fst h; simp at this; omega)]
    rw [this]
    exact one_ascii s p hp (by omega) w q0
  by_cases q1 : (s[p]'hp).toNat < 192 ∨ 248 ≤ (s[p]'hp).toNat
  · have : oneL (s.data.toList.drop p) = (0, 0) := by
      rw [hN]
      have e : ∀ a b c, Lib.decodeN (s.size - p) (s[p]'hp).toNat a b c = (65533, 1) := fun a b c => by
        unfold Lib.decodeN
        rw [if_neg q0, if_neg (by omega), if_neg (by omega), if_neg (by omega)]
      rw [e, if_pos rfl]
    rw [this]
    exact one_stray s p hp (by omega) w (by omega)
  by_cases q2 : (s[p]'hp).toNat < 224
  · by_cases k : p + 2 ≤ s.size
    · have g1 := drop_get s p 1 (by omega)
      rw [g1] at hN
      have b1 := (s[p + 1]'(by omega)).toNat_lt
      by_cases c1 : (s[p + 1]'(by omega)).toNat < 128 ∨ 191 < (s[p + 1]'(by omega)).toNat
      · have : oneL (s.data.toList.drop p) = (0, 0) := by
          rw [hN]
          have e : ∀ b c, Lib.decodeN (s.size - p) (s[p]'hp).toNat (s[p + 1]'(by omega)).toNat b c = (65533, 1) := fun b c => by
            unfold Lib.decodeN
            rw [if_neg q0, if_neg (by omega), if_neg (by omega), if_neg (by omega)]
          rw [e, if_pos rfl]
        rw [this]
        exact one_2_bad1 s p hp hs w (by omega) q2 k c1
      · have e : ∀ b c, Lib.decodeN (s.size - p) (s[p]'hp).toNat (s[p + 1]'(by omega)).toNat b c = if (s[p]'hp).toNat % 32 * 64 + (s[p + 1]'(by omega)).toNat % 64 ≥ 128 then ((s[p]'hp).toNat % 32 * 64 + (s[p + 1]'(by omega)).toNat % 64, 2) else (65533, 1) := fun b c => by
          unfold Lib.decodeN
          rw [if_neg q0, if_pos (by omega)]
        rw [e] at hN
        by_cases qv : (s[p]'hp).toNat % 32 * 64 + (s[p + 1]'(by omega)).toNat % 64 ≥ 128
        · rw [if_pos qv, if_neg (fun h => by have := congrArg Prod.snd h; simp at this)] at hN
          rw [hN]
          exact one_2_ok s p hp hs w (by omega) q2 k (by omega) _ rfl qv
        · rw [if_neg qv, if_pos rfl] at hN
          rw [hN]
          exact one_2_no s p hp hs w (by omega) q2 k (by omega) _ rfl (by omega)
    · have : oneL (s.data.toList.drop p) = (0, 0) := by
        rw [hN]
        have e : ∀ a b c, Lib.decodeN (s.size - p) (s[p]'hp).toNat a b c = (65533, 1) := fun a b c => by
          unfold Lib.decodeN
          rw [if_neg q0, if_neg (by omega), if_neg (by omega), if_neg (by omega)]
        rw [e, if_pos rfl]
      rw [this]
      exact one_2_short s p hp hs w (by omega) q2 (by omega)
  by_cases q3 : (s[p]'hp).toNat < 240
  · by_cases k : p + 3 ≤ s.size
    · have g1 := drop_get s p 1 (by omega)
      have g2 := drop_get s p 2 (by omega)
      rw [g1, g2] at hN
      have b1 := (s[p + 1]'(by omega)).toNat_lt
      have b2 := (s[p + 2]'(by omega)).toNat_lt
      by_cases c1 : (s[p + 1]'(by omega)).toNat < 128 ∨ 191 < (s[p + 1]'(by omega)).toNat
      · have : oneL (s.data.toList.drop p) = (0, 0) := by
          rw [hN]
          have e : ∀ b c, Lib.decodeN (s.size - p) (s[p]'hp).toNat (s[p + 1]'(by omega)).toNat b c = (65533, 1) := fun b c => by
            unfold Lib.decodeN
            rw [if_neg q0, if_neg (by omega), if_neg (by omega), if_neg (by omega)]
          rw [e, if_pos rfl]
        rw [this]
        exact one_3_bad1 s p hp hs w (by omega) q3 k c1
      by_cases c2 : (s[p + 2]'(by omega)).toNat < 128 ∨ 191 < (s[p + 2]'(by omega)).toNat
      · have : oneL (s.data.toList.drop p) = (0, 0) := by
          rw [hN]
          have e : ∀ c, Lib.decodeN (s.size - p) (s[p]'hp).toNat (s[p + 1]'(by omega)).toNat (s[p + 2]'(by omega)).toNat c = (65533, 1) := fun c => by
            unfold Lib.decodeN
            rw [if_neg q0, if_neg (by omega), if_neg (by omega), if_neg (by omega)]
          rw [e, if_pos rfl]
        rw [this]
        exact one_3_bad2 s p hp hs w (by omega) q3 k (by omega) c2
      · have e : ∀ c, Lib.decodeN (s.size - p) (s[p]'hp).toNat (s[p + 1]'(by omega)).toNat (s[p + 2]'(by omega)).toNat c = if (s[p]'hp).toNat % 16 * 4096 + (s[p + 1]'(by omega)).toNat % 64 * 64 + (s[p + 2]'(by omega)).toNat % 64 ≥ 2048 ∧ ((s[p]'hp).toNat % 16 * 4096 + (s[p + 1]'(by omega)).toNat % 64 * 64 + (s[p + 2]'(by omega)).toNat % 64 < 55296 ∨ (57344 ≤ (s[p]'hp).toNat % 16 * 4096 + (s[p + 1]'(by omega)).toNat % 64 * 64 + (s[p + 2]'(by omega)).toNat % 64 ∧ (s[p]'hp).toNat % 16 * 4096 + (s[p + 1]'(by omega)).toNat % 64 * 64 + (s[p + 2]'(by omega)).toNat % 64 ≤ 1114111)) then ((s[p]'hp).toNat % 16 * 4096 + (s[p + 1]'(by omega)).toNat % 64 * 64 + (s[p + 2]'(by omega)).toNat % 64, 3) else (65533, 1) := fun c => by
          unfold Lib.decodeN
          rw [if_neg q0, if_neg (by omega), if_pos (by omega)]
        rw [e] at hN
        obtain ⟨r, hr⟩ : ∃ r, (s[p]'hp).toNat % 16 * 4096 + (s[p + 1]'(by omega)).toNat % 64 * 64 + (s[p + 2]'(by omega)).toNat % 64 = r := ⟨_, rfl⟩
        rw [hr] at hN
        by_cases qv : r ≥ 2048 ∧ (r < 55296 ∨ (57344 ≤ r ∧ r ≤ 1114111))
        · rw [if_pos qv, if_neg (fun h => by have := congrArg Prod.snd h; simp at this)] at hN
          rw [hN]
          exact one_3_ok s p hp hs w (by omega) q3 k (by omega) (by omega) r (by omega) (by omega)
        · rw [if_neg qv, if_pos rfl] at hN
          rw [hN]
          exact one_3_no s p hp hs w (by omega) q3 k (by omega) (by omega) r (by omega) (by omega)
    · have : oneL (s.data.toList.drop p) = (0, 0) := by
        rw [hN]
        have e : ∀ a b c, Lib.decodeN (s.size - p) (s[p]'hp).toNat a b c = (65533, 1) := fun a b c => by
          unfold Lib.decodeN
          rw [if_neg q0, if_neg (by omega), if_neg (by omega), if_neg (by omega)]
        rw [e, if_pos rfl]
      rw [this]
      exact one_3_short s p hp hs w (by omega) q3 (by omega)
  by_cases k : p + 4 ≤ s.size
  · have g1 := drop_get s p 1 (by omega)
    have g2 := drop_get s p 2 (by omega)
    have g3 := drop_get s p 3 (by omega)
    rw [g1, g2, g3] at hN
    have b1 := (s[p + 1]'(by omega)).toNat_lt
    have b2 := (s[p + 2]'(by omega)).toNat_lt
    have b3 := (s[p + 3]'(by omega)).toNat_lt
    by_cases c1 : (s[p + 1]'(by omega)).toNat < 128 ∨ 191 < (s[p + 1]'(by omega)).toNat
    · have : oneL (s.data.toList.drop p) = (0, 0) := by
        rw [hN]
        have e : ∀ b c, Lib.decodeN (s.size - p) (s[p]'hp).toNat (s[p + 1]'(by omega)).toNat b c = (65533, 1) := fun b c => by
          unfold Lib.decodeN
          rw [if_neg q0, if_neg (by omega), if_neg (by omega), if_neg (by omega)]
        rw [e, if_pos rfl]
      rw [this]
      exact one_4_bad1 s p hp hs w (by omega) (by omega) k c1
    by_cases c2 : (s[p + 2]'(by omega)).toNat < 128 ∨ 191 < (s[p + 2]'(by omega)).toNat
    · have : oneL (s.data.toList.drop p) = (0, 0) := by
        rw [hN]
        have e : ∀ c, Lib.decodeN (s.size - p) (s[p]'hp).toNat (s[p + 1]'(by omega)).toNat (s[p + 2]'(by omega)).toNat c = (65533, 1) := fun c => by
          unfold Lib.decodeN
          rw [if_neg q0, if_neg (by omega), if_neg (by omega), if_neg (by omega)]
        rw [e, if_pos rfl]
      rw [this]
      exact one_4_bad2 s p hp hs w (by omega) (by omega) k (by omega) c2
    by_cases c3 : (s[p + 3]'(by omega)).toNat < 128 ∨ 191 < (s[p + 3]'(by omega)).toNat
    · have : oneL (s.data.toList.drop p) = (0, 0) := by
        rw [hN]
        have e : Lib.decodeN (s.size - p) (s[p]'hp).toNat (s[p + 1]'(by omega)).toNat (s[p + 2]'(by omega)).toNat (s[p + 3]'(by omega)).toNat = (65533, 1) := by
          unfold Lib.decodeN
          rw [if_neg q0, if_neg (by omega), if_neg (by omega), if_neg (by omega)]
        rw [e, if_pos rfl]
      rw [this]
      exact one_4_bad3 s p hp hs w (by omega) (by omega) k (by omega) (by omega) c3
    · have e : Lib.decodeN (s.size - p) (s[p]'hp).toNat (s[p + 1]'(by omega)).toNat (s[p + 2]'(by omega)).toNat (s[p + 3]'(by omega)).toNat = if (s[p]'hp).toNat % 8 * 262144 + (s[p + 1]'(by omega)).toNat % 64 * 4096 + (s[p + 2]'(by omega)).toNat % 64 * 64 + (s[p + 3]'(by omega)).toNat % 64 ≥ 65536 ∧ ((s[p]'hp).toNat % 8 * 262144 + (s[p + 1]'(by omega)).toNat % 64 * 4096 + (s[p + 2]'(by omega)).toNat % 64 * 64 + (s[p + 3]'(by omega)).toNat % 64 < 55296 ∨ (57344 ≤ (s[p]'hp).toNat % 8 * 262144 + (s[p + 1]'(by omega)).toNat % 64 * 4096 + (s[p + 2]'(by omega)).toNat % 64 * 64 + (s[p + 3]'(by omega)).toNat % 64 ∧ (s[p]'hp).toNat % 8 * 262144 + (s[p + 1]'(by omega)).toNat % 64 * 4096 + (s[p + 2]'(by omega)).toNat % 64 * 64 + (s[p + 3]'(by omega)).toNat % 64 ≤ 1114111)) then ((s[p]'hp).toNat % 8 * 262144 + (s[p + 1]'(by omega)).toNat % 64 * 4096 + (s[p + 2]'(by omega)).toNat % 64 * 64 + (s[p + 3]'(by omega)).toNat % 64, 4) else (65533, 1) := by
        unfold Lib.decodeN
        rw [if_neg q0, if_neg (by omega), if_neg (by omega), if_pos (by omega)]
      rw [e] at hN
      obtain ⟨r, hr⟩ : ∃ r, (s[p]'hp).toNat % 8 * 262144 + (s[p + 1]'(by omega)).toNat % 64 * 4096 + (s[p + 2]'(by omega)).toNat % 64 * 64 + (s[p + 3]'(by omega)).toNat % 64 = r := ⟨_, rfl⟩
      rw [hr] at hN
      by_cases qv : r ≥ 65536 ∧ (r < 55296 ∨ (57344 ≤ r ∧ r ≤ 1114111))
      · rw [if_pos qv, if_neg (fun h => by have := congrArg Prod.snd h; simp at this)] at hN
        rw [hN]
        exact one_4_ok s p hp hs w (by omega) (by omega) k (by omega) (by omega) (by omega) r (by omega) (by omega)
      · rw [if_neg qv, if_pos rfl] at hN
        rw [hN]
        exact one_4_no s p hp hs w (by omega) (by omega) k (by omega) (by omega) (by omega) r (by omega) (by omega)
  · have : oneL (s.data.toList.drop p) = (0, 0) := by
      rw [hN]
      have e : ∀ a b c, Lib.decodeN (s.size - p) (s[p]'hp).toNat a b c = (65533, 1) := fun a b c => by
        unfold Lib.decodeN
        rw [if_neg q0, if_neg (by omega), if_neg (by omega), if_neg (by omega)]
      rw [e, if_pos rfl]
    rw [this]
    exact one_4_short s p hp hs w (by omega) (by omega) (by omega)
end Go.Proofs.YtlamkadllbgamaaGreatDoor

namespace Go.Proofs.YtlamkadllbgamaaGreatDoor
open Go.RowKit

theorem oneL_bad {l : List UInt8} (h : bad l = true) : oneL l = (0, 0) := by
  unfold oneL
  split
  · rfl
  · rfl
theorem oneL_good {l : List UInt8} (h0 : l ≠ []) (h : bad l = false) : oneL l = Lib.decodeL l := by
  unfold oneL
  rw [if_neg h0, h]; rfl
theorem bad_size (s : ByteArray) (p : Nat) (hp : p < s.size) (h : bad (s.data.toList.drop p) = true) : (oneL (s.data.toList.drop p)) = (0, 0) := oneL_bad h
theorem good_size (s : ByteArray) (p : Nat) (hp : p < s.size) (h : bad (s.data.toList.drop p) = false) :
    ∃ r n : Nat, oneL (s.data.toList.drop p) = (r, n) ∧ 1 ≤ n ∧ p + n ≤ s.size ∧ r ≤ 1114111 ∧ Lib.validD (s.data.toList.drop p) = Lib.validD (s.data.toList.drop (p + n)) ∧
      (stepsP p (s.data.toList.drop p)) = (p, r) :: stepsP (p + n) (s.data.toList.drop (p + n)) := by
  have h0 := drop_ne s p hp
  have hw := Lib.decodeL_width (s.data.toList.drop p)
  have hl := Lib.decodeL_le (s.data.toList.drop p) h0
  rw [drop_len] at hl
  have hr := Lib.decodeL_rune (s.data.toList.drop p)
  have e1 := oneL_good h0 h
  have e2 := validD_bad h0
  have e3 := stepsP_good p h0 h
  rw [h, List.drop_drop] at e2
  rw [List.drop_drop] at e3
  generalize Lib.decodeL (s.data.toList.drop p) = d at *
  obtain ⟨r, n⟩ := d
  have hp2 : p + n ≤ s.size := by
    have : n ≤ s.size - p := hl
    omega
  exact ⟨r, n, e1, hw, hp2, hr, by simpa using e2, e3⟩

set_option maxHeartbeats 400000 in
theorem rvalid_any (s : ByteArray) (w : World) (h63 : s.size ≤ 4611686018427387904) :
    Calls Tryz.prog 73 #[.string s] w fun e w' => e = .returned (.bool (Lib.validD s.data.toList)) ∧ w = w' := by
  obtain ⟨V, hV⟩ : ∃ V, Lib.validD s.data.toList = V := ⟨_, rfl⟩
  rw [hV]
  have HV := Lib.hid hV
  clear hV
  go_enter Tryz.func73, Tryz.ntmps73
  go_wp2_with fail
  go_loop [3] (fun i => ∃ k : Nat, k ≤ s.size ∧ i = .int .i64 k ∧ Lib.validD (s.data.toList.drop k) = V) (fun i => s.size - (intOf i).toNat)
  case atStart => exact ⟨0, Nat.zero_le _, rfl, by rw [List.drop_zero]; exact HV.out⟩
  case round =>
    obtain ⟨k, hk, rfl, hv⟩ := hrel
    by_cases hlt : k < s.size
    · have hO := one_at s k hlt h63 w
      cases hb : bad (s.data.toList.drop k) with
      | true =>
        rw [bad_size s k hlt hb] at hO
        have HO := Lib.hid hO
        have e : V = false := by rw [← hv, validD_bad (drop_ne s k hlt), hb]; rfl
        clear hO hb hv
        subst e
        go_wp2_with (go_at_call 82; refine HO.out.mono ?_; rintro e w' ⟨rfl, rfl⟩; unfold pairV)
        go_ret
        exact ⟨rfl, rfl⟩
      | false =>
        obtain ⟨r, n, h1, h2, h3, h4, h5, h6⟩ := good_size s k hlt hb
        rw [h1] at hO
        have HO := Lib.hid hO
        have H5 := Lib.hid (h5.symm.trans hv)
        clear hO hb hv h5 h6 h1
        have hn0 : ¬ n = 0 := by omega
        go_wp2_with (go_at_call 82; refine HO.out.mono ?_; rintro e w' ⟨rfl, rfl⟩; unfold pairV)
        go_round
        case rel => exact ⟨k + n, by omega, by go_num, H5.out⟩
        case measure => simp [intOf]; omega
    · have hke : k = s.size := by omega
      subst hke
      have e : V = true := by
        rw [← hv, List.drop_eq_nil_of_le (by rw [toList_length]; omega)]; rfl
      clear hv
      subst e
      go_wp2_with fail
      go_ret
      exact ⟨rfl, rfl⟩
end Go.Proofs.YtlamkadllbgamaaGreatDoor
