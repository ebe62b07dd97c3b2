/-
  What reads between quotes is a text, of bounded length; two texts that are not the same are written otherwise.
-/
import Derived.Test.YtoojfgajlakonaaDoorPl4
set_option linter.unusedVariables false
namespace Go.Proofs.YtoojfgajlakonaaDoor
open Go.Lib

theorem u8n (x : Nat) (h : x < 256) : (x.toUInt8).toNat = x := by simp; omega
set_option maxHeartbeats 1000000 in
theorem enc_valid (r : Nat) (h : r ≤ 1114111) (hv : r < 55296 ∨ 57343 < r) : validD (encodeRune r) = true := by
  by_cases h1 : r ≤ 127
  · have e : encodeRune (r : Int) = [r.toUInt8] := by
      unfold encodeRune; rw [encodeRuneZ_one (by omega) (by omega)]; simp
    rw [e]
    exact valid_ascii _ fun c hc => by simp only [List.mem_cons, List.not_mem_nil, or_false] at hc; subst hc; rw [u8n _ (by omega)]; omega
  by_cases h2 : r ≤ 2047
  · have e : encodeRune (r : Int) = [(192 + r / 64).toUInt8, (128 + r % 64).toUInt8] := by
      unfold encodeRune; rw [encodeRuneZ_two (by omega) (by omega)]
      simp only [List.map_cons, List.map_nil]
      rw [show (192 + (r : Int) / 64).toNat = 192 + r / 64 by omega, show (128 + (r : Int) % 64).toNat = 128 + r % 64 by omega]
    have d : decodeL [(192 + r / 64).toUInt8, (128 + r % 64).toUInt8] = (r, 2) := by
      rw [decodeL_N]
      show decodeN 2 (192 + r / 64).toUInt8.toNat (128 + r % 64).toUInt8.toNat (0 : UInt8).toNat (0 : UInt8).toNat = _
      rw [u8n _ (by omega), u8n _ (by omega)]
      unfold decodeN
      rw [if_neg (by omega), if_pos (by omega), if_pos (by omega)]
      congr 1; omega
    rw [e]
    exact valid_whole (by simp) (by unfold bad; rw [d]; exact decide_eq_false (by simp)) (by rw [d]; rfl)
  by_cases h3 : r ≤ 65535
  · have e : encodeRune (r : Int) = [(224 + r / 4096).toUInt8, (128 + r / 64 % 64).toUInt8, (128 + r % 64).toUInt8] := by
      unfold encodeRune; rw [encodeRuneZ_three (by omega)]
      simp only [List.map_cons, List.map_nil]
      rw [show (224 + (r : Int) / 4096).toNat = 224 + r / 4096 by omega, show (128 + (r : Int) / 64 % 64).toNat = 128 + r / 64 % 64 by omega, show (128 + (r : Int) % 64).toNat = 128 + r % 64 by omega]
    have d : decodeL [(224 + r / 4096).toUInt8, (128 + r / 64 % 64).toUInt8, (128 + r % 64).toUInt8] = (r, 3) := by
      rw [decodeL_N]
      show decodeN 3 (224 + r / 4096).toUInt8.toNat (128 + r / 64 % 64).toUInt8.toNat (128 + r % 64).toUInt8.toNat (0 : UInt8).toNat = _
      rw [u8n _ (by omega), u8n _ (by omega), u8n _ (by omega)]
      unfold decodeN
      rw [if_neg (by omega), if_neg (by omega), if_pos (by omega), if_pos (by omega)]
      congr 1; omega
    rw [e]
    exact valid_whole (by simp) (by unfold bad; rw [d]; exact decide_eq_false (by simp)) (by rw [d]; rfl)
  · have e : encodeRune (r : Int) = [(240 + r / 262144).toUInt8, (128 + r / 4096 % 64).toUInt8, (128 + r / 64 % 64).toUInt8, (128 + r % 64).toUInt8] := by
      unfold encodeRune; rw [encodeRuneZ_four (by omega) (by omega)]
      simp only [List.map_cons, List.map_nil]
      rw [show (240 + (r : Int) / 262144).toNat = 240 + r / 262144 by omega, show (128 + (r : Int) / 4096 % 64).toNat = 128 + r / 4096 % 64 by omega, show (128 + (r : Int) / 64 % 64).toNat = 128 + r / 64 % 64 by omega, show (128 + (r : Int) % 64).toNat = 128 + r % 64 by omega]
    have d : decodeL [(240 + r / 262144).toUInt8, (128 + r / 4096 % 64).toUInt8, (128 + r / 64 % 64).toUInt8, (128 + r % 64).toUInt8] = (r, 4) := by
      rw [decodeL_N]
      show decodeN 4 (240 + r / 262144).toUInt8.toNat (128 + r / 4096 % 64).toUInt8.toNat (128 + r / 64 % 64).toUInt8.toNat (128 + r % 64).toUInt8.toNat = _
      rw [u8n _ (by omega), u8n _ (by omega), u8n _ (by omega), u8n _ (by omega)]
      unfold decodeN
      rw [if_neg (by omega), if_neg (by omega), if_neg (by omega), if_pos (by omega), if_pos (by omega)]
      congr 1; omega
    rw [e]
    exact valid_whole (by simp) (by unfold bad; rw [d]; exact decide_eq_false (by simp)) (by rw [d]; rfl)

theorem uqR_valid : ∀ (n : Nat) (l : List UInt8) (q : Nat) (acc : List UInt8), validD acc = true → validD (uqR n l q acc).1 = true ∧ (uqR n l q acc).1.length ≤ acc.length + 4 * n ∧ ((uqR n l q acc).2.2 = 0 ∨ (uqR n l q acc).2.2 = 10)
  | 0, l, q, acc, _ => ⟨rfl, by simp [uqR], .inr rfl⟩
  | n + 1, l, q, acc, hv => by
    rw [uqR]
    by_cases h0 : l = []
    · rw [if_pos h0]; exact ⟨rfl, by simp, .inr rfl⟩
    rw [if_neg h0]
    cases hb : bad l with
    | true => exact ⟨rfl, by simp, .inr rfl⟩
    | false =>
      rw [if_neg (by simp)]
      split
      · exact ⟨hv, by simp only; omega, .inl rfl⟩
      split
      · exact ⟨rfl, by simp, .inr rfl⟩
      split
      · cases he : escL l with
        | none => exact ⟨rfl, by simp, .inr rfl⟩
        | some y =>
          obtain ⟨y1, y2, _⟩ := escL_rune he
          have ih := uqR_valid n (l.drop y.2) (q + y.2) (acc ++ encodeRune y.1) (by rw [valid_append _ hv]; exact enc_valid _ y1 y2)
          have hl := enc_le y.1
          rw [List.length_append] at ih
          exact ⟨ih.1, by have := ih.2.1; simp only; omega, ih.2.2⟩
      · have ih := uqR_valid n (l.drop (decodeL l).2) (q + (decodeL l).2) (acc ++ encodeRune (decodeL l).1) (by rw [valid_append _ hv, (take_append_enc h0 hb).1]; exact valid_take h0 hb)
        have hl := enc_le (decodeL l).1
        rw [List.length_append] at ih
        exact ⟨ih.1, by have := ih.2.1; omega, ih.2.2⟩
/-- What reads, from a place on. -/
theorem unqI_valid (L : List UInt8) (a : Int) : validD (unqI L a).1 = true ∧ (unqI L a).1.length ≤ 4 * (L.length + 1) ∧ ((unqI L a).2.2 = 0 ∨ (unqI L a).2.2 = 2 ∨ (unqI L a).2.2 = 10) := by
  unfold unqI
  split
  · exact ⟨rfl, by simp, .inr (.inl rfl)⟩
  split
  · exact ⟨rfl, by simp, .inr (.inr rfl)⟩
  · rw [unqL_uqR _ _ _ (Nat.le_refl _)]
    have h := uqR_valid (L.length + 1) (L.drop (a.toNat + 1)) (a.toNat + 1) [] rfl
    refine ⟨h.1, by have := h.2.1; simpa using this, ?_⟩
    rcases h.2.2 with h | h
    · exact .inl h
    · exact .inr (.inr h)
theorem qRune_le6 (l : List UInt8) : (quoteL l).length ≤ 2 + 6 * l.length := by
  rw [quoteL_body]
  have h1 := flat_le (fun x : Nat × Nat => qRune x.2) 6 (fun x => qRune_le _) (steps l)
  have h2 := steps_length l
  have : (bodyL l).length ≤ 6 * l.length := Nat.le_trans h1 (Nat.mul_le_mul_left _ h2)
  simp only [List.length_cons, List.length_append, List.length_nil]
  omega
theorem quote_apart {s t : List UInt8} (hs : validD s = true) (ht : validD t = true) (h : (quoteL s).take (min (quoteL s).length (quoteL t).length) = (quoteL t).take (min (quoteL s).length (quoteL t).length)) : s = t := by
  have key : ∀ {a b : List UInt8}, validD a = true → validD b = true → (quoteL a).length ≤ (quoteL b).length → (quoteL b).take (quoteL a).length = quoteL a → a = b := by
    intro a b ha hb _ he
    have e : quoteL b = quoteL a ++ (quoteL b).drop (quoteL a).length := by
      conv => lhs; rw [← List.take_append_drop (quoteL a).length (quoteL b), he]
    have u1 := unq_quote ha ((quoteL b).drop (quoteL a).length)
    rw [← e] at u1
    have u2 := unq_quote hb []
    rw [List.append_nil] at u2
    rw [u1] at u2
    exact congrArg Prod.fst u2
  rcases Nat.le_total (quoteL s).length (quoteL t).length with hl | hl
  · rw [Nat.min_eq_left hl, List.take_length] at h
    exact key hs ht hl h.symm
  · rw [Nat.min_eq_right hl, List.take_length] at h
    exact (key ht hs hl h).symm
end Go.Proofs.YtoojfgajlakonaaDoor
