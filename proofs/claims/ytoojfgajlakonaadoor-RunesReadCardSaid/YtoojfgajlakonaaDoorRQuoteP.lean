/-
  How a text is written, byte by byte. Plain.
-/
import Derived.Test.YtoojfgajlakonaaDoorRName
import Derived.Test.YtoojfgajlakonaaDoorPl5
set_option linter.unusedVariables false
namespace Go.Proofs.YtoojfgajlakonaaDoor
open Go.Lib

def qB (c : UInt8) : List UInt8 := if shortN c.toNat ≠ 0 then [92, (shortN c.toNat).toUInt8] else if c.toNat < 32 then [92, 117, 48, 48, hexd (c.toNat / 16), hexd (c.toNat % 16)] else [c]

theorem shortN_big {r : Nat} (h : 128 ≤ r) : shortN r = 0 := by
  unfold shortN
  repeat rw [if_neg (by omega)]
theorem qB_big {c : UInt8} (h : 128 ≤ c.toNat) : qB c = [c] := by
  unfold qB
  rw [shortN_big h, if_neg (by simp), if_neg (by omega)]
theorem qB_flat : ∀ (l : List UInt8), (∀ c ∈ l, 128 ≤ c.toNat) → l.flatMap qB = l
  | [], _ => rfl
  | c :: t, h => by
    rw [List.flatMap_cons, qB_big (h c (by simp)), qB_flat t fun x hx => h x (by simp [hx])]; rfl
theorem enc_big (r : Nat) (h : 128 ≤ r) (h2 : r ≤ 1114111) (hv : r < 55296 ∨ 57343 < r) : ∀ c ∈ encodeRune (r : Int), 128 ≤ c.toNat := by
  intro c hc
  unfold encodeRune at hc
  obtain ⟨x, hx, rfl⟩ := List.mem_map.1 hc
  have hb : 128 ≤ x ∧ x < 256 := by
    unfold encodeRuneZ at hx
    rw [if_neg (by omega)] at hx
    split at hx
    · simp only [List.mem_cons, List.not_mem_nil, or_false] at hx; omega
    · split at hx
      · simp only [List.mem_cons, List.not_mem_nil, or_false] at hx; omega
      · split at hx
        · simp only [List.mem_cons, List.not_mem_nil, or_false] at hx; omega
        · simp only [List.mem_cons, List.not_mem_nil, or_false] at hx; omega
  rw [u8n _ (by omega)]
  omega
theorem quoteB_step {l : List UInt8} (h0 : l ≠ []) (hb : bad l = false) : (l.take (decodeL l).2).flatMap qB = qRune (decodeL l).1 := by
  have hr := decodeL_rune l
  have hval := decodeL_valid l
  by_cases h : (decodeL l).1 < 128
  · obtain ⟨t, ht, hk⟩ := head_ascii h0 hb rfl h
    generalize (decodeL l).1 = r at *
    rw [hk, ht]
    have e : (r.toUInt8).toNat = r := u8n r (by omega)
    simp only [List.take_succ_cons, List.take_zero, List.flatMap_cons, List.flatMap_nil, List.append_nil]
    unfold qB qRune
    rw [e]
    split
    · rfl
    · split
      · rfl
      · unfold encodeRune
        rw [encodeRuneZ_one (by omega) (by omega)]
        simp
  · obtain ⟨e1, e2⟩ := take_append_enc h0 hb
    rw [← e1]
    generalize (decodeL l).1 = r at *
    rw [qB_flat _ (enc_big r (by omega) hr hval)]
    unfold qRune
    rw [shortN_big (by omega), if_neg (by simp), if_neg (by omega)]
theorem quoteB {l : List UInt8} (hv : validD l = true) : l.flatMap qB = bodyL l := by
  refine valid_ind (P := fun l => l.flatMap qB = bodyL l) rfl ?_ l.length l (Nat.le_refl _) hv
  intro l h0 hb hv ih
  rw [bodyL_step h0 hb, ← ih, ← quoteB_step h0 hb, ← List.flatMap_append, List.take_append_drop]
end Go.Proofs.YtoojfgajlakonaaDoor
