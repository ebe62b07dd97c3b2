/-
  What Unquote's loop does with each rune, as a plain function.
-/
import Derived.Test.YtgbagdfcdljleaaGreatDoorG2
set_option linter.unusedVariables false
set_option linter.unusedSimpArgs false
namespace Go.Proofs.YtgbagdfcdljleaaGreatDoor.Ru
open Go.RowKit Go.Shelf Go.Maps

theorem decodeL_valid (l : List UInt8) : (Lib.decodeL l).1 < 55296 ∨ 57343 < (Lib.decodeL l).1 := by
  rw [Lib.decodeL_N]
  have h0 := (l.getD 0 0).toNat_lt
  unfold Lib.decodeN
  repeat' split
  all_goals (simp only; omega)
theorem runeLen_enc (r : Nat) (h : r ≤ 1114111) (hv : r < 55296 ∨ 57343 < r) : Lib.runeLen r = ((Lib.encodeRune r).length : Int) := by
  unfold Lib.runeLen Lib.encodeRune Lib.encodeRuneZ
  rw [List.length_map]
  repeat' split
  all_goals first | rfl | (exfalso; omega)

abbrev UAns := List UInt8 × Nat × Nat
/-- One rune of the loop: what is read so far and where it goes on; or the answer. -/
def stepU (L : List UInt8) (p : Nat) (st : Nat × List UInt8) (x : Nat × Nat) : (Nat × List UInt8) ⊕ UAns :=
  if p + 1 + x.1 < st.1 then .inl st
  else if x.2 = 34 then .inr (st.2, p + 1 + x.1 + 1, 0)
  else if x.2 < 32 then .inr ([], p + 1 + x.1, 10)
  else if x.2 = 92 then
    match escL (L.drop (p + 1 + x.1)) with
    | none => .inr ([], p + 1 + x.1, 10)
    | some y => .inl (p + 1 + x.1 + y.2, st.2 ++ Lib.encodeRune y.1)
  else .inl (p + 1 + x.1 + (Lib.encodeRune x.2).length, st.2 ++ Lib.encodeRune x.2)
def foldU (L : List UInt8) (p : Nat) : (Nat × List UInt8) → List (Nat × Nat) → (Nat × List UInt8) ⊕ UAns
  | st, [] => .inl st
  | st, x :: xs => match stepU L p st x with
    | .inl st' => foldU L p st' xs
    | .inr a => .inr a
theorem foldU_snoc (L : List UInt8) (p : Nat) (x : Nat × Nat) : ∀ (xs : List (Nat × Nat)) (st : Nat × List UInt8), foldU L p st (xs ++ [x]) = match foldU L p st xs with
    | .inl st' => stepU L p st' x
    | .inr a => .inr a
  | [], st => by
    simp only [List.nil_append, foldU]
    cases stepU L p st x <;> rfl
  | y :: xs, st => by
    simp only [List.cons_append, foldU]
    cases stepU L p st y with
    | inl st' => exact foldU_snoc L p x xs st'
    | inr a => rfl
theorem foldU_app (L : List UInt8) (p : Nat) (a : UAns) (ys : List (Nat × Nat)) : ∀ (xs : List (Nat × Nat)) (st : Nat × List UInt8), foldU L p st xs = .inr a → foldU L p st (xs ++ ys) = .inr a
  | [], st, h => by cases h
  | y :: xs, st, h => by
    unfold foldU at h
    simp only [List.cons_append, foldU]
    cases hs : stepU L p st y with
    | inl st' =>
      rw [hs] at h
      exact foldU_app L p a ys xs st' h
    | inr b =>
      rw [hs] at h
      exact h
theorem enc_le (r : Nat) : (Lib.encodeRune r).length ≤ 4 := by
  have := Lib.runeCells_le r
  rw [Lib.runeCells_length] at this
  omega
theorem foldU_len (L : List UInt8) (p : Nat) : ∀ (xs : List (Nat × Nat)) (st st' : Nat × List UInt8), foldU L p st xs = .inl st' → st'.2.length ≤ st.2.length + 4 * xs.length
  | [], st, st', h => by cases h; simp
  | x :: xs, st, st', h => by
    unfold foldU at h
    split at h
    · rename_i st1 h1
      have ih := foldU_len L p xs st1 st' h
      have : st1.2.length ≤ st.2.length + 4 := by
        unfold stepU at h1
        split at h1
        · cases h1; omega
        split at h1
        · cases h1
        split at h1
        · cases h1
        split at h1
        · split at h1
          · cases h1
          · rename_i y _
            have := enc_le y.1
            cases h1
            simp only [List.length_append]; omega
        · have := enc_le x.2
          cases h1
          simp only [List.length_append]; omega
      simp only [List.length_cons]
      omega
    · cases h
/-- What is read between quotes from p on, in L: the text, the place, the error. -/
def unqL (L : List UInt8) (p : Nat) : UAns :=
  match foldU L p (p + 1, []) (steps (L.drop (p + 1))) with
  | .inl st => ([], st.1, 10)
  | .inr a => a
def ansV (a : UAns) : Value := .tuple #[.string ⟨a.1.toArray⟩, .int .i64 (a.2.1 : Nat), .int .i64 (a.2.2 : Nat)]
end Go.Proofs.YtgbagdfcdljleaaGreatDoor.Ru
