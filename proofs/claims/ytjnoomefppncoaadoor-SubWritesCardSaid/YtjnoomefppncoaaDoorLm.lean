/-
  A text behind a text: plain facts.
-/
import Derived.Test.YtjnoomefppncoaaDoorLi
set_option linter.unusedVariables false
namespace Go.Proofs.YtjnoomefppncoaaDoor
open Go.RowKit Go.Shelf

theorem cutB_more {b : UInt8} {l x y : List UInt8} (t : List UInt8) (h : cutB b l = some (x, y)) : cutB b (l ++ t) = some (x, y ++ t) := by
  obtain ⟨rfl, hx⟩ := cutB_some h
  rw [List.append_assoc, List.cons_append]
  exact cutB_app (y ++ t) hx
/-- Behind a text whose holes are all shut, reading goes on. -/
theorem lexS_app : ∀ (n : Nat) (s t : List UInt8) (p : Nat) (K L : List X), s.length ≤ n → s.getLast? ≠ some 36 → lexS s p K = .inr L → lexS (s ++ t) p K = lexS t (p + s.length) L
  | n, [], t, p, K, L, _, _, h => by rw [lexS_nil] at h; cases h; rfl
  | 0, c :: r, t, p, K, L, hn, _, _ => by simp at hn
  | n + 1, c :: r, t, p, K, L, hn, hl, h => by
    simp only [List.length_cons] at hn
    have hrl : r ≠ [] → r.getLast? ≠ some 36 := fun hr e => hl (by
      cases r with
      | nil => exact absurd rfl hr
      | cons a b => rw [List.getLast?_cons_cons]; exact e)
    by_cases ho : c = 36 ∧ r.head? = some 123
    · obtain ⟨rfl, ht⟩ := ho
      obtain ⟨r', rfl⟩ : ∃ r', r = 123 :: r' := by
        cases r with
        | nil => cases ht
        | cons a b => simp only [List.head?_cons, Option.some.injEq] at ht; exact ⟨b, by rw [ht]⟩
      have e1 : (36 :: 123 :: r') ++ t = 36 :: 123 :: (r' ++ t) := rfl
      rw [e1, lexS_open]
      rw [lexS_open] at h
      cases hc : cutB 125 r' with
      | none => rw [hc] at h; cases h
      | some q =>
        obtain ⟨i, r2⟩ := q
        have hlen := cutB_len hc
        have hr2 : r2.getLast? ≠ some 36 := fun e => by
          have := (cutB_some hc).1
          refine hrl (by simp) ?_
          rw [this]
          have h2 : r2 ≠ [] := fun e2 => by rw [e2] at e; cases e
          rw [show (123 :: (i ++ 125 :: r2)) = (123 :: i ++ [125]) ++ r2 by simp, List.getLast?_append, e]
          rfl
        rw [cutB_more t hc]
        rw [hc] at h
        simp only [List.length_cons] at hn ⊢
        simp only at h ⊢
        split at h
        · rename_i hi
          rw [if_pos hi, lexS_app n r2 t _ _ L (by omega) hr2 h]
          congr 1; omega
        · rename_i hi
          rw [if_neg hi]
          cases hx : holeP i with
          | none => rw [hx] at h; cases h
          | some x =>
            rw [hx] at h
            simp only at h ⊢
            rw [lexS_app n r2 t _ _ L (by omega) hr2 h]
            congr 1; omega
    · rw [lexS_byte _ _ ho] at h
      have ho2 : ¬ (c = 36 ∧ (r ++ t).head? = some 123) := by
        rintro ⟨rfl, e⟩
        cases r with
        | nil => exact hl rfl
        | cons a b => exact ho ⟨rfl, e⟩
      rw [List.cons_append, lexS_byte _ _ ho2]
      have hr : r.getLast? ≠ some 36 := by
        by_cases h0 : r = []
        · rw [h0]; simp
        · exact hrl h0
      rw [lexS_app n r t _ _ L (by omega) hr h, List.length_cons]
      congr 1; omega
theorem addR_fold (x : X) (M K : List X) : addR x (M.foldr addR K) = (addR x M).foldr addR K := by
  cases x with
  | ref m => rfl
  | att m a => rfl
  | text b =>
    by_cases hb : b = []
    · subst hb; rw [addR_nil, addR_nil]
    · cases M with
      | nil => simp [addR, hb]
      | cons y M =>
        cases y with
        | text a =>
          have : addR (.text b) (.text a :: M) = .text (a ++ b) :: M := by simp [addR, hb]
          rw [this, List.foldr_cons, List.foldr_cons, addR_two]
        | ref m => have : addR (.text b) (.ref m :: M) = .text b :: .ref m :: M := by simp [addR, hb]
                   rw [this]; rfl
        | att m a => have : addR (.text b) (.att m a :: M) = .text b :: .att m a :: M := by simp [addR, hb]
                     rw [this]; rfl
/-- Reading from another place, behind other parts. -/
theorem lexS_shift : ∀ (n : Nat) (t : List UInt8) (p q : Nat) (M K : List X), t.length ≤ n → lexS t (p + q) (M.foldr addR K) = match lexS t p M with
    | .inl r => .inl (r + q)
    | .inr N => .inr (N.foldr addR K)
  | n, [], p, q, M, K, _ => rfl
  | 0, c :: r, p, q, M, K, hn => by simp at hn
  | n + 1, c :: r, p, q, M, K, hn => by
    simp only [List.length_cons] at hn
    by_cases ho : c = 36 ∧ r.head? = some 123
    · obtain ⟨rfl, ht⟩ := ho
      obtain ⟨r', rfl⟩ : ∃ r', r = 123 :: r' := by
        cases r with
        | nil => cases ht
        | cons a b => simp only [List.head?_cons, Option.some.injEq] at ht; exact ⟨b, by rw [ht]⟩
      rw [lexS_open, lexS_open]
      cases hc : cutB 125 r' with
      | none => rfl
      | some w =>
        obtain ⟨i, r2⟩ := w
        have hlen := cutB_len hc
        simp only [List.length_cons] at hn
        simp only
        split
        · rw [addR_fold, show p + q + 3 + i.length = (p + 3 + i.length) + q by omega, lexS_shift n r2 _ q _ K (by omega)]
        · cases hx : holeP i with
          | none => rfl
          | some x =>
            simp only
            rw [addR_fold, show p + q + 3 + i.length = (p + 3 + i.length) + q by omega, lexS_shift n r2 _ q _ K (by omega)]
    · rw [lexS_byte _ _ ho, lexS_byte _ _ ho, addR_fold, show p + q + 1 = (p + 1) + q by omega, lexS_shift n r _ q _ K (by omega)]
theorem lexS_pos : ∀ (n : Nat) (t : List UInt8) (p r : Nat) (L : List X), t.length ≤ n → lexS t p L = .inl r → r ≤ p + t.length
  | n, [], p, r, L, _, h => by rw [lexS_nil] at h; cases h
  | 0, c :: t, p, r, L, hn, _ => by simp at hn
  | n + 1, c :: t, p, r, L, hn, h => by
    simp only [List.length_cons] at hn
    by_cases ho : c = 36 ∧ t.head? = some 123
    · obtain ⟨rfl, ht⟩ := ho
      obtain ⟨r', rfl⟩ : ∃ r', t = 123 :: r' := by
        cases t with
        | nil => cases ht
        | cons a b => simp only [List.head?_cons, Option.some.injEq] at ht; exact ⟨b, by rw [ht]⟩
      rw [lexS_open] at h
      cases hc : cutB 125 r' with
      | none => rw [hc] at h; cases h; omega
      | some w =>
        obtain ⟨i, r2⟩ := w
        have hlen := cutB_len hc
        rw [hc] at h
        simp only [List.length_cons] at hn ⊢
        simp only at h
        split at h
        · have := lexS_pos n r2 _ r _ (by omega) h; omega
        · cases hx : holeP i with
          | none => rw [hx] at h; cases h; omega
          | some x => rw [hx] at h; have := lexS_pos n r2 _ r _ (by omega) h; omega
    · rw [lexS_byte _ _ ho] at h
      have := lexS_pos n t _ r _ (by omega) h
      simp only [List.length_cons]; omega
/-- The law's own way of joining: the first part may meet the last one ahead. -/
def joinR (L : List X) : List X → List X
  | [] => L
  | x :: M => M.foldl (fun W y => y :: W) (addR x L)
end Go.Proofs.YtjnoomefppncoaaDoor
