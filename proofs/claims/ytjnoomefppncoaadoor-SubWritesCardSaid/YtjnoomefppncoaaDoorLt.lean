/-
  The statement SubJoin, whatever the two texts.
-/
import Derived.Test.YtjnoomefppncoaaDoorLr
set_option linter.unusedVariables false
namespace Go.Proofs.YtjnoomefppncoaaDoor
open Go.RowKit Go.Shelf

theorem hole_noT {i : List UInt8} {x : X} (hx : holeP i = some x) : x.t = [] := by
  unfold holeP at hx
  split at hx
  · split at hx
    · cases hx; rfl
    · cases hx
  · split at hx
    · cases hx; rfl
    · cases hx
def txS (L : List X) : Nat := (L.map fun y => y.t.length).sum
theorem lexS_tx : ∀ (n : Nat) (l : List UInt8) (p : Nat) (L M : List X), l.length ≤ n → lexS l p L = .inr M → txS M ≤ txS L + l.length
  | n, [], p, L, M, _, h => by rw [lexS_nil] at h; cases h; simp
  | 0, c :: t, p, L, M, hn, _ => by simp at hn
  | n + 1, c :: t, p, L, M, hn, h => by
    simp only [List.length_cons] at hn
    by_cases ho : c = 36 ∧ t.head? = some 123
    · obtain ⟨rfl, ht⟩ := ho
      obtain ⟨t', rfl⟩ : ∃ t', t = 123 :: t' := by
        cases t with
        | nil => cases ht
        | cons a b => simp only [List.head?_cons, Option.some.injEq] at ht; exact ⟨b, by rw [ht]⟩
      rw [lexS_open] at h
      cases hc : cutB 125 t' with
      | none => rw [hc] at h; cases h
      | some q =>
        obtain ⟨i, r⟩ := q
        have hl := cutB_len hc
        rw [hc] at h
        simp only [List.length_cons] at hn ⊢
        simp only at h
        split at h
        · rename_i hi
          have h1 := lexS_tx n r _ _ M (by omega) h
          have h2 : txS (addR (.text (36 :: 123 :: (i.tail ++ [125]))) L) = txS L + (36 :: 123 :: (i.tail ++ [125])).length := (addR_len (.text (36 :: 123 :: (i.tail ++ [125]))) L).2
          simp only [List.length_cons, List.length_append, List.length_nil, List.length_tail] at h2
          have h3 : i ≠ [] := fun e => by rw [e] at hi; cases hi
          have h4 := List.length_pos_iff.2 h3
          omega
        · cases hx : holeP i with
          | none => rw [hx] at h; cases h
          | some x =>
            rw [hx] at h
            have h1 := lexS_tx n r _ _ M (by omega) h
            have h2 : txS (addR x L) = txS L + x.t.length := (addR_len x L).2
            rw [hole_noT hx, List.length_nil] at h2
            omega
    · rw [lexS_byte _ _ ho] at h
      have h1 := lexS_tx n t _ _ M (by omega) h
      have h2 : txS (addR (.text [c]) L) = txS L + 1 := (addR_len (.text [c]) L).2
      simp only [List.length_cons]
      omega
theorem txS_mem : ∀ {L : List X} {x : X}, x ∈ L → x.t.length ≤ txS L
  | [], _, h => by cases h
  | y :: L, x, h => by
    have e : txS (y :: L) = y.t.length + txS L := rfl
    rcases List.mem_cons.1 h with rfl | h
    · omega
    · have := txS_mem h; omega

theorem subJoin_any (s t : ByteArray) (w : World) (hE : Env w) (hs : s.size ≤ maxLen) (ht : t.size ≤ maxLen) : Calls Tryd.prog 7 #[.string s, .string t] w fun e w' => e = .returned (.bool true) ∧ Below w.heap.size w w' := by
  by_cases he : early s t
  · exact subJoin_early s t w hE hs ht he
  have h1 : s.size ≤ 1000 := by
    rcases Nat.lt_or_ge 1000 s.size with h | h
    · exact absurd (.inl h) he
    · exact h
  have h2 : t.size ≤ 1000 := by
    rcases Nat.lt_or_ge 1000 t.size with h | h
    · exact absurd (.inr (.inl h)) he
    · exact h
  have h3 : s.data.toList.getLast? ≠ some 36 := fun h => he (.inr (.inr h))
  have hcase : s.size = 0 ∨ ∃ n, ∃ h : n < s.size, s.size = n + 1 ∧ ((((s[n]'h).toNat : Nat) : Int) == 36) = false := by
    rcases Nat.eq_zero_or_pos s.size with h0 | h0
    · exact .inl h0
    · refine .inr ⟨s.size - 1, by omega, by omega, beq_eq_false_iff_ne.2 fun e => h3 ?_⟩
      rw [List.getLast?_eq_getElem?, toList_length, toList_getElem s (s.size - 1) (by omega)]
      exact congrArg some (toNat_eq (n := 36) (by omega))
  have HW : Hid (∀ W, Hid (Below w.heap.size w W) → Calls Tryd.prog 8 #[] W fun e w' => e = .returned (.bool true) ∧ Below W.heap.size W w') := Lib.hid fun W hb => wakes_any W (hE.kb hb.out)
  have HS := lex_any s w hE (by omega)
  have HT := fun W (hb : Hid (Below w.heap.size w W)) => lex_any t W (hE.kb hb.out) (by omega)
  have HST := fun W (hb : Hid (Below w.heap.size w W)) => lex_any (s ++ t) W (hE.kb hb.out) (by rw [ByteArray.size_append]; omega)
  unfold LexC at HS HT HST
  have happ : (s ++ t).data.toList = s.data.toList ++ t.data.toList := by simp
  rw [happ] at HST
  rcases ans_form s.data.toList with ⟨h0, hne⟩ | ⟨L, hv, hlen, hR, e⟩
  · exact subJoin_no s t w h1 h2 hcase HW _ _ _ (Lib.hid HS) (Lib.hid HT) (Lib.hid HST) hne
  · rw [e] at HS
    have hj := ans_join s.data.toList t.data.toList (by rw [toList_length]; exact h1) (by rw [toList_length]; exact h2) h3 L hv hR
    have hLb := lexS_bound _ s.data.toList 0 [] L (Nat.le_refl _) hR
    have hLt := lexS_tx _ s.data.toList 0 [] L (Nat.le_refl _) hR
    rw [toList_length] at hLb hLt
    have z0 : txS [] = 0 := rfl
    rw [z0] at hLt
    simp only [List.length_nil] at hLb
    rcases hj with hb | ⟨r, hr, hb, hst⟩ | ⟨N, hnN, hNl, hb, hst⟩
    · exact subJoin_bad s t w h1 h2 hcase HW L.reverse 0 (by omega) _ _ (Lib.hid HS) (Lib.hid HT) (Lib.hid HST) (.inl hb)
    · rw [toList_length] at hst
      exact subJoin_bad s t w h1 h2 hcase HW L.reverse r hr _ _ (Lib.hid HS) (Lib.hid HT) (Lib.hid HST) (.inr ⟨hb, hst⟩)
    · simp only [hst] at HST
      have hRt : lexS t.data.toList 0 [] = .inr N := by
        rcases ans_form t.data.toList with ⟨_, hx⟩ | ⟨N', _, _, hN', e'⟩
        · rw [hb] at hx; exact absurd rfl hx
        · rw [hb] at e'
          have := congrArg (fun q : List X × Nat × Nat => q.1.reverse) e'
          simp only [List.reverse_reverse] at this
          rw [hN', this]
      have hNt := lexS_tx _ t.data.toList 0 [] N (Nat.le_refl _) hRt
      rw [toList_length, z0] at hNt
      simp only [hb] at HT
      exact subJoin_good s t w h1 h2 hcase HW L N (by omega) hNl hnN (fun x hx => by have := txS_mem hx; omega) (fun x hx => by have := txS_mem hx; omega) (Lib.hid HS) (Lib.hid HT) (Lib.hid HST)
end Go.Proofs.YtjnoomefppncoaaDoor
