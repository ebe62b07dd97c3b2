/-
  What the document says of two texts; plain facts of a text's parts; the statement SubPlain.
-/
import Derived.Test.YtjnoomefppncoaaDoorLh
set_option linter.unusedVariables false
namespace Go.Proofs.YtjnoomefppncoaaDoor
open Go.RowKit Go.Shelf

theorem wake_1 : ansL [97, 45, 36, 123, 66, 125, 45, 36, 123, 67, 46, 65, 114, 110, 125] = ([.text [97, 45], .ref [66], .text [45], .att [67] [65, 114, 110]], 0, 0) := by kernel_rfl
theorem wake_2 : ansL [36, 123, 33, 120, 125] = ([.text [36, 123, 120, 125]], 0, 0) := by kernel_rfl

set_option maxRecDepth 100000 in
set_option maxHeartbeats 4000000 in
theorem wakes_any (w : World) (hE : Env w) : Calls Tryd.prog 8 #[] w fun e w' => e = .returned (.bool true) ∧ Below w.heap.size w w' := by
  have H1 := lex_any ⟨#[97, 45, 36, 123, 66, 125, 45, 36, 123, 67, 46, 65, 114, 110, 125]⟩ w hE (by decide)
  have H2 := fun W hb => lex_any ⟨#[36, 123, 33, 120, 125]⟩ W (hE.kb hb) (by decide)
  unfold LexC at H1 H2
  rw [show (⟨#[97, 45, 36, 123, 66, 125, 45, 36, 123, 67, 46, 65, 114, 110, 125]⟩ : ByteArray).data.toList = [97, 45, 36, 123, 66, 125, 45, 36, 123, 67, 46, 65, 114, 110, 125] from rfl, wake_1] at H1
  simp only [wake_2] at H2
  have HA := Lib.hid H1
  have HB := Lib.hid H2
  clear H1 H2 hE
  go_enter Tryd.func8, Tryd.ntmps8
  go_wp2_with fail
  go_at_call 9
  refine HA.out.mono ?_
  rintro e w1 ⟨v, rfl, ⟨o, g, c, rfl, -, -, hc3, hc4⟩, hb1⟩
  obtain rfl := hc3 (by decide)
  have x1 : w1.cell? ⟨g, 9, none⟩ = some (.string ⟨#[66]⟩) := hc4 9 _ rfl
  have x2 : w1.cell? ⟨g, 22, none⟩ = some (.string ⟨#[65, 114, 110]⟩) := hc4 22 _ rfl
  clear hc3 hc4
  go_wp2_with fail
  go_at_call 9
  refine (HB.out w1 hb1).mono ?_
  rintro e w2 ⟨v, rfl, ⟨o, g2, c2, rfl, -, -, hc3, hc4⟩, hb2⟩
  obtain rfl := hc3 (by decide)
  have x3 : w2.cell? ⟨g2, 1, none⟩ = some (.string ⟨#[36, 123, 120, 125]⟩) := hc4 1 _ rfl
  have y1 : w2.cell? ⟨g, 9, none⟩ = some (.string ⟨#[66]⟩) := (hb2.cell (p := ⟨g, 9, none⟩) (World.block_lt_of_cell? w1 _ x1)).trans x1
  have y2 : w2.cell? ⟨g, 22, none⟩ = some (.string ⟨#[65, 114, 110]⟩) := (hb2.cell (p := ⟨g, 22, none⟩) (World.block_lt_of_cell? w1 _ x2)).trans x2
  have HZ := Lib.hid (hb1.trans (hb2.mono hb1.size))
  clear hc3 hc4 x1 x2 hb1 hb2 HA HB
  go_wp2_with fail
  go_ret
  exact ⟨rfl, HZ.out⟩

/-- No two texts stand one behind the other, and none is empty. -/
def nice : List X → Prop
  | [] => True
  | x :: L => (x.isT = true → x.t ≠ [] ∧ ∀ y, L.head? = some y → y.isT = false) ∧ nice L
theorem nice_add {L : List X} (x : X) (h : nice L) : nice (addR x L) := by
  unfold addR
  split
  · rename_i t
    split
    · exact h
    · rename_i ht
      split
      · rename_i u M
        obtain ⟨h1, h2⟩ := h
        refine ⟨fun _ => ⟨?_, (h1 rfl).2⟩, h2⟩
        show u ++ t ≠ []
        simp [ht]
      · rename_i hL
        refine ⟨fun _ => ⟨ht, fun y hy => ?_⟩, h⟩
        cases L with
        | nil => cases hy
        | cons z M =>
          simp only [List.head?_cons, Option.some.injEq] at hy
          subst hy
          cases z with
          | text u => exact absurd rfl (hL u M)
          | ref _ => rfl
          | att _ _ => rfl
  · rename_i hx
    refine ⟨fun e => ?_, h⟩
    cases x with
    | text t => exact absurd rfl (hx t)
    | ref _ => cases e
    | att _ _ => cases e
theorem nice_lex : ∀ (n : Nat) (l : List UInt8) (p : Nat) (L M : List X), l.length ≤ n → nice L → lexS l p L = .inr M → nice M
  | n, [], p, L, M, _, hL, h => by rw [lexS_nil] at h; cases h; exact hL
  | 0, c :: t, p, L, M, hn, _, _ => by simp at hn
  | n + 1, c :: t, p, L, M, hn, hL, h => by
    simp only [List.length_cons] at hn
    by_cases ho : c = 36 ∧ t.head? = some 123
    · obtain ⟨rfl, ht⟩ := ho
      obtain ⟨t', rfl⟩ : ∃ t', t = 123 :: t' := by
        cases t with
        | nil => cases ht
        | cons a b => simp only [List.head?_cons, Option.some.injEq] at ht; exact ⟨b, by rw [ht]⟩
      rw [lexS_open] at h
      cases hc : cutB 125 t' with
      | none => rw [hc] at h; cases h
      | some q =>
        obtain ⟨i, r⟩ := q
        have hl := cutB_len hc
        rw [hc] at h
        simp only [List.length_cons] at hn
        simp only at h
        split at h
        · exact nice_lex n r _ _ M (by omega) (nice_add _ hL) h
        · cases hx : holeP i with
          | none => rw [hx] at h; cases h
          | some x =>
            rw [hx] at h
            exact nice_lex n r _ _ M (by omega) (nice_add _ hL) h
    · rw [lexS_byte _ _ ho] at h
      exact nice_lex n t _ _ M (by omega) (nice_add _ hL) h
theorem nice_get : ∀ (L : List X) (i : Nat) (h : i + 1 < L.length), nice L → L[i].isT = true → L[i + 1].isT = false
  | [], _, h, _, _ => by simp at h
  | [_], 0, h, _, _ => by simp at h
  | x :: y :: L, 0, _, hn, hT => (hn.1 hT).2 y rfl
  | x :: L, i + 1, h, hn, hT => nice_get L i (by simpa using h) hn.2 hT
/-- All parts, or none. -/
theorem ans_form (l : List UInt8) : ((ansL l).1 = [] ∧ (ansL l).2.2 ≠ 0) ∨ ∃ L, Lib.validD l = true ∧ l.length ≤ 4096 ∧ lexS l 0 [] = .inr L ∧ ansL l = (L.reverse, 0, 0) := by
  unfold ansL
  split
  · exact .inl ⟨rfl, by decide⟩
  rename_i hv
  split
  · exact .inl ⟨rfl, by decide⟩
  cases hR : lexS l 0 [] with
  | inl p => exact .inl ⟨rfl, by show (130 : Nat) ≠ 0; decide⟩
  | inr L => exact .inr ⟨L, by simpa using hv, by omega, rfl, rfl⟩
/-- Among the parts told, no two texts stand one behind the other. -/
theorem ans_nice (l : List UInt8) (M : List X) (hM : (ansL l).1 = M) (i : Nat) (h : i + 1 < M.length) (hT : M[i + 1].isT = true) : M[i].isT = false := by
  rcases ans_form l with ⟨h0, _⟩ | ⟨L, _, _, hR, e⟩
  · rw [h0] at hM; subst hM; simp at h
  · rw [e] at hM
    subst hM
    have hn := nice_lex l.length l 0 [] L (Nat.le_refl _) trivial hR
    simp only [List.length_reverse] at h
    simp only [List.getElem_reverse] at hT ⊢
    have hi : L.length - 1 - i = (L.length - 1 - (i + 1)) + 1 := by omega
    have := nice_get L (L.length - 1 - (i + 1)) (by omega) hn hT
    simp only [hi]
    exact this
theorem lexS_plain : ∀ (l : List UInt8) (p : Nat) (L : List X), (∀ c ∈ l, c ≠ 36) → lexS l p L = .inr (addR (.text l) L)
  | [], p, L, _ => by rw [lexS_nil, addR_nil]
  | c :: t, p, L, h => by
    rw [lexS_byte _ _ (fun e => h c (by simp) e.1), lexS_plain t _ _ (fun d hd => h d (by simp [hd])), addR_two]
    rfl
theorem ans_plain (l : List UInt8) (h : ∀ c ∈ l, c ≠ 36) (hl : l.length ≤ 1500) : ansL l = ([], 0, 10) ∨ (l = [] ∧ ansL l = ([], 0, 0)) ∨ (l ≠ [] ∧ ansL l = ([.text l], 0, 0)) := by
  unfold ansL
  rw [lexS_plain l 0 [] h]
  split
  · exact .inl rfl
  rw [if_neg (by omega)]
  by_cases h0 : l = []
  · subst h0; exact .inr (.inl ⟨rfl, by simp [addR]⟩)
  · exact .inr (.inr ⟨h0, by simp [addR, h0]⟩)
end Go.Proofs.YtjnoomefppncoaaDoor
