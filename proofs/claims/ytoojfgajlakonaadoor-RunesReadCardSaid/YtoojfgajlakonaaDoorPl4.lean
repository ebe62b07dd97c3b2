/-
  What is written reads as the text, whatever stands behind; what is read is a text; what is written is one.
-/
import Derived.Test.YtoojfgajlakonaaDoorPl3
import Derived.Test.YtoojfgajlakonaaDoorWk
set_option linter.unusedVariables false
namespace Go.Proofs.YtoojfgajlakonaaDoor
open Go.Lib

/-- What stands between the quotes. -/
def bodyL (l : List UInt8) : List UInt8 := (steps l).flatMap fun x => qRune x.2
theorem quoteL_body (l : List UInt8) : quoteL l = 34 :: (bodyL l ++ [34]) := rfl
theorem bodyL_step {l : List UInt8} (h0 : l ≠ []) (hb : bad l = false) : bodyL l = qRune (decodeL l).1 ++ bodyL (l.drop (decodeL l).2) := by
  have key : ∀ p (m : List UInt8), (stepsP p m).flatMap (fun x => qRune x.2) = ((stepsP p m).map (·.2)).flatMap qRune := fun p m => by rw [List.flatMap_map]
  unfold bodyL steps
  rw [stepsP_good 0 h0 hb, List.flatMap_cons, key, key, steps_shift _ _ _ (Nat.le_refl _)]

theorem mean_short (r : Nat) (h : shortN r ≠ 0) : meanN (shortN r).toUInt8.toNat = r ∧ (shortN r).toUInt8 ≠ 117 := by
  unfold shortN at *
  by_cases h1 : r = 8
  · subst h1; exact ⟨by decide, by decide⟩
  by_cases h2 : r = 9
  · subst h2; exact ⟨by decide, by decide⟩
  by_cases h3 : r = 10
  · subst h3; exact ⟨by decide, by decide⟩
  by_cases h4 : r = 12
  · subst h4; exact ⟨by decide, by decide⟩
  by_cases h5 : r = 13
  · subst h5; exact ⟨by decide, by decide⟩
  by_cases h6 : r = 34
  · subst h6; exact ⟨by decide, by decide⟩
  by_cases h7 : r = 92
  · subst h7; exact ⟨by decide, by decide⟩
  simp [h1, h2, h3, h4, h5, h6, h7] at h
theorem short_none {r : Nat} (h : shortN r = 0) : r ≠ 34 ∧ r ≠ 92 := by
  refine ⟨fun e => ?_, fun e => ?_⟩ <;> (subst e; exact absurd h (by decide))
theorem short_pos {r : Nat} (h : shortN r ≠ 0) : r ≤ 92 ∧ r ≠ 0 := by
  unfold shortN at h
  (repeat' split at h) <;> omega
theorem hex_back : ∀ r : Fin 32, parse16 0 [48, 48, hexd (r.val / 16), hexd (r.val % 16)] = some r.val := by decide
theorem bad_cons_ascii {c : UInt8} (t : List UInt8) (h : c.toNat < 128) : bad (c :: t) = false := bad_ascii t h

/-- One rune, read back. -/
theorem uqR_rune {l : List UInt8} (h0 : l ≠ []) (hb : bad l = false) (X : List UInt8) (n q : Nat) (acc : List UInt8) :
    uqR (n + 1) (qRune (decodeL l).1 ++ X) q acc = uqR n X (q + (qRune (decodeL l).1).length) (acc ++ l.take (decodeL l).2) := by
  have henc := (take_append_enc h0 hb).1
  generalize hr : (decodeL l).1 = r at *
  by_cases h1 : shortN r ≠ 0
  · have e : qRune r = [92, (shortN r).toUInt8] := by unfold qRune; rw [if_pos h1]
    obtain ⟨m1, m2⟩ := mean_short r h1
    have hne : r ≠ 0 := (short_pos h1).2
    rw [e, uqR, if_neg (by simp), if_neg (by rw [List.cons_append, bad_ascii _ (by decide)]; simp), List.cons_append, decodeL_ascii _ _ (by decide), if_neg (by decide), if_neg (by decide), if_pos (by decide)]
    have he : escL (92 :: ([(shortN r).toUInt8] ++ X)) = some (r, 2) := by
      show (if (shortN r).toUInt8 = 117 then _ else if meanN (shortN r).toUInt8.toNat ≠ 0 then some (meanN (shortN r).toUInt8.toNat, 2) else none) = _
      rw [if_neg m2, m1, if_pos hne]
    rw [he]
    simp only [henc]
    rfl
  have h1' : shortN r = 0 := Decidable.not_not.1 h1
  obtain ⟨n34, n92⟩ := short_none h1'
  by_cases h32 : r < 32
  · have e : qRune r = [92, 117, 48, 48, hexd (r / 16), hexd (r % 16)] := by unfold qRune; rw [if_neg h1, if_pos h32]
    rw [e, uqR, if_neg (by simp), if_neg (by rw [List.cons_append, bad_ascii _ (by decide)]; simp), List.cons_append, decodeL_ascii _ _ (by decide), if_neg (by decide), if_neg (by decide), if_pos (by decide)]
    have hp := hex_back ⟨r, h32⟩
    dsimp only at hp
    have he : escL (92 :: ([117, 48, 48, hexd (r / 16), hexd (r % 16)] ++ X)) = some (r, 6) := by
      show longL (92 :: 117 :: 48 :: 48 :: hexd (r / 16) :: hexd (r % 16) :: X) = _
      have hu : unitL (92 :: 117 :: 48 :: 48 :: hexd (r / 16) :: hexd (r % 16) :: X) = some r := by
        show (if (92 : UInt8) = 92 ∧ (117 : UInt8) = 117 then parse16 0 [48, 48, hexd (r / 16), hexd (r % 16)] else none) = _
        rw [if_pos ⟨rfl, rfl⟩, hp]
      have hf : isFst r = false := by unfold isFst; rw [decide_eq_false (by omega)]; rfl
      have hs : isSnd r = false := by unfold isSnd; rw [decide_eq_false (by omega)]; rfl
      unfold longL
      rw [hu]
      simp only [hf, hs, Bool.false_eq_true, if_false]
    rw [he]
    simp only [henc]
    rfl
  · have e : qRune r = l.take (decodeL l).2 := by unfold qRune; rw [if_neg h1, if_neg h32, henc]
    obtain ⟨hd, hbd⟩ := dec_take h0 hb X
    have hle := decodeL_le l h0
    have hw := decodeL_width l
    have hlen : (l.take (decodeL l).2).length = (decodeL l).2 := by rw [List.length_take]; omega
    have hne : l.take (decodeL l).2 ++ X ≠ [] := by
      intro e
      have := congrArg List.length e
      rw [List.length_append, hlen] at this
      simp at this; omega
    rw [e, uqR, if_neg hne, hbd, if_neg (by simp), hd, hr, if_neg n34, if_neg h32, if_neg n92, henc, hlen]
    have hdr : (l.take (decodeL l).2 ++ X).drop (decodeL l).2 = X := by
      rw [List.drop_append_of_le_length (by omega), List.drop_of_length_le (by omega)]; rfl
    rw [hdr]

theorem qRune_pos {l : List UInt8} (h0 : l ≠ []) (hb : bad l = false) : 1 ≤ (qRune (decodeL l).1).length := by
  unfold qRune
  split
  · simp
  split
  · simp
  · rw [(take_append_enc h0 hb).2]; exact decodeL_width l
/-- A text's body, read back, up to the quote. -/
theorem uqR_body (X : List UInt8) : ∀ (k : Nat) (l : List UInt8), l.length ≤ k → validD l = true → ∀ (n q : Nat) (acc : List UInt8), (bodyL l).length < n →
    uqR n (bodyL l ++ 34 :: X) q acc = (acc ++ l, q + (bodyL l).length + 1, 0) := by
  intro k l hk hv
  refine valid_ind (P := fun l => ∀ (n q : Nat) (acc : List UInt8), (bodyL l).length < n → uqR n (bodyL l ++ 34 :: X) q acc = (acc ++ l, q + (bodyL l).length + 1, 0)) ?_ ?_ k l hk hv
  · intro n q acc hn
    obtain ⟨m, rfl⟩ : ∃ m, n = m + 1 := ⟨n - 1, by omega⟩
    show uqR (m + 1) (34 :: X) q acc = (acc ++ [], q + 0 + 1, 0)
    rw [uqR, if_neg (by simp), bad_ascii _ (by decide), if_neg (by simp), decodeL_ascii _ _ (by decide), if_pos (by decide)]
    simp
  · intro l h0 hb hv ih n q acc hn
    have hs := bodyL_step h0 hb
    have hq := qRune_pos h0 hb
    rw [hs, List.length_append] at hn
    obtain ⟨m, rfl⟩ : ∃ m, n = m + 1 := ⟨n - 1, by omega⟩
    rw [hs, List.append_assoc, uqR_rune h0 hb, ih m _ _ (by omega)]
    rw [List.append_assoc, List.take_append_drop, List.length_append]
    congr 2
    omega

/-- What is written reads as the text, whatever stands behind. -/
theorem unq_quote {l : List UInt8} (hv : validD l = true) (X : List UInt8) : unqI (quoteL l ++ X) 0 = (l, (quoteL l).length, 0) := by
  have hlen : (quoteL l).length = (bodyL l).length + 2 := by rw [quoteL_body]; simp
  unfold unqI
  rw [if_neg (by omega), if_neg]
  · show unqL (quoteL l ++ X) 0 = _
    rw [unqL_uqR _ _ _ (Nat.le_refl _)]
    have e : (quoteL l ++ X).drop (0 + 1) = bodyL l ++ 34 :: X := by rw [quoteL_body]; simp
    rw [e, uqR_body X _ l (Nat.le_refl _) hv _ _ _ (by rw [List.length_append, hlen]; omega), hlen]
    simp
    omega
  · rintro (h | h)
    · rw [List.length_append, hlen] at h
      simp at h
      omega
    · exact h rfl

theorem valid_whole {l : List UInt8} (h0 : l ≠ []) (hb : bad l = false) (hk : (decodeL l).2 = l.length) : validD l = true := by
  rw [validD_bad h0, hb, hk, List.drop_length]; rfl
theorem valid_take {l : List UInt8} (h0 : l ≠ []) (hb : bad l = false) : validD (l.take (decodeL l).2) = true := by
  obtain ⟨hd, hbd⟩ := dec_take h0 hb []
  rw [List.append_nil] at hd hbd
  have hle := decodeL_le l h0
  have hw := decodeL_width l
  have hlen : (l.take (decodeL l).2).length = (decodeL l).2 := by rw [List.length_take]; omega
  refine valid_whole ?_ hbd (by rw [hd, hlen])
  intro e
  rw [e] at hlen
  simp at hlen; omega
theorem qRune_valid {l : List UInt8} (h0 : l ≠ []) (hb : bad l = false) : validD (qRune (decodeL l).1) = true := by
  have henc := (take_append_enc h0 hb).1
  generalize hr : (decodeL l).1 = r at *
  unfold qRune
  split
  · rename_i h1
    have hs := short_pos h1
    refine valid_ascii _ fun c hc => ?_
    simp only [List.mem_cons, List.not_mem_nil, or_false] at hc
    rcases hc with rfl | rfl
    · decide
    · have := mean_short r h1
      exact meanN_ascii (by rw [this.1]; exact hs.2)
  split
  · rename_i h32
    have hx : ∀ k, k < 16 → (hexd k).toNat < 128 := by decide
    refine valid_ascii _ fun c hc => ?_
    simp only [List.mem_cons, List.not_mem_nil, or_false] at hc
    rcases hc with rfl | rfl | rfl | rfl | rfl | rfl
    · decide
    · decide
    · decide
    · decide
    · exact hx _ (by omega)
    · exact hx _ (by omega)
  · rw [henc]; exact valid_take h0 hb
theorem bodyL_valid {l : List UInt8} (hv : validD l = true) : validD (bodyL l) = true := by
  refine valid_ind (P := fun l => validD (bodyL l) = true) rfl ?_ _ l (Nat.le_refl _) hv
  intro l h0 hb _ ih
  rw [bodyL_step h0 hb, valid_append _ (qRune_valid h0 hb)]
  exact ih
theorem quoteL_valid {l : List UInt8} (hv : validD l = true) : validD (quoteL l) = true := by
  rw [quoteL_body, validD_cons 34 _ (by decide), valid_append _ (bodyL_valid hv)]; rfl
end Go.Proofs.YtoojfgajlakonaaDoor
