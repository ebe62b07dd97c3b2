/-
  What is written is a text, and is read as its parts.
-/
import Derived.Test.YtjnoomefppncoaaDoorMi
import Derived.Test.YtjnoomefppncoaaDoorPl2
set_option linter.unusedVariables false
namespace Go.Proofs.YtjnoomefppncoaaDoor
open Go.RowKit Go.Shelf

theorem decL (l : List UInt8) : Lib.decodeL l = Lib.decodeN l.length (l.getD 0 0).toNat (l.getD 1 0).toNat (l.getD 2 0).toNat (l.getD 3 0).toNat := by
  have := Lib.decode_N ⟨l.toArray⟩ 0
  simpa [Lib.decodeL] using this
theorem decN_cut (n n' b0 b1 b2 b3 c1 c2 c3 : Nat) (hk : (Lib.decodeN n b0 b1 b2 b3).2 ≤ n') (hg : ¬ ((Lib.decodeN n b0 b1 b2 b3).1 = 65533 ∧ (Lib.decodeN n b0 b1 b2 b3).2 = 1)) (h1 : 1 < (Lib.decodeN n b0 b1 b2 b3).2 → c1 = b1) (h2 : 2 < (Lib.decodeN n b0 b1 b2 b3).2 → c2 = b2) (h3 : 3 < (Lib.decodeN n b0 b1 b2 b3).2 → c3 = b3) :
    Lib.decodeN n' b0 c1 c2 c3 = Lib.decodeN n b0 b1 b2 b3 := by
  unfold Lib.decodeN at hk hg h1 h2 h3 ⊢
  by_cases a1 : b0 < 128
  · simp only [if_pos a1]
  simp only [if_neg a1] at hk hg h1 h2 h3 ⊢
  by_cases a2 : b0 / 32 = 6 ∧ (1 < n ∧ b1 / 64 = 2)
  · simp only [if_pos a2] at hk hg h1 h2 h3 ⊢
    by_cases q : b0 % 32 * 64 + b1 % 64 ≥ 128
    · simp only [if_pos q] at hk hg h1 h2 h3 ⊢
      obtain rfl := h1 (by omega)
      rw [if_pos ⟨a2.1, by omega, a2.2.2⟩, if_pos q]
    · simp only [if_neg q] at hg
      exact absurd hg (by simp)
  simp only [if_neg a2] at hk hg h1 h2 h3 ⊢
  by_cases a3 : b0 / 16 = 14 ∧ (1 < n ∧ b1 / 64 = 2) ∧ (2 < n ∧ b2 / 64 = 2)
  · simp only [if_pos a3] at hk hg h1 h2 h3 ⊢
    split at hg
    · rename_i q
      simp only [if_pos q] at hk h1 h2 h3 ⊢
      obtain rfl := h1 (by omega)
      obtain rfl := h2 (by omega)
      rw [if_neg (by omega), if_pos ⟨a3.1, ⟨by omega, a3.2.1.2⟩, by omega, a3.2.2.2⟩, if_pos q]
    · exact absurd hg (by simp)
  simp only [if_neg a3] at hk hg h1 h2 h3 ⊢
  by_cases a4 : b0 / 8 = 30 ∧ (1 < n ∧ b1 / 64 = 2) ∧ (2 < n ∧ b2 / 64 = 2) ∧ (3 < n ∧ b3 / 64 = 2)
  · simp only [if_pos a4] at hk hg h1 h2 h3 ⊢
    split at hg
    · rename_i q
      simp only [if_pos q] at hk h1 h2 h3 ⊢
      obtain rfl := h1 (by omega)
      obtain rfl := h2 (by omega)
      obtain rfl := h3 (by omega)
      rw [if_neg (by omega), if_neg (by omega), if_pos ⟨a4.1, ⟨by omega, a4.2.1.2⟩, ⟨by omega, a4.2.2.1.2⟩, by omega, a4.2.2.2.2⟩, if_pos q]
    · exact absurd hg (by simp)
  · simp only [if_neg a4] at hg
    exact absurd hg (by simp)
theorem getD_front {x y : List UInt8} {i : Nat} (h : i < x.length) : (x ++ y).getD i 0 = x.getD i 0 := by
  simp [List.getD, List.getElem?_append_left h]
/-- An ASCII byte splits a text in two. -/
theorem valid_split {c : UInt8} (hc : c.toNat < 128) (l : List UInt8) (hl : Lib.validD l = true) : ∀ x y, l = x ++ c :: y → Lib.validD x = true ∧ Lib.validD y = true := by
  have key : ∀ n (l : List UInt8), l.length ≤ n → Lib.validD l = true → ∀ x y, l = x ++ c :: y → Lib.validD x = true ∧ Lib.validD y = true := by
    refine valid_ind (P := fun l => ∀ x y, l = x ++ c :: y → Lib.validD x = true ∧ Lib.validD y = true) ?_ ?_
    · intro x y h; simp at h
    · intro l h0 hb hv ih x y h
      subst h
      cases x with
      | nil =>
        have h1 := valid_append (a := [c]) y (valid_ascii [c] (by simpa using hc))
        refine ⟨valid_ascii [] (by simp), ?_⟩
        have h2 : Lib.decodeL (c :: y) = (c.toNat, 1) := by rw [decL]; simp only [List.getD_cons_zero]; unfold Lib.decodeN; rw [if_pos hc]
        rw [List.nil_append, h2] at hv
        exact hv
      | cons d x =>
        have hD := decL (d :: x ++ c :: y)
        have hg := bad_false hb
        rw [hD] at hg
        by_cases hk : (Lib.decodeL (d :: x ++ c :: y)).2 ≤ (d :: x).length
        · have hdx : Lib.decodeL (d :: x) = Lib.decodeL (d :: x ++ c :: y) := by
            rw [hD] at hk ⊢
            rw [decL (d :: x)]
            have f0 : ((d :: x) ++ c :: y).getD 0 0 = d := rfl
            have g0 : (d :: x).getD 0 0 = d := rfl
            rw [f0] at hk hg ⊢
            rw [g0]
            refine decN_cut _ _ _ _ _ _ _ _ _ hk hg (fun h => ?_) (fun h => ?_) (fun h => ?_)
            all_goals rw [getD_front (by omega)]
          have hbx : bad (d :: x) = false := by unfold bad at hb ⊢; rw [hdx]; exact hb
          have hdrop : ((d :: x) ++ c :: y).drop (Lib.decodeL (d :: x ++ c :: y)).2 = (d :: x).drop (Lib.decodeL (d :: x ++ c :: y)).2 ++ c :: y := by rw [List.drop_append_of_le_length hk]
          obtain ⟨i1, i2⟩ := ih _ _ hdrop
          refine ⟨?_, i2⟩
          rw [validD_bad (by simp), hbx, hdx]
          simpa using i1
        · exfalso
          rw [hD] at hk
          have f0 : ((d :: x) ++ c :: y).getD 0 0 = d := rfl
          rw [f0] at hk
          have hlen : ((d :: x) ++ c :: y).length = x.length + 1 + (y.length + 1) := by simp; omega
          rcases Nat.lt_or_ge d.toNat 128 with hd | hd
          · unfold Lib.decodeN at hk
            rw [if_pos hd] at hk
            simp at hk
          · obtain ⟨_, _, _, q1, q2, q3, q4⟩ := decN_high ((d :: x) ++ c :: y).length d.toNat (((d :: x) ++ c :: y).getD 1 0).toNat (((d :: x) ++ c :: y).getD 2 0).toNat (((d :: x) ++ c :: y).getD 3 0).toNat hd (by omega)
            simp only [List.length_cons] at hk
            have hx : x.length = 0 ∨ x.length = 1 ∨ x.length = 2 := by omega
            rcases hx with h | h | h
            · obtain rfl := List.eq_nil_of_length_eq_zero h
              have := q1 (by simp at hk ⊢; omega)
              simp at this; omega
            · obtain ⟨u, rfl⟩ := List.length_eq_one_iff.1 h
              have := q2 (by simp at hk ⊢; omega)
              simp at this; omega
            · match x, h with
              | [u, v], _ =>
                have := q3 (by simp at hk ⊢; omega)
                simp at this; omega
  exact key l.length l (Nat.le_refl _) hl
theorem valid_two {a b : List UInt8} (ha : Lib.validD a = true) (hb : Lib.validD b = true) : Lib.validD (a ++ b) = true := by rw [valid_append b ha]; exact hb
theorem valid_a (l : List UInt8) (h : l.all (fun c => decide (c.toNat < 128)) = true) : Lib.validD l = true := valid_ascii l (fun c hc => by have := List.all_eq_true.1 h c hc; simpa using this)
theorem wrT_valid : ∀ (n : Nat) (t w : List UInt8), t.length ≤ n → Lib.validD t = true → wrT t = some w → Lib.validD w = true
  | n, t, w, hn, hv, hw => by
    cases hc : cutO t with
    | none => rw [wrT_none hc] at hw; cases hw; exact hv
    | some q =>
      obtain ⟨a, y⟩ := q
      have hlen := cutO_len hc
      rw [wrT_some hc] at hw
      cases hb : cutB 125 y with
      | none => rw [hb] at hw; cases hw
      | some q2 =>
        obtain ⟨i, b⟩ := q2
        have hlen2 := cutB_len hb
        rw [hb] at hw
        simp only at hw
        cases hz : wrT b with
        | none => rw [hz] at hw; cases hw
        | some z =>
          rw [hz] at hw
          simp only [Option.some.injEq] at hw
          subst hw
          obtain ⟨v1, v2⟩ := valid_split (c := 36) (by decide) t hv a _ (cutO_some hc)
          obtain ⟨_, v3⟩ := valid_split (c := 123) (by decide) _ v2 [] y rfl
          obtain ⟨v4, v5⟩ := valid_split (c := 125) (by decide) _ v3 i b (cutB_some hb).1
          match n, hn with
          | 0, hn => omega
          | n + 1, hn =>
            have v6 := wrT_valid n b z (by omega) v5 hz
            have : a ++ 36 :: 123 :: 33 :: (i ++ 125 :: z) = a ++ ([36, 123, 33] ++ (i ++ ([125] ++ z))) := by simp
            rw [this]
            exact valid_two v1 (valid_two (valid_a _ (by decide)) (valid_two v4 (valid_two (valid_a _ (by decide)) v6)))

/-- May a part be, whatever stands around it? -/
def okX : X → Prop
  | .text t => Lib.validD t = true
  | .ref m => nameB m = true
  | .att m a => nameB m = true ∧ attrB a = true
theorem name_no {m : List UInt8} (h : nameB m = true) : ∀ c ∈ m, c.toNat < 128 ∧ c ≠ 125 ∧ c ≠ 33 ∧ c ≠ 46 := fun c hc => by
  unfold nameB at h
  simp only [Bool.and_eq_true, List.all_eq_true] at h
  have := h.2.2 c hc
  unfold letB digB at this
  simp only [Bool.or_eq_true, Bool.and_eq_true, decide_eq_true_eq] at this
  refine ⟨by omega, ?_, ?_, ?_⟩ <;> (rintro rfl; revert this; decide)
theorem attr_no {a : List UInt8} (h : attrB a = true) : ∀ c ∈ a, c.toNat < 128 ∧ c ≠ 125 := fun c hc => by
  unfold attrB at h
  cases h46 : cutB 46 a with
  | none => rw [h46] at h; exact ⟨(name_no h c hc).1, (name_no h c hc).2.1⟩
  | some q =>
    obtain ⟨x, y⟩ := q
    rw [h46] at h
    simp only [Bool.and_eq_true, decide_eq_true_eq] at h
    obtain ⟨rfl, hy⟩ := h
    rw [(cutB_some h46).1] at hc
    rcases List.mem_append.1 hc with hc | hc
    · unfold outputs at hc
      simp only [List.mem_cons, List.not_mem_nil, or_false] at hc
      rcases hc with rfl | rfl | rfl | rfl | rfl | rfl | rfl <;> decide
    · rcases List.mem_cons.1 hc with rfl | hc
      · decide
      · exact ⟨(name_no hy c hc).1, (name_no hy c hc).2.1⟩
theorem wr1_valid {x : X} {w : List UInt8} (hx : okX x) (hw : wr1 x = some w) : Lib.validD w = true := by
  cases x with
  | text t => exact wrT_valid t.length t w (Nat.le_refl _) hx hw
  | ref m =>
    cases hw
    refine valid_ascii _ fun c hc => ?_
    simp only [List.mem_cons, List.mem_append, List.not_mem_nil, or_false] at hc
    rcases hc with rfl | rfl | hc | rfl
    · decide
    · decide
    · exact (name_no hx c hc).1
    · decide
  | att m a =>
    cases hw
    refine valid_ascii _ fun c hc => ?_
    simp only [List.mem_cons, List.mem_append, List.not_mem_nil, or_false] at hc
    rcases hc with rfl | rfl | (hc | rfl | hc) | rfl
    · decide
    · decide
    · exact (name_no hx.1 c hc).1
    · decide
    · exact (attr_no hx.2 c hc).1
    · decide
theorem wrR_valid : ∀ (L : List X) (w : List UInt8), (∀ x ∈ L, okX x) → wrR L = some w → Lib.validD w = true
  | [], w, _, h => by cases h; exact valid_ascii [] (by simp)
  | x :: L, w, hx, h => by
    unfold wrR at h
    cases hL : wrR L with
    | none => rw [hL] at h; cases h
    | some a =>
      rw [hL] at h
      simp only at h
      cases hb : wr1 x with
      | none => rw [hb] at h; cases h
      | some b =>
        rw [hb] at h
        cases h
        exact valid_two (wrR_valid L a (fun y hy => hx y (List.mem_cons_of_mem _ hy)) hL) (wr1_valid (hx x (by simp)) hb)
/-- Written parts are read as they are. -/
theorem lexS_wrR : ∀ (L : List X) (w r : List UInt8), (∀ x ∈ L, okX x) → nice L → wrR L = some w → (∀ y, L.head? = some y → y.isT = true → r.head? ≠ some 123) → lexS (w ++ r) 0 [] = lexS r w.length L
  | [], w, r, _, _, h, _ => by cases h; rfl
  | x :: L, w, r, hx, hn, h, hr => by
    unfold wrR at h
    cases hL : wrR L with
    | none => rw [hL] at h; cases h
    | some a =>
      rw [hL] at h
      simp only at h
      cases hb : wr1 x with
      | none => rw [hb] at h; cases h
      | some b =>
        rw [hb] at h
        cases h
        rw [List.append_assoc]
        have hfirst : ∀ y, L.head? = some y → y.isT = true → (b ++ r).head? ≠ some 123 := fun y hy hyT => by
          cases x with
          | text t => have := (hn.1 rfl).2 y hy; rw [hyT] at this; cases this
          | ref m => cases hb; simp
          | att m a => cases hb; simp
        rw [lexS_wrR L a (b ++ r) (fun y hy => hx y (List.mem_cons_of_mem _ hy)) hn.2 hL hfirst]
        have hadd : addR x L = x :: L := addR_cons x L fun hT => hn.1 hT
        have hxx := hx x (by simp)
        cases x with
        | text t =>
          rw [lexS_wr t.length t b r a.length L (Nat.le_refl _) hb (hr _ rfl rfl), hadd, List.length_append]
        | ref m =>
          cases hb
          have h125 : 125 ∉ m := fun hm => (name_no hxx 125 hm).2.1 rfl
          have h33 : m.head? ≠ some 33 := fun e => by
            cases m with
            | nil => cases e
            | cons c m => simp only [List.head?_cons, Option.some.injEq] at e; exact (name_no hxx c (by simp)).2.2.1 e
          have h46 : cutB 46 m = none := cutB_no fun hm => (name_no hxx 46 hm).2.2.2 rfl
          have hh : holeP m = some (.ref m) := by unfold holeP; rw [h46]; exact if_pos hxx
          have e1 : 36 :: 123 :: (m ++ [125]) ++ r = 36 :: 123 :: (m ++ 125 :: r) := by simp
          rw [e1, lexS_hole _ _ h125 h33, hh]
          simp only
          rw [hadd]
          congr 1
          simp; omega
        | att m a' =>
          cases hb
          obtain ⟨hm, ha⟩ := hxx
          have h125 : 125 ∉ m ++ 46 :: a' := by
            simp only [List.mem_append, List.mem_cons, not_or]
            exact ⟨fun h => (name_no hm 125 h).2.1 rfl, by decide, fun h => (attr_no ha 125 h).2 rfl⟩
          have hne : m ≠ [] := fun e => by rw [e] at hm; revert hm; decide
          have h33 : (m ++ 46 :: a').head? ≠ some 33 := fun e => by
            cases m with
            | nil => exact hne rfl
            | cons c m => simp only [List.cons_append, List.head?_cons, Option.some.injEq] at e; exact (name_no hm c (by simp)).2.2.1 e
          have h46 : cutB 46 (m ++ 46 :: a') = some (m, a') := cutB_app a' fun h => (name_no hm 46 h).2.2.2 rfl
          have hh : holeP (m ++ 46 :: a') = some (.att m a') := by unfold holeP; rw [h46]; exact if_pos ⟨hm, ha⟩
          have e1 : 36 :: 123 :: (m ++ 46 :: a' ++ [125]) ++ r = 36 :: 123 :: ((m ++ 46 :: a') ++ 125 :: r) := by simp
          rw [e1, lexS_hole _ _ h125 h33, hh]
          simp only
          rw [hadd]
          congr 1
          simp; omega
end Go.Proofs.YtjnoomefppncoaaDoor
