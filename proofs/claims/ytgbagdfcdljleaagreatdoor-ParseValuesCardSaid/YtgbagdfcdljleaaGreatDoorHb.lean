/-
  A text with something behind it, a text that is cut: what is read of it.
-/
import Derived.Test.YtgbagdfcdljleaaGreatDoorHa
set_option linter.unusedVariables false
set_option linter.unusedSimpArgs false
namespace Go.Proofs.YtgbagdfcdljleaaGreatDoor
open Go.Lib

/-! ### Escapes, quotes -/
theorem unitL_app {l : List UInt8} {n : Nat} (r : List UInt8) (h : Ru.unitL l = some n) : Ru.unitL (l ++ r) = some n := by
  unfold Ru.unitL at h
  split at h
  · exact h
  · cases h
theorem longL_app {l : List UInt8} {y : Nat × Nat} (r : List UInt8) (h : Ru.longL l = some y) : Ru.longL (l ++ r) = some y := by
  unfold Ru.longL at h ⊢
  cases hu : Ru.unitL l with
  | none => rw [hu] at h; cases h
  | some u =>
    rw [unitL_app r hu]
    rw [hu] at h
    have h6 := Ru.unitL_some_le hu
    simp only at h ⊢
    split at h
    · rename_i hf
      rw [if_pos hf, List.drop_append_of_le_length h6]
      cases hv : Ru.unitL (l.drop 6) with
      | none => rw [hv] at h; cases h
      | some v =>
        rw [unitL_app r hv]
        rw [hv] at h
        exact h
    · rename_i hf
      rw [if_neg hf]
      exact h
theorem escL_app {l : List UInt8} {y : Nat × Nat} (r : List UInt8) (h : Ru.escL l = some y) : Ru.escL (l ++ r) = some y := by
  match l, h with
  | x :: c :: t, h =>
    unfold Ru.escL at h ⊢
    simp only [List.cons_append] at h ⊢
    by_cases h1 : c = 117
    · rw [if_pos h1] at h ⊢
      have := longL_app r h
      simpa using this
    · rw [if_neg h1] at h ⊢
      exact h
theorem uqR_app (r : List UInt8) : ∀ (n : Nat) (l : List UInt8) (q : Nat) (acc w : List UInt8) (e : Nat), Ru.uqR n l q acc = (w, e, 0) → Ru.uqR n (l ++ r) q acc = (w, e, 0)
  | 0, l, q, acc, w, e, h => by
    have := congrArg (fun x => x.2.2) h
    exact absurd this (show ¬ (10 : Nat) = 0 by decide)
  | n + 1, l, q, acc, w, e, h => by
    have no : ∀ {a : List UInt8} {b : Nat}, ¬ ((a, b, 10) : Ru.UAns) = (w, e, 0) := fun h => by
      have := congrArg (fun x : Ru.UAns => x.2.2) h
      exact absurd this (show ¬ (10 : Nat) = 0 by decide)
    rw [Ru.uqR] at h ⊢
    by_cases h0 : l = []
    · rw [if_pos h0] at h; exact absurd h no
    rw [if_neg h0] at h
    rw [if_neg (by simp [h0])]
    cases hb : Ru.bad l with
    | true => rw [hb, if_pos rfl] at h; exact absurd h no
    | false =>
      rw [hb, if_neg (by simp)] at h
      rw [Ru.bad_append r h0 hb, if_neg (by simp), Ru.dec_append r h0 hb]
      have hle := decodeL_le l h0
      by_cases h34 : (decodeL l).1 = 34
      · rw [if_pos h34] at h ⊢; exact h
      rw [if_neg h34] at h ⊢
      by_cases h32 : (decodeL l).1 < 32
      · rw [if_pos h32] at h; exact absurd h no
      rw [if_neg h32] at h ⊢
      by_cases h92 : (decodeL l).1 = 92
      · rw [if_pos h92] at h ⊢
        cases he : Ru.escL l with
        | none => rw [he] at h; exact absurd h no
        | some y =>
          rw [he] at h
          rw [escL_app r he]
          obtain ⟨t, ht, _⟩ := Ru.head_ascii h0 hb h92 (by decide)
          obtain ⟨hy1, _, hy3⟩ := Ru.escL_ascii he (fun c hc => by rw [ht] at hc; simp at hc; subst hc; decide)
          simp only at h ⊢
          rw [List.drop_append_of_le_length hy1]
          exact uqR_app r n _ _ _ _ _ h
      · rw [if_neg h92] at h ⊢
        rw [List.drop_append_of_le_length hle]
        exact uqR_app r n _ _ _ _ _ h
theorem unqL_app {t : List UInt8} {k : Nat} (r : List UInt8) (hk : k < t.length) (h : (Ru.unqL t k).2.2 = 0) : Ru.unqL (t ++ r) k = Ru.unqL t k := by
  have h' := unq_ok h
  rw [h']
  generalize (Ru.unqL t k).1 = w at h' ⊢
  generalize (Ru.unqL t k).2.1 = e at h' ⊢
  rw [Ru.unqL_uqR t k (t ++ r).length (by simp)] at h'
  rw [Ru.unqL_uqR (t ++ r) k (t ++ r).length (Nat.le_refl _), List.drop_append_of_le_length (by omega)]
  exact uqR_app r _ _ _ _ _ _ h'

/-! ### Numbers -/
/-- Nothing that could stand with a number's digits. -/
def safeR (r : List UInt8) : Prop := ∀ c u, r = c :: u → Nu.isD c = false ∧ Nu.stopB c = false
theorem dig_app {t : List UInt8} {k : Nat} (r : List UInt8) (hk : k ≤ t.length) (h : k + (Nu.dig t k).length < t.length ∨ safeR r) : Nu.dig (t ++ r) k = Nu.dig t k := by
  have hd := List.takeWhile_append_dropWhile (p := Nu.isD) (l := t.drop k)
  refine Nu.dig_of (Nu.dig t k) ((t.drop k).dropWhile Nu.isD ++ r) ?_ (Nu.dig_all t k) ?_
  · rw [List.drop_append_of_le_length hk, ← List.append_assoc]
    congr 1
    exact hd.symm
  · intro c u e
    cases e1 : (t.drop k).dropWhile Nu.isD with
    | cons c' u' =>
      rw [e1, List.cons_append] at e
      cases e
      have := List.head?_dropWhile_not Nu.isD (t.drop k)
      rw [e1] at this; simpa using this
    | nil =>
      rw [e1, List.nil_append] at e
      rcases h with h | h
      · exfalso
        rw [e1, List.append_nil] at hd
        unfold Nu.dig at h
        rw [hd, List.length_drop] at h
        omega
      · exact (h c u e).1
theorem getD_app {t : List UInt8} (r : List UInt8) {k : Nat} (h : k < t.length) : (t ++ r).getD k 0 = t.getD k 0 := by
  rw [List.getD, List.getD, List.getElem?_append_left h]
theorem get?_app {t : List UInt8} (r : List UInt8) {k : Nat} (h : k < t.length) : (t ++ r)[k]? = t[k]? := List.getElem?_append_left h
theorem scanB_app {t : List UInt8} {k f : Nat} {m : Bool} (r : List UInt8) (hf : f ≤ t.length) (h0 : (Nu.scanB t k m f).2.2 = 0) (h : f + (Nu.dig t f).length < t.length ∨ safeR r) : Nu.scanB (t ++ r) k m f = Nu.scanB t k m f := by
  have hp := (scanB_end h0).2
  have hle := Nu.dig_le t f
  have e1 := dig_app r hf h
  have e2 : Nu.misL (t ++ r) f (Nu.dig t f).length = Nu.misL t f (Nu.dig t f).length := by
    unfold Nu.misL
    rw [getD_app r (by omega)]
    have : Nu.stopB ((t ++ r).getD (f + (Nu.dig t f).length) 0) = Nu.stopB (t.getD (f + (Nu.dig t f).length) 0) := by
      rcases Nat.lt_or_ge (f + (Nu.dig t f).length) t.length with h1 | h1
      · rw [getD_app r h1]
      · have e3 : f + (Nu.dig t f).length = t.length := by omega
        rw [e3]
        rcases h with h | h
        · omega
        · rw [List.getD, List.getD, List.getElem?_eq_none (Nat.le_refl _), List.getElem?_append_right (Nat.le_refl _), Nat.sub_self]
          cases r with
          | nil => rfl
          | cons c u =>
            have := (h c u rfl).2
            simp only [List.getElem?_cons_zero, Option.getD_some, Option.getD_none]
            rw [this]; rfl
    rw [this]
  unfold Nu.scanB
  rw [e1, e2]
theorem scanN_app {t : List UInt8} {k : Nat} (r : List UInt8) (hk : k < t.length) (h0 : (Nu.scanN t k).2.2 = 0) (h : (Nu.scanN t k).2.1.toNat < t.length ∨ safeR r) : Nu.scanN (t ++ r) k = Nu.scanN t k := by
  unfold Nu.scanN at *
  rw [getD_app r hk]
  split
  · rw [if_pos ‹_›] at h0 h
    refine scanB_app r hk h0 (h.imp (fun h => ?_) id)
    rw [(scanB_end h0).1] at h
    omega
  · rw [if_neg ‹_›] at h0 h
    refine scanB_app r (Nat.le_of_lt hk) h0 (h.imp (fun h => ?_) id)
    rw [(scanB_end h0).1] at h
    omega

/-! ### Steps -/
theorem keyM_app {t : List UInt8} {k k' : Nat} {f f' : Fm} (r : List UInt8) (hk : k ≤ t.length) (h : keyM t k f = .ok (k', f')) (hk' : k' < t.length) : keyM (t ++ r) k f = .ok (k', f') := by
  unfold keyM at h ⊢
  by_cases h1 : f.obj = false
  · rw [if_pos h1] at h ⊢; exact h
  rw [if_neg h1] at h ⊢
  by_cases h2 : t[k]? ≠ some 34
  · rw [if_pos h2] at h; cases h
  rw [if_neg h2] at h
  have h2' := lt_of_some (Decidable.not_not.1 h2)
  rw [get?_app r h2', if_neg h2]
  by_cases h3 : (Ru.unqL t k).2.2 ≠ 0
  · rw [if_pos h3] at h; cases h
  rw [if_neg h3] at h
  have h3' := Decidable.not_not.1 h3
  obtain ⟨g1, g2⟩ := unqL_end h2' (unq_ok h3')
  rw [unqL_app r h2' h3', if_neg h3]
  by_cases h4 : hasK f.ks (Ru.unqL t k).1 = true
  · rw [if_pos h4] at h; cases h
  rw [if_neg h4] at h ⊢
  by_cases h5 : t[bl t (Ru.unqL t k).2.1]? ≠ some 58
  · rw [if_pos h5] at h; cases h
  rw [if_neg h5] at h
  have h5' := lt_of_some (Decidable.not_not.1 h5)
  have e5 := bl_app r g2 h5'
  rw [e5, get?_app r h5', if_neg h5]
  cases h
  rw [bl_app r h5' hk']
theorem enterM_app {t : List UInt8} {k : Nat} {op : List Fm} {f : Fm} {st : St} (r : List UInt8) (hk : k < t.length) (h : enterM t k op f = .ok st) (hs : ∀ k' o, st = .rd k' o → k' < t.length) : enterM (t ++ r) k op f = .ok st := by
  unfold enterM at h ⊢
  by_cases h1 : t[bl t (k + 1)]? = some f.close
  · rw [if_pos h1] at h
    have h1' := lt_of_some h1
    rw [bl_app r hk h1', get?_app r h1', if_pos h1]
    exact h
  · rw [if_neg h1] at h
    cases h2 : keyM t (bl t (k + 1)) f with
    | error q => rw [h2] at h; cases h
    | ok p =>
      obtain ⟨k', f'⟩ := p
      rw [h2] at h
      cases h
      have h3 := hs k' _ rfl
      have g := keyM_end (bl_le t (k + 1) hk) h2
      have h4 : bl t (k + 1) < t.length := by omega
      rw [bl_app r hk h4, get?_app r h4, if_neg h1, keyM_app r (Nat.le_of_lt h4) h2 h3]
theorem putM_app {t : List UInt8} {k : Nat} {v : V} {op : List Fm} {f : Fm} {st : St} (r : List UInt8) (hk : k ≤ t.length) (h : putM t v k f op = .ok st) (hs : ∀ k' o, st = .rd k' o → k' < t.length) : putM (t ++ r) v k f op = .ok st := by
  unfold putM at h ⊢
  by_cases h1 : t[bl t k]? = some f.close
  · rw [if_pos h1] at h
    have h1' := lt_of_some h1
    rw [bl_app r hk h1', get?_app r h1', if_pos h1]
    exact h
  · rw [if_neg h1] at h
    by_cases h2 : t[bl t k]? ≠ some 44
    · rw [if_pos h2] at h; cases h
    rw [if_neg h2] at h
    have h2' := lt_of_some (Decidable.not_not.1 h2)
    rw [bl_app r hk h2', get?_app r h2', if_neg h1, if_neg h2]
    cases h3 : keyM t (bl t (bl t k + 1)) { f with vs := f.vs ++ [v] } with
    | error q => rw [h3] at h; cases h
    | ok p =>
      obtain ⟨k', f'⟩ := p
      rw [h3] at h
      cases h
      have h4 := hs k' _ rfl
      have g := keyM_end (bl_le t (bl t k + 1) h2') h3
      have h5 : bl t (bl t k + 1) < t.length := by omega
      rw [bl_app r h2' h5, keyM_app r (Nat.le_of_lt h5) h3 h4]
theorem wordM_app {t w : List UInt8} {k : Nat} {op : List Fm} {v : V} {st : St} (r : List UInt8) (hw : 0 < w.length) (hk : k < t.length) (h : wordM t k op w v = .ok st) : wordM (t ++ r) k op w v = .ok st := by
  unfold wordM at h ⊢
  split at h
  · rename_i h1
    have := congrArg List.length h1
    rw [List.length_take, List.length_drop] at this
    rw [List.drop_append_of_le_length (Nat.le_of_lt hk), List.take_append_of_le_length (by rw [List.length_drop]; omega), if_pos h1]
    exact h
  · cases h
/-- What begM tells of a text with something behind it. -/
theorem begM_app {t : List UInt8} {d : Int} {k : Nat} {op : List Fm} {st : St} (r : List UInt8) (h : begM t d k op = .ok st) (hs : ∀ k' o, st = .rd k' o → k' < t.length) (hn : numB (t.getD k 0) = true → st.pl < t.length ∨ safeR r) : begM (t ++ r) d k op = .ok st := by
  unfold begM at h ⊢
  by_cases h1 : t.length ≤ k
  · rw [if_pos h1] at h; cases h
  rw [if_neg h1] at h
  have hk : k < t.length := by omega
  rw [if_neg (by rw [List.length_append]; omega), getD_app r hk]
  by_cases h2 : 24 < d + op.length
  · rw [if_pos h2] at h; cases h
  rw [if_neg h2] at h ⊢
  generalize t.getD k 0 = c at *
  by_cases c1 : c = 110
  · rw [if_pos c1] at h ⊢; exact wordM_app r (by decide) hk h
  rw [if_neg c1] at h ⊢
  by_cases c2 : c = 102
  · rw [if_pos c2] at h ⊢; exact wordM_app r (by decide) hk h
  rw [if_neg c2] at h ⊢
  by_cases c3 : c = 116
  · rw [if_pos c3] at h ⊢; exact wordM_app r (by decide) hk h
  rw [if_neg c3] at h ⊢
  by_cases c4 : numB c = true
  · rw [if_pos c4] at h ⊢
    unfold numM at h ⊢
    rw [scanL_N (Nat.le_of_lt hk)] at h
    rw [scanL_N (by rw [List.length_append]; omega)]
    split at h
    · rename_i h3
      cases h
      rw [scanN_app r hk h3 (hn c4), if_pos h3]
    · cases h
  rw [if_neg c4] at h ⊢
  by_cases c5 : c = 34
  · rw [if_pos c5] at h ⊢
    unfold texM at h ⊢
    split at h
    · rename_i h3
      rw [unqL_app r hk h3, if_pos h3]
      exact h
    · cases h
  rw [if_neg c5] at h ⊢
  by_cases c6 : c = 91
  · rw [if_pos c6] at h ⊢; exact enterM_app r hk h hs
  rw [if_neg c6] at h ⊢
  by_cases c7 : c = 123
  · rw [if_pos c7] at h ⊢; exact enterM_app r hk h hs
  rw [if_neg c7] at h
  cases h
/-- What comes out of begM, told by its kind. -/
theorem begM_op {t : List UInt8} {d : Int} {k : Nat} {op : List Fm} {st : St} (h : begM t d k op = .ok st) : (∃ u k', st = .got u k' op) ∨ ∃ k' f, st = .rd k' (f :: op) := by
  have hw : ∀ {w v}, wordM t k op w v = .ok st → ∃ u k', st = .got u k' op := fun {w v} h => by
    unfold wordM at h
    split at h
    · cases h; exact ⟨_, _, rfl⟩
    · cases h
  have he : ∀ {f}, enterM t k op f = .ok st → (∃ u k', st = .got u k' op) ∨ ∃ k' f, st = .rd k' (f :: op) := fun {f} h => by
    unfold enterM at h
    split at h
    · cases h; exact .inl ⟨_, _, rfl⟩
    · split at h
      · cases h
      · cases h; exact .inr ⟨_, _, rfl⟩
  unfold begM at h
  split at h
  · cases h
  split at h
  · cases h
  split at h
  · exact .inl (hw h)
  split at h
  · exact .inl (hw h)
  split at h
  · exact .inl (hw h)
  split at h
  · unfold numM at h
    split at h
    · cases h; exact .inl ⟨_, _, rfl⟩
    · cases h
  split at h
  · unfold texM at h
    split at h
    · cases h; exact .inl ⟨_, _, rfl⟩
    · cases h
  split at h
  · exact he h
  split at h
  · exact he h
  · cases h
/-- A run that is taken goes on from a place within. -/
theorem run_rd {t : List UInt8} {d : Int} {n : Nat} {k : Nat} {op : List Fm} {v : V} {e : Nat} (h : runM t d n (.rd k op) = some (.ok (v, e))) : k < t.length := by
  cases n with
  | zero => cases h
  | succ n =>
    rw [runM] at h
    unfold begM at h
    by_cases h1 : t.length ≤ k
    · rw [if_pos h1] at h; cases h
    · omega
theorem run_got {t : List UInt8} {d : Int} {n : Nat} {k : Nat} {u : V} {f : Fm} {op : List Fm} {v : V} {e : Nat} (h : runM t d n (.got u k (f :: op)) = some (.ok (v, e))) : k < t.length := by
  cases n with
  | zero => cases h
  | succ n =>
    rw [runM] at h
    have g := bl_ge t k
    unfold putM at h
    by_cases h1 : t[bl t k]? = some f.close
    · have := lt_of_some h1; omega
    · rw [if_neg h1] at h
      by_cases h2 : t[bl t k]? ≠ some 44
      · rw [if_pos h2] at h; cases h
      · have := lt_of_some (Decidable.not_not.1 h2); omega
theorem run_app {t : List UInt8} {d : Int} {v : V} {e : Nat} (r : List UInt8) : ∀ (n : Nat) (st : St), st.pl ≤ t.length → runM t d n st = some (.ok (v, e)) → (safeR r ∨ ∀ k, st = .rd k [] → numB (t.getD k 0) = false) → runM (t ++ r) d n st = some (.ok (v, e))
  | 0, st, _, h, _ => by cases st <;> cases h
  | n + 1, .got u k [], hp, h, _ => h
  | n + 1, .got u k (f :: op), hp, h, hc => by
    rw [runM] at h ⊢
    cases e1 : putM t u k f op with
    | error q => rw [e1] at h; cases h
    | ok st =>
      rw [e1] at h
      have hp' := putM_end (k := k) hp e1
      have hr : ∀ k' o, st = .rd k' o → k' < t.length := fun k' o he => by rw [he] at h; exact run_rd h
      rw [putM_app (k := k) r hp e1 hr]
      refine run_app r n st hp'.2 h (.inr fun k' he => ?_)
      exfalso
      subst he
      unfold putM at e1
      split at e1
      · cases e1
      split at e1
      · cases e1
      split at e1
      · cases e1
      · cases e1
  | n + 1, .rd k op, hp, h, hc => by
    rw [runM] at h ⊢
    cases e1 : begM t d k op with
    | error q => rw [e1] at h; cases h
    | ok st =>
      rw [e1] at h
      have hp' := begM_end e1
      have hr : ∀ k' o, st = .rd k' o → k' < t.length := fun k' o he => by rw [he] at h; exact run_rd h
      have hb := begM_op e1
      rw [begM_app r e1 hr (fun hnum => ?_)]
      · refine run_app r n st hp'.2 h (.inr fun k' he => ?_)
        exfalso
        rcases hb with ⟨u, k'', hb⟩ | ⟨k'', f, hb⟩
        · rw [hb] at he; cases he
        · rw [hb] at he; cases he
      · rcases hc with hc | hc
        · exact .inr hc
        · rcases hb with ⟨u, k'', hb⟩ | ⟨k'', f, hb⟩
          · subst hb
            cases op with
            | nil => have := hc k rfl; rw [hnum] at this; cases this
            | cons f op => exact .inl (run_got h)
          · subst hb
            exact .inl (hr _ _ rfl)

/-! ### Whole texts -/
theorem parM_ok {s : List UInt8} {v : V} (h : parM s = .ok v) : s.length ≤ 4096 ∧ bl s 0 < s.length ∧ ∃ e, valM s (bl s 0) 1 = .ok (v, e) ∧ bl s 0 < e ∧ e ≤ s.length ∧ bl s e = s.length := by
  unfold parM at h
  split at h
  · cases h
  rename_i h0
  have h0 : s.length ≤ 4096 := by omega
  unfold valI at h
  by_cases h1 : ((bl s 0 : Nat) : Int) < 0 ∨ (s.length : Int) ≤ ((bl s 0 : Nat) : Int)
  · rw [if_pos h1] at h; cases h
  rw [if_neg h1] at h
  have h1' : bl s 0 < s.length := by omega
  rw [Int.toNat_natCast] at h
  cases hv : valM s (bl s 0) 1 with
  | error q => rw [hv] at h; cases h
  | ok p =>
    obtain ⟨v', e⟩ := p
    rw [hv] at h
    simp only at h
    split at h
    · cases h
    · rename_i h2
      cases h
      have hrun := valM_run s (bl s 0) 1 (Nat.le_of_lt h1')
      rw [hv] at hrun
      rw [runM] at hrun
      cases e1 : begM s 1 (bl s 0) [] with
      | error q => rw [e1] at hrun; cases hrun
      | ok st =>
        rw [e1] at hrun
        have g1 := begM_end e1
        have g2 := run_le _ st v e g1.2 hrun
        have g3 := bl_le s e g2.2
        exact ⟨h0, h1', e, rfl, by omega, g2.2, by omega⟩
theorem valM_app {t : List UInt8} {k : Nat} {d : Int} {v : V} {e : Nat} (r : List UInt8) (hk : k ≤ t.length) (h : valM t k d = .ok (v, e)) (hc : safeR r ∨ numB (t.getD k 0) = false) : valM (t ++ r) k d = .ok (v, e) := by
  have h1 := valM_run t k d hk
  rw [h] at h1
  have h2 := run_app r _ _ (show (St.rd k []).pl ≤ t.length from hk) h1 (hc.imp id fun hc k' he => by cases he; exact hc)
  have h3 := run_fuel _ ((t ++ r).length + 2) _ _ (by simp) h2
  have h4 := valM_run (t ++ r) k d (by rw [List.length_append]; omega)
  rw [h4] at h3
  exact Option.some.inj h3
theorem par_x {s : List UInt8} {v : V} (h : parM s = .ok v) (hs : s.length ≤ 4000) : parM (s ++ [120]) = .error (s.length, 40) := by
  obtain ⟨_, h1, e, h2, h3, h4, h5⟩ := parM_ok h
  have hsafe : safeR [120] := fun c u he => by cases he; exact ⟨by decide, by decide⟩
  have e0 := bl_app [120] (Nat.zero_le _) h1
  have e1 := valM_app [120] (Nat.le_of_lt h1) h2 (.inl hsafe)
  have e2 := bl_full (120 : UInt8) (by decide) h4 h5
  unfold parM valI
  rw [if_neg (by rw [List.length_append]; simp; omega), e0, if_neg (by rw [List.length_append]; simp; omega), Int.toNat_natCast, e1]
  simp only
  rw [e2, if_pos (by simp)]
theorem val_num {s : List UInt8} {k : Nat} {d : Int} {v : V} {e : Nat} (hk : k ≤ s.length) (h : valM s k d = .ok (v, e)) (hn : numB (s.getD k 0) = true) : v.kind = 2 := by
  have h1 := valM_run s k d hk
  rw [h, runM] at h1
  cases e1 : begM s d k [] with
  | error q => rw [e1] at h1; cases h1
  | ok st =>
    rw [e1] at h1
    unfold begM at e1
    split at e1
    · cases e1
    split at e1
    · cases e1
    generalize s.getD k 0 = c at hn e1
    have c1 : c ≠ 110 := fun h => by subst h; revert hn; decide
    have c2 : c ≠ 102 := fun h => by subst h; revert hn; decide
    have c3 : c ≠ 116 := fun h => by subst h; revert hn; decide
    rw [if_neg c1, if_neg c2, if_neg c3] at e1
    replace e1 : numM s k [] = .ok st := by first | exact e1 | (rw [if_pos hn] at e1; exact e1)
    unfold numM at e1
    split at e1
    · cases e1
      have h2 : some (Except.ok (numV (Nu.scanL s k).1, (Nu.scanL s k).2.1.toNat)) = some (Except.ok (v, e)) := h1
      cases h2
      rfl
    · cases e1
theorem par_cut {s : List UInt8} {v : V} {e cut : Nat} (h : parM s = .ok v) (hv : valM s (bl s 0) 1 = .ok (v, e)) (hb : bl s 0 ≤ cut) (hc : cut < e) : (∃ q, parM (s.take cut) = .error q) ∨ v.kind = 2 := by
  obtain ⟨_, h1, e', h2, h3, h4, h5⟩ := parM_ok h
  rw [h2] at hv
  have : e' = e := by cases hv; rfl
  subst this
  clear hv
  cases hn : numB (s.getD (bl s 0) 0) with
  | true => exact .inr (val_num (Nat.le_of_lt h1) h2 hn)
  | false =>
    left
    cases hp : parM (s.take cut) with
    | error q => exact ⟨q, rfl⟩
    | ok v' =>
      exfalso
      obtain ⟨_, g1, e2, g2, g3, g4, g5⟩ := parM_ok hp
      have hst : s = s.take cut ++ s.drop cut := (List.take_append_drop cut s).symm
      have hbl : bl s 0 = bl (s.take cut) 0 := by
        have := bl_app (s.drop cut) (Nat.zero_le _) g1
        rw [List.take_append_drop] at this
        exact this
      have hg : (s.take cut).getD (bl (s.take cut) 0) 0 = s.getD (bl s 0) 0 := by
        have := getD_app (s.drop cut) g1
        rw [List.take_append_drop] at this
        rw [← this, hbl]
      have h6 := valM_app (s.drop cut) (Nat.le_of_lt g1) g2 (.inr (by rw [hg]; exact hn))
      rw [List.take_append_drop, ← hbl, h2] at h6
      have h7 : e' = e2 := by cases h6; rfl
      rw [List.length_take] at g4
      omega
end Go.Proofs.YtgbagdfcdljleaaGreatDoor
