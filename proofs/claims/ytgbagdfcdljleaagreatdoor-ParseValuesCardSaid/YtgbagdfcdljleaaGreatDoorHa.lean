/-
  How a text is read as a value, plainly: a machine that goes over the bytes, one sign behind the other.
-/
import Derived.Test.YtgbagdfcdljleaaGreatDoorPA
import Derived.Test.YtgbagdfcdljleaaGreatDoorGB
import Derived.Test.YtgbagdfcdljleaaGreatDoorGA
set_option linter.unusedVariables false
set_option linter.unusedSimpArgs false
namespace Go.Proofs.YtgbagdfcdljleaaGreatDoor
open Go.Lib

/-- Is a byte a blank? -/
def isBl (c : UInt8) : Bool := c == 32 || c == 9 || c == 10 || c == 13
/-- The place of the first byte of s, from k on, that is no blank. -/
def bl (s : List UInt8) (k : Nat) : Nat := k + ((s.drop k).takeWhile isBl).length

/-- A list or an object that is open: its parts and keys so far. -/
structure Fm where
  obj : Bool
  vs : List V
  ks : List ByteArray
def Fm.val (f : Fm) : V := .mk (if f.obj then 5 else 4) false 0 ⟨#[]⟩ f.vs f.ks
def Fm.close (f : Fm) : UInt8 := if f.obj then 125 else 93
abbrev Er := Nat × Nat
inductive St where
  | rd (k : Nat) (op : List Fm)
  | got (v : V) (k : Nat) (op : List Fm)
def St.pl : St → Nat
  | .rd k _ => k
  | .got _ k _ => k
def St.op : St → List Fm
  | .rd _ op => op
  | .got _ _ op => op

def nulV : V := .mk 0 false 0 ⟨#[]⟩ [] []
def booV (b : Bool) : V := .mk 1 b 0 ⟨#[]⟩ [] []
def numV (n : Int) : V := .mk 2 false n ⟨#[]⟩ [] []
def texV (l : List UInt8) : V := .mk 3 false 0 ⟨l.toArray⟩ [] []

/-- Is the key among them? -/
def hasK (ks : List ByteArray) (w : List UInt8) : Bool := ks.any (fun k => k.data.toList == w)
/-- What stands ahead of a part: of an object a key and a colon. -/
def keyM (s : List UInt8) (k : Nat) (f : Fm) : Except Er (Nat × Fm) :=
  if f.obj = false then .ok (k, f)
  else if s[k]? ≠ some 34 then .error (k, 40)
  else if (Ru.unqL s k).2.2 ≠ 0 then .error ((Ru.unqL s k).2.1, (Ru.unqL s k).2.2)
  else if hasK f.ks (Ru.unqL s k).1 then .error (k, 41)
  else if s[bl s (Ru.unqL s k).2.1]? ≠ some 58 then .error (bl s (Ru.unqL s k).2.1, 40)
  else .ok (bl s (bl s (Ru.unqL s k).2.1 + 1), { f with ks := f.ks ++ [⟨(Ru.unqL s k).1.toArray⟩] })
def enterM (s : List UInt8) (k : Nat) (op : List Fm) (f : Fm) : Except Er St :=
  if s[bl s (k + 1)]? = some f.close then .ok (.got f.val (bl s (k + 1) + 1) op)
  else match keyM s (bl s (k + 1)) f with
    | .error r => .error r
    | .ok (k', f') => .ok (.rd k' (f' :: op))
def putM (s : List UInt8) (v : V) (k : Nat) (f : Fm) (op : List Fm) : Except Er St :=
  if s[bl s k]? = some f.close then .ok (.got (Fm.val { f with vs := f.vs ++ [v] }) (bl s k + 1) op)
  else if s[bl s k]? ≠ some 44 then .error (bl s k, 40)
  else match keyM s (bl s (bl s k + 1)) { f with vs := f.vs ++ [v] } with
    | .error r => .error r
    | .ok (k', f') => .ok (.rd k' (f' :: op))
def wordM (s : List UInt8) (k : Nat) (op : List Fm) (w : List UInt8) (v : V) : Except Er St :=
  if (s.drop k).take w.length = w then .ok (.got v (k + w.length) op) else .error (k, 40)
def numM (s : List UInt8) (k : Nat) (op : List Fm) : Except Er St :=
  if (Nu.scanL s k).2.2 = 0 then .ok (.got (numV (Nu.scanL s k).1) (Nu.scanL s k).2.1.toNat op) else .error ((Nu.scanL s k).2.1.toNat, (Nu.scanL s k).2.2.toNat)
def texM (s : List UInt8) (k : Nat) (op : List Fm) : Except Er St :=
  if (Ru.unqL s k).2.2 = 0 then .ok (.got (texV (Ru.unqL s k).1) (Ru.unqL s k).2.1 op) else .error ((Ru.unqL s k).2.1, (Ru.unqL s k).2.2)
/-- Does a number begin so? -/
def numB (c : UInt8) : Bool := c == 45 || Nu.isD c
/-- The beginning of a value. -/
def begM (s : List UInt8) (d : Int) (k : Nat) (op : List Fm) : Except Er St :=
  if s.length ≤ k then .error (s.length, 40)
  else if 24 < d + op.length then .error (k, 30)
  else if s.getD k 0 = 110 then wordM s k op [110, 117, 108, 108] nulV
  else if s.getD k 0 = 102 then wordM s k op [102, 97, 108, 115, 101] (booV false)
  else if s.getD k 0 = 116 then wordM s k op [116, 114, 117, 101] (booV true)
  else if numB (s.getD k 0) then numM s k op
  else if s.getD k 0 = 34 then texM s k op
  else if s.getD k 0 = 91 then enterM s k op ⟨false, [], []⟩
  else if s.getD k 0 = 123 then enterM s k op ⟨true, [], []⟩
  else .error (k, 40)
def stepM (s : List UInt8) (d : Int) : St → Except Er St
  | .rd k op => begM s d k op
  | .got v k [] => .ok (.got v k [])
  | .got v k (f :: op) => putM s v k f op
def runM (s : List UInt8) (d : Int) : Nat → St → Option (Except Er (V × Nat))
  | 0, _ => none
  | _ + 1, .got v k [] => some (.ok (v, k))
  | n + 1, .got v k (f :: op) => match putM s v k f op with
    | .error r => some (.error r)
    | .ok st => runM s d n st
  | n + 1, .rd k op => match begM s d k op with
    | .error r => some (.error r)
    | .ok st => runM s d n st
/-- A value that begins at k and stands so deep. -/
def valM (s : List UInt8) (k : Nat) (d : Int) : Except Er (V × Nat) := (runM s d (s.length + 2) (.rd k [])).getD (.error (0, 0))
def valI (s : List UInt8) (k d : Int) : Except Er (V × Nat) := if k < 0 ∨ (s.length : Int) ≤ k then .error (s.length, 40) else valM s k.toNat d
def parM (s : List UInt8) : Except Er V :=
  if 4096 < s.length then .error (0, 3)
  else match valI s (bl s 0) 1 with
    | .error r => .error r
    | .ok (v, k) => if bl s k < s.length then .error (bl s k, 40) else .ok v

/-! ### Blanks -/
theorem bl_ge (s : List UInt8) (k : Nat) : k ≤ bl s k := Nat.le_add_right _ _
theorem bl_le (s : List UInt8) (k : Nat) (h : k ≤ s.length) : bl s k ≤ s.length := by
  have := (List.takeWhile_sublist (p := isBl) (l := s.drop k)).length_le
  rw [List.length_drop] at this
  unfold bl; omega
theorem bl_app {t : List UInt8} {k : Nat} (r : List UInt8) (hk : k ≤ t.length) (h : bl t k < t.length) : bl (t ++ r) k = bl t k := by
  unfold bl at *
  rw [List.drop_append_of_le_length hk]
  congr 1
  have hd := List.takeWhile_append_dropWhile (p := isBl) (l := t.drop k)
  match e : (t.drop k).dropWhile isBl with
  | [] =>
    rw [e, List.append_nil] at hd
    rw [hd, List.length_drop] at h
    omega
  | c :: u =>
    have hc : isBl c = false := by
      have := List.head?_dropWhile_not isBl (t.drop k)
      rw [e] at this; simpa using this
    have h2 : (t.drop k ++ r) = (t.drop k).takeWhile isBl ++ (c :: (u ++ r)) := by rw [← List.cons_append, ← e, ← List.append_assoc, hd]
    rw [h2, List.takeWhile_append_of_pos (fun x hx => List.all_eq_true.1 (List.all_takeWhile (p := isBl)) x hx), List.takeWhile_cons, hc]
    simp
theorem bl_full {s : List UInt8} {k : Nat} (c : UInt8) (hc : isBl c = false) (hk : k ≤ s.length) (h : bl s k = s.length) : bl (s ++ [c]) k = s.length := by
  unfold bl at *
  rw [List.drop_append_of_le_length hk]
  have hd := List.takeWhile_append_dropWhile (p := isBl) (l := s.drop k)
  have hl := congrArg List.length hd
  rw [List.length_append, List.length_drop] at hl
  have h0 : ((s.drop k).dropWhile isBl).length = 0 := by omega
  have h1 := List.eq_nil_of_length_eq_zero h0
  rw [h1, List.append_nil] at hd
  have ha : ∀ x ∈ s.drop k, isBl x = true := fun x hx => by
    rw [← hd] at hx
    exact List.all_eq_true.1 (List.all_takeWhile (p := isBl)) x hx
  rw [List.takeWhile_append_of_pos ha, List.takeWhile_cons, hc]
  simp
  omega
/-- How a loop finds it. -/
theorem bl_of {s : List UInt8} : ∀ (n k j : Nat), j = k + n → j ≤ s.length → (∀ i, k ≤ i → i < j → isBl (s.getD i 0) = true) → (j < s.length → isBl (s.getD j 0) = false) → bl s k = j
  | 0, k, j, hj, hl, _, hn => by
    have hj : k = j := by omega
    subst hj
    unfold bl
    rcases Nat.lt_or_ge k s.length with h | h
    · have := hn (by omega)
      rw [List.drop_eq_getElem_cons h, List.takeWhile_cons]
      rw [List.getD, List.getElem?_eq_getElem h] at this
      simp only [Option.getD_some] at this
      rw [this]; simp
    · rw [List.drop_eq_nil_of_le h]; simp
  | n + 1, k, j, hj, hl, ha, hn => by
    have hk : k < s.length := by omega
    have h1 := ha k (Nat.le_refl _) (by omega)
    have ih := bl_of n (k + 1) j (by omega) hl (fun i h h' => ha i (by omega) h') hn
    unfold bl at ih ⊢
    rw [List.drop_eq_getElem_cons hk, List.takeWhile_cons]
    rw [List.getD, List.getElem?_eq_getElem hk] at h1
    simp only [Option.getD_some] at h1
    rw [h1]
    simp only [if_true, List.length_cons]
    omega
theorem bl_all {s : List UInt8} {k i : Nat} (h : k ≤ i) (h' : i < bl s k) : isBl (s.getD i 0) = true := by
  unfold bl at h'
  have hi : i - k < ((s.drop k).takeWhile isBl).length := by omega
  have hm := List.all_eq_true.1 (List.all_takeWhile (p := isBl) (l := s.drop k)) _ (List.getElem_mem hi)
  have e : ((s.drop k).takeWhile isBl)[i - k]? = s[i]? := by
    rw [List.takeWhile_eq_take_findIdx_not, List.getElem?_take, if_pos (by
      have := hi
      rw [List.takeWhile_eq_take_findIdx_not, List.length_take] at this
      omega), List.getElem?_drop]
    congr 1; omega
  rw [List.getElem?_eq_getElem hi] at e
  rw [List.getD, ← e]; exact hm
theorem bl_stop {s : List UInt8} {k : Nat} (h : bl s k < s.length) : isBl (s.getD (bl s k) 0) = false := by
  unfold bl at *
  have hd := List.takeWhile_append_dropWhile (p := isBl) (l := s.drop k)
  match e : (s.drop k).dropWhile isBl with
  | [] =>
    rw [e, List.append_nil] at hd
    rw [hd, List.length_drop] at h
    omega
  | c :: u =>
    have hc : isBl c = false := by
      have := List.head?_dropWhile_not isBl (s.drop k)
      rw [e] at this; simpa using this
    have h1 : s[k + ((s.drop k).takeWhile isBl).length]? = some c := by
      rw [← List.getElem?_drop]
      generalize s.drop k = l at hd e ⊢
      generalize l.takeWhile isBl = a at hd ⊢
      rw [← hd, e, List.getElem?_append_right (Nat.le_refl _)]; simp
    rw [List.getD, h1]; exact hc

/-! ### How far each step goes -/
theorem uqR_end : ∀ (n : Nat) (l : List UInt8) (q : Nat) (acc w : List UInt8) (e : Nat), Ru.uqR n l q acc = (w, e, 0) → q < e ∧ e ≤ q + l.length
  | 0, l, q, acc, w, e, h => by
    have := congrArg (fun x => x.2.2) h
    exact absurd this (show ¬ (10 : Nat) = 0 by decide)
  | n + 1, l, q, acc, w, e, h => by
    have no : ∀ {a : List UInt8} {b : Nat}, ¬ ((a, b, 10) : Ru.UAns) = (w, e, 0) := fun h => by
      have := congrArg (fun x : Ru.UAns => x.2.2) h
      exact absurd this (show ¬ (10 : Nat) = 0 by decide)
    rw [Ru.uqR] at h
    by_cases h0 : l = []
    · rw [if_pos h0] at h; exact absurd h no
    rw [if_neg h0] at h
    cases hb : Ru.bad l with
    | true => rw [hb, if_pos rfl] at h; exact absurd h no
    | false =>
      rw [hb, if_neg (by simp)] at h
      have hl := List.length_pos_iff.2 h0
      have hw := decodeL_width l
      have hle := decodeL_le l h0
      by_cases h34 : (decodeL l).1 = 34
      · rw [if_pos h34] at h
        have : q + 1 = e := congrArg (fun x : Ru.UAns => x.2.1) h
        omega
      rw [if_neg h34] at h
      by_cases h32 : (decodeL l).1 < 32
      · rw [if_pos h32] at h; exact absurd h no
      rw [if_neg h32] at h
      by_cases h92 : (decodeL l).1 = 92
      · rw [if_pos h92] at h
        cases he : Ru.escL l with
        | none => rw [he] at h; exact absurd h no
        | some y =>
          rw [he] at h
          obtain ⟨t, ht, _⟩ := Ru.head_ascii h0 hb h92 (by decide)
          obtain ⟨hy1, _, hy3⟩ := Ru.escL_ascii he (fun c hc => by rw [ht] at hc; simp at hc; subst hc; decide)
          have := uqR_end n _ _ _ _ _ h
          rw [List.length_drop] at this
          omega
      · rw [if_neg h92] at h
        have := uqR_end n _ _ _ _ _ h
        rw [List.length_drop] at this
        omega
theorem unqL_end {s w : List UInt8} {k e : Nat} (hk : k < s.length) (h : Ru.unqL s k = (w, e, 0)) : k < e ∧ e ≤ s.length := by
  rw [Ru.unqL_uqR s k s.length (Nat.le_refl _)] at h
  have := uqR_end _ _ _ _ _ _ h
  rw [List.length_drop] at this
  omega
theorem unq_ok {s : List UInt8} {k : Nat} (h : (Ru.unqL s k).2.2 = 0) : Ru.unqL s k = ((Ru.unqL s k).1, (Ru.unqL s k).2.1, 0) := by
  rw [← h]
theorem scanB_end {l : List UInt8} {k f : Nat} {m : Bool} (h : (Nu.scanB l k m f).2.2 = 0) : (Nu.scanB l k m f).2.1 = ((f + (Nu.dig l f).length : Nat) : Int) ∧ 0 < (Nu.dig l f).length := by
  unfold Nu.scanB at h ⊢
  by_cases h1 : (Nu.misL l f (Nu.dig l f).length).2 = true
  · rw [if_pos h1] at h; exact absurd h (show ¬ (20 : Int) = 0 by decide)
  rw [if_neg h1] at h ⊢
  by_cases h2 : 9007199254740992 < Nu.val (Nu.dig l f) ∨ m = true ∧ Nu.val (Nu.dig l f) = 0
  · rw [if_pos h2] at h; exact absurd h (show ¬ (20 : Int) = 0 by decide)
  rw [if_neg h2] at h ⊢
  refine ⟨by simp, ?_⟩
  rcases Nat.eq_zero_or_pos (Nu.dig l f).length with h3 | h3
  · exfalso; apply h1; unfold Nu.misL; rw [if_pos h3]
  · exact h3
theorem scanN_end {s : List UInt8} {k : Nat} (hk : k < s.length) (h : (Nu.scanN s k).2.2 = 0) : ∃ e : Nat, (Nu.scanN s k).2.1 = e ∧ k < e ∧ e ≤ s.length := by
  unfold Nu.scanN at h ⊢
  split at h
  · obtain ⟨h1, h2⟩ := scanB_end h
    rw [if_pos ‹_›]
    have := Nu.dig_le s (k + 1)
    exact ⟨_, h1, by omega, by omega⟩
  · obtain ⟨h1, h2⟩ := scanB_end h
    rw [if_neg ‹_›]
    have := Nu.dig_le s k
    exact ⟨_, h1, by omega, by omega⟩
theorem scanL_N {s : List UInt8} {k : Nat} (hk : k ≤ s.length) : Nu.scanL s k = Nu.scanN s k := Nu.scanL_nat s k hk

theorem keyM_end {s : List UInt8} {k k' : Nat} {f f' : Fm} (hk : k ≤ s.length) (h : keyM s k f = .ok (k', f')) : k ≤ k' ∧ k' ≤ s.length := by
  unfold keyM at h
  split at h
  · cases h; omega
  split at h
  · cases h
  split at h
  · cases h
  split at h
  · cases h
  split at h
  · cases h
  rename_i _ h1 h2 _ h4
  cases h
  have hlt : k < s.length := by
    rcases Nat.lt_or_ge k s.length with h | h
    · exact h
    · rw [List.getElem?_eq_none h] at h1; simp at h1
  obtain ⟨g1, g2⟩ := unqL_end hlt (unq_ok (Decidable.not_not.1 h2))
  have g3 := bl_ge s (Ru.unqL s k).2.1
  have g4 := bl_le s (Ru.unqL s k).2.1 g2
  have g5 : bl s (Ru.unqL s k).2.1 < s.length := by
    rcases Nat.lt_or_ge (bl s (Ru.unqL s k).2.1) s.length with h | h
    · exact h
    · rw [List.getElem?_eq_none h] at h4; simp at h4
  have g6 := bl_ge s (bl s (Ru.unqL s k).2.1 + 1)
  have g7 := bl_le s (bl s (Ru.unqL s k).2.1 + 1) (by omega)
  omega
theorem lt_of_some {s : List UInt8} {k : Nat} {c : UInt8} (h : s[k]? = some c) : k < s.length := by
  rcases Nat.lt_or_ge k s.length with h' | h'
  · exact h'
  · rw [List.getElem?_eq_none h'] at h; cases h
theorem enterM_end {s : List UInt8} {k : Nat} {op : List Fm} {f : Fm} {st : St} (hk : k < s.length) (h : enterM s k op f = .ok st) : k < st.pl ∧ st.pl ≤ s.length := by
  unfold enterM at h
  have g1 := bl_ge s (k + 1)
  have g2 := bl_le s (k + 1) hk
  split at h
  · rename_i h1
    have := lt_of_some h1
    cases h
    show k < bl s (k + 1) + 1 ∧ _ ≤ _
    exact ⟨by omega, this⟩
  · split at h
    · cases h
    · rename_i k' f' h2
      cases h
      have := keyM_end g2 h2
      show k < k' ∧ k' ≤ _
      omega
theorem putM_end {s : List UInt8} {k : Nat} {v : V} {op : List Fm} {f : Fm} {st : St} (hk : k ≤ s.length) (h : putM s v k f op = .ok st) : k < st.pl ∧ st.pl ≤ s.length := by
  unfold putM at h
  have g1 := bl_ge s k
  have g2 := bl_le s k hk
  split at h
  · rename_i h1
    have := lt_of_some h1
    cases h
    show k < bl s k + 1 ∧ _ ≤ _
    exact ⟨by omega, this⟩
  · split at h
    · cases h
    · rename_i h3
      have h4 := lt_of_some (Decidable.not_not.1 h3)
      split at h
      · cases h
      · rename_i k' f' h2
        cases h
        have g3 := bl_ge s (bl s k + 1)
        have := keyM_end (bl_le s (bl s k + 1) h4) h2
        show k < k' ∧ k' ≤ _
        omega
theorem wordM_end {s w : List UInt8} {k : Nat} {op : List Fm} {v : V} {st : St} (hw : 0 < w.length) (hk : k < s.length) (h : wordM s k op w v = .ok st) : k < st.pl ∧ st.pl ≤ s.length := by
  unfold wordM at h
  split at h
  · rename_i h1
    cases h
    have := congrArg List.length h1
    rw [List.length_take, List.length_drop] at this
    show k < k + w.length ∧ k + w.length ≤ _
    omega
  · cases h
theorem begM_end {s : List UInt8} {d : Int} {k : Nat} {op : List Fm} {st : St} (h : begM s d k op = .ok st) : k < st.pl ∧ st.pl ≤ s.length := by
  unfold begM at h
  split at h
  · cases h
  rename_i hk
  have hk : k < s.length := by omega
  split at h
  · cases h
  split at h
  · exact wordM_end (by decide) hk h
  split at h
  · exact wordM_end (by decide) hk h
  split at h
  · exact wordM_end (by decide) hk h
  split at h
  · unfold numM at h
    split at h
    · rename_i h1
      cases h
      rw [scanL_N (Nat.le_of_lt hk)] at *
      obtain ⟨e, h2, h3, h4⟩ := scanN_end hk h1
      show k < (Nu.scanN s k).2.1.toNat ∧ (Nu.scanN s k).2.1.toNat ≤ _
      rw [h2]
      simp; omega
    · cases h
  split at h
  · unfold texM at h
    split at h
    · rename_i h1
      cases h
      exact unqL_end hk (unq_ok h1)
    · cases h
  split at h
  · exact enterM_end hk h
  split at h
  · exact enterM_end hk h
  · cases h

/-! ### A run comes to its end -/
theorem run_ends (s : List UInt8) (d : Int) : ∀ (n : Nat) (st : St), st.pl ≤ s.length → s.length < n + st.pl → ∃ r, runM s d n st = some r
  | 0, st, h, h' => by omega
  | n + 1, .got v k [], h, h' => ⟨_, rfl⟩
  | n + 1, .got v k (f :: op), h, h' => by
    rw [runM]
    cases e : putM s v k f op with
    | error r => exact ⟨_, rfl⟩
    | ok st =>
      have := putM_end (k := k) h e
      have h'' : s.length < n + 1 + k := h'
      exact run_ends s d n st this.2 (by omega)
  | n + 1, .rd k op, h, h' => by
    rw [runM]
    cases e : begM s d k op with
    | error r => exact ⟨_, rfl⟩
    | ok st =>
      have := begM_end e
      have h'' : s.length < n + 1 + k := h'
      exact run_ends s d n st this.2 (by omega)
theorem valM_run (s : List UInt8) (k : Nat) (d : Int) (hk : k ≤ s.length) : runM s d (s.length + 2) (.rd k []) = some (valM s k d) := by
  obtain ⟨r, hr⟩ := run_ends s d (s.length + 2) (.rd k []) hk (by show _ < _ + k; omega)
  unfold valM
  rw [hr]; rfl
theorem run_le {s : List UInt8} {d : Int} : ∀ (n : Nat) (st : St) (v : V) (e : Nat), st.pl ≤ s.length → runM s d n st = some (.ok (v, e)) → st.pl ≤ e ∧ e ≤ s.length
  | 0, st, v, e, h, h' => by cases st <;> cases h'
  | n + 1, .got u k [], v, e, h, h' => by
    rw [runM] at h'
    cases h'
    exact ⟨Nat.le_refl _, h⟩
  | n + 1, .got u k (f :: op), v, e, h, h' => by
    rw [runM] at h'
    cases e1 : putM s u k f op with
    | error r => rw [e1] at h'; cases h'
    | ok st =>
      rw [e1] at h'
      have h1 := putM_end (k := k) h e1
      have := run_le n st v e h1.2 h'
      exact ⟨by show k ≤ e; omega, this.2⟩
  | n + 1, .rd k op, v, e, h, h' => by
    rw [runM] at h'
    cases e1 : begM s d k op with
    | error r => rw [e1] at h'; cases h'
    | ok st =>
      rw [e1] at h'
      have h1 := begM_end e1
      have := run_le n st v e h1.2 h'
      exact ⟨by show k ≤ e; omega, this.2⟩
theorem run_fuel {s : List UInt8} {d : Int} : ∀ (n m : Nat) (st : St) (r : Except Er (V × Nat)), n ≤ m → runM s d n st = some r → runM s d m st = some r
  | 0, m, st, r, _, h => by cases st <;> cases h
  | n + 1, 0, st, r, hm, _ => by omega
  | n + 1, m + 1, .got v k [], r, _, h => h
  | n + 1, m + 1, .got v k (f :: op), r, hm, h => by
    rw [runM] at h ⊢
    cases e : putM s v k f op with
    | error q => rw [e] at h; exact h
    | ok st => rw [e] at h; exact run_fuel n m st r (by omega) h
  | n + 1, m + 1, .rd k op, r, hm, h => by
    rw [runM] at h ⊢
    cases e : begM s d k op with
    | error q => rw [e] at h; exact h
    | ok st => rw [e] at h; exact run_fuel n m st r (by omega) h
end Go.Proofs.YtgbagdfcdljleaaGreatDoor
