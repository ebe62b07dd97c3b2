/-
  Texts with holes, plain: parts, how a text is read (lexS), and the machine that goes over it byte by byte.
-/
import Derived.Test.YtjnoomefppncoaaDoorBase
set_option linter.unusedVariables false
namespace Go.Proofs.YtjnoomefppncoaaDoor

/-- A part of a text with holes. -/
inductive X where
  | text (t : List UInt8)
  | ref (m : List UInt8)
  | att (m a : List UInt8)
instance : Inhabited X := ⟨.text []⟩
def X.isT : X → Bool
  | .text _ => true
  | _ => false

/-- A part put behind others (the last one stands first). -/
def addR (x : X) (L : List X) : List X :=
  match x with
  | .text t => if t = [] then L else match L with
    | .text u :: M => .text (u ++ t) :: M
    | _ => .text t :: L
  | x => x :: L

theorem addR_nil (L : List X) : addR (.text []) L = L := by simp [addR]
theorem addR_two (a b : List UInt8) (L : List X) : addR (.text b) (addR (.text a) L) = addR (.text (a ++ b)) L := by
  by_cases ha : a = []
  · subst ha; rw [addR_nil, List.nil_append]
  by_cases hb : b = []
  · subst hb; rw [addR_nil, List.append_nil]
  cases L with
  | nil => simp [addR, ha, hb]
  | cons x M => cases x <;> simp [addR, ha, hb]

/-- What stands ahead of the first b, and behind it. -/
def cutB (b : UInt8) : List UInt8 → Option (List UInt8 × List UInt8)
  | [] => none
  | c :: t => if c = b then some ([], t) else match cutB b t with
    | none => none
    | some (x, y) => some (c :: x, y)
theorem cutB_none {b : UInt8} : ∀ {l : List UInt8}, cutB b l = none → b ∉ l
  | [], _ => by simp
  | c :: t, h => by
    unfold cutB at h
    by_cases hc : c = b
    · simp [hc] at h
    · rw [if_neg hc] at h
      cases ht : cutB b t with
      | none =>
        have := cutB_none ht
        simp only [List.mem_cons, not_or]
        exact ⟨fun e => hc e.symm, this⟩
      | some p => rw [ht] at h; cases h
theorem cutB_some {b : UInt8} : ∀ {l x y : List UInt8}, cutB b l = some (x, y) → l = x ++ b :: y ∧ b ∉ x
  | [], _, _, h => by cases h
  | c :: t, x, y, h => by
    unfold cutB at h
    by_cases hc : c = b
    · rw [if_pos hc] at h
      cases h
      exact ⟨by rw [hc]; rfl, by simp⟩
    · rw [if_neg hc] at h
      cases ht : cutB b t with
      | none => rw [ht] at h; cases h
      | some p =>
        obtain ⟨u, v⟩ := p
        rw [ht] at h
        cases h
        obtain ⟨h1, h2⟩ := cutB_some ht
        refine ⟨by rw [h1]; rfl, ?_⟩
        simp only [List.mem_cons, not_or]
        exact ⟨fun e => hc e.symm, h2⟩
theorem cutB_app {b : UInt8} : ∀ {x : List UInt8} (y : List UInt8), b ∉ x → cutB b (x ++ b :: y) = some (x, y)
  | [], y, _ => by simp [cutB]
  | c :: x, y, h => by
    simp only [List.mem_cons, not_or] at h
    have := cutB_app (b := b) y h.2
    simp only [List.cons_append, cutB, this]
    rw [if_neg (fun e => h.1 e.symm)]
theorem cutB_no {b : UInt8} {l : List UInt8} (h : b ∉ l) : cutB b l = none := by
  cases hc : cutB b l with
  | none => rfl
  | some p =>
    obtain ⟨x, y⟩ := p
    have := (cutB_some hc).1
    exact absurd (by rw [this]; simp) h

def outputs : List UInt8 := [79, 117, 116, 112, 117, 116, 115]
def attrB (l : List UInt8) : Bool := match cutB 46 l with
  | none => nameB l
  | some (a, b) => decide (a = outputs) && nameB b
def holeP (l : List UInt8) : Option X := match cutB 46 l with
  | none => if nameB l = true then some (.ref l) else none
  | some (a, b) => if nameB a = true ∧ attrB b = true then some (.att a b) else none

def lexF : Nat → List UInt8 → Nat → List X → Nat ⊕ List X
  | 0, _, _, L => .inr L
  | n + 1, l, p, L => match l with
    | [] => .inr L
    | c :: t =>
      if c = 36 ∧ t.head? = some 123 then
        match cutB 125 t.tail with
        | none => .inl p
        | some (i, r) =>
          if i.head? = some 33 then lexF n r (p + 3 + i.length) (addR (.text (36 :: 123 :: (i.tail ++ [125]))) L)
          else match holeP i with
            | none => .inl p
            | some x => lexF n r (p + 3 + i.length) (addR x L)
      else lexF n t (p + 1) (addR (.text [c]) L)
/-- The parts of a text (the last one first), or where it is wrong; l stands at p, L are the parts ahead. -/
def lexS (l : List UInt8) (p : Nat) (L : List X) : Nat ⊕ List X := lexF l.length l p L

theorem cutB_len {b : UInt8} {l x y : List UInt8} (h : cutB b l = some (x, y)) : y.length + x.length + 1 = l.length := by
  rw [(cutB_some h).1]; simp; omega
theorem lexF_fuel : ∀ (n m : Nat) (l : List UInt8) (p : Nat) (L : List X), l.length ≤ n → l.length ≤ m → lexF n l p L = lexF m l p L
  | 0, m, l, p, L, hn, _ => by
    obtain rfl : l = [] := List.eq_nil_of_length_eq_zero (by omega)
    cases m <;> simp [lexF]
  | n + 1, 0, l, p, L, _, hm => by
    obtain rfl : l = [] := List.eq_nil_of_length_eq_zero (by omega)
    simp [lexF]
  | n + 1, m + 1, l, p, L, hn, hm => by
    cases l with
    | nil => simp [lexF]
    | cons c t =>
      simp only [List.length_cons] at hn hm
      simp only [lexF]
      split
      · cases hc : cutB 125 t.tail with
        | none => rfl
        | some q =>
          obtain ⟨i, r⟩ := q
          have := cutB_len hc
          have h2 : t.tail.length ≤ t.length := by simp
          simp only
          rw [lexF_fuel n m r _ (addR (.text (36 :: 123 :: (i.tail ++ [125]))) L) (by omega) (by omega)]
          cases holeP i with
          | none => rfl
          | some x => simp only; rw [lexF_fuel n m r _ (addR x L) (by omega) (by omega)]
      · exact lexF_fuel n m t _ _ (by omega) (by omega)
theorem lexS_nil (p : Nat) (L : List X) : lexS [] p L = .inr L := rfl
theorem lexS_byte {c : UInt8} {t : List UInt8} (p : Nat) (L : List X) (h : ¬ (c = 36 ∧ t.head? = some 123)) : lexS (c :: t) p L = lexS t (p + 1) (addR (.text [c]) L) := by
  show lexF (t.length + 1) (c :: t) p L = _
  rw [lexF]
  simp only [if_neg h]
  rfl
theorem lexS_open {t : List UInt8} (p : Nat) (L : List X) : lexS (36 :: 123 :: t) p L = match cutB 125 t with
    | none => .inl p
    | some (i, r) => if i.head? = some 33 then lexS r (p + 3 + i.length) (addR (.text (36 :: 123 :: (i.tail ++ [125]))) L)
      else match holeP i with
        | none => .inl p
        | some x => lexS r (p + 3 + i.length) (addR x L) := by
  show lexF (t.length + 1 + 1) (36 :: 123 :: t) p L = _
  rw [lexF]
  simp only [List.head?_cons, List.tail_cons, and_self, if_true]
  cases hc : cutB 125 t with
  | none => rfl
  | some q =>
    obtain ⟨i, r⟩ := q
    have := cutB_len hc
    simp only
    rw [lexF_fuel _ r.length r _ (addR (.text (36 :: 123 :: (i.tail ++ [125]))) L) (by omega) (Nat.le_refl _)]
    cases holeP i with
    | none => rfl
    | some x => simp only; rw [lexF_fuel _ r.length r _ (addR x L) (by omega) (Nat.le_refl _)]; rfl
theorem lexS_none {t : List UInt8} (p : Nat) (L : List X) (h : 125 ∉ t) : lexS (36 :: 123 :: t) p L = .inl p := by
  rw [lexS_open, cutB_no h]
theorem lexS_kept {i r : List UInt8} (p : Nat) (L : List X) (h : 125 ∉ i) : lexS (36 :: 123 :: 33 :: (i ++ 125 :: r)) p L = lexS r (p + 4 + i.length) (addR (.text (36 :: 123 :: (i ++ [125]))) L) := by
  have e : cutB 125 (33 :: (i ++ 125 :: r)) = some (33 :: i, r) := cutB_app (b := 125) (x := 33 :: i) r (by simp only [List.mem_cons, not_or]; exact ⟨by decide, h⟩)
  rw [lexS_open, e]
  simp only [List.head?_cons, if_true, List.tail_cons, List.length_cons]
  rw [show p + 3 + (i.length + 1) = p + 4 + i.length by omega]
theorem lexS_hole {i r : List UInt8} (p : Nat) (L : List X) (h : 125 ∉ i) (h2 : i.head? ≠ some 33) : lexS (36 :: 123 :: (i ++ 125 :: r)) p L = match holeP i with
    | none => .inl p
    | some x => lexS r (p + 3 + i.length) (addR x L) := by
  rw [lexS_open, cutB_app r h]
  simp only [if_neg h2]

/-- The bytes from a up to b. -/
def sub (l : List UInt8) (a b : Nat) : List UInt8 := (l.drop a).take (b - a)
theorem sub_self (l : List UInt8) (a : Nat) : sub l a a = [] := by simp [sub]
theorem sub_drop (l : List UInt8) {a b : Nat} (h : a ≤ b) : sub l a b ++ l.drop b = l.drop a := by
  unfold sub
  have e : l.drop b = (l.drop a).drop (b - a) := by rw [List.drop_drop]; congr 1; omega
  rw [e, List.take_append_drop]
theorem sub_snoc (l : List UInt8) {a b : Nat} {c : UInt8} {t : List UInt8} (h : a ≤ b) (hc : l.drop b = c :: t) : sub l a (b + 1) = sub l a b ++ [c] := by
  unfold sub
  have e : (l.drop a).drop (b - a) = c :: t := by rw [List.drop_drop, ← hc]; congr 1; omega
  rw [show b + 1 - a = (b - a) + 1 by omega]
  have h1 : b - a < (l.drop a).length := by
    rcases Nat.lt_or_ge (b - a) (l.drop a).length with h | h
    · exact h
    · rw [List.drop_eq_nil_of_le h] at e; cases e
  rw [List.take_succ_eq_append_getElem h1]
  congr 2
  have := List.drop_eq_getElem_cons h1
  rw [e] at this
  injection this with h2 _
  exact h2.symm
theorem sub_of {l i t : List UInt8} {a b : Nat} (h : l.drop a = i ++ t) (hb : b = a + i.length) : sub l a b = i := by
  unfold sub
  rw [h, hb, Nat.add_sub_cancel_left, List.take_left]
theorem drop_next {l t : List UInt8} {p : Nat} {c : UInt8} (h : l.drop p = c :: t) : l.drop (p + 1) = t := by
  rw [← List.drop_drop, h]; rfl
theorem drop_len {l t : List UInt8} {p : Nat} {c : UInt8} (h : l.drop p = c :: t) : p < l.length := by
  rcases Nat.lt_or_ge p l.length with h1 | h1
  · exact h1
  · rw [List.drop_eq_nil_of_le h1] at h; cases h

/-- The machine's state behind a rune. -/
def nextN (st r : Nat) : Nat :=
  if st = 1 ∧ r = 123 then 2 else if st = 2 ∧ r = 33 then 4 else if st = 0 ∨ st = 1 then (if r = 36 then 1 else 0) else if r = 125 then 0 else if st = 2 then 3 else st

/-- The machine at p, in the state st, fr where that begins which is not read yet, L what is read: reading on gives R. -/
def Mach (l : List UInt8) (R : Nat ⊕ List X) (st fr p : Nat) (L : List X) : Prop :=
  p ≤ l.length ∧ fr ≤ p ∧
  ((st = 0 ∧ lexS (l.drop p) p (addR (.text (sub l fr p)) L) = R) ∨
   (st = 1 ∧ fr + 1 ≤ p ∧ l.drop (p - 1) = 36 :: l.drop p ∧ lexS (l.drop (p - 1)) (p - 1) (addR (.text (sub l fr (p - 1))) L) = R) ∨
   (∃ i, (st = 2 ∧ i = [] ∨ st = 3 ∧ i ≠ [] ∧ i.head? ≠ some 33 ∨ st = 4 ∧ i.head? = some 33) ∧ 125 ∉ i ∧ l.drop fr = 36 :: 123 :: (i ++ l.drop p) ∧ p = fr + 2 + i.length ∧ lexS (l.drop fr) fr L = R))

theorem mach_begin (l : List UInt8) : Mach l (lexS l 0 []) 0 0 0 [] :=
  ⟨Nat.zero_le _, Nat.le_refl _, .inl ⟨rfl, by rw [sub_self, addR_nil]; rfl⟩⟩
theorem mach_hi {l : List UInt8} {R : Nat ⊕ List X} {st fr p : Nat} {L : List X} (h : Mach l R st fr p L) : st ≤ 4 := by
  obtain ⟨_, _, h | h | ⟨i, h, _⟩⟩ := h <;> omega

section
variable {l : List UInt8} {R : Nat ⊕ List X} {st fr p : Nat} {L : List X} {c : UInt8} {t : List UInt8}
theorem toNat_eq {c : UInt8} {n : Nat} (h : c.toNat = n) (hn : n < 256 := by decide) : c = UInt8.ofNat n := by
  apply UInt8.toNat_inj.1
  rw [h]; simp; omega
theorem mach_open (h : Mach l R st fr p L) (hc : l.drop p = c :: t) (hn : nextN st c.toNat = 2) : st = 1 ∧ c = 123 ∧ 1 ≤ p ∧ fr ≤ p - 1 ∧ Mach l R 2 (p - 1) (p + 1) (addR (.text (sub l fr (p - 1))) L) := by
  have hs : st = 1 ∧ c.toNat = 123 := by
    have := mach_hi h
    unfold nextN at hn
    split at hn
    · assumption
    · repeat (first | (split at hn <;> try omega) | omega)
  obtain ⟨rfl, hcn⟩ := hs
  have hc1 : c = 123 := toNat_eq hcn
  subst hc1
  obtain ⟨hp, hfr, h | ⟨_, h1, h2, h3⟩ | ⟨i, h, _⟩⟩ := h
  · omega
  · have hl := drop_len hc
    refine ⟨rfl, rfl, by omega, by omega, by omega, by omega, .inr (.inr ⟨[], .inl ⟨rfl, rfl⟩, by simp, ?_, by simp; omega, h3⟩)⟩
    rw [h2, hc, drop_next hc]; rfl
  · omega
theorem mach_kept (h : Mach l R st fr p L) (hc : l.drop p = c :: t) (hs : st = 4) (hn : nextN st c.toNat = 0) : c = 125 ∧ fr + 3 ≤ p ∧ Mach l R 0 (p + 1) (p + 1) (addR (.text (36 :: 123 :: (sub l (fr + 3) p ++ [125]))) L) := by
  subst hs
  have hcn : c.toNat = 125 := by
    unfold nextN at hn
    repeat (first | (split at hn <;> try omega) | omega)
  have hc1 : c = 125 := toNat_eq hcn
  subst hc1
  obtain ⟨hp, hfr, h | ⟨h, _⟩ | ⟨i, h, h1, h2, h3, h4⟩⟩ := h
  · omega
  · omega
  have hi : i.head? = some 33 := by
    rcases h with h | h | h
    · omega
    · omega
    · exact h.2
  obtain ⟨j, rfl⟩ : ∃ j, i = 33 :: j := by
    cases i with
    | nil => cases hi
    | cons a j => simp only [List.head?_cons, Option.some.injEq] at hi; exact ⟨j, by rw [hi]⟩
  have hl := drop_len hc
  simp only [List.length_cons] at h3
  have e : sub l (fr + 3) p = j := by
    refine sub_of (t := l.drop p) ?_ (by omega)
    rw [← List.drop_drop, h2]; rfl
  refine ⟨rfl, by omega, by omega, by omega, .inl ⟨rfl, ?_⟩⟩
  rw [sub_self, addR_nil, e, ← h4, h2, hc, drop_next hc]
  have := lexS_kept (r := t) fr L (i := j) (fun hm => h1 (by simp [hm]))
  rw [show (33 :: j) ++ 125 :: t = 33 :: (j ++ 125 :: t) from rfl, this]
  congr 1
  omega
theorem mach_hole (h : Mach l R st fr p L) (hc : l.drop p = c :: t) (hs : st = 2 ∨ st = 3) (hn : nextN st c.toNat = 0) :
    c = 125 ∧ fr + 2 ≤ p ∧ (∀ x, holeP (sub l (fr + 2) p) = some x → Mach l R 0 (p + 1) (p + 1) (addR x L)) ∧ (holeP (sub l (fr + 2) p) = none → R = .inl fr) := by
  have hcn : c.toNat = 125 := by
    unfold nextN at hn
    repeat (first | (split at hn <;> try omega) | omega)
  have hc1 : c = 125 := toNat_eq hcn
  subst hc1
  obtain ⟨hp, hfr, h | ⟨h, _⟩ | ⟨i, h, h1, h2, h3, h4⟩⟩ := h
  · omega
  · omega
  have hi : i.head? ≠ some 33 := by
    rcases h with h | h | h
    · rw [h.2]; simp
    · exact h.2.2
    · omega
  have hl := drop_len hc
  have e : sub l (fr + 2) p = i := by
    refine sub_of (t := l.drop p) ?_ (by omega)
    rw [← List.drop_drop, h2]; rfl
  have hx := lexS_hole (r := t) fr L h1 hi
  rw [← hc, ← h2, h4] at hx
  rw [e]
  refine ⟨rfl, by omega, fun x hh => ?_, fun hh => ?_⟩
  · rw [hh] at hx
    refine ⟨by omega, by omega, .inl ⟨rfl, ?_⟩⟩
    rw [sub_self, addR_nil, drop_next hc, hx]
    simp only
    congr 1
    omega
  · rw [hh] at hx
    exact hx
theorem mach_else (h : Mach l R st fr p L) (hc : l.drop p = c :: t) (h2 : nextN st c.toNat ≠ 2) (h4 : ¬ (st = 4 ∧ nextN st c.toNat = 0)) (h3 : ¬ ((st = 2 ∨ st = 3) ∧ nextN st c.toNat = 0)) :
    Mach l R (nextN st c.toNat) fr (p + 1) L := by
  have hl := drop_len hc
  have hd := drop_next hc
  have ne (n : Nat) (h : c.toNat ≠ n) (hn : n < 256) : c ≠ UInt8.ofNat n := fun e => by rw [e] at h; simp at h; omega
  obtain ⟨hp, hfr, ⟨rfl, h⟩ | ⟨rfl, h, h5, h6⟩ | ⟨i, h, h1, h5, h6, h7⟩⟩ := h
  · have key : c.toNat ≠ 36 → lexS (l.drop (p + 1)) (p + 1) (addR (.text (sub l fr (p + 1))) L) = R := fun hne => by
      rw [sub_snoc l hfr hc, ← addR_two, hd, ← h, hc, lexS_byte]
      rintro ⟨e, _⟩
      exact hne (by rw [e]; rfl)
    by_cases h36 : c.toNat = 36
    · have : nextN 0 c.toNat = 1 := by rw [h36]; rfl
      rw [this]
      have hc1 : c = 36 := toNat_eq h36
      refine ⟨by omega, by omega, .inr (.inl ⟨rfl, by omega, ?_, ?_⟩)⟩
      · rw [Nat.add_sub_cancel, hc, hd, hc1]
      · rw [Nat.add_sub_cancel]; exact h
    · have : nextN 0 c.toNat = 0 := by simp [nextN, h36]
      rw [this]
      exact ⟨by omega, by omega, .inl ⟨rfl, key h36⟩⟩
  · have h123 : c.toNat ≠ 123 := fun e => h2 (by rw [e]; rfl)
    have hne : ¬ ((36 : UInt8) = 36 ∧ (l.drop p).head? = some 123) := by
      rintro ⟨_, e⟩
      rw [hc] at e
      simp only [List.head?_cons, Option.some.injEq] at e
      exact h123 (by rw [e]; rfl)
    rw [h5, lexS_byte _ _ hne, show p - 1 + 1 = p by omega, addR_two, ← sub_snoc l (by omega) h5, show p - 1 + 1 = p by omega] at h6
    by_cases h36 : c.toNat = 36
    · have : nextN 1 c.toNat = 1 := by rw [h36]; rfl
      rw [this]
      have hc1 : c = 36 := toNat_eq h36
      refine ⟨by omega, by omega, .inr (.inl ⟨rfl, by omega, ?_, ?_⟩)⟩
      · rw [Nat.add_sub_cancel, hc, hd, hc1]
      · rw [Nat.add_sub_cancel]; exact h6
    · have : nextN 1 c.toNat = 0 := by simp [nextN, h36, h123]
      rw [this]
      refine ⟨by omega, by omega, .inl ⟨rfl, ?_⟩⟩
      rw [sub_snoc l hfr hc, ← addR_two, hd, ← h6, hc, lexS_byte]
      rintro ⟨e, _⟩
      exact h36 (by rw [e]; rfl)
  · have h125 : c.toNat ≠ 125 := fun e => by
      rcases h with h | h | h
      · exact h3 ⟨.inl h.1, by rw [h.1, e]; rfl⟩
      · exact h3 ⟨.inr h.1, by rw [h.1, e]; rfl⟩
      · exact h4 ⟨h.1, by rw [h.1, e]; rfl⟩
    have hc125 : (125 : UInt8) ≠ c := fun e => h125 (by rw [← e]; rfl)
    have hm : 125 ∉ i ++ [c] := by simp [h1, hc125]
    have hdr : l.drop fr = 36 :: 123 :: ((i ++ [c]) ++ l.drop (p + 1)) := by rw [h5, hc, hd]; simp
    refine ⟨by omega, by omega, .inr (.inr ⟨i ++ [c], ?_, hm, hdr, by simp; omega, h7⟩)⟩
    rcases h with ⟨rfl, rfl⟩ | ⟨rfl, a, b⟩ | ⟨rfl, a⟩
    · by_cases h33 : c.toNat = 33
      · have hc1 : c = 33 := toNat_eq h33
        exact .inr (.inr ⟨by rw [h33]; rfl, by rw [hc1]; rfl⟩)
      · refine .inr (.inl ⟨by simp [nextN, h33, h125], by simp, ?_⟩)
        simp only [List.nil_append, List.head?_cons, ne_eq, Option.some.injEq]
        exact fun e => h33 (by rw [e]; rfl)
    · refine .inr (.inl ⟨by simp [nextN, h125], by simp, ?_⟩)
      cases i with
      | nil => exact absurd rfl a
      | cons x y => exact b
    · refine .inr (.inr ⟨by simp [nextN, h125], ?_⟩)
      cases i with
      | nil => cases a
      | cons x y => exact a
theorem next_hi {st r r' : Nat} (h : 128 ≤ r) (h' : 128 ≤ r') : nextN (nextN st r) r' = nextN st r := by
  unfold nextN
  repeat (first | split | omega)
theorem next_calm {st r : Nat} (h : 128 ≤ r) (hs : st ≤ 4) : nextN st r ≠ 2 ∧ ¬ (st = 4 ∧ nextN st r = 0) ∧ ¬ ((st = 2 ∨ st = 3) ∧ nextN st r = 0) := by
  unfold nextN
  refine ⟨?_, ?_, ?_⟩
  all_goals repeat (first | split | omega)
theorem next_le {st : Nat} (r : Nat) (hs : st ≤ 4) : nextN st r ≤ 4 := by
  unfold nextN
  repeat (first | split | omega)
theorem mach_high (r : Nat) (hr : 128 ≤ r) : ∀ (b : List UInt8) (st p : Nat), (∀ c ∈ b, 128 ≤ c.toNat) → b ≠ [] → ∀ (t : List UInt8), l.drop p = b ++ t → Mach l R st fr p L → Mach l R (nextN st r) fr (p + b.length) L
  | [], _, _, _, hb, _, _, _ => absurd rfl hb
  | c :: b, st, p, hall, _, t, hd, h => by
    have hst := mach_hi h
    have hc := hall c (by simp)
    obtain ⟨n1, n2, n3⟩ := next_calm (r := c.toNat) hc hst
    have h1 := mach_else h (c := c) (t := b ++ t) hd n1 n2 n3
    have e : nextN st c.toNat = nextN st r := by
      unfold nextN
      repeat (first | split | omega)
    rw [e] at h1
    by_cases hb : b = []
    · subst hb; exact h1
    · have := mach_high r hr b (nextN st r) (p + 1) (fun x hx => hall x (by simp [hx])) hb t (drop_next hd) h1
      rw [next_hi hr hr] at this
      rw [List.length_cons, show p + (b.length + 1) = p + 1 + b.length by omega]
      exact this
theorem mach_end (h : Mach l R st fr p L) (hp : p = l.length) : ((st = 0 ∨ st = 1) → R = .inr (addR (.text (sub l fr l.length)) L)) ∧ (¬ (st = 0 ∨ st = 1) → R = .inl fr) := by
  subst hp
  have hd : l.drop l.length = [] := List.drop_eq_nil_of_le (Nat.le_refl _)
  obtain ⟨hp, hfr, ⟨rfl, h⟩ | ⟨rfl, h, h5, h6⟩ | ⟨i, h, h1, h5, h6, h7⟩⟩ := h
  · refine ⟨fun _ => ?_, fun e => absurd (.inl rfl) e⟩
    rw [hd, lexS_nil] at h
    exact h.symm
  · refine ⟨fun _ => ?_, fun e => absurd (.inr rfl) e⟩
    have hs := sub_snoc l (a := fr) (b := l.length - 1) (by omega) h5
    rw [show l.length - 1 + 1 = l.length by omega] at hs
    rw [h5, hd, lexS_byte _ _ (by simp), lexS_nil, addR_two] at h6
    rw [hs]
    exact h6.symm
  · refine ⟨fun e => by omega, fun _ => ?_⟩
    rw [h5, hd, List.append_nil, lexS_none _ _ h1] at h7
    exact h7.symm
end
end Go.Proofs.YtjnoomefppncoaaDoor
