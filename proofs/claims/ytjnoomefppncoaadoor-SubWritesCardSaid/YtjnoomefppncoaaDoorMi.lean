/-
  Writing parts, plain; and what is written, read again.
-/
import Derived.Test.YtjnoomefppncoaaDoorLm
import Derived.Test.YtjnoomefppncoaaDoorLt
set_option linter.unusedVariables false
namespace Go.Proofs.YtjnoomefppncoaaDoor
open Go.RowKit Go.Shelf

/-- What stands ahead of the first ${, and behind it. -/
def cutO : List UInt8 → Option (List UInt8 × List UInt8)
  | [] => none
  | c :: t => if c = 36 ∧ t.head? = some 123 then some ([], t.tail) else match cutO t with
    | none => none
    | some (x, y) => some (c :: x, y)
theorem cutO_some : ∀ {l x y : List UInt8}, cutO l = some (x, y) → l = x ++ 36 :: 123 :: y
  | [], _, _, h => by cases h
  | c :: t, x, y, h => by
    unfold cutO at h
    by_cases hc : c = 36 ∧ t.head? = some 123
    · rw [if_pos hc] at h
      cases h
      obtain ⟨rfl, ht⟩ := hc
      cases t with
      | nil => cases ht
      | cons a b => simp only [List.head?_cons, Option.some.injEq] at ht; rw [ht]; rfl
    · rw [if_neg hc] at h
      cases ht : cutO t with
      | none => rw [ht] at h; cases h
      | some q =>
        obtain ⟨u, v⟩ := q
        rw [ht] at h
        cases h
        rw [cutO_some ht]; rfl
theorem cutO_len {l x y : List UInt8} (h : cutO l = some (x, y)) : y.length + x.length + 2 = l.length := by
  rw [cutO_some h]; simp; omega
/-- A text as it is written; none: a ${ in it is not shut. -/
def wrF : Nat → List UInt8 → Option (List UInt8)
  | 0, l => some l
  | n + 1, l => match cutO l with
    | none => some l
    | some (a, r) => match cutB 125 r with
      | none => none
      | some (i, b) => match wrF n b with
        | none => none
        | some z => some (a ++ 36 :: 123 :: 33 :: (i ++ 125 :: z))
def wrT (l : List UInt8) : Option (List UInt8) := wrF l.length l
theorem wrF_fuel : ∀ (n m : Nat) (l : List UInt8), l.length ≤ n → l.length ≤ m → wrF n l = wrF m l
  | 0, m, l, h, _ => by
    obtain rfl : l = [] := List.eq_nil_of_length_eq_zero (by omega)
    cases m <;> simp [wrF, cutO]
  | n + 1, 0, l, _, h => by
    obtain rfl : l = [] := List.eq_nil_of_length_eq_zero (by omega)
    simp [wrF, cutO]
  | n + 1, m + 1, l, h1, h2 => by
    simp only [wrF]
    cases hc : cutO l with
    | none => rfl
    | some q =>
      obtain ⟨a, r⟩ := q
      have := cutO_len hc
      simp only
      cases hb : cutB 125 r with
      | none => rfl
      | some q2 =>
        obtain ⟨i, b⟩ := q2
        have := cutB_len hb
        simp only
        rw [wrF_fuel n m b (by omega) (by omega)]
theorem wrT_none {l : List UInt8} (h : cutO l = none) : wrT l = some l := by
  unfold wrT
  cases hl : l.length with
  | zero => rfl
  | succ n => simp only [wrF, h]
theorem wrT_some {l a r : List UInt8} (h : cutO l = some (a, r)) : wrT l = match cutB 125 r with
    | none => none
    | some (i, b) => match wrT b with
      | none => none
      | some z => some (a ++ 36 :: 123 :: 33 :: (i ++ 125 :: z)) := by
  have hl := cutO_len h
  unfold wrT
  obtain ⟨n, hn⟩ : ∃ n, l.length = n + 1 := ⟨l.length - 1, by omega⟩
  rw [hn]
  simp only [wrF, h]
  cases hb : cutB 125 r with
  | none => rfl
  | some q2 =>
    obtain ⟨i, b⟩ := q2
    have := cutB_len hb
    simp only
    rw [wrF_fuel n b.length b (by omega) (Nat.le_refl _)]
/-- A part as it is written. -/
def wr1 : X → Option (List UInt8)
  | .text t => wrT t
  | .ref m => some (36 :: 123 :: (m ++ [125]))
  | .att m a => some (36 :: 123 :: (m ++ 46 :: a ++ [125]))
/-- The text of parts, the last one first. -/
def wrR : List X → Option (List UInt8)
  | [] => some []
  | x :: L => match wrR L with
    | none => none
    | some a => match wr1 x with
      | none => none
      | some b => some (a ++ b)
/-- Bytes in which no ${ begins, whatever follows, are read as they are. -/
theorem lexS_run : ∀ (a r : List UInt8) (p : Nat) (L : List X), cutO a = none → (a.getLast? = some 36 → r.head? ≠ some 123) → lexS (a ++ r) p L = lexS r (p + a.length) (addR (.text a) L)
  | [], r, p, L, _, _ => by rw [addR_nil]; rfl
  | c :: a, r, p, L, h, hl => by
    unfold cutO at h
    by_cases hc : c = 36 ∧ a.head? = some 123
    · rw [if_pos hc] at h; cases h
    · rw [if_neg hc] at h
      have h2 : cutO a = none := by
        cases hx : cutO a with
        | none => rfl
        | some q => obtain ⟨u, v⟩ := q; rw [hx] at h; cases h
      have hc2 : ¬ (c = 36 ∧ (a ++ r).head? = some 123) := by
        rintro ⟨rfl, e⟩
        cases a with
        | nil => exact hl rfl e
        | cons x y => exact hc ⟨rfl, e⟩
      rw [List.cons_append, lexS_byte _ _ hc2, lexS_run a r (p + 1) _ h2 (fun e => hl (by
        cases a with
        | nil => cases e
        | cons x y => rw [List.getLast?_cons_cons]; exact e)), addR_two, List.length_cons, show p + 1 + a.length = p + (a.length + 1) by omega]
      rfl
/-- A written text is read as that text. -/
theorem lexS_wr : ∀ (n : Nat) (t w r : List UInt8) (p : Nat) (L : List X), t.length ≤ n → wrT t = some w → r.head? ≠ some 123 → lexS (w ++ r) p L = lexS r (p + w.length) (addR (.text t) L)
  | n, t, w, r, p, L, hn, hw, hr => by
    cases hc : cutO t with
    | none =>
      rw [wrT_none hc] at hw
      cases hw
      exact lexS_run t r p L hc (fun _ => hr)
    | some q =>
      obtain ⟨a, y⟩ := q
      have hlen := cutO_len hc
      rw [wrT_some hc] at hw
      cases hb : cutB 125 y with
      | none => rw [hb] at hw; cases hw
      | some q2 =>
        obtain ⟨i, b⟩ := q2
        have hlen2 := cutB_len hb
        obtain ⟨hy, hni⟩ := cutB_some hb
        rw [hb] at hw
        simp only at hw
        cases hz : wrT b with
        | none => rw [hz] at hw; cases hw
        | some z =>
          rw [hz] at hw
          simp only [Option.some.injEq] at hw
          subst hw
          match n, hn with
          | 0, hn => omega
          | n + 1, hn =>
            have h1 : (a ++ 36 :: 123 :: 33 :: (i ++ 125 :: z)) ++ r = a ++ (36 :: 123 :: 33 :: (i ++ 125 :: (z ++ r))) := by simp
            rw [h1]
            have h2 : lexS (a ++ (36 :: 123 :: 33 :: (i ++ 125 :: (z ++ r)))) p L = lexS (36 :: 123 :: 33 :: (i ++ 125 :: (z ++ r))) (p + a.length) (addR (.text a) L) := by
              have key : ∀ (a u v : List UInt8) (p : Nat) (L : List X), cutO (a ++ 36 :: 123 :: u) = some (a, u) → lexS (a ++ 36 :: 123 :: v) p L = lexS (36 :: 123 :: v) (p + a.length) (addR (.text a) L) := by
                intro a
                induction a with
                | nil => intro u v p L _; rw [addR_nil]; rfl
                | cons c a ih =>
                  intro u v p L h
                  rw [List.cons_append] at h ⊢
                  unfold cutO at h
                  have hh : (a ++ 36 :: 123 :: u).head? = (a ++ 36 :: 123 :: v).head? := by cases a <;> rfl
                  by_cases hc : c = 36 ∧ (a ++ 36 :: 123 :: u).head? = some 123
                  · rw [if_pos hc] at h; cases h
                  · rw [if_neg hc] at h
                    have h2 : cutO (a ++ 36 :: 123 :: u) = some (a, u) := by
                      cases hx : cutO (a ++ 36 :: 123 :: u) with
                      | none => rw [hx] at h; cases h
                      | some q => obtain ⟨s, t⟩ := q; rw [hx] at h; cases h; rfl
                    rw [lexS_byte _ _ (by rw [← hh]; exact hc), ih u v _ _ h2, addR_two, List.length_cons, show p + 1 + a.length = p + (a.length + 1) by omega]
                    rfl
              refine key a y _ p L ?_
              rw [← cutO_some hc]; exact hc
            rw [h2, lexS_kept _ _ hni, lexS_wr n b z r _ _ (by omega) hz hr, addR_two, addR_two]
            have h3 : a ++ (36 :: 123 :: (i ++ [125]) ++ b) = t := by rw [cutO_some hc, hy]; simp
            rw [h3]
            congr 1
            simp only [List.length_append, List.length_cons]
            omega

theorem cutO_app {u v : List UInt8} (hj : u.getLast? = some 36 → v.head? ≠ some 123) : cutO (u ++ v) = match cutO u with
    | some (a, r) => some (a, r ++ v)
    | none => match cutO v with
      | some (a, r) => some (u ++ a, r)
      | none => none := by
  induction u with
  | nil =>
    rw [List.nil_append]
    have h0 : cutO ([] : List UInt8) = none := rfl
    rw [h0]
    cases hv : cutO v with
    | none => rfl
    | some q => rfl
  | cons c u ih =>
    have hj2 : u.getLast? = some 36 → v.head? ≠ some 123 := fun e => hj (by
      cases u with
      | nil => cases e
      | cons x y => rw [List.getLast?_cons_cons]; exact e)
    have ih := ih hj2
    rw [List.cons_append]
    have e1 : cutO (c :: (u ++ v)) = if c = 36 ∧ (u ++ v).head? = some 123 then some ([], (u ++ v).tail) else match cutO (u ++ v) with
      | none => none
      | some (x, y) => some (c :: x, y) := rfl
    have e2 : cutO (c :: u) = if c = 36 ∧ u.head? = some 123 then some ([], u.tail) else match cutO u with
      | none => none
      | some (x, y) => some (c :: x, y) := rfl
    by_cases hc : c = 36 ∧ u.head? = some 123
    · have hu : u ≠ [] := fun e => by rw [e] at hc; cases hc.2
      obtain ⟨d, u', rfl⟩ := List.exists_cons_of_ne_nil hu
      rw [e1, e2, if_pos hc, if_pos (by exact hc)]
      rfl
    · have hc2 : ¬ (c = 36 ∧ (u ++ v).head? = some 123) := by
        rintro ⟨rfl, e⟩
        cases u with
        | nil => exact hj rfl e
        | cons x y => exact hc ⟨rfl, e⟩
      rw [e1, e2, if_neg hc, if_neg hc2, ih]
      cases cutO u with
      | none =>
        cases cutO v with
        | none => rfl
        | some q => rfl
      | some q => rfl
theorem wrT_app : ∀ (n : Nat) (u v w z : List UInt8), u.length ≤ n → wrT u = some w → wrT v = some z → (u.getLast? = some 36 → v.head? ≠ some 123) → wrT (u ++ v) = some (w ++ z)
  | n, u, v, w, z, hn, hw, hz, hj => by
    have hO := cutO_app hj
    cases hc : cutO u with
    | none =>
      rw [hc] at hO
      rw [wrT_none hc] at hw
      cases hw
      cases hv : cutO v with
      | none =>
        rw [hv] at hO
        rw [wrT_none hv] at hz
        cases hz
        exact wrT_none hO
      | some q =>
        obtain ⟨a, r⟩ := q
        rw [hv] at hO
        rw [wrT_some hO]
        rw [wrT_some hv] at hz
        cases hb : cutB 125 r with
        | none => rw [hb] at hz; cases hz
        | some q2 =>
          obtain ⟨i, b⟩ := q2
          rw [hb] at hz
          simp only at hz ⊢
          cases hbb : wrT b with
          | none => rw [hbb] at hz; cases hz
          | some y =>
            rw [hbb] at hz
            simp only [Option.some.injEq] at hz ⊢
            rw [← hz, List.append_assoc]
    | some q =>
      obtain ⟨a, r⟩ := q
      have hlen := cutO_len hc
      rw [hc] at hO
      rw [wrT_some hc] at hw
      rw [wrT_some hO]
      cases hb : cutB 125 r with
      | none => rw [hb] at hw; cases hw
      | some q2 =>
        obtain ⟨i, b⟩ := q2
        have hlen2 := cutB_len hb
        rw [hb] at hw
        rw [cutB_more v hb]
        simp only at hw ⊢
        cases hbb : wrT b with
        | none => rw [hbb] at hw; cases hw
        | some y =>
          rw [hbb] at hw
          simp only [Option.some.injEq] at hw
          match n, hn with
          | 0, hn => omega
          | n + 1, hn =>
            have hjb : b.getLast? = some 36 → v.head? ≠ some 123 := fun e => hj (by
              rw [cutO_some hc, (cutB_some hb).1]
              have h2 : b ≠ [] := fun e2 => by rw [e2] at e; cases e
              rw [show a ++ 36 :: 123 :: (i ++ 125 :: b) = (a ++ 36 :: 123 :: (i ++ [125])) ++ b by simp, List.getLast?_append, e]
              rfl)
            rw [wrT_app n b v y z (by omega) hbb hz hjb]
            simp only [Option.some.injEq]
            rw [← hw]
            simp
theorem wr1_one (c : UInt8) : wrT [c] = some [c] := wrT_none (by simp [cutO])
/-- What is read is written again as it was. -/
theorem wr_back : ∀ (n : Nat) (l : List UInt8) (p : Nat) (L M : List X) (pre : List UInt8), l.length ≤ n → lexS l p L = .inr M → wrR L = some pre → (∀ u K, L = .text u :: K → u.getLast? = some 36 → l.head? ≠ some 123) → wrR M = some (pre ++ l)
  | n, [], p, L, M, pre, _, h, hp, _ => by rw [lexS_nil] at h; cases h; rw [List.append_nil]; exact hp
  | 0, c :: t, p, L, M, pre, hn, _, _, _ => by simp at hn
  | n + 1, c :: t, p, L, M, pre, hn, h, hp, hj => by
    simp only [List.length_cons] at hn
    have step : ∀ (v z : List UInt8), v ≠ [] → wrT v = some z → (∀ u K, L = .text u :: K → u.getLast? = some 36 → v.head? ≠ some 123) → wrR (addR (.text v) L) = some (pre ++ z) := fun v z hv hz hjv => by
      cases L with
      | nil =>
        have : addR (.text v) [] = [.text v] := by simp [addR, hv]
        cases hp
        rw [this]
        simp [wrR, wr1, hz]
      | cons y K =>
        cases y with
        | text u =>
          have : addR (.text v) (.text u :: K) = .text (u ++ v) :: K := by simp [addR, hv]
          rw [this]
          unfold wrR at hp ⊢
          cases hK : wrR K with
          | none => rw [hK] at hp; cases hp
          | some k =>
            rw [hK] at hp
            simp only [wr1] at hp ⊢
            cases hu : wrT u with
            | none => rw [hu] at hp; cases hp
            | some q =>
              rw [hu] at hp
              simp only [Option.some.injEq] at hp
              rw [wrT_app u.length u v q z (Nat.le_refl _) hu hz (hjv u K rfl)]
              simp only [Option.some.injEq]
              rw [← hp, List.append_assoc]
        | ref m =>
          have : addR (.text v) (.ref m :: K) = .text v :: .ref m :: K := by simp [addR, hv]
          rw [this]
          show (match wrR (.ref m :: K) with | none => none | some a => match wr1 (.text v) with | none => none | some b => some (a ++ b)) = _
          rw [hp]
          simp [wr1, hz]
        | att m a =>
          have : addR (.text v) (.att m a :: K) = .text v :: .att m a :: K := by simp [addR, hv]
          rw [this]
          show (match wrR (.att m a :: K) with | none => none | some a => match wr1 (.text v) with | none => none | some b => some (a ++ b)) = _
          rw [hp]
          simp [wr1, hz]
    have endJ : ∀ (v : List UInt8), v ≠ [] → ∀ u K, addR (.text v) L = .text u :: K → u.getLast? = v.getLast? := fun v hv u K e => by
      cases L with
      | nil =>
        have : addR (.text v) [] = [.text v] := by simp [addR, hv]
        rw [this] at e; cases e; rfl
      | cons y M =>
        cases y with
        | text q =>
          have : addR (.text v) (.text q :: M) = .text (q ++ v) :: M := by simp [addR, hv]
          rw [this] at e; cases e
          rw [List.getLast?_append]
          cases hl : v.getLast? with
          | none => exact absurd (List.getLast?_eq_none_iff.1 hl) hv
          | some d => rfl
        | ref m =>
          have : addR (.text v) (.ref m :: M) = .text v :: .ref m :: M := by simp [addR, hv]
          rw [this] at e; cases e; rfl
        | att m a =>
          have : addR (.text v) (.att m a :: M) = .text v :: .att m a :: M := by simp [addR, hv]
          rw [this] at e; cases e; rfl
    by_cases ho : c = 36 ∧ t.head? = some 123
    · obtain ⟨rfl, ht⟩ := ho
      obtain ⟨t', rfl⟩ : ∃ t', t = 123 :: t' := by
        cases t with
        | nil => cases ht
        | cons a b => simp only [List.head?_cons, Option.some.injEq] at ht; exact ⟨b, by rw [ht]⟩
      rw [lexS_open] at h
      cases hc : cutB 125 t' with
      | none => rw [hc] at h; cases h
      | some q =>
        obtain ⟨i, r⟩ := q
        have hl := cutB_len hc
        obtain ⟨ht', hni⟩ := cutB_some hc
        rw [hc] at h
        simp only [List.length_cons] at hn
        simp only at h
        split at h
        · rename_i hi
          obtain ⟨j, rfl⟩ : ∃ j, i = 33 :: j := by
            cases i with
            | nil => cases hi
            | cons a b => simp only [List.head?_cons, Option.some.injEq] at hi; exact ⟨b, by rw [hi]⟩
          have hnj : 125 ∉ j := fun hm => hni (by simp [hm])
          rw [List.tail_cons] at h
          have hwv : wrT (36 :: 123 :: (j ++ [125])) = some (36 :: 123 :: 33 :: (j ++ [125])) := by
            have h0 : cutO (36 :: 123 :: (j ++ [125])) = some ([], j ++ [125]) := rfl
            rw [wrT_some h0, cutB_app [] hnj]
            rfl
          have := wr_back n r _ _ M _ (by omega) h (step (36 :: 123 :: (j ++ [125])) _ (by simp) hwv (fun u K _ _ => by simp)) (fun u K e hu => by
            rw [endJ _ (by simp) u K e] at hu
            exfalso
            rw [show (36 : UInt8) :: 123 :: (j ++ [125]) = (36 :: 123 :: j) ++ [125] by simp, List.getLast?_append] at hu
            simp at hu)
          rw [this, ht']
          simp
        · cases hx : holeP i with
          | none => rw [hx] at h; cases h
          | some x =>
            rw [hx] at h
            simp only at h
            have hxw : wr1 x = some (36 :: 123 :: (i ++ [125])) ∧ addR x L = x :: L ∧ x.isT = false := by
              unfold holeP at hx
              cases h46 : cutB 46 i with
              | none =>
                rw [h46] at hx
                simp only at hx
                split at hx
                · cases hx; exact ⟨rfl, rfl, rfl⟩
                · cases hx
              | some q =>
                obtain ⟨a, b⟩ := q
                rw [h46] at hx
                simp only at hx
                split at hx
                · cases hx
                  refine ⟨?_, rfl, rfl⟩
                  rw [(cutB_some h46).1]; rfl
                · cases hx
            obtain ⟨h1, h2, h3⟩ := hxw
            rw [h2] at h
            have hw : wrR (x :: L) = some (pre ++ 36 :: 123 :: (i ++ [125])) := by
              unfold wrR; rw [hp, h1]
            have := wr_back n r _ _ M _ (by omega) h hw (fun u K e _ => by cases e; cases h3)
            rw [this, ht']
            simp
    · rw [lexS_byte _ _ ho] at h
      have := wr_back n t _ _ M _ (by omega) h (step [c] [c] (by simp) (wr1_one c) (fun u K e hu => by
        have := hj u K e hu
        simpa using this)) (fun u K e hu => by
        rw [endJ _ (by simp) u K e] at hu
        simp only [List.getLast?_singleton, Option.some.injEq] at hu
        exact fun h2 => ho ⟨hu, h2⟩)
      rw [this]
      simp
end Go.Proofs.YtjnoomefppncoaaDoor
