/-
  The statement SubJoin.
-/
import Derived.Test.YtjnoomefppncoaaDoorLm
import Derived.Test.YtjnoomefppncoaaDoorLk
import Derived.Test.YtjnoomefppncoaaDoorPl2
set_option linter.unusedVariables false
namespace Go.Proofs.YtjnoomefppncoaaDoor
open Go.RowKit Go.Shelf

theorem ans_join (s t : List UInt8) (hs : s.length ≤ 1000) (ht : t.length ≤ 1000) (hl : s.getLast? ≠ some 36) (L : List X) (hv : Lib.validD s = true) (hR : lexS s 0 [] = .inr L) :
    (ansL t = ([], 0, 10)) ∨ (∃ r, r ≤ 1000 ∧ ansL t = ([], r, 130) ∧ ansL (s ++ t) = ([], r + s.length, 130)) ∨ (∃ N, nice N ∧ N.length ≤ 1000 ∧ ansL t = (N.reverse, 0, 0) ∧ ansL (s ++ t) = ((N.foldr addR L).reverse, 0, 0)) := by
  cases hvt : Lib.validD t with
  | false => exact .inl (by unfold ansL; rw [if_pos hvt])
  | true =>
    have h1 : ansL t = match lexS t 0 [] with | .inl p => ([], p, 130) | .inr L => (L.reverse, 0, 0) := by
      unfold ansL; rw [if_neg (by rw [hvt]; simp), if_neg (by omega)]; rfl
    have hst : Lib.validD (s ++ t) = true := by rw [valid_append t hv]; exact hvt
    have h2 : ansL (s ++ t) = match lexS (s ++ t) 0 [] with | .inl p => ([], p, 130) | .inr L => (L.reverse, 0, 0) := by
      unfold ansL; rw [if_neg (by rw [hst]; simp), if_neg (by rw [List.length_append]; omega)]; rfl
    have h3 := lexS_app s.length s t 0 [] L (Nat.le_refl _) hl hR
    have h4 := lexS_shift t.length t 0 s.length [] L (Nat.le_refl _)
    rw [List.foldr_nil] at h4
    rw [h3, h4] at h2
    cases hT : lexS t 0 [] with
    | inl r =>
      rw [hT] at h1 h2
      have := lexS_pos t.length t 0 r [] (Nat.le_refl _) hT
      exact .inr (.inl ⟨r, by omega, h1, h2⟩)
    | inr N =>
      rw [hT] at h1 h2
      have hb := lexS_bound t.length t 0 [] N (Nat.le_refl _) hT
      exact .inr (.inr ⟨N, nice_lex t.length t 0 [] N (Nat.le_refl _) trivial hT, by simp at hb; omega, h1, h2⟩)

/-- What the law has joined after i parts, the last one first. -/
def joinW (N L : List X) (i : Nat) : List X := ((N.reverse.take i).reverse).foldr addR L
theorem joinW_zero (N L : List X) : joinW N L 0 = L := by simp [joinW]
theorem joinW_all (N L : List X) (i : Nat) (h : i = N.length) : joinW N L i = N.foldr addR L := by
  unfold joinW
  rw [List.take_of_length_le (by rw [List.length_reverse]; omega), List.reverse_reverse]
theorem joinW_succ (N L : List X) (i : Nat) (h : i < N.reverse.length) : joinW N L (i + 1) = addR N.reverse[i] (joinW N L i) := by
  unfold joinW
  rw [List.take_succ_eq_append_getElem h, List.reverse_append, List.reverse_cons, List.reverse_nil, List.nil_append, List.cons_append, List.nil_append, List.foldr_cons]
theorem joinW_len (N L : List X) : ∀ i, (joinW N L i).length ≤ L.length + i
  | 0 => by rw [joinW_zero]; omega
  | i + 1 => by
    have ih := joinW_len N L i
    by_cases h : i < N.reverse.length
    · rw [joinW_succ N L i h]
      have := (addR_len N.reverse[i] (joinW N L i)).1
      omega
    · have : joinW N L (i + 1) = joinW N L i := by
        unfold joinW
        rw [List.take_of_length_le (by omega), List.take_of_length_le (by omega)]
      rw [this]; omega
theorem nice_rev (N : List X) (hn : nice N) (i : Nat) (h : i + 1 < N.reverse.length) (hT : N.reverse[i + 1].isT = true) : N.reverse[i].isT = false := by
  simp only [List.length_reverse] at h
  simp only [List.getElem_reverse] at hT ⊢
  have hi : N.length - 1 - i = (N.length - 1 - (i + 1)) + 1 := by omega
  have := nice_get N (N.length - 1 - (i + 1)) (by omega) hn hT
  simp only [hi]
  exact this
theorem nice_mem : ∀ {N : List X}, nice N → ∀ x ∈ N, x.isT = true → x.t ≠ []
  | [], _, x, hx, _ => by cases hx
  | y :: N, h, x, hx, hT => by
    rcases List.mem_cons.1 hx with rfl | hx
    · exact (h.1 hT).1
    · exact nice_mem h.2 x hx hT
theorem addR_cons (x : X) (L : List X) (hx : x.isT = true → x.t ≠ [] ∧ ∀ y, L.head? = some y → y.isT = false) : addR x L = x :: L := by
  cases x with
  | ref m => rfl
  | att m a => rfl
  | text t =>
    obtain ⟨h1, h2⟩ := hx rfl
    have h1' : t ≠ [] := h1
    cases L with
    | nil => simp [addR, h1']
    | cons y M =>
      have := h2 y rfl
      cases y with
      | text u => cases this
      | ref m => simp [addR, h1']
      | att m a => simp [addR, h1']
/-- Behind the first part, a part is just put behind. -/
theorem joinW_more (N L : List X) (hn : nice N) (i : Nat) (h : i + 1 < N.reverse.length) : joinW N L (i + 1 + 1) = N.reverse[i + 1] :: joinW N L (i + 1) := by
  rw [joinW_succ N L (i + 1) h]
  refine addR_cons _ _ fun hT => ⟨nice_mem hn _ (by rw [← List.mem_reverse]; exact List.getElem_mem _) hT, fun y hy => ?_⟩
  have hp := nice_rev N hn i h hT
  rw [joinW_succ N L i (by omega)] at hy
  have : addR N.reverse[i] (joinW N L i) = N.reverse[i] :: joinW N L i := addR_cons _ _ (fun e => by rw [hp] at e; cases e)
  rw [this] at hy
  simp only [List.head?_cons, Option.some.injEq] at hy
  rw [← hy]; exact hp

theorem news_cs (x : X) {w : World} {t : TypeId} : ∀ j u, x.cs[j]? = some u → (w.alloc (.cells #[.int .i8 x.k, .string (bs x.t), .int .i64 0, .string (bs x.m), .string (bs x.a), .slice none 0 0] t)).cell? ((⟨w.heap.size, 0, none⟩ : Addr).add j) = some u := fun j u hj => by
  have e : (⟨w.heap.size, 0, none⟩ : Addr).add j = ⟨w.heap.size, j, none⟩ := by unfold Addr.add; split <;> simp_all
  rw [e, cell_of_row _ _ j _ _ (0, 0) (heap_alloc_new w _), ← Array.getElem?_toList]
  exact hj
theorem ones_cs (x : X) : ∀ u ∈ x.cs, u.oneCell' = true := by
  intro u hu
  simp only [X.cs, List.mem_cons, List.not_mem_nil, or_false] at hu
  rcases hu with rfl | rfl | rfl | rfl | rfl | rfl <;> rfl
theorem xcells_one : ∀ (l : List X), ∀ u ∈ xcells l, u.oneCell' = true
  | [], u, hu => by simp [xcells] at hu
  | x :: t, u, hu => by
    have : xcells (x :: t) = x.cs ++ xcells t := rfl
    rw [this] at hu
    rcases List.mem_append.1 hu with h | h
    · exact ones_cs x u h
    · exact xcells_one t u h
end Go.Proofs.YtjnoomefppncoaaDoor
