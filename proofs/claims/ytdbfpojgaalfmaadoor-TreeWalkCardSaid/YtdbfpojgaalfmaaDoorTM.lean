/-
  Plain mathematics of trees: size, depth, count; what a small weight says.
-/
import Derived.Test.YtdbfpojgaalfmaaDoorTW
set_option linter.unusedVariables false
namespace Go.Proofs.YtdbfpojgaalfmaaDoor
open Go.RowKit

def keysS (ks : List ByteArray) : Nat := (ks.map ByteArray.size).sum
mutual
/-- Parts and bytes. -/
def sizeV : V → Nat | .mk _ _ _ s l ks => 1 + s.size + keysS ks + sizeVs l
def sizeVs : List V → Nat | [] => 0 | x :: t => sizeV x + sizeVs t
end
mutual
def depthV : V → Nat | .mk _ _ _ _ l _ => 1 + depthVs l
def depthVs : List V → Nat | [] => 0 | x :: t => max (depthV x) (depthVs t)
end
mutual
def countV : V → Nat | .mk _ _ _ _ l _ => 1 + countVs l
def countVs : List V → Nat | [] => 0 | x :: t => countV x + countVs t
end
theorem sizeV_pos (x : V) : 1 ≤ sizeV x := by obtain ⟨_, _, _, _, _, _⟩ := x; unfold sizeV; omega
theorem depthV_pos (x : V) : 1 ≤ depthV x := by obtain ⟨_, _, _, _, _, _⟩ := x; unfold depthV; omega
theorem sizeVs_get : ∀ (l : List V) (j : Nat) (h : j < l.length), sizeV l[j] ≤ sizeVs l
  | x :: t, 0, _ => by simp [sizeVs]
  | x :: t, j + 1, h => by
    have := sizeVs_get t j (by simpa using h)
    simp only [sizeVs, List.getElem_cons_succ]; omega
theorem depthVs_get : ∀ (l : List V) (j : Nat) (h : j < l.length), depthV l[j] ≤ depthVs l
  | x :: t, 0, _ => by simp only [depthVs, List.getElem_cons_zero]; omega
  | x :: t, j + 1, h => by
    have := depthVs_get t j (by simpa using h)
    simp only [depthVs, List.getElem_cons_succ]; omega
theorem sizeVs_app (a b : List V) : sizeVs (a ++ b) = sizeVs a + sizeVs b := by
  induction a with
  | nil => simp [sizeVs]
  | cons x t ih => simp only [List.cons_append, sizeVs, ih]; omega
theorem countVs_app (a b : List V) : countVs (a ++ b) = countVs a + countVs b := by
  induction a with
  | nil => simp [countVs]
  | cons x t ih => simp only [List.cons_append, countVs, ih]; omega
theorem depthVs_app (a b : List V) : depthVs (a ++ b) = max (depthVs a) (depthVs b) := by
  induction a with
  | nil => simp [depthVs]
  | cons x t ih => simp only [List.cons_append, depthVs, ih]; omega
theorem countVs_snoc (l : List V) (j : Nat) (h : j < l.length) : countVs (l.take (j + 1)) = countVs (l.take j) + countV l[j] := by
  rw [List.take_succ_eq_append_getElem h, countVs_app]; simp [countVs]
theorem depthVs_snoc (l : List V) (j : Nat) (h : j < l.length) : depthVs (l.take (j + 1)) = max (depthVs (l.take j)) (depthV l[j]) := by
  rw [List.take_succ_eq_append_getElem h, depthVs_app]; simp [depthVs]
theorem sizeVs_len (l : List V) : l.length ≤ sizeVs l := by
  induction l with
  | nil => simp [sizeVs]
  | cons x t ih => have := sizeV_pos x; simp only [sizeVs, List.length_cons]; omega
mutual
theorem count_le_size : ∀ x : V, countV x ≤ sizeV x
  | .mk _ _ _ s l ks => by have := counts_le_size l; unfold countV sizeV; omega
theorem counts_le_size : ∀ l : List V, countVs l ≤ sizeVs l
  | [] => by simp [countVs, sizeVs]
  | x :: t => by have h1 := count_le_size x; have h2 := counts_le_size t; simp only [countVs, sizeVs]; omega
end
theorem countVs_take_le (l : List V) (j : Nat) : countVs (l.take j) ≤ countVs l := by
  conv => rhs; rw [← List.take_append_drop j l, countVs_app]
  omega

theorem fold_ge (g : V → Nat) : ∀ (l : List V) (n : Nat), n ≤ l.foldl (fun n y => if n ≤ 10000 then n + g y else n) n
  | [], n => Nat.le_refl _
  | y :: t, n => by
    rw [List.foldl_cons]
    refine Nat.le_trans ?_ (fold_ge g t _)
    split <;> omega
theorem fold_small (g : V → Nat) : ∀ (l : List V) (n : Nat), l.foldl (fun n y => if n ≤ 10000 then n + g y else n) n ≤ 5000 → l.foldl (fun n y => if n ≤ 10000 then n + g y else n) n = n + (l.map g).sum
  | [], n, _ => by simp
  | y :: t, n, h => by
    rw [List.foldl_cons] at h ⊢
    have hn : n ≤ 10000 := by
      by_cases h1 : n ≤ 10000
      · exact h1
      · rw [if_neg h1] at h
        have := fold_ge g t n; omega
    rw [if_pos hn] at h ⊢
    rw [fold_small g t _ h, List.map_cons, List.sum_cons]; omega
theorem mem_sum_le (g : V → Nat) : ∀ (l : List V) (y : V), y ∈ l → g y ≤ (l.map g).sum
  | x :: t, y, h => by
    rw [List.map_cons, List.sum_cons]
    rcases List.mem_cons.1 h with rfl | h
    · omega
    · have := mem_sum_le g t y h; omega
theorem keys_small : ∀ (ks : List ByteArray), keysN ks ≤ 5000 → keysS ks = keysN ks
  | [], _ => rfl
  | k :: t, h => by
    simp only [keysN, keysS, List.map_cons, List.sum_cons] at h ⊢
    have := keys_small t (by simp only [keysN]; omega)
    simp only [keysN, keysS] at this
    omega
theorem sizeVs_sum (g : V → Nat) : ∀ (l : List V), (∀ y ∈ l, sizeV y ≤ g y) → sizeVs l ≤ (l.map g).sum
  | [], _ => by simp [sizeVs]
  | x :: t, h => by
    have h1 := h x List.mem_cons_self
    have h2 := sizeVs_sum g t (fun y hy => h y (List.mem_cons_of_mem _ hy))
    rw [List.map_cons, List.sum_cons]; simp only [sizeVs]; omega
theorem depthVs_le (n : Nat) : ∀ (l : List V), (∀ y ∈ l, depthV y ≤ n) → depthVs l ≤ n
  | [], _ => by simp [depthVs]
  | x :: t, h => by
    have h1 := h x List.mem_cons_self
    have h2 := depthVs_le n t (fun y hy => h y (List.mem_cons_of_mem _ hy))
    simp only [depthVs]; omega
/-- What the reference calls not great: few parts and bytes, not deep. -/
theorem wt_small : ∀ (left : Nat) (x : V), wtV left x ≤ 5000 → sizeV x ≤ wtV left x ∧ depthV x ≤ left
  | 0, x, h => by unfold wtV at h; omega
  | left + 1, x, h => by
    obtain ⟨k, b, n, s, l, ks⟩ := x
    unfold wtV at h ⊢
    split at h
    · omega
    · rename_i hc
      rw [if_neg hc]
      simp only [V.list, V.text, V.keys] at h ⊢
      have hf := fold_small (wtV left) l _ h
      rw [hf] at h ⊢
      have hks := keys_small ks (by omega)
      have hy : ∀ y ∈ l, sizeV y ≤ wtV left y ∧ depthV y ≤ left := fun y hy => wt_small left y (by have := mem_sum_le (wtV left) l y hy; omega)
      have h1 := sizeVs_sum (wtV left) l (fun y hm => (hy y hm).1)
      have h2 := depthVs_le left l (fun y hm => (hy y hm).2)
      unfold sizeV depthV
      omega
end Go.Proofs.YtdbfpojgaalfmaaDoor
