/-
  How much there is in a value: the reference's weight and Great. · Plain mathematics of trees: size, depth, count; what a small weight says. · Contracts of the reference's Great, Count, Depth, deeper, Text, Num. · The contract of the reference's Same: it tells whether two values are the same tree.
-/
import Derived.Test.YtgbagdfcdljleaaGreatDoorGA
import Derived.Lib.Strings
import Derived.StillTailTactics
set_option linter.unusedVariables false
set_option linter.unusedSimpArgs false
namespace Go.Proofs.YtgbagdfcdljleaaGreatDoor.Tr
open Go.RowKit

def KB (w w' : World) : Prop := Below w.heap.size w w'
def keysN (ks : List ByteArray) : Nat := (ks.map fun k => min k.size 10000).sum
/-- How much there is, far at once where it is too deep: the reference's weight. -/
def wtV : Nat → V → Nat
  | 0, _ => 10000
  | left + 1, x => if 3000 < x.list.length ∨ 3000 < x.keys.length then 10000 else
      x.list.foldl (fun n y => if n ≤ 10000 then n + wtV left y else n) (1 + min x.text.size 10000 + keysN x.keys)
theorem sum_le : ∀ (l : List Nat) (B : Nat), (∀ x ∈ l, x ≤ B) → l.sum ≤ l.length * B
  | [], _, _ => by simp
  | x :: t, B, h => by
    have h1 := sum_le t B (fun y hy => h y (List.mem_cons_of_mem _ hy))
    have h2 := h x List.mem_cons_self
    rw [List.sum_cons, List.length_cons, Nat.add_mul]; omega
theorem keysN_le (ks : List ByteArray) (h : ks.length ≤ 3000) : keysN ks ≤ 30000000 := by
  unfold keysN
  have := sum_le (ks.map fun k => min k.size 10000) 10000 (fun x hx => by
    obtain ⟨k, _, rfl⟩ := List.mem_map.1 hx
    omega)
  rw [List.length_map] at this
  have h2 := Nat.mul_le_mul_right 10000 h
  omega
theorem fold_le (g : V → Nat) (B : Nat) (hg : ∀ y, g y ≤ B) : ∀ (l : List V) (n M : Nat), n ≤ M → 10000 + B ≤ M → l.foldl (fun n y => if n ≤ 10000 then n + g y else n) n ≤ M
  | [], n, M, h, _ => h
  | y :: t, n, M, h, hM => by
    rw [List.foldl_cons]
    refine fold_le g B hg t _ M ?_ hM
    split
    · have := hg y; omega
    · exact h
theorem wtV_le : ∀ (left : Nat) (x : V), wtV left x ≤ 30010001 + 10000 * left
  | 0, x => by unfold wtV; omega
  | left + 1, x => by
    unfold wtV
    split
    · omega
    · rename_i h
      have hk := keysN_le x.keys (by omega)
      exact fold_le (wtV left) _ (wtV_le left) x.list _ _ (by omega) (by omega)

theorem fold_stop (g : V → Nat) : ∀ (l : List V) (n : Nat), 10000 < n → l.foldl (fun n y => if n ≤ 10000 then n + g y else n) n = n
  | [], n, _ => rfl
  | y :: t, n, h => by
    rw [List.foldl_cons, if_neg (by omega)]
    exact fold_stop g t n h
theorem keysN_snoc (ks : List ByteArray) (k : Nat) (h : k < ks.length) : keysN (ks.take (k + 1)) = keysN (ks.take k) + min ks[k].size 10000 := by
  unfold keysN
  rw [List.take_succ_eq_append_getElem h, List.map_append, List.sum_append]
  simp
theorem foldT_snoc (g : V → Nat) (l : List V) (n k : Nat) (h : k < l.length) (hn : (l.take k).foldl (fun n y => if n ≤ 10000 then n + g y else n) n ≤ 10000) :
    (l.take (k + 1)).foldl (fun n y => if n ≤ 10000 then n + g y else n) n = (l.take k).foldl (fun n y => if n ≤ 10000 then n + g y else n) n + g l[k] := by
  rw [List.take_succ_eq_append_getElem h, List.foldl_append, List.foldl_cons, List.foldl_nil, if_pos hn]
theorem foldT_all (g : V → Nat) (l : List V) (n k : Nat) (h : l.length ≤ k ∨ 10000 < (l.take k).foldl (fun n y => if n ≤ 10000 then n + g y else n) n) :
    l.foldl (fun n y => if n ≤ 10000 then n + g y else n) n = (l.take k).foldl (fun n y => if n ≤ 10000 then n + g y else n) n := by
  rcases h with h | h
  · rw [List.take_of_length_le h]
  · conv => lhs; rw [← List.take_append_drop k l, List.foldl_append]
    exact fold_stop g _ _ h

end Go.Proofs.YtgbagdfcdljleaaGreatDoor.Tr

namespace Go.Proofs.YtgbagdfcdljleaaGreatDoor.Tr
open Go.RowKit

def keysS (ks : List ByteArray) : Nat := (ks.map ByteArray.size).sum
mutual
/-- Parts and bytes. -/
def sizeV : V → Nat | .mk _ _ _ s l ks => 1 + s.size + keysS ks + sizeVs l
def sizeVs : List V → Nat | [] => 0 | x :: t => sizeV x + sizeVs t
end
mutual
def depthV : V → Nat | .mk _ _ _ _ l _ => 1 + depthVs l
def depthVs : List V → Nat | [] => 0 | x :: t => max (depthV x) (depthVs t)
end
mutual
def countV : V → Nat | .mk _ _ _ _ l _ => 1 + countVs l
def countVs : List V → Nat | [] => 0 | x :: t => countV x + countVs t
end
theorem sizeV_pos (x : V) : 1 ≤ sizeV x := by obtain ⟨_, _, _, _, _, _⟩ := x; unfold sizeV; omega
theorem depthV_pos (x : V) : 1 ≤ depthV x := by obtain ⟨_, _, _, _, _, _⟩ := x; unfold depthV; omega
theorem sizeVs_get : ∀ (l : List V) (j : Nat) (h : j < l.length), sizeV l[j] ≤ sizeVs l
  | x :: t, 0, _ => by simp [sizeVs]
  | x :: t, j + 1, h => by
    have := sizeVs_get t j (by simpa using h)
    simp only [sizeVs, List.getElem_cons_succ]; omega
theorem depthVs_get : ∀ (l : List V) (j : Nat) (h : j < l.length), depthV l[j] ≤ depthVs l
  | x :: t, 0, _ => by simp only [depthVs, List.getElem_cons_zero]; omega
  | x :: t, j + 1, h => by
    have := depthVs_get t j (by simpa using h)
    simp only [depthVs, List.getElem_cons_succ]; omega
theorem sizeVs_app (a b : List V) : sizeVs (a ++ b) = sizeVs a + sizeVs b := by
  induction a with
  | nil => simp [sizeVs]
  | cons x t ih => simp only [List.cons_append, sizeVs, ih]; omega
theorem countVs_app (a b : List V) : countVs (a ++ b) = countVs a + countVs b := by
  induction a with
  | nil => simp [countVs]
  | cons x t ih => simp only [List.cons_append, countVs, ih]; omega
theorem depthVs_app (a b : List V) : depthVs (a ++ b) = max (depthVs a) (depthVs b) := by
  induction a with
  | nil => simp [depthVs]
  | cons x t ih => simp only [List.cons_append, depthVs, ih]; omega
theorem countVs_snoc (l : List V) (j : Nat) (h : j < l.length) : countVs (l.take (j + 1)) = countVs (l.take j) + countV l[j] := by
  rw [List.take_succ_eq_append_getElem h, countVs_app]; simp [countVs]
theorem depthVs_snoc (l : List V) (j : Nat) (h : j < l.length) : depthVs (l.take (j + 1)) = max (depthVs (l.take j)) (depthV l[j]) := by
  rw [List.take_succ_eq_append_getElem h, depthVs_app]; simp [depthVs]
theorem sizeVs_len (l : List V) : l.length ≤ sizeVs l := by
  induction l with
  | nil => simp [sizeVs]
  | cons x t ih => have := sizeV_pos x; simp only [sizeVs, List.length_cons]; omega
mutual
theorem count_le_size : ∀ x : V, countV x ≤ sizeV x
  | .mk _ _ _ s l ks => by have := counts_le_size l; unfold countV sizeV; omega
theorem counts_le_size : ∀ l : List V, countVs l ≤ sizeVs l
  | [] => by simp [countVs, sizeVs]
  | x :: t => by have h1 := count_le_size x; have h2 := counts_le_size t; simp only [countVs, sizeVs]; omega
end
theorem countVs_take_le (l : List V) (j : Nat) : countVs (l.take j) ≤ countVs l := by
  conv => rhs; rw [← List.take_append_drop j l, countVs_app]
  omega

theorem fold_ge (g : V → Nat) : ∀ (l : List V) (n : Nat), n ≤ l.foldl (fun n y => if n ≤ 10000 then n + g y else n) n
  | [], n => Nat.le_refl _
  | y :: t, n => by
    rw [List.foldl_cons]
    refine Nat.le_trans ?_ (fold_ge g t _)
    split <;> omega
theorem fold_small (g : V → Nat) : ∀ (l : List V) (n : Nat), l.foldl (fun n y => if n ≤ 10000 then n + g y else n) n ≤ 5000 → l.foldl (fun n y => if n ≤ 10000 then n + g y else n) n = n + (l.map g).sum
  | [], n, _ => by simp
  | y :: t, n, h => by
    rw [List.foldl_cons] at h ⊢
    have hn : n ≤ 10000 := by
      by_cases h1 : n ≤ 10000
      · exact h1
      · rw [if_neg h1] at h
        have := fold_ge g t n; omega
    rw [if_pos hn] at h ⊢
    rw [fold_small g t _ h, List.map_cons, List.sum_cons]; omega
theorem mem_sum_le (g : V → Nat) : ∀ (l : List V) (y : V), y ∈ l → g y ≤ (l.map g).sum
  | x :: t, y, h => by
    rw [List.map_cons, List.sum_cons]
    rcases List.mem_cons.1 h with rfl | h
    · omega
    · have := mem_sum_le g t y h; omega
theorem keys_small : ∀ (ks : List ByteArray), keysN ks ≤ 5000 → keysS ks = keysN ks
  | [], _ => rfl
  | k :: t, h => by
    simp only [keysN, keysS, List.map_cons, List.sum_cons] at h ⊢
    have := keys_small t (by simp only [keysN]; omega)
    simp only [keysN, keysS] at this
    omega
theorem sizeVs_sum (g : V → Nat) : ∀ (l : List V), (∀ y ∈ l, sizeV y ≤ g y) → sizeVs l ≤ (l.map g).sum
  | [], _ => by simp [sizeVs]
  | x :: t, h => by
    have h1 := h x List.mem_cons_self
    have h2 := sizeVs_sum g t (fun y hy => h y (List.mem_cons_of_mem _ hy))
    rw [List.map_cons, List.sum_cons]; simp only [sizeVs]; omega
theorem depthVs_le (n : Nat) : ∀ (l : List V), (∀ y ∈ l, depthV y ≤ n) → depthVs l ≤ n
  | [], _ => by simp [depthVs]
  | x :: t, h => by
    have h1 := h x List.mem_cons_self
    have h2 := depthVs_le n t (fun y hy => h y (List.mem_cons_of_mem _ hy))
    simp only [depthVs]; omega
/-- What the reference calls not great: few parts and bytes, not deep. -/
theorem wt_small : ∀ (left : Nat) (x : V), wtV left x ≤ 5000 → sizeV x ≤ wtV left x ∧ depthV x ≤ left
  | 0, x, h => by unfold wtV at h; omega
  | left + 1, x, h => by
    obtain ⟨k, b, n, s, l, ks⟩ := x
    unfold wtV at h ⊢
    split at h
    · omega
    · rename_i hc
      rw [if_neg hc]
      simp only [V.list, V.text, V.keys] at h ⊢
      have hf := fold_small (wtV left) l _ h
      rw [hf] at h ⊢
      have hks := keys_small ks (by omega)
      have hy : ∀ y ∈ l, sizeV y ≤ wtV left y ∧ depthV y ≤ left := fun y hy => wt_small left y (by have := mem_sum_le (wtV left) l y hy; omega)
      have h1 := sizeVs_sum (wtV left) l (fun y hm => (hy y hm).1)
      have h2 := depthVs_le left l (fun y hm => (hy y hm).2)
      unfold sizeV depthV
      omega
end Go.Proofs.YtgbagdfcdljleaaGreatDoor.Tr

namespace Go.Proofs.YtgbagdfcdljleaaGreatDoor.Tr
open Go.RowKit

theorem kbA {w : World} {o : Obj} : KB w (w.alloc o) := (Below.refl _ _).alloc (Nat.le_refl _) _
theorem Calls.kb {f : Nat} {args : Array Value} {w0 w : World} {v : Value} (hK : KB w0 w) (h : Calls Tryz.prog f args w fun e w' => e = .returned v ∧ Below w.heap.size w w') : Calls Tryz.prog f args w fun e w' => e = .returned v ∧ KB w0 w' :=
  h.mono fun _ _ ⟨he, hb⟩ => ⟨he, Below.trans hK (hb.mono hK.size)⟩
/-- Is it great? -/
def greatB (x : V) : Bool := decide (5000 < wtV 30 x)
theorem great_no {x : V} (h : greatB x = false) : sizeV x ≤ 5000 ∧ depthV x ≤ 30 := by
  have h1 : ¬ 5000 < wtV 30 x := of_decide_eq_false h
  have := wt_small 30 x (by omega)
  omega
/-- Is it deeper than so many levels? -/
def deepB (x : V) (n : Nat) : Bool := decide (n < depthV x)
theorem depthVs_gt {l : List V} {n : Nat} (h : n < depthVs l) : ∃ y ∈ l, n < depthV y := by
  refine Classical.byContradiction fun hc => ?_
  have := depthVs_le n l (fun y hy => by
    refine Classical.byContradiction fun h2 => hc ⟨y, hy, by omega⟩)
  omega
end Go.Proofs.YtgbagdfcdljleaaGreatDoor.Tr

namespace Go.Proofs.YtgbagdfcdljleaaGreatDoor.Tr
open Go.RowKit

/-- The same tree? -/
noncomputable def sm (x y : V) : Bool := @decide (x = y) (Classical.propDecidable _)
theorem sm_yes {x y : V} (h : x = y) : sm x y = true := @decide_eq_true _ (Classical.propDecidable _) h
theorem sm_no {x y : V} (h : x ≠ y) : sm x y = false := @decide_eq_false _ (Classical.propDecidable _) h
theorem sm_eq {x y : V} (h : sm x y = true) : x = y := @of_decide_eq_true _ (Classical.propDecidable _) h
theorem sm_ne {x y : V} (h : sm x y = false) : x ≠ y := @of_decide_eq_false _ (Classical.propDecidable _) h
theorem KB.two {w : World} {o o' : Obj} : Below w.heap.size w ((w.alloc o).alloc o') := ((Below.refl _ _).alloc (Nat.le_refl _) _).alloc (by simp) _
theorem beq_toList {S T : ByteArray} (h : S ≠ T) : (S.toList == T.toList) = false := by
  rw [beq_eq_false_iff_ne]
  intro e
  rw [Lib.toList_data, Lib.toList_data] at e
  exact h (ByteArray.ext (by simpa using congrArg List.toArray e))
theorem drewB (n : Nat) (w : World) (m : Nat) : Below n w (w.drewN m) := ⟨rfl, rfl, rfl, Nat.le_refl _, fun _ _ => rfl⟩
theorem drewB1 (n : Nat) (w : World) : Below n w w.drew := ⟨rfl, rfl, rfl, Nat.le_refl _, fun _ _ => rfl⟩
theorem beqI {a b : Int} (h : a ≠ b) : (a == b) = false := by rw [beq_eq_false_iff_ne]; exact h
theorem beqB {a b : Bool} (h : a ≠ b) : (a == b) = false := by rw [beq_eq_false_iff_ne]; exact h

set_option maxRecDepth 100000 in
set_option maxHeartbeats 8000000 in
theorem same_any : ∀ (N : Nat) (x y : V) (v v' : Value) (w : World), sizeV x ≤ N → isV w x v → isV w y v' →
    Calls Tryz.prog 10 #[v, v'] w fun e w' => e = .returned (.bool (sm x y)) ∧ Below w.heap.size w w'
  | 0, x, y, v, v', w, hN, h, h' => absurd (sizeV_pos x) (by omega)
  | N + 1, x, y, v, v', w, hN, h, h' => by
    obtain ⟨k, b, n, s, l, ks⟩ := x
    obtain ⟨k', b', n', s', l', ks'⟩ := y
    unfold isV at h h'
    obtain ⟨lv, kv, rfl, hk, hn, hs, ⟨a, cap, ⟨o, rfl, hc1, hc2, ho⟩, hvs⟩, ⟨a2, cap2, ⟨o2, rfl, hc3, hc4, ho2⟩, hks⟩⟩ := h
    obtain ⟨lv, kv, rfl, hk', hn', hs', ⟨a', cap', ⟨o', rfl, hc1', hc2', ho'⟩, hvs'⟩, ⟨a2', cap2', ⟨o2', rfl, hc3', hc4', ho2'⟩, hks'⟩⟩ := h'
    unfold maxLen at hs hc2 hc4 hs' hc2' hc4'
    clear hk hn hk' hn'
    have hsz : sizeV (.mk k b n s l ks) = 1 + s.size + keysS ks + sizeVs l := by rw [sizeV]
    have hSL : sizeVs l ≤ N := by omega
    clear hsz hN
    by_cases q1 : k ≠ k'
    · have HN : Hid (sm (.mk k b n s l ks) (.mk k' b' n' s' l' ks') = false) := Lib.hid (sm_no (fun e => by injection e; contradiction))
      have f1 := beqI q1
      have f2 : (k != k') = true := bne_iff_ne.2 q1
      clear q1 hvs hvs' hks hks' ho ho' ho2 ho2'
      go_enter Tryz.func10, Tryz.ntmps10
      go_wp2_with fail
      go_ret
      exact ⟨by rw [HN.out]; rfl, KB.two⟩
    obtain rfl : k = k' := Decidable.not_not.1 q1
    by_cases q2 : b ≠ b'
    · have HN : Hid (sm (.mk k b n s l ks) (.mk k b' n' s' l' ks') = false) := Lib.hid (sm_no (fun e => by injection e; contradiction))
      have f1 := beqB q2
      have f2 : (b != b') = true := bne_iff_ne.2 q2
      clear q1 q2 hvs hvs' hks hks' ho ho' ho2 ho2'
      go_enter Tryz.func10, Tryz.ntmps10
      go_wp2_with fail
      go_ret
      exact ⟨by rw [HN.out]; rfl, KB.two⟩
    obtain rfl : b = b' := Decidable.not_not.1 q2
    by_cases q3 : n ≠ n'
    · have HN : Hid (sm (.mk k b n s l ks) (.mk k b n' s' l' ks') = false) := Lib.hid (sm_no (fun e => by injection e; contradiction))
      have f1 := beqI q3
      have f2 : (n != n') = true := bne_iff_ne.2 q3
      clear q1 q2 q3 hvs hvs' hks hks' ho ho' ho2 ho2'
      go_enter Tryz.func10, Tryz.ntmps10
      go_wp2_with fail
      go_ret
      exact ⟨by rw [HN.out]; rfl, KB.two⟩
    obtain rfl : n = n' := Decidable.not_not.1 q3
    by_cases q4 : s ≠ s'
    · have HN : Hid (sm (.mk k b n s l ks) (.mk k b n s' l' ks') = false) := Lib.hid (sm_no (fun e => by injection e; contradiction))
      have f1 := beq_toList q4
      clear q1 q2 q3 q4 hvs hvs' hks hks' ho ho' ho2 ho2'
      go_enter Tryz.func10, Tryz.ntmps10
      go_wp2_with fail
      go_ret
      exact ⟨by rw [HN.out]; rfl, KB.two⟩
    obtain rfl : s = s' := Classical.not_not.1 q4
    by_cases q5 : l.length ≠ l'.length
    · have HN : Hid (sm (.mk k b n s l ks) (.mk k b n s l' ks') = false) := Lib.hid (sm_no (fun e => by injection e; subst_vars; contradiction))
      have f1 : ((l.length : Int) == (l'.length : Int)) = false := beqI (by omega)
      have f2 : ((l.length : Int) != (l'.length : Int)) = true := bne_iff_ne.2 (by omega)
      clear q1 q2 q3 q4 q5 hvs hvs' hks hks' ho ho' ho2 ho2'
      go_enter Tryz.func10, Tryz.ntmps10
      go_wp2_with fail
      go_ret
      exact ⟨by rw [HN.out]; rfl, KB.two⟩
    have q5' : l'.length = l.length := (Decidable.not_not.1 q5).symm
    by_cases q6 : ks.length ≠ ks'.length
    · have HN : Hid (sm (.mk k b n s l ks) (.mk k b n s l' ks') = false) := Lib.hid (sm_no (fun e => by injection e; subst_vars; contradiction))
      have f1 : ((ks.length : Int) == (ks'.length : Int)) = false := beqI (by omega)
      have f2 : ((ks.length : Int) != (ks'.length : Int)) = true := bne_iff_ne.2 (by omega)
      clear q1 q2 q3 q4 q5 q6 hvs hvs' hks hks' ho ho' ho2 ho2'
      go_enter Tryz.func10, Tryz.ntmps10
      go_wp2_with fail
      go_ret
      exact ⟨by rw [HN.out]; rfl, KB.two⟩
    have q6' : ks'.length = ks.length := (Decidable.not_not.1 q6).symm
    rw [q5'] at hc1' ho' ⊢
    rw [q6'] at hc3' ho2' ⊢
    have HKA : Hid (∀ (i : Nat) (h : i < ks.length), ((w.alloc (.cells #[.int .i8 k, .bool b, .int .i64 n, .string s, .slice o l.length cap, .slice o2 ks.length cap2] 28)).alloc (.cells #[.int .i8 k, .bool b, .int .i64 n, .string s, .slice o' l.length cap', .slice o2' ks.length cap2'] 28)).cell? (a2.add i) = some (.string ks[i]) ∧ ks[i].size ≤ maxLen) := Lib.hid (fun i h => ⟨cell_below KB.two _ _ (hks i h).1, (hks i h).2⟩)
    have HKB : Hid (∀ (i : Nat) (h : i < ks'.length), ((w.alloc (.cells #[.int .i8 k, .bool b, .int .i64 n, .string s, .slice o l.length cap, .slice o2 ks.length cap2] 28)).alloc (.cells #[.int .i8 k, .bool b, .int .i64 n, .string s, .slice o' l.length cap', .slice o2' ks.length cap2'] 28)).cell? (a2'.add i) = some (.string ks'[i]) ∧ ks'[i].size ≤ maxLen) := Lib.hid (fun i h => ⟨cell_below KB.two _ _ (hks' i h).1, (hks' i h).2⟩)
    have HVA := Lib.hid hvs
    have HVB := Lib.hid hvs'
    have Q5 := Lib.hid q5'
    have Q6 := Lib.hid q6'
    clear q1 q2 q3 q4 q5 q6 q5' q6' hks hks' hvs hvs'
    go_enter Tryz.func10, Tryz.ntmps10
    go_wp2_with fail
    have hB0 : KB w ((w.alloc (.cells #[.int .i8 k, .bool b, .int .i64 n, .string s, .slice o l.length cap, .slice o2 ks.length cap2] 28)).alloc (.cells #[.int .i8 k, .bool b, .int .i64 n, .string s, .slice o' l.length cap', .slice o2' ks.length cap2'] 28)) := KB.two
    have h4 : ((w.alloc (.cells #[.int .i8 k, .bool b, .int .i64 n, .string s, .slice o l.length cap, .slice o2 ks.length cap2] 28)).alloc (.cells #[.int .i8 k, .bool b, .int .i64 n, .string s, .slice o' l.length cap', .slice o2' ks.length cap2'] 28)).cell? ⟨w.heap.size, 4, none⟩ = some (.slice o l.length cap) := by simp
    have h4' : ((w.alloc (.cells #[.int .i8 k, .bool b, .int .i64 n, .string s, .slice o l.length cap, .slice o2 ks.length cap2] 28)).alloc (.cells #[.int .i8 k, .bool b, .int .i64 n, .string s, .slice o' l.length cap', .slice o2' ks.length cap2'] 28)).cell? ⟨w.heap.size + 1, 4, none⟩ = some (.slice o' l.length cap') := by simp
    have h5 : ((w.alloc (.cells #[.int .i8 k, .bool b, .int .i64 n, .string s, .slice o l.length cap, .slice o2 ks.length cap2] 28)).alloc (.cells #[.int .i8 k, .bool b, .int .i64 n, .string s, .slice o' l.length cap', .slice o2' ks.length cap2'] 28)).cell? ⟨w.heap.size, 5, none⟩ = some (.slice o2 ks.length cap2) := by simp
    have h5' : ((w.alloc (.cells #[.int .i8 k, .bool b, .int .i64 n, .string s, .slice o l.length cap, .slice o2 ks.length cap2] 28)).alloc (.cells #[.int .i8 k, .bool b, .int .i64 n, .string s, .slice o' l.length cap', .slice o2' ks.length cap2'] 28)).cell? ⟨w.heap.size + 1, 5, none⟩ = some (.slice o2' ks.length cap2') := by simp
    generalize hW1 : (w.alloc (.cells #[.int .i8 k, .bool b, .int .i64 n, .string s, .slice o l.length cap, .slice o2 ks.length cap2] 28)).alloc (.cells #[.int .i8 k, .bool b, .int .i64 n, .string s, .slice o' l.length cap', .slice o2' ks.length cap2'] 28) = W1 at *
    clear hW1
    have HB0 := Lib.hid hB0
    have H4 := Lib.hid h4
    have H4' := Lib.hid h4'
    have H5 := Lib.hid h5
    have H5' := Lib.hid h5'
    clear hB0 h4 h4' h5 h5'
    go_loopw [5] (fun i wr => ∃ j : Nat, j ≤ ks.length ∧ i = .int .i64 j ∧ Hid (∀ q, q < j → ks[q]? = ks'[q]?) ∧ Below W1.heap.size W1 wr) (fun i _ => ks.length - (intOf i).toNat)
    case atStart => exact ⟨0, by omega, rfl, Lib.hid (fun q h => absurd h (by omega)), Below.refl _ _⟩
    case round =>
      obtain ⟨j, hj, rfl, hye, hB⟩ := hrel
      have b5 : wr.cell? ⟨w.heap.size, 5, none⟩ = some (.slice o2 ks.length cap2) := cell_below hB _ _ H5.out
      have b5' : wr.cell? ⟨w.heap.size + 1, 5, none⟩ = some (.slice o2' ks.length cap2') := cell_below hB _ _ H5'.out
      by_cases hlt : j < ks.length
      · have hlt' : j < ks'.length := by rw [Q6.out]; exact hlt
        obtain ⟨g1, z1⟩ := HKA.out j hlt
        obtain ⟨g2, z2⟩ := HKB.out j hlt'
        have g1 := cell_below hB _ _ g1
        have g2 := cell_below hB _ _ g2
        obtain rfl := ho2 (by omega)
        obtain rfl := ho2' (by omega)
        have e1 : ks[j]? = some ks[j] := List.getElem?_eq_getElem hlt
        have e2 : ks'[j]? = some ks'[j] := List.getElem?_eq_getElem hlt'
        have hi0 : (0 : Int) ≤ (j : Int) := by omega
        have hi1 : (j : Int) < (ks.length : Int) := by omega
        have HBB := Lib.hid hB
        generalize ks[j] = K at *
        generalize ks'[j] = K' at *
        by_cases hK : K = K'
        · subst hK
          have HN : Hid (∀ q, q < j + 1 → ks[q]? = ks'[q]?) := Lib.hid (fun q h => by
            by_cases e : q = j
            · subst e; rw [e1, e2]
            · exact hye.out q (by omega))
          clear e1 e2 hye z1 z2 hB
          go_wp2_with fail
          go_quiet (fail)
          go_wp2_with fail
          go_roundw
          case rel => exact ⟨j + 1, by omega, by go_num, HN, HBB.out.trans (drewB _ _ _)⟩
          case measure => simp [intOf]; omega
        · have HN : Hid (sm (.mk k b n s l ks) (.mk k b n s l' ks') = false) := Lib.hid (sm_no (fun e => by
            injection e with _ _ _ _ _ e6
            rw [e6] at e1
            rw [e1] at e2
            exact hK (Option.some.inj e2)))
          have f1 := beq_toList hK
          clear e1 e2 hye z1 z2 hK hB
          go_wp2_with fail
          go_quiet (fail)
          go_wp2_with fail
          go_ret
          exact ⟨by rw [HN.out]; rfl, HB0.out.trans ((HBB.out.trans (drewB _ _ _)).mono HB0.out.size)⟩
      · have HKE : Hid (ks = ks') := Lib.hid (List.ext_getElem? (fun q => by
          by_cases h : q < ks.length
          · exact hye.out q (by omega)
          · rw [List.getElem?_eq_none (by omega), List.getElem?_eq_none (by rw [Q6.out]; omega)]))
        have HB1 := Lib.hid hB
        clear hye HKA HKB hB
        go_wp2_with fail
        clear hlt hj ho2 ho2' b5 b5'
        go_loopw [6] (fun i wr => ∃ j : Nat, j ≤ l.length ∧ i = .int .i64 j ∧ Hid (∀ q, q < j → l[q]? = l'[q]?) ∧ Below W1.heap.size W1 wr) (fun i _ => l.length - (intOf i).toNat)
        case atStart => exact ⟨0, by omega, rfl, Lib.hid (fun q h => absurd h (by omega)), HB1.out⟩
        case round =>
          obtain ⟨j, hj, rfl, hye, hB⟩ := hrel
          have c4 : wr.cell? ⟨w.heap.size, 4, none⟩ = some (.slice o l.length cap) := cell_below hB _ _ H4.out
          have c4' : wr.cell? ⟨w.heap.size + 1, 4, none⟩ = some (.slice o' l.length cap') := cell_below hB _ _ H4'.out
          by_cases hlt : j < l.length
          · have hlt' : j < l'.length := by rw [Q5.out]; exact hlt
            obtain rfl := ho (by omega)
            obtain rfl := ho' (by omega)
            have hvw := isVs_keep (cell_below hB) l a (isVs_keep (cell_below HB0.out) l a HVA.out)
            obtain ⟨c0, c1, c2, c3, cc4, c5, g0, g1, g2, g3, g4, g5, hx5⟩ := isVs_at l a j hlt hvw
            have hvw' := isVs_keep (cell_below hB) l' a' (isVs_keep (cell_below HB0.out) l' a' HVB.out)
            obtain ⟨d0, d1, d2, d3, dd4, d5, k0, k1, k2, k3, k4, k5, hy5⟩ := isVs_at l' a' j hlt' hvw'
            have hI := fun w1 => same_any N l[j] l'[j] (.agg #[c0, c1, c2, c3, cc4, c5]) (.agg #[d0, d1, d2, d3, dd4, d5]) w1 (by have := sizeVs_get l j hlt; omega)
            have e1 : l[j]? = some l[j] := List.getElem?_eq_getElem hlt
            have e2 : l'[j]? = some l'[j] := List.getElem?_eq_getElem hlt'
            have HBB := Lib.hid hB
            generalize l[j] = X at *
            generalize l'[j] = Y at *
            have hi0 : (0 : Int) ≤ (j : Int) := by omega
            have hi1 : (j : Int) < (l.length : Int) := by omega
            have HI : Hid (∀ w1, KB wr w1 → Calls Tryz.prog 10 #[.agg #[c0, c1, c2, c3, cc4, c5], .agg #[d0, d1, d2, d3, dd4, d5]] w1 fun e w' => e = .returned (.bool (sm X Y)) ∧ KB wr w') := Lib.hid fun w1 hK => Calls.kb hK (hI w1 (isV_below hK hx5) (isV_below hK hy5))
            have HYE : Hid (sm X Y = true → ∀ q, q < j + 1 → l[q]? = l'[q]?) := Lib.hid (fun hz q h => by
                by_cases e : q = j
                · subst e; rw [e1, e2, sm_eq hz]
                · exact hye.out q (by omega))
            have HNN : Hid (sm X Y = false → sm (.mk k b n s l ks) (.mk k b n s l' ks') = false) := Lib.hid (fun hz => sm_no (fun e => by
                injection e with _ _ _ _ e5 _
                rw [e5] at e1
                rw [e1] at e2
                exact sm_ne hz (Option.some.inj e2)))
            clear hI hB hvw hvw' hx5 hy5 hye e1 e2
            go_wp2_with fail
            go_still_tail 10, (by kernel_rfl)
            cases hz : sm X Y with
            | true =>
              rw [hz] at HI
              have HN := Lib.hid (HYE.out hz)
              clear hz HYE HNN
              go_wp2_with (go_at_call 10; (refine (HI.out _ (drewB1 _ _)).mono ?_); rintro e w5 ⟨rfl, hb5⟩)
              go_roundw
              case rel => exact ⟨j + 1, by omega, by go_num, HN, HBB.out.trans (hb5.mono HBB.out.size)⟩
              case measure => simp [intOf]; omega
            | false =>
              rw [hz] at HI
              have HN := Lib.hid (HNN.out hz)
              clear hz HYE HNN
              go_wp2_with (go_at_call 10; (refine (HI.out _ (drewB1 _ _)).mono ?_); rintro e w5 ⟨rfl, hb5⟩)
              go_ret
              exact ⟨by rw [HN.out]; rfl, HB0.out.trans ((HBB.out.trans (hb5.mono HBB.out.size)).mono HB0.out.size)⟩
          · have HN : Hid (sm (.mk k b n s l ks) (.mk k b n s l' ks') = true) := Lib.hid (sm_yes (by
              have : l = l' := List.ext_getElem? (fun q => by
                by_cases h : q < l.length
                · exact hye.out q (by omega)
                · rw [List.getElem?_eq_none (by omega), List.getElem?_eq_none (by rw [Q5.out]; omega)])
              rw [this, HKE.out]))
            have HBB := Lib.hid hB
            clear hye hB
            go_wp2_with fail
            go_ret
            exact ⟨by rw [HN.out]; rfl, HB0.out.trans (HBB.out.mono HB0.out.size)⟩
end Go.Proofs.YtgbagdfcdljleaaGreatDoor.Tr
