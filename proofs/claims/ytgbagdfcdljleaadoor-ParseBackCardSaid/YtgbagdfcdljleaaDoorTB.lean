/-
  How much there is in a value: the reference's weight and Great. · Plain mathematics of trees: size, depth, count; what a small weight says. · Contracts of the reference's Great, Count, Depth, deeper, Text, Num. · The contract of the reference's Same: it tells whether two values are the same tree.
-/
import Derived.Test.YtgbagdfcdljleaaDoorTV
import Derived.Lib.Strings
import Derived.StillTailTactics
set_option linter.unusedVariables false
set_option linter.unusedSimpArgs false
namespace Go.Proofs.YtgbagdfcdljleaaDoor.Tr
open Go.RowKit

def KB (w w' : World) : Prop := Below w.heap.size w w'
def keysN (ks : List ByteArray) : Nat := (ks.map fun k => min k.size 10000).sum
/-- How much there is, far at once where it is too deep: the reference's weight. -/
def wtV : Nat → V → Nat
  | 0, _ => 10000
  | left + 1, x => if 3000 < x.list.length ∨ 3000 < x.keys.length then 10000 else
      x.list.foldl (fun n y => if n ≤ 10000 then n + wtV left y else n) (1 + min x.text.size 10000 + keysN x.keys)
theorem sum_le : ∀ (l : List Nat) (B : Nat), (∀ x ∈ l, x ≤ B) → l.sum ≤ l.length * B
  | [], _, _ => by simp
  | x :: t, B, h => by
    have h1 := sum_le t B (fun y hy => h y (List.mem_cons_of_mem _ hy))
    have h2 := h x List.mem_cons_self
    rw [List.sum_cons, List.length_cons, Nat.add_mul]; omega
theorem keysN_le (ks : List ByteArray) (h : ks.length ≤ 3000) : keysN ks ≤ 30000000 := by
  unfold keysN
  have := sum_le (ks.map fun k => min k.size 10000) 10000 (fun x hx => by
    obtain ⟨k, _, rfl⟩ := List.mem_map.1 hx
    omega)
  rw [List.length_map] at this
  have h2 := Nat.mul_le_mul_right 10000 h
  omega
theorem fold_le (g : V → Nat) (B : Nat) (hg : ∀ y, g y ≤ B) : ∀ (l : List V) (n M : Nat), n ≤ M → 10000 + B ≤ M → l.foldl (fun n y => if n ≤ 10000 then n + g y else n) n ≤ M
  | [], n, M, h, _ => h
  | y :: t, n, M, h, hM => by
    rw [List.foldl_cons]
    refine fold_le g B hg t _ M ?_ hM
    split
    · have := hg y; omega
    · exact h
theorem wtV_le : ∀ (left : Nat) (x : V), wtV left x ≤ 30010001 + 10000 * left
  | 0, x => by unfold wtV; omega
  | left + 1, x => by
    unfold wtV
    split
    · omega
    · rename_i h
      have hk := keysN_le x.keys (by omega)
      exact fold_le (wtV left) _ (wtV_le left) x.list _ _ (by omega) (by omega)

theorem fold_stop (g : V → Nat) : ∀ (l : List V) (n : Nat), 10000 < n → l.foldl (fun n y => if n ≤ 10000 then n + g y else n) n = n
  | [], n, _ => rfl
  | y :: t, n, h => by
    rw [List.foldl_cons, if_neg (by omega)]
    exact fold_stop g t n h
theorem keysN_snoc (ks : List ByteArray) (k : Nat) (h : k < ks.length) : keysN (ks.take (k + 1)) = keysN (ks.take k) + min ks[k].size 10000 := by
  unfold keysN
  rw [List.take_succ_eq_append_getElem h, List.map_append, List.sum_append]
  simp
theorem foldT_snoc (g : V → Nat) (l : List V) (n k : Nat) (h : k < l.length) (hn : (l.take k).foldl (fun n y => if n ≤ 10000 then n + g y else n) n ≤ 10000) :
    (l.take (k + 1)).foldl (fun n y => if n ≤ 10000 then n + g y else n) n = (l.take k).foldl (fun n y => if n ≤ 10000 then n + g y else n) n + g l[k] := by
  rw [List.take_succ_eq_append_getElem h, List.foldl_append, List.foldl_cons, List.foldl_nil, if_pos hn]
theorem foldT_all (g : V → Nat) (l : List V) (n k : Nat) (h : l.length ≤ k ∨ 10000 < (l.take k).foldl (fun n y => if n ≤ 10000 then n + g y else n) n) :
    l.foldl (fun n y => if n ≤ 10000 then n + g y else n) n = (l.take k).foldl (fun n y => if n ≤ 10000 then n + g y else n) n := by
  rcases h with h | h
  · rw [List.take_of_length_le h]
  · conv => lhs; rw [← List.take_append_drop k l, List.foldl_append]
    exact fold_stop g _ _ h

set_option maxRecDepth 100000 in
set_option maxHeartbeats 4000000 in
theorem weight_any : ∀ (left : Nat) (x : V) (v : Value) (w : World), left ≤ 30 → isV w x v →
    Calls Tryd.prog 18 #[v, .int .i64 left] w fun e w' => e = .returned (.int .i64 (wtV left x)) ∧ Below w.heap.size w w'
  | 0, x, v, w, _, h => by
    obtain ⟨k, b, n, s, l, ks⟩ := x
    unfold isV at h
    obtain ⟨lv, kv, rfl, hk, hn, hs, ⟨a, cap, hsl, hvs⟩, hks⟩ := h
    have HW : Hid (wtV 0 (.mk k b n s l ks) = 10000) := Lib.hid rfl
    clear hk hn hs hsl hvs hks
    go_enter Tryd.func18, Tryd.ntmps18
    go_wp2_with fail
    go_ret
    exact ⟨by rw [HW.out]; rfl, (Below.refl _ _).alloc (Nat.le_refl _) _⟩
  | left + 1, x, v, w, hl, h => by
    obtain ⟨k, b, n, s, l, ks⟩ := x
    have h0 := h
    unfold isV at h
    obtain ⟨lv, kv, rfl, hk, hn, hs, ⟨a, cap, ⟨o, rfl, hc1, hc2, ho⟩, hvs⟩, ⟨a2, cap2, ⟨o2, rfl, hc3, hc4, ho2⟩, hks⟩⟩ := h
    unfold maxLen at hs hc2 hc4
    have hl0 : ((left : Int) + 1 == 0) = false := by rw [beq_eq_false_iff_ne]; omega
    have hl1 : ((left + 1 : Nat) : Int) = (left : Int) + 1 := by omega
    rw [hl1]
    have hl2 : (left : Int) + 1 - 1 = (left : Int) := by omega
    clear hk hn
    by_cases hb : 3000 < l.length ∨ 3000 < ks.length
    · have HW : Hid (wtV (left + 1) (.mk k b n s l ks) = 10000) := Lib.hid (by unfold wtV; exact if_pos hb)
      by_cases hb1 : 3000 < l.length
      · clear hb h0
        go_enter Tryd.func18, Tryd.ntmps18
        go_wp2_with fail
        go_ret
        exact ⟨by rw [HW.out]; rfl, (Below.refl _ _).alloc (Nat.le_refl _) _⟩
      · have hb2 : 3000 < ks.length := by omega
        clear hb h0
        go_enter Tryd.func18, Tryd.ntmps18
        go_wp2_with fail
        go_ret
        exact ⟨by rw [HW.out]; rfl, (Below.refl _ _).alloc (Nat.le_refl _) _⟩
    have HW : Hid (wtV (left + 1) (.mk k b n s l ks) = l.foldl (fun n y => if n ≤ 10000 then n + wtV left y else n) (1 + min s.size 10000 + keysN ks)) := Lib.hid (by rw [wtV]; exact if_neg hb)
    have hb1 : l.length ≤ 3000 := by omega
    have hb2 : ks.length ≤ 3000 := by omega
    have b1 : decide (3000 < (l.length : Int)) = false := decide_eq_false (by omega)
    have b2 : decide (3000 < (ks.length : Int)) = false := decide_eq_false (by omega)
    obtain ⟨m, hm⟩ : ∃ m : Nat, m = min s.size 10000 := ⟨_, rfl⟩
    have hmi : (if (10000 : Int) < (s.size : Int) then (10000 : Int) else (s.size : Int)) = (m : Int) := by split <;> omega
    rw [← hm] at HW
    have hm2 : m ≤ 10000 := by omega
    have hba : ∀ c T, Below w.heap.size w (w.alloc (.cells c T)) := fun c T => (Below.refl _ _).alloc (Nat.le_refl _) _
    have HK : Hid (∀ (i : Nat) (h : i < ks.length), (w.alloc (.cells #[.int .i8 k, .bool b, .int .i64 n, .string s, .slice o l.length cap, .slice o2 ks.length cap2] 28)).cell? (a2.add i) = some (.string ks[i]) ∧ ks[i].size ≤ maxLen) := Lib.hid (fun i h => ⟨cell_below (hba _ _) _ _ (hks i h).1, (hks i h).2⟩)
    have HV : Hid (isVs w l a) := Lib.hid hvs
    clear hb hm h0 hl1 hba hks hvs
    go_enter Tryd.func18, Tryd.ntmps18
    go_wp2_with fail
    go_loop [5, 6] (fun n i => ∃ (j x : Nat), j ≤ ks.length ∧ i = .int .i64 j ∧ n = .int .i64 x ∧ x ≤ 30010001 ∧ Hid (x = 1 + m + keysN (ks.take j))) (fun _ i => ks.length - (intOf i).toNat)
    case atStart => exact ⟨0, 1 + m, by omega, rfl, by go_num, by omega, Lib.hid (by simp [keysN])⟩
    case round =>
      obtain ⟨j, x, hj, rfl, rfl, hx, hxe⟩ := hrel
      by_cases hlt : j < ks.length
      · obtain ⟨hcell, hsz⟩ := HK.out j hlt
        obtain rfl := ho2 (by omega)
        have hsn := keysN_snoc ks j hlt
        have hle := keysN_le (ks.take (j + 1)) (by rw [List.length_take]; omega)
        generalize ks[j] = K at *
        obtain ⟨z, hz⟩ : ∃ z : Nat, z = min K.size 10000 := ⟨_, rfl⟩
        have hzi : (if (10000 : Int) < (K.size : Int) then (10000 : Int) else (K.size : Int)) = (z : Int) := by split <;> omega
        have hz2 : z ≤ 10000 := by omega
        rw [← hz] at hsn
        have HX : Hid (x + z = 1 + m + keysN (ks.take (j + 1))) := Lib.hid (by rw [hsn, hxe.out]; omega)
        have hx2 : x + z ≤ 30010001 := by have := HX.out; omega
        clear hsn hle hz hxe
        unfold maxLen at hsz
        go_wp2_with fail
        go_round
        case rel => exact ⟨j + 1, x + z, by omega, by go_num, by go_num, hx2, HX⟩
        case measure => simp [intOf]; omega
      · have HX : Hid (x = 1 + m + keysN ks) := Lib.hid (by rw [hxe.out, List.take_of_length_le (by omega)])
        clear hxe
        go_wp2_with fail
        have hB0 : KB w (w.alloc (.cells #[.int .i8 k, .bool b, .int .i64 n, .string s, .slice o l.length cap, .slice o2 ks.length cap2] 28)) := (Below.refl _ _).alloc (Nat.le_refl _) _
        have h4 : (w.alloc (.cells #[.int .i8 k, .bool b, .int .i64 n, .string s, .slice o l.length cap, .slice o2 ks.length cap2] 28)).cell? ⟨w.heap.size, 4, none⟩ = some (.slice o l.length cap) := by simp
        have hsz : (w.alloc (.cells #[.int .i8 k, .bool b, .int .i64 n, .string s, .slice o l.length cap, .slice o2 ks.length cap2] 28)).heap.size = w.heap.size + 1 := by simp
        clear HK ho2
        generalize hW1 : w.alloc (.cells #[.int .i8 k, .bool b, .int .i64 n, .string s, .slice o l.length cap, .slice o2 ks.length cap2] 28) = W1 at *
        clear hW1
        have HB0 := Lib.hid hB0
        have H4 := Lib.hid h4
        have HZ := Lib.hid hsz
        clear hB0 h4 hsz hlt hj
        go_loopw [5, 7] (fun n i wr => ∃ (j y : Nat), j ≤ l.length ∧ i = .int .i64 j ∧ n = .int .i64 y ∧ y ≤ 40000000 ∧ Hid (y = (l.take j).foldl (fun n y => if n ≤ 10000 then n + wtV left y else n) x) ∧ Below W1.heap.size W1 wr) (fun _ i _ => l.length - (intOf i).toNat)
        case atStart => exact ⟨0, x, by omega, rfl, rfl, by omega, Lib.hid rfl, Below.refl _ _⟩
        case round =>
          obtain ⟨j, y, hj, rfl, rfl, hy, hye, hB⟩ := hrel
          have c4 : wr.cell? ⟨w.heap.size, 4, none⟩ = some (.slice o l.length cap) := cell_below hB _ _ H4.out
          by_cases hlt : j < l.length
          · obtain rfl := ho (by omega)
            by_cases hy1 : y ≤ 10000
            · have hvw := isVs_keep (cell_below hB) l a (isVs_keep (cell_below HB0.out) l a HV.out)
              obtain ⟨c0, c1, c2, c3, c4', c5, g0, g1, g2, g3, g4, g5, hx5⟩ := isVs_at l a j hlt hvw
              have hI := weight_any left l[j] _ wr (by omega) hx5
              have hsn := foldT_snoc (wtV left) l x j hlt (by rw [← hye.out]; exact hy1)
              rw [← hye.out] at hsn
              have hwl := wtV_le left l[j]
              obtain ⟨z, hz⟩ : ∃ z, wtV left l[j] = z := ⟨_, rfl⟩
              rw [hz] at hI hsn hwl
              have HI := Lib.hid hI
              have HN := Lib.hid hsn.symm
              have HBB := Lib.hid hB
              have hz3 : z ≤ 30310001 := by omega
              have hy2 : decide ((y : Int) ≤ 10000) = true := decide_eq_true (by omega)
              clear hI hsn hB hvw hx5 hz hye hwl
              go_wp2_with (go_at_call 18; (with_reducible refine HI.out.mono ?_); rintro e w5 ⟨rfl, hb5⟩)
              go_roundw
              case rel => exact ⟨j + 1, y + z, by omega, by go_num, by go_num, by omega, Lib.hid (by rw [HN.out]), HBB.out.trans (hb5.mono HBB.out.size)⟩
              case measure => simp [intOf]; omega
            · have hy2 : decide ((y : Int) ≤ 10000) = false := decide_eq_false (by omega)
              have HF : Hid (wtV (left + 1) (.mk k b n s l ks) = y) := Lib.hid (by
                rw [HW.out, ← HX.out, foldT_all (wtV left) l x j (.inr (by rw [← hye.out]; omega)), ← hye.out])
              have HBB := Lib.hid hB
              clear hye hB
              go_wp2_with fail
              go_ret
              exact ⟨by rw [HF.out]; rfl, HB0.out.trans (HBB.out.mono HB0.out.size)⟩
          · have HF : Hid (wtV (left + 1) (.mk k b n s l ks) = y) := Lib.hid (by
              rw [HW.out, ← HX.out, foldT_all (wtV left) l x j (.inl (by omega)), ← hye.out])
            have HBB := Lib.hid hB
            clear hye hB
            go_wp2_with fail
            go_ret
            exact ⟨by rw [HF.out]; rfl, HB0.out.trans (HBB.out.mono HB0.out.size)⟩
end Go.Proofs.YtgbagdfcdljleaaDoor.Tr

namespace Go.Proofs.YtgbagdfcdljleaaDoor.Tr
open Go.RowKit

def keysS (ks : List ByteArray) : Nat := (ks.map ByteArray.size).sum
mutual
/-- Parts and bytes. -/
def sizeV : V → Nat | .mk _ _ _ s l ks => 1 + s.size + keysS ks + sizeVs l
def sizeVs : List V → Nat | [] => 0 | x :: t => sizeV x + sizeVs t
end
mutual
def depthV : V → Nat | .mk _ _ _ _ l _ => 1 + depthVs l
def depthVs : List V → Nat | [] => 0 | x :: t => max (depthV x) (depthVs t)
end
mutual
def countV : V → Nat | .mk _ _ _ _ l _ => 1 + countVs l
def countVs : List V → Nat | [] => 0 | x :: t => countV x + countVs t
end
theorem sizeV_pos (x : V) : 1 ≤ sizeV x := by obtain ⟨_, _, _, _, _, _⟩ := x; unfold sizeV; omega
theorem depthV_pos (x : V) : 1 ≤ depthV x := by obtain ⟨_, _, _, _, _, _⟩ := x; unfold depthV; omega
theorem sizeVs_get : ∀ (l : List V) (j : Nat) (h : j < l.length), sizeV l[j] ≤ sizeVs l
  | x :: t, 0, _ => by simp [sizeVs]
  | x :: t, j + 1, h => by
    have := sizeVs_get t j (by simpa using h)
    simp only [sizeVs, List.getElem_cons_succ]; omega
theorem depthVs_get : ∀ (l : List V) (j : Nat) (h : j < l.length), depthV l[j] ≤ depthVs l
  | x :: t, 0, _ => by simp only [depthVs, List.getElem_cons_zero]; omega
  | x :: t, j + 1, h => by
    have := depthVs_get t j (by simpa using h)
    simp only [depthVs, List.getElem_cons_succ]; omega
theorem sizeVs_app (a b : List V) : sizeVs (a ++ b) = sizeVs a + sizeVs b := by
  induction a with
  | nil => simp [sizeVs]
  | cons x t ih => simp only [List.cons_append, sizeVs, ih]; omega
theorem countVs_app (a b : List V) : countVs (a ++ b) = countVs a + countVs b := by
  induction a with
  | nil => simp [countVs]
  | cons x t ih => simp only [List.cons_append, countVs, ih]; omega
theorem depthVs_app (a b : List V) : depthVs (a ++ b) = max (depthVs a) (depthVs b) := by
  induction a with
  | nil => simp [depthVs]
  | cons x t ih => simp only [List.cons_append, depthVs, ih]; omega
theorem countVs_snoc (l : List V) (j : Nat) (h : j < l.length) : countVs (l.take (j + 1)) = countVs (l.take j) + countV l[j] := by
  rw [List.take_succ_eq_append_getElem h, countVs_app]; simp [countVs]
theorem depthVs_snoc (l : List V) (j : Nat) (h : j < l.length) : depthVs (l.take (j + 1)) = max (depthVs (l.take j)) (depthV l[j]) := by
  rw [List.take_succ_eq_append_getElem h, depthVs_app]; simp [depthVs]
theorem sizeVs_len (l : List V) : l.length ≤ sizeVs l := by
  induction l with
  | nil => simp [sizeVs]
  | cons x t ih => have := sizeV_pos x; simp only [sizeVs, List.length_cons]; omega
mutual
theorem count_le_size : ∀ x : V, countV x ≤ sizeV x
  | .mk _ _ _ s l ks => by have := counts_le_size l; unfold countV sizeV; omega
theorem counts_le_size : ∀ l : List V, countVs l ≤ sizeVs l
  | [] => by simp [countVs, sizeVs]
  | x :: t => by have h1 := count_le_size x; have h2 := counts_le_size t; simp only [countVs, sizeVs]; omega
end
theorem countVs_take_le (l : List V) (j : Nat) : countVs (l.take j) ≤ countVs l := by
  conv => rhs; rw [← List.take_append_drop j l, countVs_app]
  omega

theorem fold_ge (g : V → Nat) : ∀ (l : List V) (n : Nat), n ≤ l.foldl (fun n y => if n ≤ 10000 then n + g y else n) n
  | [], n => Nat.le_refl _
  | y :: t, n => by
    rw [List.foldl_cons]
    refine Nat.le_trans ?_ (fold_ge g t _)
    split <;> omega
theorem fold_small (g : V → Nat) : ∀ (l : List V) (n : Nat), l.foldl (fun n y => if n ≤ 10000 then n + g y else n) n ≤ 5000 → l.foldl (fun n y => if n ≤ 10000 then n + g y else n) n = n + (l.map g).sum
  | [], n, _ => by simp
  | y :: t, n, h => by
    rw [List.foldl_cons] at h ⊢
    have hn : n ≤ 10000 := by
      by_cases h1 : n ≤ 10000
      · exact h1
      · rw [if_neg h1] at h
        have := fold_ge g t n; omega
    rw [if_pos hn] at h ⊢
    rw [fold_small g t _ h, List.map_cons, List.sum_cons]; omega
theorem mem_sum_le (g : V → Nat) : ∀ (l : List V) (y : V), y ∈ l → g y ≤ (l.map g).sum
  | x :: t, y, h => by
    rw [List.map_cons, List.sum_cons]
    rcases List.mem_cons.1 h with rfl | h
    · omega
    · have := mem_sum_le g t y h; omega
theorem keys_small : ∀ (ks : List ByteArray), keysN ks ≤ 5000 → keysS ks = keysN ks
  | [], _ => rfl
  | k :: t, h => by
    simp only [keysN, keysS, List.map_cons, List.sum_cons] at h ⊢
    have := keys_small t (by simp only [keysN]; omega)
    simp only [keysN, keysS] at this
    omega
theorem sizeVs_sum (g : V → Nat) : ∀ (l : List V), (∀ y ∈ l, sizeV y ≤ g y) → sizeVs l ≤ (l.map g).sum
  | [], _ => by simp [sizeVs]
  | x :: t, h => by
    have h1 := h x List.mem_cons_self
    have h2 := sizeVs_sum g t (fun y hy => h y (List.mem_cons_of_mem _ hy))
    rw [List.map_cons, List.sum_cons]; simp only [sizeVs]; omega
theorem depthVs_le (n : Nat) : ∀ (l : List V), (∀ y ∈ l, depthV y ≤ n) → depthVs l ≤ n
  | [], _ => by simp [depthVs]
  | x :: t, h => by
    have h1 := h x List.mem_cons_self
    have h2 := depthVs_le n t (fun y hy => h y (List.mem_cons_of_mem _ hy))
    simp only [depthVs]; omega
/-- What the reference calls not great: few parts and bytes, not deep. -/
theorem wt_small : ∀ (left : Nat) (x : V), wtV left x ≤ 5000 → sizeV x ≤ wtV left x ∧ depthV x ≤ left
  | 0, x, h => by unfold wtV at h; omega
  | left + 1, x, h => by
    obtain ⟨k, b, n, s, l, ks⟩ := x
    unfold wtV at h ⊢
    split at h
    · omega
    · rename_i hc
      rw [if_neg hc]
      simp only [V.list, V.text, V.keys] at h ⊢
      have hf := fold_small (wtV left) l _ h
      rw [hf] at h ⊢
      have hks := keys_small ks (by omega)
      have hy : ∀ y ∈ l, sizeV y ≤ wtV left y ∧ depthV y ≤ left := fun y hy => wt_small left y (by have := mem_sum_le (wtV left) l y hy; omega)
      have h1 := sizeVs_sum (wtV left) l (fun y hm => (hy y hm).1)
      have h2 := depthVs_le left l (fun y hm => (hy y hm).2)
      unfold sizeV depthV
      omega
end Go.Proofs.YtgbagdfcdljleaaDoor.Tr

namespace Go.Proofs.YtgbagdfcdljleaaDoor.Tr
open Go.RowKit

theorem kbA {w : World} {o : Obj} : KB w (w.alloc o) := (Below.refl _ _).alloc (Nat.le_refl _) _
theorem Calls.kb {f : Nat} {args : Array Value} {w0 w : World} {v : Value} (hK : KB w0 w) (h : Calls Tryd.prog f args w fun e w' => e = .returned v ∧ Below w.heap.size w w') : Calls Tryd.prog f args w fun e w' => e = .returned v ∧ KB w0 w' :=
  h.mono fun _ _ ⟨he, hb⟩ => ⟨he, Below.trans hK (hb.mono hK.size)⟩
/-- Is it great? -/
def greatB (x : V) : Bool := decide (5000 < wtV 30 x)
theorem great_no {x : V} (h : greatB x = false) : sizeV x ≤ 5000 ∧ depthV x ≤ 30 := by
  have h1 : ¬ 5000 < wtV 30 x := of_decide_eq_false h
  have := wt_small 30 x (by omega)
  omega
set_option maxHeartbeats 2000000 in
theorem great_any (x : V) (v : Value) (w : World) (h : isV w x v) :
    Calls Tryd.prog 11 #[v] w fun e w' => e = .returned (.bool (greatB x)) ∧ Below w.heap.size w w' := by
  have hG : greatB x = decide (5000 < wtV 30 x) := rfl
  obtain ⟨z, hz⟩ : ∃ z, wtV 30 x = z := ⟨_, rfl⟩
  have HI : Hid (∀ w1, KB w w1 → Calls Tryd.prog 18 #[v, .int .i64 30] w1 fun e w' => e = .returned (.int .i64 z) ∧ KB w w') := Lib.hid fun w1 hK => Calls.kb hK (by have := weight_any 30 x v w1 (Nat.le_refl _) (isV_below hK h); rw [hz] at this; exact this)
  rw [hz] at hG
  have HG : Hid (greatB x = decide ((5000 : Int) < (z : Int))) := Lib.hid (by rw [hG, decide_eq_decide]; omega)
  obtain ⟨k, b, n, s, l, ks⟩ := x
  unfold isV at h
  obtain ⟨lv, kv, rfl, _⟩ := h
  clear hz hG
  go_enter Tryd.func11, Tryd.ntmps11
  go_wp2_with (go_at_call 18; refine (HI.out _ kbA).mono ?_; rintro e w5 ⟨rfl, hb5⟩)
  go_ret
  exact ⟨by rw [HG.out]; rfl, hb5⟩

set_option maxRecDepth 100000 in
set_option maxHeartbeats 4000000 in
theorem count_any : ∀ (N : Nat) (x : V) (v : Value) (w : World), sizeV x ≤ N → N ≤ 1000000 → isV w x v →
    Calls Tryd.prog 21 #[v] w fun e w' => e = .returned (.int .i64 (countV x)) ∧ Below w.heap.size w w'
  | 0, x, v, w, hN, _, h => absurd (sizeV_pos x) (by omega)
  | N + 1, x, v, w, hN, hM, h => by
    obtain ⟨k, b, n, s, l, ks⟩ := x
    unfold isV at h
    obtain ⟨lv, kv, rfl, hk, hn, hs, ⟨a, cap, ⟨o, rfl, hc1, hc2, ho⟩, hvs⟩, ⟨a2, cap2, ⟨o2, rfl, hc3, hc4, ho2⟩, hks⟩⟩ := h
    unfold maxLen at hs hc2 hc4
    have hsz : sizeV (.mk k b n s l ks) = 1 + s.size + keysS ks + sizeVs l := by rw [sizeV]
    have hcs := counts_le_size l
    have HC : Hid (countV (.mk k b n s l ks) = 1 + countVs l) := Lib.hid (by rw [countV])
    have hSL : sizeVs l ≤ N := by omega
    clear hsz hN hk hn ho2
    go_enter Tryd.func21, Tryd.ntmps21
    go_wp2_with fail
    have hB0 : KB w (w.alloc (.cells #[.int .i8 k, .bool b, .int .i64 n, .string s, .slice o l.length cap, .slice o2 ks.length cap2] 28)) := (Below.refl _ _).alloc (Nat.le_refl _) _
    have h4 : (w.alloc (.cells #[.int .i8 k, .bool b, .int .i64 n, .string s, .slice o l.length cap, .slice o2 ks.length cap2] 28)).cell? ⟨w.heap.size, 4, none⟩ = some (.slice o l.length cap) := by simp
    generalize hW1 : w.alloc (.cells #[.int .i8 k, .bool b, .int .i64 n, .string s, .slice o l.length cap, .slice o2 ks.length cap2] 28) = W1 at *
    clear hW1
    have HB0 := Lib.hid hB0
    have H4 := Lib.hid h4
    have HV : Hid (isVs w l a) := Lib.hid hvs
    clear hB0 h4 hvs hks
    go_loopw [3, 4] (fun n i wr => ∃ (j y : Nat), j ≤ l.length ∧ i = .int .i64 j ∧ n = .int .i64 y ∧ y ≤ 1 + N ∧ Hid (y = 1 + countVs (l.take j)) ∧ Below W1.heap.size W1 wr) (fun _ i _ => l.length - (intOf i).toNat)
    case atStart => exact ⟨0, 1, by omega, rfl, rfl, by omega, Lib.hid (by simp [countVs]), Below.refl _ _⟩
    case round =>
      obtain ⟨j, y, hj, rfl, rfl, hy, hye, hB⟩ := hrel
      have c4 : wr.cell? ⟨w.heap.size, 4, none⟩ = some (.slice o l.length cap) := cell_below hB _ _ H4.out
      by_cases hlt : j < l.length
      · obtain rfl := ho (by omega)
        have hvw := isVs_keep (cell_below hB) l a (isVs_keep (cell_below HB0.out) l a HV.out)
        obtain ⟨c0, c1, c2, c3, c4', c5, g0, g1, g2, g3, g4, g5, hx5⟩ := isVs_at l a j hlt hvw
        have hI := count_any N l[j] _ wr (by have := sizeVs_get l j hlt; omega) (by omega) hx5
        have hsn := countVs_snoc l j hlt
        have htl := countVs_take_le l (j + 1)
        obtain ⟨z, hz⟩ : ∃ z, countV l[j] = z := ⟨_, rfl⟩
        rw [hz] at hI hsn
        have HI := Lib.hid hI
        have HN : Hid (y + z = 1 + countVs (l.take (j + 1))) := Lib.hid (by rw [hsn, hye.out]; omega)
        have HBB := Lib.hid hB
        have hz3 : y + z ≤ 1 + N := by have := HN.out; omega
        clear hI hsn hB hvw hx5 hz hye htl
        go_wp2_with (go_at_call 21; (with_reducible refine HI.out.mono ?_); rintro e w5 ⟨rfl, hb5⟩)
        go_roundw
        case rel => exact ⟨j + 1, y + z, by omega, by go_num, by go_num, hz3, HN, HBB.out.trans (hb5.mono HBB.out.size)⟩
        case measure => simp [intOf]; omega
      · have HF : Hid (countV (.mk k b n s l ks) = y) := Lib.hid (by rw [HC.out, hye.out, List.take_of_length_le (by omega)])
        have HBB := Lib.hid hB
        clear hye hB
        go_wp2_with fail
        go_ret
        exact ⟨by rw [HF.out]; rfl, HB0.out.trans (HBB.out.mono HB0.out.size)⟩

/-- Is it deeper than so many levels? -/
def deepB (x : V) (n : Nat) : Bool := decide (n < depthV x)
theorem depthVs_gt {l : List V} {n : Nat} (h : n < depthVs l) : ∃ y ∈ l, n < depthV y := by
  refine Classical.byContradiction fun hc => ?_
  have := depthVs_le n l (fun y hy => by
    refine Classical.byContradiction fun h2 => hc ⟨y, hy, by omega⟩)
  omega
set_option maxRecDepth 100000 in
set_option maxHeartbeats 4000000 in
theorem deeper_any : ∀ (m : Nat) (x : V) (v : Value) (w : World), m ≤ 1000 → isV w x v →
    Calls Tryd.prog 19 #[v, .int .i64 m] w fun e w' => e = .returned (.bool (deepB x m)) ∧ Below w.heap.size w w'
  | 0, x, v, w, _, h => by
    have HD : Hid (deepB x 0 = true) := Lib.hid (decide_eq_true (depthV_pos x))
    obtain ⟨k, b, n, s, l, ks⟩ := x
    unfold isV at h
    obtain ⟨lv, kv, rfl, _⟩ := h
    go_enter Tryd.func19, Tryd.ntmps19
    go_wp2_with fail
    go_ret
    exact ⟨by rw [HD.out]; rfl, (Below.refl _ _).alloc (Nat.le_refl _) _⟩
  | m + 1, x, v, w, hm, h => by
    obtain ⟨k, b, n, s, l, ks⟩ := x
    unfold isV at h
    obtain ⟨lv, kv, rfl, hk, hn, hs, ⟨a, cap, ⟨o, rfl, hc1, hc2, ho⟩, hvs⟩, ⟨a2, cap2, ⟨o2, rfl, hc3, hc4, ho2⟩, hks⟩⟩ := h
    unfold maxLen at hs hc2 hc4
    have HC : Hid (depthV (.mk k b n s l ks) = 1 + depthVs l) := Lib.hid (by rw [depthV])
    have hl0 : ((m : Int) + 1 == 0) = false := by rw [beq_eq_false_iff_ne]; omega
    have hl1 : ((m + 1 : Nat) : Int) = (m : Int) + 1 := by omega
    have hl2 : (m : Int) + 1 - 1 = (m : Int) := by omega
    rw [hl1]
    clear hk hn ho2 hl1
    go_enter Tryd.func19, Tryd.ntmps19
    go_wp2_with fail
    have hB0 : KB w (w.alloc (.cells #[.int .i8 k, .bool b, .int .i64 n, .string s, .slice o l.length cap, .slice o2 ks.length cap2] 28)) := (Below.refl _ _).alloc (Nat.le_refl _) _
    have h4 : (w.alloc (.cells #[.int .i8 k, .bool b, .int .i64 n, .string s, .slice o l.length cap, .slice o2 ks.length cap2] 28)).cell? ⟨w.heap.size, 4, none⟩ = some (.slice o l.length cap) := by simp
    generalize hW1 : w.alloc (.cells #[.int .i8 k, .bool b, .int .i64 n, .string s, .slice o l.length cap, .slice o2 ks.length cap2] 28) = W1 at *
    clear hW1
    have HB0 := Lib.hid hB0
    have H4 := Lib.hid h4
    have HV : Hid (isVs w l a) := Lib.hid hvs
    clear hB0 h4 hvs hks
    go_loopw [5] (fun i wr => ∃ (j : Nat), j ≤ l.length ∧ i = .int .i64 j ∧ Hid (∀ q (h : q < j) (h2 : q < l.length), depthV l[q] ≤ m) ∧ Below W1.heap.size W1 wr) (fun i _ => l.length - (intOf i).toNat)
    case atStart => exact ⟨0, by omega, rfl, Lib.hid (fun q h => absurd h (by omega)), Below.refl _ _⟩
    case round =>
      obtain ⟨j, hj, rfl, hye, hB⟩ := hrel
      have c4 : wr.cell? ⟨w.heap.size, 4, none⟩ = some (.slice o l.length cap) := cell_below hB _ _ H4.out
      by_cases hlt : j < l.length
      · obtain rfl := ho (by omega)
        have hvw := isVs_keep (cell_below hB) l a (isVs_keep (cell_below HB0.out) l a HV.out)
        obtain ⟨c0, c1, c2, c3, c4', c5, g0, g1, g2, g3, g4, g5, hx5⟩ := isVs_at l a j hlt hvw
        have hI := deeper_any m l[j] _ wr (by omega) hx5
        have hdl := depthVs_get l j hlt
        have HBB := Lib.hid hB
        cases hz : deepB l[j] m with
        | true =>
          rw [hz] at hI
          have HI := Lib.hid hI
          have HD : Hid (deepB (.mk k b n s l ks) (m + 1) = true) := Lib.hid (decide_eq_true (by have : m < depthV l[j] := of_decide_eq_true hz; have := HC.out; omega))
          clear hI hB hvw hx5 hz hye hdl
          go_wp2_with (go_at_call 19; (with_reducible refine HI.out.mono ?_); rintro e w5 ⟨rfl, hb5⟩)
          go_ret
          exact ⟨by rw [HD.out]; rfl, HB0.out.trans ((HBB.out.trans (hb5.mono HBB.out.size)).mono HB0.out.size)⟩
        | false =>
          rw [hz] at hI
          have HI := Lib.hid hI
          have hn2 : depthV l[j] ≤ m := by have : ¬ m < depthV l[j] := of_decide_eq_false hz; omega
          have HN : Hid (∀ q (h : q < j + 1) (h2 : q < l.length), depthV l[q] ≤ m) := Lib.hid (fun q h h2 => by
            by_cases e : q = j
            · subst e; exact hn2
            · exact hye.out q (by omega) h2)
          clear hI hB hvw hx5 hz hye hdl hn2
          go_wp2_with (go_at_call 19; (with_reducible refine HI.out.mono ?_); rintro e w5 ⟨rfl, hb5⟩)
          go_roundw
          case rel => exact ⟨j + 1, by omega, by go_num, HN, HBB.out.trans (hb5.mono HBB.out.size)⟩
          case measure => simp [intOf]; omega
      · have HF : Hid (deepB (.mk k b n s l ks) (m + 1) = false) := Lib.hid (decide_eq_false (by
          intro hc
          rw [HC.out] at hc
          obtain ⟨y, hy, hy2⟩ := depthVs_gt (l := l) (n := m) (by omega)
          obtain ⟨q, hq, rfl⟩ := List.getElem_of_mem hy
          have := hye.out q (by omega) hq
          omega))
        have HBB := Lib.hid hB
        clear hye hB
        go_wp2_with fail
        go_ret
        exact ⟨by rw [HF.out]; rfl, HB0.out.trans (HBB.out.mono HB0.out.size)⟩
end Go.Proofs.YtgbagdfcdljleaaDoor.Tr

namespace Go.Proofs.YtgbagdfcdljleaaDoor.Tr
open Go.RowKit

/-- The same tree? -/
noncomputable def sm (x y : V) : Bool := @decide (x = y) (Classical.propDecidable _)
theorem sm_yes {x y : V} (h : x = y) : sm x y = true := @decide_eq_true _ (Classical.propDecidable _) h
theorem sm_no {x y : V} (h : x ≠ y) : sm x y = false := @decide_eq_false _ (Classical.propDecidable _) h
theorem sm_eq {x y : V} (h : sm x y = true) : x = y := @of_decide_eq_true _ (Classical.propDecidable _) h
theorem sm_ne {x y : V} (h : sm x y = false) : x ≠ y := @of_decide_eq_false _ (Classical.propDecidable _) h
theorem KB.two {w : World} {o o' : Obj} : Below w.heap.size w ((w.alloc o).alloc o') := ((Below.refl _ _).alloc (Nat.le_refl _) _).alloc (by simp) _
theorem beq_toList {S T : ByteArray} (h : S ≠ T) : (S.toList == T.toList) = false := by
  rw [beq_eq_false_iff_ne]
  intro e
  rw [Lib.toList_data, Lib.toList_data] at e
  exact h (ByteArray.ext (by simpa using congrArg List.toArray e))
theorem drewB (n : Nat) (w : World) (m : Nat) : Below n w (w.drewN m) := ⟨rfl, rfl, rfl, Nat.le_refl _, fun _ _ => rfl⟩
theorem drewB1 (n : Nat) (w : World) : Below n w w.drew := ⟨rfl, rfl, rfl, Nat.le_refl _, fun _ _ => rfl⟩
theorem beqI {a b : Int} (h : a ≠ b) : (a == b) = false := by rw [beq_eq_false_iff_ne]; exact h
theorem beqB {a b : Bool} (h : a ≠ b) : (a == b) = false := by rw [beq_eq_false_iff_ne]; exact h

set_option maxRecDepth 100000 in
set_option maxHeartbeats 8000000 in
theorem same_any : ∀ (N : Nat) (x y : V) (v v' : Value) (w : World), sizeV x ≤ N → isV w x v → isV w y v' →
    Calls Tryd.prog 10 #[v, v'] w fun e w' => e = .returned (.bool (sm x y)) ∧ Below w.heap.size w w'
  | 0, x, y, v, v', w, hN, h, h' => absurd (sizeV_pos x) (by omega)
  | N + 1, x, y, v, v', w, hN, h, h' => by
    obtain ⟨k, b, n, s, l, ks⟩ := x
    obtain ⟨k', b', n', s', l', ks'⟩ := y
    unfold isV at h h'
    obtain ⟨lv, kv, rfl, hk, hn, hs, ⟨a, cap, ⟨o, rfl, hc1, hc2, ho⟩, hvs⟩, ⟨a2, cap2, ⟨o2, rfl, hc3, hc4, ho2⟩, hks⟩⟩ := h
    obtain ⟨lv, kv, rfl, hk', hn', hs', ⟨a', cap', ⟨o', rfl, hc1', hc2', ho'⟩, hvs'⟩, ⟨a2', cap2', ⟨o2', rfl, hc3', hc4', ho2'⟩, hks'⟩⟩ := h'
    unfold maxLen at hs hc2 hc4 hs' hc2' hc4'
    clear hk hn hk' hn'
    have hsz : sizeV (.mk k b n s l ks) = 1 + s.size + keysS ks + sizeVs l := by rw [sizeV]
    have hSL : sizeVs l ≤ N := by omega
    clear hsz hN
    by_cases q1 : k ≠ k'
    · have HN : Hid (sm (.mk k b n s l ks) (.mk k' b' n' s' l' ks') = false) := Lib.hid (sm_no (fun e => by injection e; contradiction))
      have f1 := beqI q1
      have f2 : (k != k') = true := bne_iff_ne.2 q1
      clear q1 hvs hvs' hks hks' ho ho' ho2 ho2'
      go_enter Tryd.func10, Tryd.ntmps10
      go_wp2_with fail
      go_ret
      exact ⟨by rw [HN.out]; rfl, KB.two⟩
    obtain rfl : k = k' := Decidable.not_not.1 q1
    by_cases q2 : b ≠ b'
    · have HN : Hid (sm (.mk k b n s l ks) (.mk k b' n' s' l' ks') = false) := Lib.hid (sm_no (fun e => by injection e; contradiction))
      have f1 := beqB q2
      have f2 : (b != b') = true := bne_iff_ne.2 q2
      clear q1 q2 hvs hvs' hks hks' ho ho' ho2 ho2'
      go_enter Tryd.func10, Tryd.ntmps10
      go_wp2_with fail
      go_ret
      exact ⟨by rw [HN.out]; rfl, KB.two⟩
    obtain rfl : b = b' := Decidable.not_not.1 q2
    by_cases q3 : n ≠ n'
    · have HN : Hid (sm (.mk k b n s l ks) (.mk k b n' s' l' ks') = false) := Lib.hid (sm_no (fun e => by injection e; contradiction))
      have f1 := beqI q3
      have f2 : (n != n') = true := bne_iff_ne.2 q3
      clear q1 q2 q3 hvs hvs' hks hks' ho ho' ho2 ho2'
      go_enter Tryd.func10, Tryd.ntmps10
      go_wp2_with fail
      go_ret
      exact ⟨by rw [HN.out]; rfl, KB.two⟩
    obtain rfl : n = n' := Decidable.not_not.1 q3
    by_cases q4 : s ≠ s'
    · have HN : Hid (sm (.mk k b n s l ks) (.mk k b n s' l' ks') = false) := Lib.hid (sm_no (fun e => by injection e; contradiction))
      have f1 := beq_toList q4
      clear q1 q2 q3 q4 hvs hvs' hks hks' ho ho' ho2 ho2'
      go_enter Tryd.func10, Tryd.ntmps10
      go_wp2_with fail
      go_ret
      exact ⟨by rw [HN.out]; rfl, KB.two⟩
    obtain rfl : s = s' := Classical.not_not.1 q4
    by_cases q5 : l.length ≠ l'.length
    · have HN : Hid (sm (.mk k b n s l ks) (.mk k b n s l' ks') = false) := Lib.hid (sm_no (fun e => by injection e; subst_vars; contradiction))
      have f1 : ((l.length : Int) == (l'.length : Int)) = false := beqI (by omega)
      have f2 : ((l.length : Int) != (l'.length : Int)) = true := bne_iff_ne.2 (by omega)
      clear q1 q2 q3 q4 q5 hvs hvs' hks hks' ho ho' ho2 ho2'
      go_enter Tryd.func10, Tryd.ntmps10
      go_wp2_with fail
      go_ret
      exact ⟨by rw [HN.out]; rfl, KB.two⟩
    have q5' : l'.length = l.length := (Decidable.not_not.1 q5).symm
    by_cases q6 : ks.length ≠ ks'.length
    · have HN : Hid (sm (.mk k b n s l ks) (.mk k b n s l' ks') = false) := Lib.hid (sm_no (fun e => by injection e; subst_vars; contradiction))
      have f1 : ((ks.length : Int) == (ks'.length : Int)) = false := beqI (by omega)
      have f2 : ((ks.length : Int) != (ks'.length : Int)) = true := bne_iff_ne.2 (by omega)
      clear q1 q2 q3 q4 q5 q6 hvs hvs' hks hks' ho ho' ho2 ho2'
      go_enter Tryd.func10, Tryd.ntmps10
      go_wp2_with fail
      go_ret
      exact ⟨by rw [HN.out]; rfl, KB.two⟩
    have q6' : ks'.length = ks.length := (Decidable.not_not.1 q6).symm
    rw [q5'] at hc1' ho' ⊢
    rw [q6'] at hc3' ho2' ⊢
    have HKA : Hid (∀ (i : Nat) (h : i < ks.length), ((w.alloc (.cells #[.int .i8 k, .bool b, .int .i64 n, .string s, .slice o l.length cap, .slice o2 ks.length cap2] 28)).alloc (.cells #[.int .i8 k, .bool b, .int .i64 n, .string s, .slice o' l.length cap', .slice o2' ks.length cap2'] 28)).cell? (a2.add i) = some (.string ks[i]) ∧ ks[i].size ≤ maxLen) := Lib.hid (fun i h => ⟨cell_below KB.two _ _ (hks i h).1, (hks i h).2⟩)
    have HKB : Hid (∀ (i : Nat) (h : i < ks'.length), ((w.alloc (.cells #[.int .i8 k, .bool b, .int .i64 n, .string s, .slice o l.length cap, .slice o2 ks.length cap2] 28)).alloc (.cells #[.int .i8 k, .bool b, .int .i64 n, .string s, .slice o' l.length cap', .slice o2' ks.length cap2'] 28)).cell? (a2'.add i) = some (.string ks'[i]) ∧ ks'[i].size ≤ maxLen) := Lib.hid (fun i h => ⟨cell_below KB.two _ _ (hks' i h).1, (hks' i h).2⟩)
    have HVA := Lib.hid hvs
    have HVB := Lib.hid hvs'
    have Q5 := Lib.hid q5'
    have Q6 := Lib.hid q6'
    clear q1 q2 q3 q4 q5 q6 q5' q6' hks hks' hvs hvs'
    go_enter Tryd.func10, Tryd.ntmps10
    go_wp2_with fail
    have hB0 : KB w ((w.alloc (.cells #[.int .i8 k, .bool b, .int .i64 n, .string s, .slice o l.length cap, .slice o2 ks.length cap2] 28)).alloc (.cells #[.int .i8 k, .bool b, .int .i64 n, .string s, .slice o' l.length cap', .slice o2' ks.length cap2'] 28)) := KB.two
    have h4 : ((w.alloc (.cells #[.int .i8 k, .bool b, .int .i64 n, .string s, .slice o l.length cap, .slice o2 ks.length cap2] 28)).alloc (.cells #[.int .i8 k, .bool b, .int .i64 n, .string s, .slice o' l.length cap', .slice o2' ks.length cap2'] 28)).cell? ⟨w.heap.size, 4, none⟩ = some (.slice o l.length cap) := by simp
    have h4' : ((w.alloc (.cells #[.int .i8 k, .bool b, .int .i64 n, .string s, .slice o l.length cap, .slice o2 ks.length cap2] 28)).alloc (.cells #[.int .i8 k, .bool b, .int .i64 n, .string s, .slice o' l.length cap', .slice o2' ks.length cap2'] 28)).cell? ⟨w.heap.size + 1, 4, none⟩ = some (.slice o' l.length cap') := by simp
    have h5 : ((w.alloc (.cells #[.int .i8 k, .bool b, .int .i64 n, .string s, .slice o l.length cap, .slice o2 ks.length cap2] 28)).alloc (.cells #[.int .i8 k, .bool b, .int .i64 n, .string s, .slice o' l.length cap', .slice o2' ks.length cap2'] 28)).cell? ⟨w.heap.size, 5, none⟩ = some (.slice o2 ks.length cap2) := by simp
    have h5' : ((w.alloc (.cells #[.int .i8 k, .bool b, .int .i64 n, .string s, .slice o l.length cap, .slice o2 ks.length cap2] 28)).alloc (.cells #[.int .i8 k, .bool b, .int .i64 n, .string s, .slice o' l.length cap', .slice o2' ks.length cap2'] 28)).cell? ⟨w.heap.size + 1, 5, none⟩ = some (.slice o2' ks.length cap2') := by simp
    generalize hW1 : (w.alloc (.cells #[.int .i8 k, .bool b, .int .i64 n, .string s, .slice o l.length cap, .slice o2 ks.length cap2] 28)).alloc (.cells #[.int .i8 k, .bool b, .int .i64 n, .string s, .slice o' l.length cap', .slice o2' ks.length cap2'] 28) = W1 at *
    clear hW1
    have HB0 := Lib.hid hB0
    have H4 := Lib.hid h4
    have H4' := Lib.hid h4'
    have H5 := Lib.hid h5
    have H5' := Lib.hid h5'
    clear hB0 h4 h4' h5 h5'
    go_loopw [5] (fun i wr => ∃ j : Nat, j ≤ ks.length ∧ i = .int .i64 j ∧ Hid (∀ q, q < j → ks[q]? = ks'[q]?) ∧ Below W1.heap.size W1 wr) (fun i _ => ks.length - (intOf i).toNat)
    case atStart => exact ⟨0, by omega, rfl, Lib.hid (fun q h => absurd h (by omega)), Below.refl _ _⟩
    case round =>
      obtain ⟨j, hj, rfl, hye, hB⟩ := hrel
      have b5 : wr.cell? ⟨w.heap.size, 5, none⟩ = some (.slice o2 ks.length cap2) := cell_below hB _ _ H5.out
      have b5' : wr.cell? ⟨w.heap.size + 1, 5, none⟩ = some (.slice o2' ks.length cap2') := cell_below hB _ _ H5'.out
      by_cases hlt : j < ks.length
      · have hlt' : j < ks'.length := by rw [Q6.out]; exact hlt
        obtain ⟨g1, z1⟩ := HKA.out j hlt
        obtain ⟨g2, z2⟩ := HKB.out j hlt'
        have g1 := cell_below hB _ _ g1
        have g2 := cell_below hB _ _ g2
        obtain rfl := ho2 (by omega)
        obtain rfl := ho2' (by omega)
        have e1 : ks[j]? = some ks[j] := List.getElem?_eq_getElem hlt
        have e2 : ks'[j]? = some ks'[j] := List.getElem?_eq_getElem hlt'
        have hi0 : (0 : Int) ≤ (j : Int) := by omega
        have hi1 : (j : Int) < (ks.length : Int) := by omega
        have HBB := Lib.hid hB
        generalize ks[j] = K at *
        generalize ks'[j] = K' at *
        by_cases hK : K = K'
        · subst hK
          have HN : Hid (∀ q, q < j + 1 → ks[q]? = ks'[q]?) := Lib.hid (fun q h => by
            by_cases e : q = j
            · subst e; rw [e1, e2]
            · exact hye.out q (by omega))
          clear e1 e2 hye z1 z2 hB
          go_wp2_with fail
          go_quiet (fail)
          go_wp2_with fail
          go_roundw
          case rel => exact ⟨j + 1, by omega, by go_num, HN, HBB.out.trans (drewB _ _ _)⟩
          case measure => simp [intOf]; omega
        · have HN : Hid (sm (.mk k b n s l ks) (.mk k b n s l' ks') = false) := Lib.hid (sm_no (fun e => by
            injection e with _ _ _ _ _ e6
            rw [e6] at e1
            rw [e1] at e2
            exact hK (Option.some.inj e2)))
          have f1 := beq_toList hK
          clear e1 e2 hye z1 z2 hK hB
          go_wp2_with fail
          go_quiet (fail)
          go_wp2_with fail
          go_ret
          exact ⟨by rw [HN.out]; rfl, HB0.out.trans ((HBB.out.trans (drewB _ _ _)).mono HB0.out.size)⟩
      · have HKE : Hid (ks = ks') := Lib.hid (List.ext_getElem? (fun q => by
          by_cases h : q < ks.length
          · exact hye.out q (by omega)
          · rw [List.getElem?_eq_none (by omega), List.getElem?_eq_none (by rw [Q6.out]; omega)]))
        have HB1 := Lib.hid hB
        clear hye HKA HKB hB
        go_wp2_with fail
        clear hlt hj ho2 ho2' b5 b5'
        go_loopw [6] (fun i wr => ∃ j : Nat, j ≤ l.length ∧ i = .int .i64 j ∧ Hid (∀ q, q < j → l[q]? = l'[q]?) ∧ Below W1.heap.size W1 wr) (fun i _ => l.length - (intOf i).toNat)
        case atStart => exact ⟨0, by omega, rfl, Lib.hid (fun q h => absurd h (by omega)), HB1.out⟩
        case round =>
          obtain ⟨j, hj, rfl, hye, hB⟩ := hrel
          have c4 : wr.cell? ⟨w.heap.size, 4, none⟩ = some (.slice o l.length cap) := cell_below hB _ _ H4.out
          have c4' : wr.cell? ⟨w.heap.size + 1, 4, none⟩ = some (.slice o' l.length cap') := cell_below hB _ _ H4'.out
          by_cases hlt : j < l.length
          · have hlt' : j < l'.length := by rw [Q5.out]; exact hlt
            obtain rfl := ho (by omega)
            obtain rfl := ho' (by omega)
            have hvw := isVs_keep (cell_below hB) l a (isVs_keep (cell_below HB0.out) l a HVA.out)
            obtain ⟨c0, c1, c2, c3, cc4, c5, g0, g1, g2, g3, g4, g5, hx5⟩ := isVs_at l a j hlt hvw
            have hvw' := isVs_keep (cell_below hB) l' a' (isVs_keep (cell_below HB0.out) l' a' HVB.out)
            obtain ⟨d0, d1, d2, d3, dd4, d5, k0, k1, k2, k3, k4, k5, hy5⟩ := isVs_at l' a' j hlt' hvw'
            have hI := fun w1 => same_any N l[j] l'[j] (.agg #[c0, c1, c2, c3, cc4, c5]) (.agg #[d0, d1, d2, d3, dd4, d5]) w1 (by have := sizeVs_get l j hlt; omega)
            have e1 : l[j]? = some l[j] := List.getElem?_eq_getElem hlt
            have e2 : l'[j]? = some l'[j] := List.getElem?_eq_getElem hlt'
            have HBB := Lib.hid hB
            generalize l[j] = X at *
            generalize l'[j] = Y at *
            have hi0 : (0 : Int) ≤ (j : Int) := by omega
            have hi1 : (j : Int) < (l.length : Int) := by omega
            have HI : Hid (∀ w1, KB wr w1 → Calls Tryd.prog 10 #[.agg #[c0, c1, c2, c3, cc4, c5], .agg #[d0, d1, d2, d3, dd4, d5]] w1 fun e w' => e = .returned (.bool (sm X Y)) ∧ KB wr w') := Lib.hid fun w1 hK => Calls.kb hK (hI w1 (isV_below hK hx5) (isV_below hK hy5))
            have HYE : Hid (sm X Y = true → ∀ q, q < j + 1 → l[q]? = l'[q]?) := Lib.hid (fun hz q h => by
                by_cases e : q = j
                · subst e; rw [e1, e2, sm_eq hz]
                · exact hye.out q (by omega))
            have HNN : Hid (sm X Y = false → sm (.mk k b n s l ks) (.mk k b n s l' ks') = false) := Lib.hid (fun hz => sm_no (fun e => by
                injection e with _ _ _ _ e5 _
                rw [e5] at e1
                rw [e1] at e2
                exact sm_ne hz (Option.some.inj e2)))
            clear hI hB hvw hvw' hx5 hy5 hye e1 e2
            go_wp2_with fail
            go_still_tail 10, (by kernel_rfl)
            cases hz : sm X Y with
            | true =>
              rw [hz] at HI
              have HN := Lib.hid (HYE.out hz)
              clear hz HYE HNN
              go_wp2_with (go_at_call 10; (refine (HI.out _ (drewB1 _ _)).mono ?_); rintro e w5 ⟨rfl, hb5⟩)
              go_roundw
              case rel => exact ⟨j + 1, by omega, by go_num, HN, HBB.out.trans (hb5.mono HBB.out.size)⟩
              case measure => simp [intOf]; omega
            | false =>
              rw [hz] at HI
              have HN := Lib.hid (HNN.out hz)
              clear hz HYE HNN
              go_wp2_with (go_at_call 10; (refine (HI.out _ (drewB1 _ _)).mono ?_); rintro e w5 ⟨rfl, hb5⟩)
              go_ret
              exact ⟨by rw [HN.out]; rfl, HB0.out.trans ((HBB.out.trans (hb5.mono HBB.out.size)).mono HB0.out.size)⟩
          · have HN : Hid (sm (.mk k b n s l ks) (.mk k b n s l' ks') = true) := Lib.hid (sm_yes (by
              have : l = l' := List.ext_getElem? (fun q => by
                by_cases h : q < l.length
                · exact hye.out q (by omega)
                · rw [List.getElem?_eq_none (by omega), List.getElem?_eq_none (by rw [Q5.out]; omega)])
              rw [this, HKE.out]))
            have HBB := Lib.hid hB
            clear hye hB
            go_wp2_with fail
            go_ret
            exact ⟨by rw [HN.out]; rfl, HB0.out.trans (HBB.out.mono HB0.out.size)⟩
end Go.Proofs.YtgbagdfcdljleaaDoor.Tr
