/-
  How much there is in a value: the reference's weight and Great.
-/
import Derived.Test.YtdbfpojgaalfmaaDoorTV
set_option linter.unusedVariables false
namespace Go.Proofs.YtdbfpojgaalfmaaDoor
open Go.RowKit

def KB (w w' : World) : Prop := Below w.heap.size w w'
def keysN (ks : List ByteArray) : Nat := (ks.map fun k => min k.size 10000).sum
/-- How much there is, far at once where it is too deep: the reference's weight. -/
def wtV : Nat → V → Nat
  | 0, _ => 10000
  | left + 1, x => if 3000 < x.list.length ∨ 3000 < x.keys.length then 10000 else
      x.list.foldl (fun n y => if n ≤ 10000 then n + wtV left y else n) (1 + min x.text.size 10000 + keysN x.keys)
theorem sum_le : ∀ (l : List Nat) (B : Nat), (∀ x ∈ l, x ≤ B) → l.sum ≤ l.length * B
  | [], _, _ => by simp
  | x :: t, B, h => by
    have h1 := sum_le t B (fun y hy => h y (List.mem_cons_of_mem _ hy))
    have h2 := h x List.mem_cons_self
    rw [List.sum_cons, List.length_cons, Nat.add_mul]; omega
theorem keysN_le (ks : List ByteArray) (h : ks.length ≤ 3000) : keysN ks ≤ 30000000 := by
  unfold keysN
  have := sum_le (ks.map fun k => min k.size 10000) 10000 (fun x hx => by
    obtain ⟨k, _, rfl⟩ := List.mem_map.1 hx
    omega)
  rw [List.length_map] at this
  have h2 := Nat.mul_le_mul_right 10000 h
  omega
theorem fold_le (g : V → Nat) (B : Nat) (hg : ∀ y, g y ≤ B) : ∀ (l : List V) (n M : Nat), n ≤ M → 10000 + B ≤ M → l.foldl (fun n y => if n ≤ 10000 then n + g y else n) n ≤ M
  | [], n, M, h, _ => h
  | y :: t, n, M, h, hM => by
    rw [List.foldl_cons]
    refine fold_le g B hg t _ M ?_ hM
    split
    · have := hg y; omega
    · exact h
theorem wtV_le : ∀ (left : Nat) (x : V), wtV left x ≤ 30010001 + 10000 * left
  | 0, x => by unfold wtV; omega
  | left + 1, x => by
    unfold wtV
    split
    · omega
    · rename_i h
      have hk := keysN_le x.keys (by omega)
      exact fold_le (wtV left) _ (wtV_le left) x.list _ _ (by omega) (by omega)

theorem fold_stop (g : V → Nat) : ∀ (l : List V) (n : Nat), 10000 < n → l.foldl (fun n y => if n ≤ 10000 then n + g y else n) n = n
  | [], n, _ => rfl
  | y :: t, n, h => by
    rw [List.foldl_cons, if_neg (by omega)]
    exact fold_stop g t n h
theorem keysN_snoc (ks : List ByteArray) (k : Nat) (h : k < ks.length) : keysN (ks.take (k + 1)) = keysN (ks.take k) + min ks[k].size 10000 := by
  unfold keysN
  rw [List.take_succ_eq_append_getElem h, List.map_append, List.sum_append]
  simp
theorem foldT_snoc (g : V → Nat) (l : List V) (n k : Nat) (h : k < l.length) (hn : (l.take k).foldl (fun n y => if n ≤ 10000 then n + g y else n) n ≤ 10000) :
    (l.take (k + 1)).foldl (fun n y => if n ≤ 10000 then n + g y else n) n = (l.take k).foldl (fun n y => if n ≤ 10000 then n + g y else n) n + g l[k] := by
  rw [List.take_succ_eq_append_getElem h, List.foldl_append, List.foldl_cons, List.foldl_nil, if_pos hn]
theorem foldT_all (g : V → Nat) (l : List V) (n k : Nat) (h : l.length ≤ k ∨ 10000 < (l.take k).foldl (fun n y => if n ≤ 10000 then n + g y else n) n) :
    l.foldl (fun n y => if n ≤ 10000 then n + g y else n) n = (l.take k).foldl (fun n y => if n ≤ 10000 then n + g y else n) n := by
  rcases h with h | h
  · rw [List.take_of_length_le h]
  · conv => lhs; rw [← List.take_append_drop k l, List.foldl_append]
    exact fold_stop g _ _ h

set_option maxRecDepth 100000 in
set_option maxHeartbeats 4000000 in
theorem weight_any : ∀ (left : Nat) (x : V) (v : Value) (w : World), left ≤ 30 → isV w x v →
    Calls Tryd.prog 42 #[v, .int .i64 left] w fun e w' => e = .returned (.int .i64 (wtV left x)) ∧ Below w.heap.size w w'
  | 0, x, v, w, _, h => by
    obtain ⟨k, b, n, s, l, ks⟩ := x
    unfold isV at h
    obtain ⟨lv, kv, rfl, hk, hn, hs, ⟨a, cap, hsl, hvs⟩, hks⟩ := h
    have HW : Hid (wtV 0 (.mk k b n s l ks) = 10000) := Lib.hid rfl
    clear hk hn hs hsl hvs hks
    go_enter Tryd.func42, Tryd.ntmps42
    go_wp2_with fail
    go_ret
    exact ⟨by rw [HW.out]; rfl, (Below.refl _ _).alloc (Nat.le_refl _) _⟩
  | left + 1, x, v, w, hl, h => by
    obtain ⟨k, b, n, s, l, ks⟩ := x
    have h0 := h
    unfold isV at h
    obtain ⟨lv, kv, rfl, hk, hn, hs, ⟨a, cap, ⟨o, rfl, hc1, hc2, ho⟩, hvs⟩, ⟨a2, cap2, ⟨o2, rfl, hc3, hc4, ho2⟩, hks⟩⟩ := h
    unfold maxLen at hs hc2 hc4
    have hl0 : ((left : Int) + 1 == 0) = false := by rw [beq_eq_false_iff_ne]; omega
    have hl1 : ((left + 1 : Nat) : Int) = (left : Int) + 1 := by omega
    rw [hl1]
    have hl2 : (left : Int) + 1 - 1 = (left : Int) := by omega
    clear hk hn
    by_cases hb : 3000 < l.length ∨ 3000 < ks.length
    · have HW : Hid (wtV (left + 1) (.mk k b n s l ks) = 10000) := Lib.hid (by unfold wtV; exact if_pos hb)
      by_cases hb1 : 3000 < l.length
      · clear hb h0
        go_enter Tryd.func42, Tryd.ntmps42
        go_wp2_with fail
        go_ret
        exact ⟨by rw [HW.out]; rfl, (Below.refl _ _).alloc (Nat.le_refl _) _⟩
      · have hb2 : 3000 < ks.length := by omega
        clear hb h0
        go_enter Tryd.func42, Tryd.ntmps42
        go_wp2_with fail
        go_ret
        exact ⟨by rw [HW.out]; rfl, (Below.refl _ _).alloc (Nat.le_refl _) _⟩
    have HW : Hid (wtV (left + 1) (.mk k b n s l ks) = l.foldl (fun n y => if n ≤ 10000 then n + wtV left y else n) (1 + min s.size 10000 + keysN ks)) := Lib.hid (by rw [wtV]; exact if_neg hb)
    have hb1 : l.length ≤ 3000 := by omega
    have hb2 : ks.length ≤ 3000 := by omega
    have b1 : decide (3000 < (l.length : Int)) = false := decide_eq_false (by omega)
    have b2 : decide (3000 < (ks.length : Int)) = false := decide_eq_false (by omega)
    obtain ⟨m, hm⟩ : ∃ m : Nat, m = min s.size 10000 := ⟨_, rfl⟩
    have hmi : (if (10000 : Int) < (s.size : Int) then (10000 : Int) else (s.size : Int)) = (m : Int) := by split <;> omega
    rw [← hm] at HW
    have hm2 : m ≤ 10000 := by omega
    have hba : ∀ c T, Below w.heap.size w (w.alloc (.cells c T)) := fun c T => (Below.refl _ _).alloc (Nat.le_refl _) _
    have HK : Hid (∀ (i : Nat) (h : i < ks.length), (w.alloc (.cells #[.int .i8 k, .bool b, .int .i64 n, .string s, .slice o l.length cap, .slice o2 ks.length cap2] 26)).cell? (a2.add i) = some (.string ks[i]) ∧ ks[i].size ≤ maxLen) := Lib.hid (fun i h => ⟨cell_below (hba _ _) _ _ (hks i h).1, (hks i h).2⟩)
    have HV : Hid (isVs w l a) := Lib.hid hvs
    clear hb hm h0 hl1 hba hks hvs
    go_enter Tryd.func42, Tryd.ntmps42
    go_wp2_with fail
    go_loop [5, 6] (fun n i => ∃ (j x : Nat), j ≤ ks.length ∧ i = .int .i64 j ∧ n = .int .i64 x ∧ x ≤ 30010001 ∧ Hid (x = 1 + m + keysN (ks.take j))) (fun _ i => ks.length - (intOf i).toNat)
    case atStart => exact ⟨0, 1 + m, by omega, rfl, by go_num, by omega, Lib.hid (by simp [keysN])⟩
    case round =>
      obtain ⟨j, x, hj, rfl, rfl, hx, hxe⟩ := hrel
      by_cases hlt : j < ks.length
      · obtain ⟨hcell, hsz⟩ := HK.out j hlt
        obtain rfl := ho2 (by omega)
        have hsn := keysN_snoc ks j hlt
        have hle := keysN_le (ks.take (j + 1)) (by rw [List.length_take]; omega)
        generalize ks[j] = K at *
        obtain ⟨z, hz⟩ : ∃ z : Nat, z = min K.size 10000 := ⟨_, rfl⟩
        have hzi : (if (10000 : Int) < (K.size : Int) then (10000 : Int) else (K.size : Int)) = (z : Int) := by split <;> omega
        have hz2 : z ≤ 10000 := by omega
        rw [← hz] at hsn
        have HX : Hid (x + z = 1 + m + keysN (ks.take (j + 1))) := Lib.hid (by rw [hsn, hxe.out]; omega)
        have hx2 : x + z ≤ 30010001 := by have := HX.out; omega
        clear hsn hle hz hxe
        unfold maxLen at hsz
        go_wp2_with fail
        go_round
        case rel => exact ⟨j + 1, x + z, by omega, by go_num, by go_num, hx2, HX⟩
        case measure => simp [intOf]; omega
      · have HX : Hid (x = 1 + m + keysN ks) := Lib.hid (by rw [hxe.out, List.take_of_length_le (by omega)])
        clear hxe
        go_wp2_with fail
        have hB0 : KB w (w.alloc (.cells #[.int .i8 k, .bool b, .int .i64 n, .string s, .slice o l.length cap, .slice o2 ks.length cap2] 26)) := (Below.refl _ _).alloc (Nat.le_refl _) _
        have h4 : (w.alloc (.cells #[.int .i8 k, .bool b, .int .i64 n, .string s, .slice o l.length cap, .slice o2 ks.length cap2] 26)).cell? ⟨w.heap.size, 4, none⟩ = some (.slice o l.length cap) := by simp
        have hsz : (w.alloc (.cells #[.int .i8 k, .bool b, .int .i64 n, .string s, .slice o l.length cap, .slice o2 ks.length cap2] 26)).heap.size = w.heap.size + 1 := by simp
        clear HK ho2
        generalize hW1 : w.alloc (.cells #[.int .i8 k, .bool b, .int .i64 n, .string s, .slice o l.length cap, .slice o2 ks.length cap2] 26) = W1 at *
        clear hW1
        have HB0 := Lib.hid hB0
        have H4 := Lib.hid h4
        have HZ := Lib.hid hsz
        clear hB0 h4 hsz hlt hj
        go_loopw [5, 7] (fun n i wr => ∃ (j y : Nat), j ≤ l.length ∧ i = .int .i64 j ∧ n = .int .i64 y ∧ y ≤ 40000000 ∧ Hid (y = (l.take j).foldl (fun n y => if n ≤ 10000 then n + wtV left y else n) x) ∧ Below W1.heap.size W1 wr) (fun _ i _ => l.length - (intOf i).toNat)
        case atStart => exact ⟨0, x, by omega, rfl, rfl, by omega, Lib.hid rfl, Below.refl _ _⟩
        case round =>
          obtain ⟨j, y, hj, rfl, rfl, hy, hye, hB⟩ := hrel
          have c4 : wr.cell? ⟨w.heap.size, 4, none⟩ = some (.slice o l.length cap) := cell_below hB _ _ H4.out
          by_cases hlt : j < l.length
          · obtain rfl := ho (by omega)
            by_cases hy1 : y ≤ 10000
            · have hvw := isVs_keep (cell_below hB) l a (isVs_keep (cell_below HB0.out) l a HV.out)
              obtain ⟨c0, c1, c2, c3, c4', c5, g0, g1, g2, g3, g4, g5, hx5⟩ := isVs_at l a j hlt hvw
              have hI := weight_any left l[j] _ wr (by omega) hx5
              have hsn := foldT_snoc (wtV left) l x j hlt (by rw [← hye.out]; exact hy1)
              rw [← hye.out] at hsn
              have hwl := wtV_le left l[j]
              obtain ⟨z, hz⟩ : ∃ z, wtV left l[j] = z := ⟨_, rfl⟩
              rw [hz] at hI hsn hwl
              have HI := Lib.hid hI
              have HN := Lib.hid hsn.symm
              have HBB := Lib.hid hB
              have hz3 : z ≤ 30310001 := by omega
              have hy2 : decide ((y : Int) ≤ 10000) = true := decide_eq_true (by omega)
              clear hI hsn hB hvw hx5 hz hye hwl
              go_wp2_with (go_at_call 42; (with_reducible refine HI.out.mono ?_); rintro e w5 ⟨rfl, hb5⟩)
              go_roundw
              case rel => exact ⟨j + 1, y + z, by omega, by go_num, by go_num, by omega, Lib.hid (by rw [HN.out]), HBB.out.trans (hb5.mono HBB.out.size)⟩
              case measure => simp [intOf]; omega
            · have hy2 : decide ((y : Int) ≤ 10000) = false := decide_eq_false (by omega)
              have HF : Hid (wtV (left + 1) (.mk k b n s l ks) = y) := Lib.hid (by
                rw [HW.out, ← HX.out, foldT_all (wtV left) l x j (.inr (by rw [← hye.out]; omega)), ← hye.out])
              have HBB := Lib.hid hB
              clear hye hB
              go_wp2_with fail
              go_ret
              exact ⟨by rw [HF.out]; rfl, HB0.out.trans (HBB.out.mono HB0.out.size)⟩
          · have HF : Hid (wtV (left + 1) (.mk k b n s l ks) = y) := Lib.hid (by
              rw [HW.out, ← HX.out, foldT_all (wtV left) l x j (.inl (by omega)), ← hye.out])
            have HBB := Lib.hid hB
            clear hye hB
            go_wp2_with fail
            go_ret
            exact ⟨by rw [HF.out]; rfl, HB0.out.trans (HBB.out.mono HB0.out.size)⟩
end Go.Proofs.YtdbfpojgaalfmaaDoor
