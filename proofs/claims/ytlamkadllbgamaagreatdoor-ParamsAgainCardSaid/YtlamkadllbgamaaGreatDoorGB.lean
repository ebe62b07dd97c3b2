/-
  Values as trees: what a value in memory reads as. · How much there is in a value: the reference's weight and Great. · Plain mathematics of trees: size, depth, count; what a small weight says. · Contracts of the reference's Great, Count, Depth, deeper, Text, Num.
-/
import Derived.Test.YtlamkadllbgamaaGreatDoorProg
import Derived.WalkKit
import Derived.ProofKit
import Derived.Below
import Derived.Handy
import Derived.Deep.QuietTactic
import Derived.BigQuiet
import Derived.Lib.Hide
set_option linter.unusedVariables false
set_option linter.unusedSimpArgs false
namespace Go.Proofs.YtlamkadllbgamaaGreatDoor
open Go.RowKit

/-- A value, as a tree. -/
inductive V where
  | mk (kind : Int) (bool : Bool) (num : Int) (text : ByteArray) (list : List V) (keys : List ByteArray)
def V.kind : V → Int | .mk k _ _ _ _ _ => k
def V.bool : V → Bool | .mk _ b _ _ _ _ => b
def V.num : V → Int | .mk _ _ n _ _ _ => n
def V.text : V → ByteArray | .mk _ _ _ s _ _ => s
def V.list : V → List V | .mk _ _ _ _ l _ => l
def V.keys : V → List ByteArray | .mk _ _ _ _ _ ks => ks

/-- A slice of so many elements, at an address. -/
def slv (v : Value) (n : Nat) (a : Addr) (cap : Nat) : Prop := ∃ o, v = .slice o n cap ∧ n ≤ cap ∧ cap ≤ maxLen ∧ (0 < n → o = some a)
def isK (W : World) (ks : List ByteArray) (v : Value) : Prop :=
  ∃ a cap, slv v ks.length a cap ∧ ∀ i (h : i < ks.length), W.cell? (a.add i) = some (.string ks[i]) ∧ ks[i].size ≤ maxLen
mutual
def isV (W : World) : V → Value → Prop
  | .mk k b n s l ks, v => ∃ lv kv, v = .agg #[.int .i8 k, .bool b, .int .i64 n, .string s, lv, kv] ∧ (-128 ≤ k ∧ k ≤ 127) ∧ (-9223372036854775808 ≤ n ∧ n ≤ 9223372036854775807) ∧ s.size ≤ maxLen ∧ (∃ a cap, slv lv l.length a cap ∧ isVs W l a) ∧ isK W ks kv
def isVs (W : World) : List V → Addr → Prop
  | [], _ => True
  | x :: t, a => (∃ c0 c1 c2 c3 c4 c5, W.cell? a = some c0 ∧ W.cell? (a.add 1) = some c1 ∧ W.cell? (a.add 2) = some c2 ∧ W.cell? (a.add 3) = some c3 ∧ W.cell? (a.add 4) = some c4 ∧ W.cell? (a.add 5) = some c5 ∧ isV W x (.agg #[c0, c1, c2, c3, c4, c5])) ∧ isVs W t (a.add 6)
end
theorem isK_keep {W W' : World} (hc : ∀ a c, W.cell? a = some c → W'.cell? a = some c) {ks : List ByteArray} {v : Value} (h : isK W ks v) : isK W' ks v := by
  obtain ⟨a, cap, h1, h2⟩ := h
  exact ⟨a, cap, h1, fun i hi => ⟨hc _ _ (h2 i hi).1, (h2 i hi).2⟩⟩
mutual
theorem isV_keep {W W' : World} (hc : ∀ a c, W.cell? a = some c → W'.cell? a = some c) : ∀ (x : V) (v : Value), isV W x v → isV W' x v
  | .mk k b n s l ks, v, h => by
    unfold isV at h ⊢
    obtain ⟨lv, kv, h1, h2, h3, h4, ⟨a, cap, h5, h6⟩, h7⟩ := h
    exact ⟨lv, kv, h1, h2, h3, h4, ⟨a, cap, h5, isVs_keep hc l a h6⟩, isK_keep hc h7⟩
theorem isVs_keep {W W' : World} (hc : ∀ a c, W.cell? a = some c → W'.cell? a = some c) : ∀ (l : List V) (a : Addr), isVs W l a → isVs W' l a
  | [], _, _ => by unfold isVs; trivial
  | x :: t, a, h => by
    unfold isVs at h ⊢
    obtain ⟨⟨c0, c1, c2, c3, c4, c5, g0, g1, g2, g3, g4, g5, hx⟩, ht⟩ := h
    exact ⟨⟨c0, c1, c2, c3, c4, c5, hc _ _ g0, hc _ _ g1, hc _ _ g2, hc _ _ g3, hc _ _ g4, hc _ _ g5, isV_keep hc x _ hx⟩, isVs_keep hc t _ ht⟩
end
theorem cell_below {W W' : World} (hb : Below W.heap.size W W') : ∀ a c, W.cell? a = some c → W'.cell? a = some c := fun a c h => by
  have hl := World.block_lt_of_cell? W a h
  exact (hb.cell (p := a) hl).trans h
theorem isV_below {W W' : World} (hb : Below W.heap.size W W') {x : V} {v : Value} (h : isV W x v) : isV W' x v := isV_keep (cell_below hb) x v h
theorem add_add (a : Addr) (i j : Nat) : (a.add i).add j = a.add (i + j) := by
  unfold Addr.add
  by_cases h1 : i = 0 <;> by_cases h2 : j = 0 <;> simp [h1, h2, Nat.add_assoc]
theorem isVs_get {W : World} : ∀ (l : List V) (a : Addr) (i : Nat) (h : i < l.length), isVs W l a →
    ∃ c0 c1 c2 c3 c4 c5, W.cell? (a.add (i * 6)) = some c0 ∧ W.cell? (a.add (i * 6 + 1)) = some c1 ∧ W.cell? (a.add (i * 6 + 2)) = some c2 ∧ W.cell? (a.add (i * 6 + 3)) = some c3 ∧ W.cell? (a.add (i * 6 + 4)) = some c4 ∧ W.cell? (a.add (i * 6 + 5)) = some c5 ∧ isV W l[i] (.agg #[c0, c1, c2, c3, c4, c5])
  | x :: t, a, 0, _, h => by
    unfold isVs at h
    obtain ⟨⟨c0, c1, c2, c3, c4, c5, g0, g1, g2, g3, g4, g5, hx⟩, ht⟩ := h
    have e : a.add 0 = a := by simp [Addr.add]
    refine ⟨c0, c1, c2, c3, c4, c5, ?_, ?_, ?_, ?_, ?_, ?_, hx⟩
    all_goals simp only [Nat.zero_mul, Nat.zero_add, e]; assumption
  | x :: t, a, i + 1, hi, h => by
    unfold isVs at h
    obtain ⟨_, ht⟩ := h
    obtain ⟨c0, c1, c2, c3, c4, c5, g0, g1, g2, g3, g4, g5, hx⟩ := isVs_get t (a.add 6) i (by simpa using hi) ht
    simp only [add_add] at g0 g1 g2 g3 g4 g5
    refine ⟨c0, c1, c2, c3, c4, c5, ?_, ?_, ?_, ?_, ?_, ?_, hx⟩
    · rw [show (i + 1) * 6 = 6 + i * 6 by omega]; exact g0
    · rw [show (i + 1) * 6 + 1 = 6 + (i * 6 + 1) by omega]; exact g1
    · rw [show (i + 1) * 6 + 2 = 6 + (i * 6 + 2) by omega]; exact g2
    · rw [show (i + 1) * 6 + 3 = 6 + (i * 6 + 3) by omega]; exact g3
    · rw [show (i + 1) * 6 + 4 = 6 + (i * 6 + 4) by omega]; exact g4
    · rw [show (i + 1) * 6 + 5 = 6 + (i * 6 + 5) by omega]; exact g5
theorem add_succ (a : Addr) (i j : Nat) (hj : j ≠ 0) : a.add (i + j) = ⟨(a.add i).block, (a.add i).off + j, none⟩ := by
  rw [← add_add]
  show (if j = 0 then a.add i else { a.add i with off := (a.add i).off + j, spot := none }) = _
  rw [if_neg hj]
/-- The six cells of an element, as a load reads them. -/
theorem isVs_at {W : World} (l : List V) (a : Addr) (i : Nat) (h : i < l.length) (hs : isVs W l a) :
    ∃ c0 c1 c2 c3 c4 c5, W.cell? (a.add (i * 6)) = some c0 ∧ W.cell? ⟨(a.add (i * 6)).block, (a.add (i * 6)).off + 1, none⟩ = some c1 ∧ W.cell? ⟨(a.add (i * 6)).block, (a.add (i * 6)).off + 2, none⟩ = some c2 ∧ W.cell? ⟨(a.add (i * 6)).block, (a.add (i * 6)).off + 3, none⟩ = some c3 ∧ W.cell? ⟨(a.add (i * 6)).block, (a.add (i * 6)).off + 4, none⟩ = some c4 ∧ W.cell? ⟨(a.add (i * 6)).block, (a.add (i * 6)).off + 5, none⟩ = some c5 ∧ isV W l[i] (.agg #[c0, c1, c2, c3, c4, c5]) := by
  obtain ⟨c0, c1, c2, c3, c4, c5, g0, g1, g2, g3, g4, g5, hx⟩ := isVs_get l a i h hs
  rw [add_succ _ _ _ (by decide)] at g1 g2 g3 g4 g5
  exact ⟨c0, c1, c2, c3, c4, c5, g0, g1, g2, g3, g4, g5, hx⟩
end Go.Proofs.YtlamkadllbgamaaGreatDoor

namespace Go.Proofs.YtlamkadllbgamaaGreatDoor
open Go.RowKit

def KB (w w' : World) : Prop := Below w.heap.size w w'
def keysN (ks : List ByteArray) : Nat := (ks.map fun k => min k.size 10000).sum
/-- How much there is, far at once where it is too deep: the reference's weight. -/
def wtV : Nat → V → Nat
  | 0, _ => 10000
  | left + 1, x => if 3000 < x.list.length ∨ 3000 < x.keys.length then 10000 else
      x.list.foldl (fun n y => if n ≤ 10000 then n + wtV left y else n) (1 + min x.text.size 10000 + keysN x.keys)
theorem sum_le : ∀ (l : List Nat) (B : Nat), (∀ x ∈ l, x ≤ B) → l.sum ≤ l.length * B
  | [], _, _ => by simp
  | x :: t, B, h => by
    have h1 := sum_le t B (fun y hy => h y (List.mem_cons_of_mem _ hy))
    have h2 := h x List.mem_cons_self
    rw [List.sum_cons, List.length_cons, Nat.add_mul]; omega
theorem keysN_le (ks : List ByteArray) (h : ks.length ≤ 3000) : keysN ks ≤ 30000000 := by
  unfold keysN
  have := sum_le (ks.map fun k => min k.size 10000) 10000 (fun x hx => by
    obtain ⟨k, _, rfl⟩ := List.mem_map.1 hx
    omega)
  rw [List.length_map] at this
  have h2 := Nat.mul_le_mul_right 10000 h
  omega
theorem fold_le (g : V → Nat) (B : Nat) (hg : ∀ y, g y ≤ B) : ∀ (l : List V) (n M : Nat), n ≤ M → 10000 + B ≤ M → l.foldl (fun n y => if n ≤ 10000 then n + g y else n) n ≤ M
  | [], n, M, h, _ => h
  | y :: t, n, M, h, hM => by
    rw [List.foldl_cons]
    refine fold_le g B hg t _ M ?_ hM
    split
    · have := hg y; omega
    · exact h
theorem wtV_le : ∀ (left : Nat) (x : V), wtV left x ≤ 30010001 + 10000 * left
  | 0, x => by unfold wtV; omega
  | left + 1, x => by
    unfold wtV
    split
    · omega
    · rename_i h
      have hk := keysN_le x.keys (by omega)
      exact fold_le (wtV left) _ (wtV_le left) x.list _ _ (by omega) (by omega)

theorem fold_stop (g : V → Nat) : ∀ (l : List V) (n : Nat), 10000 < n → l.foldl (fun n y => if n ≤ 10000 then n + g y else n) n = n
  | [], n, _ => rfl
  | y :: t, n, h => by
    rw [List.foldl_cons, if_neg (by omega)]
    exact fold_stop g t n h
theorem keysN_snoc (ks : List ByteArray) (k : Nat) (h : k < ks.length) : keysN (ks.take (k + 1)) = keysN (ks.take k) + min ks[k].size 10000 := by
  unfold keysN
  rw [List.take_succ_eq_append_getElem h, List.map_append, List.sum_append]
  simp
theorem foldT_snoc (g : V → Nat) (l : List V) (n k : Nat) (h : k < l.length) (hn : (l.take k).foldl (fun n y => if n ≤ 10000 then n + g y else n) n ≤ 10000) :
    (l.take (k + 1)).foldl (fun n y => if n ≤ 10000 then n + g y else n) n = (l.take k).foldl (fun n y => if n ≤ 10000 then n + g y else n) n + g l[k] := by
  rw [List.take_succ_eq_append_getElem h, List.foldl_append, List.foldl_cons, List.foldl_nil, if_pos hn]
theorem foldT_all (g : V → Nat) (l : List V) (n k : Nat) (h : l.length ≤ k ∨ 10000 < (l.take k).foldl (fun n y => if n ≤ 10000 then n + g y else n) n) :
    l.foldl (fun n y => if n ≤ 10000 then n + g y else n) n = (l.take k).foldl (fun n y => if n ≤ 10000 then n + g y else n) n := by
  rcases h with h | h
  · rw [List.take_of_length_le h]
  · conv => lhs; rw [← List.take_append_drop k l, List.foldl_append]
    exact fold_stop g _ _ h

set_option maxRecDepth 100000 in
set_option maxHeartbeats 4000000 in
theorem weight_any : ∀ (left : Nat) (x : V) (v : Value) (w : World), left ≤ 30 → isV w x v →
    Calls Tryz.prog 58 #[v, .int .i64 left] w fun e w' => e = .returned (.int .i64 (wtV left x)) ∧ Below w.heap.size w w'
  | 0, x, v, w, _, h => by
    obtain ⟨k, b, n, s, l, ks⟩ := x
    unfold isV at h
    obtain ⟨lv, kv, rfl, hk, hn, hs, ⟨a, cap, hsl, hvs⟩, hks⟩ := h
    have HW : Hid (wtV 0 (.mk k b n s l ks) = 10000) := Lib.hid rfl
    clear hk hn hs hsl hvs hks
    go_enter Tryz.func58, Tryz.ntmps58
    go_wp2_with fail
    go_ret
    exact ⟨by rw [HW.out]; rfl, (Below.refl _ _).alloc (Nat.le_refl _) _⟩
  | left + 1, x, v, w, hl, h => by
    obtain ⟨k, b, n, s, l, ks⟩ := x
    have h0 := h
    unfold isV at h
    obtain ⟨lv, kv, rfl, hk, hn, hs, ⟨a, cap, ⟨o, rfl, hc1, hc2, ho⟩, hvs⟩, ⟨a2, cap2, ⟨o2, rfl, hc3, hc4, ho2⟩, hks⟩⟩ := h
    unfold maxLen at hs hc2 hc4
    have hl0 : ((left : Int) + 1 == 0) = false := by rw [beq_eq_false_iff_ne]; omega
    have hl1 : ((left + 1 : Nat) : Int) = (left : Int) + 1 := by omega
    rw [hl1]
    have hl2 : (left : Int) + 1 - 1 = (left : Int) := by omega
    clear hk hn
    by_cases hb : 3000 < l.length ∨ 3000 < ks.length
    · have HW : Hid (wtV (left + 1) (.mk k b n s l ks) = 10000) := Lib.hid (by unfold wtV; exact if_pos hb)
      by_cases hb1 : 3000 < l.length
      · clear hb h0
        go_enter Tryz.func58, Tryz.ntmps58
        go_wp2_with fail
        go_ret
        exact ⟨by rw [HW.out]; rfl, (Below.refl _ _).alloc (Nat.le_refl _) _⟩
      · have hb2 : 3000 < ks.length := by omega
        clear hb h0
        go_enter Tryz.func58, Tryz.ntmps58
        go_wp2_with fail
        go_ret
        exact ⟨by rw [HW.out]; rfl, (Below.refl _ _).alloc (Nat.le_refl _) _⟩
    have HW : Hid (wtV (left + 1) (.mk k b n s l ks) = l.foldl (fun n y => if n ≤ 10000 then n + wtV left y else n) (1 + min s.size 10000 + keysN ks)) := Lib.hid (by rw [wtV]; exact if_neg hb)
    have hb1 : l.length ≤ 3000 := by omega
    have hb2 : ks.length ≤ 3000 := by omega
    have b1 : decide (3000 < (l.length : Int)) = false := decide_eq_false (by omega)
    have b2 : decide (3000 < (ks.length : Int)) = false := decide_eq_false (by omega)
    obtain ⟨m, hm⟩ : ∃ m : Nat, m = min s.size 10000 := ⟨_, rfl⟩
    have hmi : (if (10000 : Int) < (s.size : Int) then (10000 : Int) else (s.size : Int)) = (m : Int) := by split <;> omega
    rw [← hm] at HW
    have hm2 : m ≤ 10000 := by omega
    have hba : ∀ c T, Below w.heap.size w (w.alloc (.cells c T)) := fun c T => (Below.refl _ _).alloc (Nat.le_refl _) _
    have HK : Hid (∀ (i : Nat) (h : i < ks.length), (w.alloc (.cells #[.int .i8 k, .bool b, .int .i64 n, .string s, .slice o l.length cap, .slice o2 ks.length cap2] 33)).cell? (a2.add i) = some (.string ks[i]) ∧ ks[i].size ≤ maxLen) := Lib.hid (fun i h => ⟨cell_below (hba _ _) _ _ (hks i h).1, (hks i h).2⟩)
    have HV : Hid (isVs w l a) := Lib.hid hvs
    clear hb hm h0 hl1 hba hks hvs
    go_enter Tryz.func58, Tryz.ntmps58
    go_wp2_with fail
    go_loop [5, 6] (fun n i => ∃ (j x : Nat), j ≤ ks.length ∧ i = .int .i64 j ∧ n = .int .i64 x ∧ x ≤ 30010001 ∧ Hid (x = 1 + m + keysN (ks.take j))) (fun _ i => ks.length - (intOf i).toNat)
    case atStart => exact ⟨0, 1 + m, by omega, rfl, by go_num, by omega, Lib.hid (by simp [keysN])⟩
    case round =>
      obtain ⟨j, x, hj, rfl, rfl, hx, hxe⟩ := hrel
      by_cases hlt : j < ks.length
      · obtain ⟨hcell, hsz⟩ := HK.out j hlt
        obtain rfl := ho2 (by omega)
        have hsn := keysN_snoc ks j hlt
        have hle := keysN_le (ks.take (j + 1)) (by rw [List.length_take]; omega)
        generalize ks[j] = K at *
        obtain ⟨z, hz⟩ : ∃ z : Nat, z = min K.size 10000 := ⟨_, rfl⟩
        have hzi : (if (10000 : Int) < (K.size : Int) then (10000 : Int) else (K.size : Int)) = (z : Int) := by split <;> omega
        have hz2 : z ≤ 10000 := by omega
        rw [← hz] at hsn
        have HX : Hid (x + z = 1 + m + keysN (ks.take (j + 1))) := Lib.hid (by rw [hsn, hxe.out]; omega)
        have hx2 : x + z ≤ 30010001 := by have := HX.out; omega
        clear hsn hle hz hxe
        unfold maxLen at hsz
        go_wp2_with fail
        go_round
        case rel => exact ⟨j + 1, x + z, by omega, by go_num, by go_num, hx2, HX⟩
        case measure => simp [intOf]; omega
      · have HX : Hid (x = 1 + m + keysN ks) := Lib.hid (by rw [hxe.out, List.take_of_length_le (by omega)])
        clear hxe
        go_wp2_with fail
        have hB0 : KB w (w.alloc (.cells #[.int .i8 k, .bool b, .int .i64 n, .string s, .slice o l.length cap, .slice o2 ks.length cap2] 33)) := (Below.refl _ _).alloc (Nat.le_refl _) _
        have h4 : (w.alloc (.cells #[.int .i8 k, .bool b, .int .i64 n, .string s, .slice o l.length cap, .slice o2 ks.length cap2] 33)).cell? ⟨w.heap.size, 4, none⟩ = some (.slice o l.length cap) := by simp
        have hsz : (w.alloc (.cells #[.int .i8 k, .bool b, .int .i64 n, .string s, .slice o l.length cap, .slice o2 ks.length cap2] 33)).heap.size = w.heap.size + 1 := by simp
        clear HK ho2
        generalize hW1 : w.alloc (.cells #[.int .i8 k, .bool b, .int .i64 n, .string s, .slice o l.length cap, .slice o2 ks.length cap2] 33) = W1 at *
        clear hW1
        have HB0 := Lib.hid hB0
        have H4 := Lib.hid h4
        have HZ := Lib.hid hsz
        clear hB0 h4 hsz hlt hj
        go_loopw [5, 7] (fun n i wr => ∃ (j y : Nat), j ≤ l.length ∧ i = .int .i64 j ∧ n = .int .i64 y ∧ y ≤ 40000000 ∧ Hid (y = (l.take j).foldl (fun n y => if n ≤ 10000 then n + wtV left y else n) x) ∧ Below W1.heap.size W1 wr) (fun _ i _ => l.length - (intOf i).toNat)
        case atStart => exact ⟨0, x, by omega, rfl, rfl, by omega, Lib.hid rfl, Below.refl _ _⟩
        case round =>
          obtain ⟨j, y, hj, rfl, rfl, hy, hye, hB⟩ := hrel
          have c4 : wr.cell? ⟨w.heap.size, 4, none⟩ = some (.slice o l.length cap) := cell_below hB _ _ H4.out
          by_cases hlt : j < l.length
          · obtain rfl := ho (by omega)
            by_cases hy1 : y ≤ 10000
            · have hvw := isVs_keep (cell_below hB) l a (isVs_keep (cell_below HB0.out) l a HV.out)
              obtain ⟨c0, c1, c2, c3, c4', c5, g0, g1, g2, g3, g4, g5, hx5⟩ := isVs_at l a j hlt hvw
              have hI := weight_any left l[j] _ wr (by omega) hx5
              have hsn := foldT_snoc (wtV left) l x j hlt (by rw [← hye.out]; exact hy1)
              rw [← hye.out] at hsn
              have hwl := wtV_le left l[j]
              obtain ⟨z, hz⟩ : ∃ z, wtV left l[j] = z := ⟨_, rfl⟩
              rw [hz] at hI hsn hwl
              have HI := Lib.hid hI
              have HN := Lib.hid hsn.symm
              have HBB := Lib.hid hB
              have hz3 : z ≤ 30310001 := by omega
              have hy2 : decide ((y : Int) ≤ 10000) = true := decide_eq_true (by omega)
              clear hI hsn hB hvw hx5 hz hye hwl
              go_wp2_with (go_at_call 58; (with_reducible refine HI.out.mono ?_); rintro e w5 ⟨rfl, hb5⟩)
              go_roundw
              case rel => exact ⟨j + 1, y + z, by omega, by go_num, by go_num, by omega, Lib.hid (by rw [HN.out]), HBB.out.trans (hb5.mono HBB.out.size)⟩
              case measure => simp [intOf]; omega
            · have hy2 : decide ((y : Int) ≤ 10000) = false := decide_eq_false (by omega)
              have HF : Hid (wtV (left + 1) (.mk k b n s l ks) = y) := Lib.hid (by
                rw [HW.out, ← HX.out, foldT_all (wtV left) l x j (.inr (by rw [← hye.out]; omega)), ← hye.out])
              have HBB := Lib.hid hB
              clear hye hB
              go_wp2_with fail
              go_ret
              exact ⟨by rw [HF.out]; rfl, HB0.out.trans (HBB.out.mono HB0.out.size)⟩
          · have HF : Hid (wtV (left + 1) (.mk k b n s l ks) = y) := Lib.hid (by
              rw [HW.out, ← HX.out, foldT_all (wtV left) l x j (.inl (by omega)), ← hye.out])
            have HBB := Lib.hid hB
            clear hye hB
            go_wp2_with fail
            go_ret
            exact ⟨by rw [HF.out]; rfl, HB0.out.trans (HBB.out.mono HB0.out.size)⟩
end Go.Proofs.YtlamkadllbgamaaGreatDoor

namespace Go.Proofs.YtlamkadllbgamaaGreatDoor
open Go.RowKit

def keysS (ks : List ByteArray) : Nat := (ks.map ByteArray.size).sum
mutual
/-- Parts and bytes. -/
def sizeV : V → Nat | .mk _ _ _ s l ks => 1 + s.size + keysS ks + sizeVs l
def sizeVs : List V → Nat | [] => 0 | x :: t => sizeV x + sizeVs t
end
mutual
def depthV : V → Nat | .mk _ _ _ _ l _ => 1 + depthVs l
def depthVs : List V → Nat | [] => 0 | x :: t => max (depthV x) (depthVs t)
end
mutual
def countV : V → Nat | .mk _ _ _ _ l _ => 1 + countVs l
def countVs : List V → Nat | [] => 0 | x :: t => countV x + countVs t
end
theorem sizeV_pos (x : V) : 1 ≤ sizeV x := by obtain ⟨_, _, _, _, _, _⟩ := x; unfold sizeV; omega
theorem depthV_pos (x : V) : 1 ≤ depthV x := by obtain ⟨_, _, _, _, _, _⟩ := x; unfold depthV; omega
theorem sizeVs_get : ∀ (l : List V) (j : Nat) (h : j < l.length), sizeV l[j] ≤ sizeVs l
  | x :: t, 0, _ => by simp [sizeVs]
  | x :: t, j + 1, h => by
    have := sizeVs_get t j (by simpa using h)
    simp only [sizeVs, List.getElem_cons_succ]; omega
theorem depthVs_get : ∀ (l : List V) (j : Nat) (h : j < l.length), depthV l[j] ≤ depthVs l
  | x :: t, 0, _ => by simp only [depthVs, List.getElem_cons_zero]; omega
  | x :: t, j + 1, h => by
    have := depthVs_get t j (by simpa using h)
    simp only [depthVs, List.getElem_cons_succ]; omega
theorem sizeVs_app (a b : List V) : sizeVs (a ++ b) = sizeVs a + sizeVs b := by
  induction a with
  | nil => simp [sizeVs]
  | cons x t ih => simp only [List.cons_append, sizeVs, ih]; omega
theorem countVs_app (a b : List V) : countVs (a ++ b) = countVs a + countVs b := by
  induction a with
  | nil => simp [countVs]
  | cons x t ih => simp only [List.cons_append, countVs, ih]; omega
theorem depthVs_app (a b : List V) : depthVs (a ++ b) = max (depthVs a) (depthVs b) := by
  induction a with
  | nil => simp [depthVs]
  | cons x t ih => simp only [List.cons_append, depthVs, ih]; omega
theorem countVs_snoc (l : List V) (j : Nat) (h : j < l.length) : countVs (l.take (j + 1)) = countVs (l.take j) + countV l[j] := by
  rw [List.take_succ_eq_append_getElem h, countVs_app]; simp [countVs]
theorem depthVs_snoc (l : List V) (j : Nat) (h : j < l.length) : depthVs (l.take (j + 1)) = max (depthVs (l.take j)) (depthV l[j]) := by
  rw [List.take_succ_eq_append_getElem h, depthVs_app]; simp [depthVs]
theorem sizeVs_len (l : List V) : l.length ≤ sizeVs l := by
  induction l with
  | nil => simp [sizeVs]
  | cons x t ih => have := sizeV_pos x; simp only [sizeVs, List.length_cons]; omega
mutual
theorem count_le_size : ∀ x : V, countV x ≤ sizeV x
  | .mk _ _ _ s l ks => by have := counts_le_size l; unfold countV sizeV; omega
theorem counts_le_size : ∀ l : List V, countVs l ≤ sizeVs l
  | [] => by simp [countVs, sizeVs]
  | x :: t => by have h1 := count_le_size x; have h2 := counts_le_size t; simp only [countVs, sizeVs]; omega
end
theorem countVs_take_le (l : List V) (j : Nat) : countVs (l.take j) ≤ countVs l := by
  conv => rhs; rw [← List.take_append_drop j l, countVs_app]
  omega

theorem fold_ge (g : V → Nat) : ∀ (l : List V) (n : Nat), n ≤ l.foldl (fun n y => if n ≤ 10000 then n + g y else n) n
  | [], n => Nat.le_refl _
  | y :: t, n => by
    rw [List.foldl_cons]
    refine Nat.le_trans ?_ (fold_ge g t _)
    split <;> omega
theorem fold_small (g : V → Nat) : ∀ (l : List V) (n : Nat), l.foldl (fun n y => if n ≤ 10000 then n + g y else n) n ≤ 5000 → l.foldl (fun n y => if n ≤ 10000 then n + g y else n) n = n + (l.map g).sum
  | [], n, _ => by simp
  | y :: t, n, h => by
    rw [List.foldl_cons] at h ⊢
    have hn : n ≤ 10000 := by
      by_cases h1 : n ≤ 10000
      · exact h1
      · rw [if_neg h1] at h
        have := fold_ge g t n; omega
    rw [if_pos hn] at h ⊢
    rw [fold_small g t _ h, List.map_cons, List.sum_cons]; omega
theorem mem_sum_le (g : V → Nat) : ∀ (l : List V) (y : V), y ∈ l → g y ≤ (l.map g).sum
  | x :: t, y, h => by
    rw [List.map_cons, List.sum_cons]
    rcases List.mem_cons.1 h with rfl | h
    · omega
    · have := mem_sum_le g t y h; omega
theorem keys_small : ∀ (ks : List ByteArray), keysN ks ≤ 5000 → keysS ks = keysN ks
  | [], _ => rfl
  | k :: t, h => by
    simp only [keysN, keysS, List.map_cons, List.sum_cons] at h ⊢
    have := keys_small t (by simp only [keysN]; omega)
    simp only [keysN, keysS] at this
    omega
theorem sizeVs_sum (g : V → Nat) : ∀ (l : List V), (∀ y ∈ l, sizeV y ≤ g y) → sizeVs l ≤ (l.map g).sum
  | [], _ => by simp [sizeVs]
  | x :: t, h => by
    have h1 := h x List.mem_cons_self
    have h2 := sizeVs_sum g t (fun y hy => h y (List.mem_cons_of_mem _ hy))
    rw [List.map_cons, List.sum_cons]; simp only [sizeVs]; omega
theorem depthVs_le (n : Nat) : ∀ (l : List V), (∀ y ∈ l, depthV y ≤ n) → depthVs l ≤ n
  | [], _ => by simp [depthVs]
  | x :: t, h => by
    have h1 := h x List.mem_cons_self
    have h2 := depthVs_le n t (fun y hy => h y (List.mem_cons_of_mem _ hy))
    simp only [depthVs]; omega
/-- What the reference calls not great: few parts and bytes, not deep. -/
theorem wt_small : ∀ (left : Nat) (x : V), wtV left x ≤ 5000 → sizeV x ≤ wtV left x ∧ depthV x ≤ left
  | 0, x, h => by unfold wtV at h; omega
  | left + 1, x, h => by
    obtain ⟨k, b, n, s, l, ks⟩ := x
    unfold wtV at h ⊢
    split at h
    · omega
    · rename_i hc
      rw [if_neg hc]
      simp only [V.list, V.text, V.keys] at h ⊢
      have hf := fold_small (wtV left) l _ h
      rw [hf] at h ⊢
      have hks := keys_small ks (by omega)
      have hy : ∀ y ∈ l, sizeV y ≤ wtV left y ∧ depthV y ≤ left := fun y hy => wt_small left y (by have := mem_sum_le (wtV left) l y hy; omega)
      have h1 := sizeVs_sum (wtV left) l (fun y hm => (hy y hm).1)
      have h2 := depthVs_le left l (fun y hm => (hy y hm).2)
      unfold sizeV depthV
      omega
end Go.Proofs.YtlamkadllbgamaaGreatDoor

namespace Go.Proofs.YtlamkadllbgamaaGreatDoor
open Go.RowKit

theorem kbA {w : World} {o : Obj} : KB w (w.alloc o) := (Below.refl _ _).alloc (Nat.le_refl _) _
theorem Calls.kb {f : Nat} {args : Array Value} {w0 w : World} {v : Value} (hK : KB w0 w) (h : Calls Tryz.prog f args w fun e w' => e = .returned v ∧ Below w.heap.size w w') : Calls Tryz.prog f args w fun e w' => e = .returned v ∧ KB w0 w' :=
  h.mono fun _ _ ⟨he, hb⟩ => ⟨he, Below.trans hK (hb.mono hK.size)⟩
/-- Is it great? -/
def greatB (x : V) : Bool := decide (5000 < wtV 30 x)
theorem great_no {x : V} (h : greatB x = false) : sizeV x ≤ 5000 ∧ depthV x ≤ 30 := by
  have h1 : ¬ 5000 < wtV 30 x := of_decide_eq_false h
  have := wt_small 30 x (by omega)
  omega
set_option maxHeartbeats 2000000 in
theorem great_any (x : V) (v : Value) (w : World) (h : isV w x v) :
    Calls Tryz.prog 30 #[v] w fun e w' => e = .returned (.bool (greatB x)) ∧ Below w.heap.size w w' := by
  have hG : greatB x = decide (5000 < wtV 30 x) := rfl
  obtain ⟨z, hz⟩ : ∃ z, wtV 30 x = z := ⟨_, rfl⟩
  have HI : Hid (∀ w1, KB w w1 → Calls Tryz.prog 58 #[v, .int .i64 30] w1 fun e w' => e = .returned (.int .i64 z) ∧ KB w w') := Lib.hid fun w1 hK => Calls.kb hK (by have := weight_any 30 x v w1 (Nat.le_refl _) (isV_below hK h); rw [hz] at this; exact this)
  rw [hz] at hG
  have HG : Hid (greatB x = decide ((5000 : Int) < (z : Int))) := Lib.hid (by rw [hG, decide_eq_decide]; omega)
  obtain ⟨k, b, n, s, l, ks⟩ := x
  unfold isV at h
  obtain ⟨lv, kv, rfl, _⟩ := h
  clear hz hG
  go_enter Tryz.func30, Tryz.ntmps30
  go_wp2_with (go_at_call 58; refine (HI.out _ kbA).mono ?_; rintro e w5 ⟨rfl, hb5⟩)
  go_ret
  exact ⟨by rw [HG.out]; rfl, hb5⟩

set_option maxRecDepth 100000 in
set_option maxHeartbeats 4000000 in
theorem count_any : ∀ (N : Nat) (x : V) (v : Value) (w : World), sizeV x ≤ N → N ≤ 1000000 → isV w x v →
    Calls Tryz.prog 55 #[v] w fun e w' => e = .returned (.int .i64 (countV x)) ∧ Below w.heap.size w w'
  | 0, x, v, w, hN, _, h => absurd (sizeV_pos x) (by omega)
  | N + 1, x, v, w, hN, hM, h => by
    obtain ⟨k, b, n, s, l, ks⟩ := x
    unfold isV at h
    obtain ⟨lv, kv, rfl, hk, hn, hs, ⟨a, cap, ⟨o, rfl, hc1, hc2, ho⟩, hvs⟩, ⟨a2, cap2, ⟨o2, rfl, hc3, hc4, ho2⟩, hks⟩⟩ := h
    unfold maxLen at hs hc2 hc4
    have hsz : sizeV (.mk k b n s l ks) = 1 + s.size + keysS ks + sizeVs l := by rw [sizeV]
    have hcs := counts_le_size l
    have HC : Hid (countV (.mk k b n s l ks) = 1 + countVs l) := Lib.hid (by rw [countV])
    have hSL : sizeVs l ≤ N := by omega
    clear hsz hN hk hn ho2
    go_enter Tryz.func55, Tryz.ntmps55
    go_wp2_with fail
    have hB0 : KB w (w.alloc (.cells #[.int .i8 k, .bool b, .int .i64 n, .string s, .slice o l.length cap, .slice o2 ks.length cap2] 33)) := (Below.refl _ _).alloc (Nat.le_refl _) _
    have h4 : (w.alloc (.cells #[.int .i8 k, .bool b, .int .i64 n, .string s, .slice o l.length cap, .slice o2 ks.length cap2] 33)).cell? ⟨w.heap.size, 4, none⟩ = some (.slice o l.length cap) := by simp
    generalize hW1 : w.alloc (.cells #[.int .i8 k, .bool b, .int .i64 n, .string s, .slice o l.length cap, .slice o2 ks.length cap2] 33) = W1 at *
    clear hW1
    have HB0 := Lib.hid hB0
    have H4 := Lib.hid h4
    have HV : Hid (isVs w l a) := Lib.hid hvs
    clear hB0 h4 hvs hks
    go_loopw [3, 4] (fun n i wr => ∃ (j y : Nat), j ≤ l.length ∧ i = .int .i64 j ∧ n = .int .i64 y ∧ y ≤ 1 + N ∧ Hid (y = 1 + countVs (l.take j)) ∧ Below W1.heap.size W1 wr) (fun _ i _ => l.length - (intOf i).toNat)
    case atStart => exact ⟨0, 1, by omega, rfl, rfl, by omega, Lib.hid (by simp [countVs]), Below.refl _ _⟩
    case round =>
      obtain ⟨j, y, hj, rfl, rfl, hy, hye, hB⟩ := hrel
      have c4 : wr.cell? ⟨w.heap.size, 4, none⟩ = some (.slice o l.length cap) := cell_below hB _ _ H4.out
      by_cases hlt : j < l.length
      · obtain rfl := ho (by omega)
        have hvw := isVs_keep (cell_below hB) l a (isVs_keep (cell_below HB0.out) l a HV.out)
        obtain ⟨c0, c1, c2, c3, c4', c5, g0, g1, g2, g3, g4, g5, hx5⟩ := isVs_at l a j hlt hvw
        have hI := count_any N l[j] _ wr (by have := sizeVs_get l j hlt; omega) (by omega) hx5
        have hsn := countVs_snoc l j hlt
        have htl := countVs_take_le l (j + 1)
        obtain ⟨z, hz⟩ : ∃ z, countV l[j] = z := ⟨_, rfl⟩
        rw [hz] at hI hsn
        have HI := Lib.hid hI
        have HN : Hid (y + z = 1 + countVs (l.take (j + 1))) := Lib.hid (by rw [hsn, hye.out]; omega)
        have HBB := Lib.hid hB
        have hz3 : y + z ≤ 1 + N := by have := HN.out; omega
        clear hI hsn hB hvw hx5 hz hye htl
        go_wp2_with (go_at_call 55; (with_reducible refine HI.out.mono ?_); rintro e w5 ⟨rfl, hb5⟩)
        go_roundw
        case rel => exact ⟨j + 1, y + z, by omega, by go_num, by go_num, hz3, HN, HBB.out.trans (hb5.mono HBB.out.size)⟩
        case measure => simp [intOf]; omega
      · have HF : Hid (countV (.mk k b n s l ks) = y) := Lib.hid (by rw [HC.out, hye.out, List.take_of_length_le (by omega)])
        have HBB := Lib.hid hB
        clear hye hB
        go_wp2_with fail
        go_ret
        exact ⟨by rw [HF.out]; rfl, HB0.out.trans (HBB.out.mono HB0.out.size)⟩

/-- Is it deeper than so many levels? -/
def deepB (x : V) (n : Nat) : Bool := decide (n < depthV x)
theorem depthVs_gt {l : List V} {n : Nat} (h : n < depthVs l) : ∃ y ∈ l, n < depthV y := by
  refine Classical.byContradiction fun hc => ?_
  have := depthVs_le n l (fun y hy => by
    refine Classical.byContradiction fun h2 => hc ⟨y, hy, by omega⟩)
  omega
set_option maxRecDepth 100000 in
set_option maxHeartbeats 4000000 in
theorem deeper_any : ∀ (m : Nat) (x : V) (v : Value) (w : World), m ≤ 1000 → isV w x v →
    Calls Tryz.prog 53 #[v, .int .i64 m] w fun e w' => e = .returned (.bool (deepB x m)) ∧ Below w.heap.size w w'
  | 0, x, v, w, _, h => by
    have HD : Hid (deepB x 0 = true) := Lib.hid (decide_eq_true (depthV_pos x))
    obtain ⟨k, b, n, s, l, ks⟩ := x
    unfold isV at h
    obtain ⟨lv, kv, rfl, _⟩ := h
    go_enter Tryz.func53, Tryz.ntmps53
    go_wp2_with fail
    go_ret
    exact ⟨by rw [HD.out]; rfl, (Below.refl _ _).alloc (Nat.le_refl _) _⟩
  | m + 1, x, v, w, hm, h => by
    obtain ⟨k, b, n, s, l, ks⟩ := x
    unfold isV at h
    obtain ⟨lv, kv, rfl, hk, hn, hs, ⟨a, cap, ⟨o, rfl, hc1, hc2, ho⟩, hvs⟩, ⟨a2, cap2, ⟨o2, rfl, hc3, hc4, ho2⟩, hks⟩⟩ := h
    unfold maxLen at hs hc2 hc4
    have HC : Hid (depthV (.mk k b n s l ks) = 1 + depthVs l) := Lib.hid (by rw [depthV])
    have hl0 : ((m : Int) + 1 == 0) = false := by rw [beq_eq_false_iff_ne]; omega
    have hl1 : ((m + 1 : Nat) : Int) = (m : Int) + 1 := by omega
    have hl2 : (m : Int) + 1 - 1 = (m : Int) := by omega
    rw [hl1]
    clear hk hn ho2 hl1
    go_enter Tryz.func53, Tryz.ntmps53
    go_wp2_with fail
    have hB0 : KB w (w.alloc (.cells #[.int .i8 k, .bool b, .int .i64 n, .string s, .slice o l.length cap, .slice o2 ks.length cap2] 33)) := (Below.refl _ _).alloc (Nat.le_refl _) _
    have h4 : (w.alloc (.cells #[.int .i8 k, .bool b, .int .i64 n, .string s, .slice o l.length cap, .slice o2 ks.length cap2] 33)).cell? ⟨w.heap.size, 4, none⟩ = some (.slice o l.length cap) := by simp
    generalize hW1 : w.alloc (.cells #[.int .i8 k, .bool b, .int .i64 n, .string s, .slice o l.length cap, .slice o2 ks.length cap2] 33) = W1 at *
    clear hW1
    have HB0 := Lib.hid hB0
    have H4 := Lib.hid h4
    have HV : Hid (isVs w l a) := Lib.hid hvs
    clear hB0 h4 hvs hks
    go_loopw [5] (fun i wr => ∃ (j : Nat), j ≤ l.length ∧ i = .int .i64 j ∧ Hid (∀ q (h : q < j) (h2 : q < l.length), depthV l[q] ≤ m) ∧ Below W1.heap.size W1 wr) (fun i _ => l.length - (intOf i).toNat)
    case atStart => exact ⟨0, by omega, rfl, Lib.hid (fun q h => absurd h (by omega)), Below.refl _ _⟩
    case round =>
      obtain ⟨j, hj, rfl, hye, hB⟩ := hrel
      have c4 : wr.cell? ⟨w.heap.size, 4, none⟩ = some (.slice o l.length cap) := cell_below hB _ _ H4.out
      by_cases hlt : j < l.length
      · obtain rfl := ho (by omega)
        have hvw := isVs_keep (cell_below hB) l a (isVs_keep (cell_below HB0.out) l a HV.out)
        obtain ⟨c0, c1, c2, c3, c4', c5, g0, g1, g2, g3, g4, g5, hx5⟩ := isVs_at l a j hlt hvw
        have hI := deeper_any m l[j] _ wr (by omega) hx5
        have hdl := depthVs_get l j hlt
        have HBB := Lib.hid hB
        cases hz : deepB l[j] m with
        | true =>
          rw [hz] at hI
          have HI := Lib.hid hI
          have HD : Hid (deepB (.mk k b n s l ks) (m + 1) = true) := Lib.hid (decide_eq_true (by have : m < depthV l[j] := of_decide_eq_true hz; have := HC.out; omega))
          clear hI hB hvw hx5 hz hye hdl
          go_wp2_with (go_at_call 53; (with_reducible refine HI.out.mono ?_); rintro e w5 ⟨rfl, hb5⟩)
          go_ret
          exact ⟨by rw [HD.out]; rfl, HB0.out.trans ((HBB.out.trans (hb5.mono HBB.out.size)).mono HB0.out.size)⟩
        | false =>
          rw [hz] at hI
          have HI := Lib.hid hI
          have hn2 : depthV l[j] ≤ m := by have : ¬ m < depthV l[j] := of_decide_eq_false hz; omega
          have HN : Hid (∀ q (h : q < j + 1) (h2 : q < l.length), depthV l[q] ≤ m) := Lib.hid (fun q h h2 => by
            by_cases e : q = j
            · subst e; exact hn2
            · exact hye.out q (by omega) h2)
          clear hI hB hvw hx5 hz hye hdl hn2
          go_wp2_with (go_at_call 53; (with_reducible refine HI.out.mono ?_); rintro e w5 ⟨rfl, hb5⟩)
          go_roundw
          case rel => exact ⟨j + 1, by omega, by go_num, HN, HBB.out.trans (hb5.mono HBB.out.size)⟩
          case measure => simp [intOf]; omega
      · have HF : Hid (deepB (.mk k b n s l ks) (m + 1) = false) := Lib.hid (decide_eq_false (by
          intro hc
          rw [HC.out] at hc
          obtain ⟨y, hy, hy2⟩ := depthVs_gt (l := l) (n := m) (by omega)
          obtain ⟨q, hq, rfl⟩ := List.getElem_of_mem hy
          have := hye.out q (by omega) hq
          omega))
        have HBB := Lib.hid hB
        clear hye hB
        go_wp2_with fail
        go_ret
        exact ⟨by rw [HF.out]; rfl, HB0.out.trans (HBB.out.mono HB0.out.size)⟩
end Go.Proofs.YtlamkadllbgamaaGreatDoor
