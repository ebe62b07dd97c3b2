/-
  Values as trees: what a value in memory reads as. · How much there is in a value: the reference's weight and Great. · Plain mathematics of trees: size, depth, count; what a small weight says. · Contracts of the reference's Great, Count, Depth, deeper, Text, Num. · The contract of the reference's Same: it tells whether two values are the same tree. · Contracts of the reference's Text, Num, Get. · The contract of the reference's plain: has a value what its kind names alone? · Contracts of the reference's wrong and Check. · The contract of the reference's Check.
-/
import Derived.Test.YtoapaflcokhohaaGreatDoorProg
import Derived.WalkKit
import Derived.ProofKit
import Derived.Below
import Derived.Handy
import Derived.Deep.QuietTactic
import Derived.BigQuiet
import Derived.Lib.Hide
import Derived.Lib.Strings
import Derived.StillTailTactics
import Derived.Test.YtoapaflcokhohaaGreatDoorGa
set_option linter.unusedVariables false
namespace Go.Proofs.YtoapaflcokhohaaGreatDoor
open Go.RowKit

/-- A value, as a tree. -/
inductive V where
  | mk (kind : Int) (bool : Bool) (num : Int) (text : ByteArray) (list : List V) (keys : List ByteArray)
def V.kind : V → Int | .mk k _ _ _ _ _ => k
def V.bool : V → Bool | .mk _ b _ _ _ _ => b
def V.num : V → Int | .mk _ _ n _ _ _ => n
def V.text : V → ByteArray | .mk _ _ _ s _ _ => s
def V.list : V → List V | .mk _ _ _ _ l _ => l
def V.keys : V → List ByteArray | .mk _ _ _ _ _ ks => ks

/-- A slice of so many elements, at an address. -/
def slv (v : Value) (n : Nat) (a : Addr) (cap : Nat) : Prop := ∃ o, v = .slice o n cap ∧ n ≤ cap ∧ cap ≤ maxLen ∧ (0 < n → o = some a)
def isK (W : World) (ks : List ByteArray) (v : Value) : Prop :=
  ∃ a cap, slv v ks.length a cap ∧ ∀ i (h : i < ks.length), W.cell? (a.add i) = some (.string ks[i]) ∧ ks[i].size ≤ maxLen
mutual
def isV (W : World) : V → Value → Prop
  | .mk k b n s l ks, v => ∃ lv kv, v = .agg #[.int .i8 k, .bool b, .int .i64 n, .string s, lv, kv] ∧ (-128 ≤ k ∧ k ≤ 127) ∧ (-9223372036854775808 ≤ n ∧ n ≤ 9223372036854775807) ∧ s.size ≤ maxLen ∧ (∃ a cap, slv lv l.length a cap ∧ isVs W l a) ∧ isK W ks kv
def isVs (W : World) : List V → Addr → Prop
  | [], _ => True
  | x :: t, a => (∃ c0 c1 c2 c3 c4 c5, W.cell? a = some c0 ∧ W.cell? (a.add 1) = some c1 ∧ W.cell? (a.add 2) = some c2 ∧ W.cell? (a.add 3) = some c3 ∧ W.cell? (a.add 4) = some c4 ∧ W.cell? (a.add 5) = some c5 ∧ isV W x (.agg #[c0, c1, c2, c3, c4, c5])) ∧ isVs W t (a.add 6)
end
theorem isK_keep {W W' : World} (hc : ∀ a c, W.cell? a = some c → W'.cell? a = some c) {ks : List ByteArray} {v : Value} (h : isK W ks v) : isK W' ks v := by
  obtain ⟨a, cap, h1, h2⟩ := h
  exact ⟨a, cap, h1, fun i hi => ⟨hc _ _ (h2 i hi).1, (h2 i hi).2⟩⟩
mutual
theorem isV_keep {W W' : World} (hc : ∀ a c, W.cell? a = some c → W'.cell? a = some c) : ∀ (x : V) (v : Value), isV W x v → isV W' x v
  | .mk k b n s l ks, v, h => by
    unfold isV at h ⊢
    obtain ⟨lv, kv, h1, h2, h3, h4, ⟨a, cap, h5, h6⟩, h7⟩ := h
    exact ⟨lv, kv, h1, h2, h3, h4, ⟨a, cap, h5, isVs_keep hc l a h6⟩, isK_keep hc h7⟩
theorem isVs_keep {W W' : World} (hc : ∀ a c, W.cell? a = some c → W'.cell? a = some c) : ∀ (l : List V) (a : Addr), isVs W l a → isVs W' l a
  | [], _, _ => by unfold isVs; trivial
  | x :: t, a, h => by
    unfold isVs at h ⊢
    obtain ⟨⟨c0, c1, c2, c3, c4, c5, g0, g1, g2, g3, g4, g5, hx⟩, ht⟩ := h
    exact ⟨⟨c0, c1, c2, c3, c4, c5, hc _ _ g0, hc _ _ g1, hc _ _ g2, hc _ _ g3, hc _ _ g4, hc _ _ g5, isV_keep hc x _ hx⟩, isVs_keep hc t _ ht⟩
end
theorem cell_below {W W' : World} (hb : Below W.heap.size W W') : ∀ a c, W.cell? a = some c → W'.cell? a = some c := fun a c h => by
  have hl := World.block_lt_of_cell? W a h
  exact (hb.cell (p := a) hl).trans h
theorem isV_below {W W' : World} (hb : Below W.heap.size W W') {x : V} {v : Value} (h : isV W x v) : isV W' x v := isV_keep (cell_below hb) x v h
theorem add_add (a : Addr) (i j : Nat) : (a.add i).add j = a.add (i + j) := by
  unfold Addr.add
  by_cases h1 : i = 0 <;> by_cases h2 : j = 0 <;> simp [h1, h2, Nat.add_assoc]
theorem isVs_get {W : World} : ∀ (l : List V) (a : Addr) (i : Nat) (h : i < l.length), isVs W l a →
    ∃ c0 c1 c2 c3 c4 c5, W.cell? (a.add (i * 6)) = some c0 ∧ W.cell? (a.add (i * 6 + 1)) = some c1 ∧ W.cell? (a.add (i * 6 + 2)) = some c2 ∧ W.cell? (a.add (i * 6 + 3)) = some c3 ∧ W.cell? (a.add (i * 6 + 4)) = some c4 ∧ W.cell? (a.add (i * 6 + 5)) = some c5 ∧ isV W l[i] (.agg #[c0, c1, c2, c3, c4, c5])
  | x :: t, a, 0, _, h => by
    unfold isVs at h
    obtain ⟨⟨c0, c1, c2, c3, c4, c5, g0, g1, g2, g3, g4, g5, hx⟩, ht⟩ := h
    have e : a.add 0 = a := by simp [Addr.add]
    refine ⟨c0, c1, c2, c3, c4, c5, ?_, ?_, ?_, ?_, ?_, ?_, hx⟩
    all_goals simp only [Nat.zero_mul, Nat.zero_add, e]; assumption
  | x :: t, a, i + 1, hi, h => by
    unfold isVs at h
    obtain ⟨_, ht⟩ := h
    obtain ⟨c0, c1, c2, c3, c4, c5, g0, g1, g2, g3, g4, g5, hx⟩ := isVs_get t (a.add 6) i (by simpa using hi) ht
    simp only [add_add] at g0 g1 g2 g3 g4 g5
    refine ⟨c0, c1, c2, c3, c4, c5, ?_, ?_, ?_, ?_, ?_, ?_, hx⟩
    · rw [show (i + 1) * 6 = 6 + i * 6 by omega]; exact g0
    · rw [show (i + 1) * 6 + 1 = 6 + (i * 6 + 1) by omega]; exact g1
    · rw [show (i + 1) * 6 + 2 = 6 + (i * 6 + 2) by omega]; exact g2
    · rw [show (i + 1) * 6 + 3 = 6 + (i * 6 + 3) by omega]; exact g3
    · rw [show (i + 1) * 6 + 4 = 6 + (i * 6 + 4) by omega]; exact g4
    · rw [show (i + 1) * 6 + 5 = 6 + (i * 6 + 5) by omega]; exact g5
theorem add_succ (a : Addr) (i j : Nat) (hj : j ≠ 0) : a.add (i + j) = ⟨(a.add i).block, (a.add i).off + j, none⟩ := by
  rw [← add_add]
  show (if j = 0 then a.add i else { a.add i with off := (a.add i).off + j, spot := none }) = _
  rw [if_neg hj]
/-- The six cells of an element, as a load reads them. -/
theorem isVs_at {W : World} (l : List V) (a : Addr) (i : Nat) (h : i < l.length) (hs : isVs W l a) :
    ∃ c0 c1 c2 c3 c4 c5, W.cell? (a.add (i * 6)) = some c0 ∧ W.cell? ⟨(a.add (i * 6)).block, (a.add (i * 6)).off + 1, none⟩ = some c1 ∧ W.cell? ⟨(a.add (i * 6)).block, (a.add (i * 6)).off + 2, none⟩ = some c2 ∧ W.cell? ⟨(a.add (i * 6)).block, (a.add (i * 6)).off + 3, none⟩ = some c3 ∧ W.cell? ⟨(a.add (i * 6)).block, (a.add (i * 6)).off + 4, none⟩ = some c4 ∧ W.cell? ⟨(a.add (i * 6)).block, (a.add (i * 6)).off + 5, none⟩ = some c5 ∧ isV W l[i] (.agg #[c0, c1, c2, c3, c4, c5]) := by
  obtain ⟨c0, c1, c2, c3, c4, c5, g0, g1, g2, g3, g4, g5, hx⟩ := isVs_get l a i h hs
  rw [add_succ _ _ _ (by decide)] at g1 g2 g3 g4 g5
  exact ⟨c0, c1, c2, c3, c4, c5, g0, g1, g2, g3, g4, g5, hx⟩
end Go.Proofs.YtoapaflcokhohaaGreatDoor

set_option linter.unusedVariables false
namespace Go.Proofs.YtoapaflcokhohaaGreatDoor
open Go.RowKit

def KB (w w' : World) : Prop := Below w.heap.size w w'
def keysN (ks : List ByteArray) : Nat := (ks.map fun k => min k.size 10000).sum
/-- How much there is, far at once where it is too deep: the reference's weight. -/
def wtV : Nat → V → Nat
  | 0, _ => 10000
  | left + 1, x => if 3000 < x.list.length ∨ 3000 < x.keys.length then 10000 else
      x.list.foldl (fun n y => if n ≤ 10000 then n + wtV left y else n) (1 + min x.text.size 10000 + keysN x.keys)
theorem sum_le : ∀ (l : List Nat) (B : Nat), (∀ x ∈ l, x ≤ B) → l.sum ≤ l.length * B
  | [], _, _ => by simp
  | x :: t, B, h => by
    have h1 := sum_le t B (fun y hy => h y (List.mem_cons_of_mem _ hy))
    have h2 := h x List.mem_cons_self
    rw [List.sum_cons, List.length_cons, Nat.add_mul]; omega
theorem keysN_le (ks : List ByteArray) (h : ks.length ≤ 3000) : keysN ks ≤ 30000000 := by
  unfold keysN
  have := sum_le (ks.map fun k => min k.size 10000) 10000 (fun x hx => by
    obtain ⟨k, _, rfl⟩ := List.mem_map.1 hx
    omega)
  rw [List.length_map] at this
  have h2 := Nat.mul_le_mul_right 10000 h
  omega
theorem fold_le (g : V → Nat) (B : Nat) (hg : ∀ y, g y ≤ B) : ∀ (l : List V) (n M : Nat), n ≤ M → 10000 + B ≤ M → l.foldl (fun n y => if n ≤ 10000 then n + g y else n) n ≤ M
  | [], n, M, h, _ => h
  | y :: t, n, M, h, hM => by
    rw [List.foldl_cons]
    refine fold_le g B hg t _ M ?_ hM
    split
    · have := hg y; omega
    · exact h
theorem wtV_le : ∀ (left : Nat) (x : V), wtV left x ≤ 30010001 + 10000 * left
  | 0, x => by unfold wtV; omega
  | left + 1, x => by
    unfold wtV
    split
    · omega
    · rename_i h
      have hk := keysN_le x.keys (by omega)
      exact fold_le (wtV left) _ (wtV_le left) x.list _ _ (by omega) (by omega)

theorem fold_stop (g : V → Nat) : ∀ (l : List V) (n : Nat), 10000 < n → l.foldl (fun n y => if n ≤ 10000 then n + g y else n) n = n
  | [], n, _ => rfl
  | y :: t, n, h => by
    rw [List.foldl_cons, if_neg (by omega)]
    exact fold_stop g t n h
theorem keysN_snoc (ks : List ByteArray) (k : Nat) (h : k < ks.length) : keysN (ks.take (k + 1)) = keysN (ks.take k) + min ks[k].size 10000 := by
  unfold keysN
  rw [List.take_succ_eq_append_getElem h, List.map_append, List.sum_append]
  simp
theorem foldT_snoc (g : V → Nat) (l : List V) (n k : Nat) (h : k < l.length) (hn : (l.take k).foldl (fun n y => if n ≤ 10000 then n + g y else n) n ≤ 10000) :
    (l.take (k + 1)).foldl (fun n y => if n ≤ 10000 then n + g y else n) n = (l.take k).foldl (fun n y => if n ≤ 10000 then n + g y else n) n + g l[k] := by
  rw [List.take_succ_eq_append_getElem h, List.foldl_append, List.foldl_cons, List.foldl_nil, if_pos hn]
theorem foldT_all (g : V → Nat) (l : List V) (n k : Nat) (h : l.length ≤ k ∨ 10000 < (l.take k).foldl (fun n y => if n ≤ 10000 then n + g y else n) n) :
    l.foldl (fun n y => if n ≤ 10000 then n + g y else n) n = (l.take k).foldl (fun n y => if n ≤ 10000 then n + g y else n) n := by
  rcases h with h | h
  · rw [List.take_of_length_le h]
  · conv => lhs; rw [← List.take_append_drop k l, List.foldl_append]
    exact fold_stop g _ _ h

set_option maxRecDepth 100000 in
set_option maxHeartbeats 4000000 in
theorem weight_any : ∀ (left : Nat) (x : V) (v : Value) (w : World), left ≤ 30 → isV w x v →
    Calls Tryz.prog 74 #[v, .int .i64 left] w fun e w' => e = .returned (.int .i64 (wtV left x)) ∧ Below w.heap.size w w'
  | 0, x, v, w, _, h => by
    obtain ⟨k, b, n, s, l, ks⟩ := x
    unfold isV at h
    obtain ⟨lv, kv, rfl, hk, hn, hs, ⟨a, cap, hsl, hvs⟩, hks⟩ := h
    have HW : Hid (wtV 0 (.mk k b n s l ks) = 10000) := Lib.hid rfl
    clear hk hn hs hsl hvs hks
    go_enter Tryz.func74, Tryz.ntmps74
    go_wp2_with fail
    go_ret
    exact ⟨by rw [HW.out]; rfl, (Below.refl _ _).alloc (Nat.le_refl _) _⟩
  | left + 1, x, v, w, hl, h => by
    obtain ⟨k, b, n, s, l, ks⟩ := x
    have h0 := h
    unfold isV at h
    obtain ⟨lv, kv, rfl, hk, hn, hs, ⟨a, cap, ⟨o, rfl, hc1, hc2, ho⟩, hvs⟩, ⟨a2, cap2, ⟨o2, rfl, hc3, hc4, ho2⟩, hks⟩⟩ := h
    unfold maxLen at hs hc2 hc4
    have hl0 : ((left : Int) + 1 == 0) = false := by rw [beq_eq_false_iff_ne]; omega
    have hl1 : ((left + 1 : Nat) : Int) = (left : Int) + 1 := by omega
    rw [hl1]
    have hl2 : (left : Int) + 1 - 1 = (left : Int) := by omega
    clear hk hn
    by_cases hb : 3000 < l.length ∨ 3000 < ks.length
    · have HW : Hid (wtV (left + 1) (.mk k b n s l ks) = 10000) := Lib.hid (by unfold wtV; exact if_pos hb)
      by_cases hb1 : 3000 < l.length
      · clear hb h0
        go_enter Tryz.func74, Tryz.ntmps74
        go_wp2_with fail
        go_ret
        exact ⟨by rw [HW.out]; rfl, (Below.refl _ _).alloc (Nat.le_refl _) _⟩
      · have hb2 : 3000 < ks.length := by omega
        clear hb h0
        go_enter Tryz.func74, Tryz.ntmps74
        go_wp2_with fail
        go_ret
        exact ⟨by rw [HW.out]; rfl, (Below.refl _ _).alloc (Nat.le_refl _) _⟩
    have HW : Hid (wtV (left + 1) (.mk k b n s l ks) = l.foldl (fun n y => if n ≤ 10000 then n + wtV left y else n) (1 + min s.size 10000 + keysN ks)) := Lib.hid (by rw [wtV]; exact if_neg hb)
    have hb1 : l.length ≤ 3000 := by omega
    have hb2 : ks.length ≤ 3000 := by omega
    have b1 : decide (3000 < (l.length : Int)) = false := decide_eq_false (by omega)
    have b2 : decide (3000 < (ks.length : Int)) = false := decide_eq_false (by omega)
    obtain ⟨m, hm⟩ : ∃ m : Nat, m = min s.size 10000 := ⟨_, rfl⟩
    have hmi : (if (10000 : Int) < (s.size : Int) then (10000 : Int) else (s.size : Int)) = (m : Int) := by split <;> omega
    rw [← hm] at HW
    have hm2 : m ≤ 10000 := by omega
    have hba : ∀ c T, Below w.heap.size w (w.alloc (.cells c T)) := fun c T => (Below.refl _ _).alloc (Nat.le_refl _) _
    have HK : Hid (∀ (i : Nat) (h : i < ks.length), (w.alloc (.cells #[.int .i8 k, .bool b, .int .i64 n, .string s, .slice o l.length cap, .slice o2 ks.length cap2] 64)).cell? (a2.add i) = some (.string ks[i]) ∧ ks[i].size ≤ maxLen) := Lib.hid (fun i h => ⟨cell_below (hba _ _) _ _ (hks i h).1, (hks i h).2⟩)
    have HV : Hid (isVs w l a) := Lib.hid hvs
    clear hb hm h0 hl1 hba hks hvs
    go_enter Tryz.func74, Tryz.ntmps74
    go_wp2_with fail
    go_loop [5, 6] (fun n i => ∃ (j x : Nat), j ≤ ks.length ∧ i = .int .i64 j ∧ n = .int .i64 x ∧ x ≤ 30010001 ∧ Hid (x = 1 + m + keysN (ks.take j))) (fun _ i => ks.length - (intOf i).toNat)
    case atStart => exact ⟨0, 1 + m, by omega, rfl, by go_num, by omega, Lib.hid (by simp [keysN])⟩
    case round =>
      obtain ⟨j, x, hj, rfl, rfl, hx, hxe⟩ := hrel
      by_cases hlt : j < ks.length
      · obtain ⟨hcell, hsz⟩ := HK.out j hlt
        obtain rfl := ho2 (by omega)
        have hsn := keysN_snoc ks j hlt
        have hle := keysN_le (ks.take (j + 1)) (by rw [List.length_take]; omega)
        generalize ks[j] = K at *
        obtain ⟨z, hz⟩ : ∃ z : Nat, z = min K.size 10000 := ⟨_, rfl⟩
        have hzi : (if (10000 : Int) < (K.size : Int) then (10000 : Int) else (K.size : Int)) = (z : Int) := by split <;> omega
        have hz2 : z ≤ 10000 := by omega
        rw [← hz] at hsn
        have HX : Hid (x + z = 1 + m + keysN (ks.take (j + 1))) := Lib.hid (by rw [hsn, hxe.out]; omega)
        have hx2 : x + z ≤ 30010001 := by have := HX.out; omega
        clear hsn hle hz hxe
        unfold maxLen at hsz
        go_wp2_with fail
        go_round
        case rel => exact ⟨j + 1, x + z, by omega, by go_num, by go_num, hx2, HX⟩
        case measure => simp [intOf]; omega
      · have HX : Hid (x = 1 + m + keysN ks) := Lib.hid (by rw [hxe.out, List.take_of_length_le (by omega)])
        clear hxe
        go_wp2_with fail
        have hB0 : KB w (w.alloc (.cells #[.int .i8 k, .bool b, .int .i64 n, .string s, .slice o l.length cap, .slice o2 ks.length cap2] 64)) := (Below.refl _ _).alloc (Nat.le_refl _) _
        have h4 : (w.alloc (.cells #[.int .i8 k, .bool b, .int .i64 n, .string s, .slice o l.length cap, .slice o2 ks.length cap2] 64)).cell? ⟨w.heap.size, 4, none⟩ = some (.slice o l.length cap) := by simp
        have hsz : (w.alloc (.cells #[.int .i8 k, .bool b, .int .i64 n, .string s, .slice o l.length cap, .slice o2 ks.length cap2] 64)).heap.size = w.heap.size + 1 := by simp
        clear HK ho2
        generalize hW1 : w.alloc (.cells #[.int .i8 k, .bool b, .int .i64 n, .string s, .slice o l.length cap, .slice o2 ks.length cap2] 64) = W1 at *
        clear hW1
        have HB0 := Lib.hid hB0
        have H4 := Lib.hid h4
        have HZ := Lib.hid hsz
        clear hB0 h4 hsz hlt hj
        go_loopw [5, 7] (fun n i wr => ∃ (j y : Nat), j ≤ l.length ∧ i = .int .i64 j ∧ n = .int .i64 y ∧ y ≤ 40000000 ∧ Hid (y = (l.take j).foldl (fun n y => if n ≤ 10000 then n + wtV left y else n) x) ∧ Below W1.heap.size W1 wr) (fun _ i _ => l.length - (intOf i).toNat)
        case atStart => exact ⟨0, x, by omega, rfl, rfl, by omega, Lib.hid rfl, Below.refl _ _⟩
        case round =>
          obtain ⟨j, y, hj, rfl, rfl, hy, hye, hB⟩ := hrel
          have c4 : wr.cell? ⟨w.heap.size, 4, none⟩ = some (.slice o l.length cap) := cell_below hB _ _ H4.out
          by_cases hlt : j < l.length
          · obtain rfl := ho (by omega)
            by_cases hy1 : y ≤ 10000
            · have hvw := isVs_keep (cell_below hB) l a (isVs_keep (cell_below HB0.out) l a HV.out)
              obtain ⟨c0, c1, c2, c3, c4', c5, g0, g1, g2, g3, g4, g5, hx5⟩ := isVs_at l a j hlt hvw
              have hI := weight_any left l[j] _ wr (by omega) hx5
              have hsn := foldT_snoc (wtV left) l x j hlt (by rw [← hye.out]; exact hy1)
              rw [← hye.out] at hsn
              have hwl := wtV_le left l[j]
              obtain ⟨z, hz⟩ : ∃ z, wtV left l[j] = z := ⟨_, rfl⟩
              rw [hz] at hI hsn hwl
              have HI := Lib.hid hI
              have HN := Lib.hid hsn.symm
              have HBB := Lib.hid hB
              have hz3 : z ≤ 30310001 := by omega
              have hy2 : decide ((y : Int) ≤ 10000) = true := decide_eq_true (by omega)
              clear hI hsn hB hvw hx5 hz hye hwl
              go_wp2_with (go_at_call 74; (with_reducible refine HI.out.mono ?_); rintro e w5 ⟨rfl, hb5⟩)
              go_roundw
              case rel => exact ⟨j + 1, y + z, by omega, by go_num, by go_num, by omega, Lib.hid (by rw [HN.out]), HBB.out.trans (hb5.mono HBB.out.size)⟩
              case measure => simp [intOf]; omega
            · have hy2 : decide ((y : Int) ≤ 10000) = false := decide_eq_false (by omega)
              have HF : Hid (wtV (left + 1) (.mk k b n s l ks) = y) := Lib.hid (by
                rw [HW.out, ← HX.out, foldT_all (wtV left) l x j (.inr (by rw [← hye.out]; omega)), ← hye.out])
              have HBB := Lib.hid hB
              clear hye hB
              go_wp2_with fail
              go_ret
              exact ⟨by rw [HF.out]; rfl, HB0.out.trans (HBB.out.mono HB0.out.size)⟩
          · have HF : Hid (wtV (left + 1) (.mk k b n s l ks) = y) := Lib.hid (by
              rw [HW.out, ← HX.out, foldT_all (wtV left) l x j (.inl (by omega)), ← hye.out])
            have HBB := Lib.hid hB
            clear hye hB
            go_wp2_with fail
            go_ret
            exact ⟨by rw [HF.out]; rfl, HB0.out.trans (HBB.out.mono HB0.out.size)⟩
end Go.Proofs.YtoapaflcokhohaaGreatDoor

set_option linter.unusedVariables false
namespace Go.Proofs.YtoapaflcokhohaaGreatDoor
open Go.RowKit

def keysS (ks : List ByteArray) : Nat := (ks.map ByteArray.size).sum
mutual
/-- Parts and bytes. -/
def sizeV : V → Nat | .mk _ _ _ s l ks => 1 + s.size + keysS ks + sizeVs l
def sizeVs : List V → Nat | [] => 0 | x :: t => sizeV x + sizeVs t
end
mutual
def depthV : V → Nat | .mk _ _ _ _ l _ => 1 + depthVs l
def depthVs : List V → Nat | [] => 0 | x :: t => max (depthV x) (depthVs t)
end
mutual
def countV : V → Nat | .mk _ _ _ _ l _ => 1 + countVs l
def countVs : List V → Nat | [] => 0 | x :: t => countV x + countVs t
end
theorem sizeV_pos (x : V) : 1 ≤ sizeV x := by obtain ⟨_, _, _, _, _, _⟩ := x; unfold sizeV; omega
theorem depthV_pos (x : V) : 1 ≤ depthV x := by obtain ⟨_, _, _, _, _, _⟩ := x; unfold depthV; omega
theorem sizeVs_get : ∀ (l : List V) (j : Nat) (h : j < l.length), sizeV l[j] ≤ sizeVs l
  | x :: t, 0, _ => by simp [sizeVs]
  | x :: t, j + 1, h => by
    have := sizeVs_get t j (by simpa using h)
    simp only [sizeVs, List.getElem_cons_succ]; omega
theorem depthVs_get : ∀ (l : List V) (j : Nat) (h : j < l.length), depthV l[j] ≤ depthVs l
  | x :: t, 0, _ => by simp only [depthVs, List.getElem_cons_zero]; omega
  | x :: t, j + 1, h => by
    have := depthVs_get t j (by simpa using h)
    simp only [depthVs, List.getElem_cons_succ]; omega
theorem sizeVs_app (a b : List V) : sizeVs (a ++ b) = sizeVs a + sizeVs b := by
  induction a with
  | nil => simp [sizeVs]
  | cons x t ih => simp only [List.cons_append, sizeVs, ih]; omega
theorem countVs_app (a b : List V) : countVs (a ++ b) = countVs a + countVs b := by
  induction a with
  | nil => simp [countVs]
  | cons x t ih => simp only [List.cons_append, countVs, ih]; omega
theorem depthVs_app (a b : List V) : depthVs (a ++ b) = max (depthVs a) (depthVs b) := by
  induction a with
  | nil => simp [depthVs]
  | cons x t ih => simp only [List.cons_append, depthVs, ih]; omega
theorem countVs_snoc (l : List V) (j : Nat) (h : j < l.length) : countVs (l.take (j + 1)) = countVs (l.take j) + countV l[j] := by
  rw [List.take_succ_eq_append_getElem h, countVs_app]; simp [countVs]
theorem depthVs_snoc (l : List V) (j : Nat) (h : j < l.length) : depthVs (l.take (j + 1)) = max (depthVs (l.take j)) (depthV l[j]) := by
  rw [List.take_succ_eq_append_getElem h, depthVs_app]; simp [depthVs]
theorem sizeVs_len (l : List V) : l.length ≤ sizeVs l := by
  induction l with
  | nil => simp [sizeVs]
  | cons x t ih => have := sizeV_pos x; simp only [sizeVs, List.length_cons]; omega
mutual
theorem count_le_size : ∀ x : V, countV x ≤ sizeV x
  | .mk _ _ _ s l ks => by have := counts_le_size l; unfold countV sizeV; omega
theorem counts_le_size : ∀ l : List V, countVs l ≤ sizeVs l
  | [] => by simp [countVs, sizeVs]
  | x :: t => by have h1 := count_le_size x; have h2 := counts_le_size t; simp only [countVs, sizeVs]; omega
end
theorem countVs_take_le (l : List V) (j : Nat) : countVs (l.take j) ≤ countVs l := by
  conv => rhs; rw [← List.take_append_drop j l, countVs_app]
  omega

theorem fold_ge (g : V → Nat) : ∀ (l : List V) (n : Nat), n ≤ l.foldl (fun n y => if n ≤ 10000 then n + g y else n) n
  | [], n => Nat.le_refl _
  | y :: t, n => by
    rw [List.foldl_cons]
    refine Nat.le_trans ?_ (fold_ge g t _)
    split <;> omega
theorem fold_small (g : V → Nat) : ∀ (l : List V) (n : Nat), l.foldl (fun n y => if n ≤ 10000 then n + g y else n) n ≤ 5000 → l.foldl (fun n y => if n ≤ 10000 then n + g y else n) n = n + (l.map g).sum
  | [], n, _ => by simp
  | y :: t, n, h => by
    rw [List.foldl_cons] at h ⊢
    have hn : n ≤ 10000 := by
      by_cases h1 : n ≤ 10000
      · exact h1
      · rw [if_neg h1] at h
        have := fold_ge g t n; omega
    rw [if_pos hn] at h ⊢
    rw [fold_small g t _ h, List.map_cons, List.sum_cons]; omega
theorem mem_sum_le (g : V → Nat) : ∀ (l : List V) (y : V), y ∈ l → g y ≤ (l.map g).sum
  | x :: t, y, h => by
    rw [List.map_cons, List.sum_cons]
    rcases List.mem_cons.1 h with rfl | h
    · omega
    · have := mem_sum_le g t y h; omega
theorem keys_small : ∀ (ks : List ByteArray), keysN ks ≤ 5000 → keysS ks = keysN ks
  | [], _ => rfl
  | k :: t, h => by
    simp only [keysN, keysS, List.map_cons, List.sum_cons] at h ⊢
    have := keys_small t (by simp only [keysN]; omega)
    simp only [keysN, keysS] at this
    omega
theorem sizeVs_sum (g : V → Nat) : ∀ (l : List V), (∀ y ∈ l, sizeV y ≤ g y) → sizeVs l ≤ (l.map g).sum
  | [], _ => by simp [sizeVs]
  | x :: t, h => by
    have h1 := h x List.mem_cons_self
    have h2 := sizeVs_sum g t (fun y hy => h y (List.mem_cons_of_mem _ hy))
    rw [List.map_cons, List.sum_cons]; simp only [sizeVs]; omega
theorem depthVs_le (n : Nat) : ∀ (l : List V), (∀ y ∈ l, depthV y ≤ n) → depthVs l ≤ n
  | [], _ => by simp [depthVs]
  | x :: t, h => by
    have h1 := h x List.mem_cons_self
    have h2 := depthVs_le n t (fun y hy => h y (List.mem_cons_of_mem _ hy))
    simp only [depthVs]; omega
/-- What the reference calls not great: few parts and bytes, not deep. -/
theorem wt_small : ∀ (left : Nat) (x : V), wtV left x ≤ 5000 → sizeV x ≤ wtV left x ∧ depthV x ≤ left
  | 0, x, h => by unfold wtV at h; omega
  | left + 1, x, h => by
    obtain ⟨k, b, n, s, l, ks⟩ := x
    unfold wtV at h ⊢
    split at h
    · omega
    · rename_i hc
      rw [if_neg hc]
      simp only [V.list, V.text, V.keys] at h ⊢
      have hf := fold_small (wtV left) l _ h
      rw [hf] at h ⊢
      have hks := keys_small ks (by omega)
      have hy : ∀ y ∈ l, sizeV y ≤ wtV left y ∧ depthV y ≤ left := fun y hy => wt_small left y (by have := mem_sum_le (wtV left) l y hy; omega)
      have h1 := sizeVs_sum (wtV left) l (fun y hm => (hy y hm).1)
      have h2 := depthVs_le left l (fun y hm => (hy y hm).2)
      unfold sizeV depthV
      omega
end Go.Proofs.YtoapaflcokhohaaGreatDoor

set_option linter.unusedVariables false
namespace Go.Proofs.YtoapaflcokhohaaGreatDoor
open Go.RowKit

theorem kbA {w : World} {o : Obj} : KB w (w.alloc o) := (Below.refl _ _).alloc (Nat.le_refl _) _
theorem Calls.kb {f : Nat} {args : Array Value} {w0 w : World} {v : Value} (hK : KB w0 w) (h : Calls Tryz.prog f args w fun e w' => e = .returned v ∧ Below w.heap.size w w') : Calls Tryz.prog f args w fun e w' => e = .returned v ∧ KB w0 w' :=
  h.mono fun _ _ ⟨he, hb⟩ => ⟨he, Below.trans hK (hb.mono hK.size)⟩
/-- Is it great? -/
def greatB (x : V) : Bool := decide (5000 < wtV 30 x)
theorem great_no {x : V} (h : greatB x = false) : sizeV x ≤ 5000 ∧ depthV x ≤ 30 := by
  have h1 : ¬ 5000 < wtV 30 x := of_decide_eq_false h
  have := wt_small 30 x (by omega)
  omega
set_option maxHeartbeats 2000000 in
theorem great_any (x : V) (v : Value) (w : World) (h : isV w x v) :
    Calls Tryz.prog 46 #[v] w fun e w' => e = .returned (.bool (greatB x)) ∧ Below w.heap.size w w' := by
  have hG : greatB x = decide (5000 < wtV 30 x) := rfl
  obtain ⟨z, hz⟩ : ∃ z, wtV 30 x = z := ⟨_, rfl⟩
  have HI : Hid (∀ w1, KB w w1 → Calls Tryz.prog 74 #[v, .int .i64 30] w1 fun e w' => e = .returned (.int .i64 z) ∧ KB w w') := Lib.hid fun w1 hK => Calls.kb hK (by have := weight_any 30 x v w1 (Nat.le_refl _) (isV_below hK h); rw [hz] at this; exact this)
  rw [hz] at hG
  have HG : Hid (greatB x = decide ((5000 : Int) < (z : Int))) := Lib.hid (by rw [hG, decide_eq_decide]; omega)
  obtain ⟨k, b, n, s, l, ks⟩ := x
  unfold isV at h
  obtain ⟨lv, kv, rfl, _⟩ := h
  clear hz hG
  go_enter Tryz.func46, Tryz.ntmps46
  go_wp2_with (go_at_call 74; refine (HI.out _ kbA).mono ?_; rintro e w5 ⟨rfl, hb5⟩)
  go_ret
  exact ⟨by rw [HG.out]; rfl, hb5⟩

set_option maxRecDepth 100000 in
set_option maxHeartbeats 4000000 in
theorem count_any : ∀ (N : Nat) (x : V) (v : Value) (w : World), sizeV x ≤ N → N ≤ 1000000 → isV w x v →
    Calls Tryz.prog 91 #[v] w fun e w' => e = .returned (.int .i64 (countV x)) ∧ Below w.heap.size w w'
  | 0, x, v, w, hN, _, h => absurd (sizeV_pos x) (by omega)
  | N + 1, x, v, w, hN, hM, h => by
    obtain ⟨k, b, n, s, l, ks⟩ := x
    unfold isV at h
    obtain ⟨lv, kv, rfl, hk, hn, hs, ⟨a, cap, ⟨o, rfl, hc1, hc2, ho⟩, hvs⟩, ⟨a2, cap2, ⟨o2, rfl, hc3, hc4, ho2⟩, hks⟩⟩ := h
    unfold maxLen at hs hc2 hc4
    have hsz : sizeV (.mk k b n s l ks) = 1 + s.size + keysS ks + sizeVs l := by rw [sizeV]
    have hcs := counts_le_size l
    have HC : Hid (countV (.mk k b n s l ks) = 1 + countVs l) := Lib.hid (by rw [countV])
    have hSL : sizeVs l ≤ N := by omega
    clear hsz hN hk hn ho2
    go_enter Tryz.func91, Tryz.ntmps91
    go_wp2_with fail
    have hB0 : KB w (w.alloc (.cells #[.int .i8 k, .bool b, .int .i64 n, .string s, .slice o l.length cap, .slice o2 ks.length cap2] 64)) := (Below.refl _ _).alloc (Nat.le_refl _) _
    have h4 : (w.alloc (.cells #[.int .i8 k, .bool b, .int .i64 n, .string s, .slice o l.length cap, .slice o2 ks.length cap2] 64)).cell? ⟨w.heap.size, 4, none⟩ = some (.slice o l.length cap) := by simp
    generalize hW1 : w.alloc (.cells #[.int .i8 k, .bool b, .int .i64 n, .string s, .slice o l.length cap, .slice o2 ks.length cap2] 64) = W1 at *
    clear hW1
    have HB0 := Lib.hid hB0
    have H4 := Lib.hid h4
    have HV : Hid (isVs w l a) := Lib.hid hvs
    clear hB0 h4 hvs hks
    go_loopw [3, 4] (fun n i wr => ∃ (j y : Nat), j ≤ l.length ∧ i = .int .i64 j ∧ n = .int .i64 y ∧ y ≤ 1 + N ∧ Hid (y = 1 + countVs (l.take j)) ∧ Below W1.heap.size W1 wr) (fun _ i _ => l.length - (intOf i).toNat)
    case atStart => exact ⟨0, 1, by omega, rfl, rfl, by omega, Lib.hid (by simp [countVs]), Below.refl _ _⟩
    case round =>
      obtain ⟨j, y, hj, rfl, rfl, hy, hye, hB⟩ := hrel
      have c4 : wr.cell? ⟨w.heap.size, 4, none⟩ = some (.slice o l.length cap) := cell_below hB _ _ H4.out
      by_cases hlt : j < l.length
      · obtain rfl := ho (by omega)
        have hvw := isVs_keep (cell_below hB) l a (isVs_keep (cell_below HB0.out) l a HV.out)
        obtain ⟨c0, c1, c2, c3, c4', c5, g0, g1, g2, g3, g4, g5, hx5⟩ := isVs_at l a j hlt hvw
        have hI := count_any N l[j] _ wr (by have := sizeVs_get l j hlt; omega) (by omega) hx5
        have hsn := countVs_snoc l j hlt
        have htl := countVs_take_le l (j + 1)
        obtain ⟨z, hz⟩ : ∃ z, countV l[j] = z := ⟨_, rfl⟩
        rw [hz] at hI hsn
        have HI := Lib.hid hI
        have HN : Hid (y + z = 1 + countVs (l.take (j + 1))) := Lib.hid (by rw [hsn, hye.out]; omega)
        have HBB := Lib.hid hB
        have hz3 : y + z ≤ 1 + N := by have := HN.out; omega
        clear hI hsn hB hvw hx5 hz hye htl
        go_wp2_with (go_at_call 91; (with_reducible refine HI.out.mono ?_); rintro e w5 ⟨rfl, hb5⟩)
        go_roundw
        case rel => exact ⟨j + 1, y + z, by omega, by go_num, by go_num, hz3, HN, HBB.out.trans (hb5.mono HBB.out.size)⟩
        case measure => simp [intOf]; omega
      · have HF : Hid (countV (.mk k b n s l ks) = y) := Lib.hid (by rw [HC.out, hye.out, List.take_of_length_le (by omega)])
        have HBB := Lib.hid hB
        clear hye hB
        go_wp2_with fail
        go_ret
        exact ⟨by rw [HF.out]; rfl, HB0.out.trans (HBB.out.mono HB0.out.size)⟩

/-- Is it deeper than so many levels? -/
def deepB (x : V) (n : Nat) : Bool := decide (n < depthV x)
theorem depthVs_gt {l : List V} {n : Nat} (h : n < depthVs l) : ∃ y ∈ l, n < depthV y := by
  refine Classical.byContradiction fun hc => ?_
  have := depthVs_le n l (fun y hy => by
    refine Classical.byContradiction fun h2 => hc ⟨y, hy, by omega⟩)
  omega
set_option maxRecDepth 100000 in
set_option maxHeartbeats 4000000 in
theorem deeper_any : ∀ (m : Nat) (x : V) (v : Value) (w : World), m ≤ 1000 → isV w x v →
    Calls Tryz.prog 89 #[v, .int .i64 m] w fun e w' => e = .returned (.bool (deepB x m)) ∧ Below w.heap.size w w'
  | 0, x, v, w, _, h => by
    have HD : Hid (deepB x 0 = true) := Lib.hid (decide_eq_true (depthV_pos x))
    obtain ⟨k, b, n, s, l, ks⟩ := x
    unfold isV at h
    obtain ⟨lv, kv, rfl, _⟩ := h
    go_enter Tryz.func89, Tryz.ntmps89
    go_wp2_with fail
    go_ret
    exact ⟨by rw [HD.out]; rfl, (Below.refl _ _).alloc (Nat.le_refl _) _⟩
  | m + 1, x, v, w, hm, h => by
    obtain ⟨k, b, n, s, l, ks⟩ := x
    unfold isV at h
    obtain ⟨lv, kv, rfl, hk, hn, hs, ⟨a, cap, ⟨o, rfl, hc1, hc2, ho⟩, hvs⟩, ⟨a2, cap2, ⟨o2, rfl, hc3, hc4, ho2⟩, hks⟩⟩ := h
    unfold maxLen at hs hc2 hc4
    have HC : Hid (depthV (.mk k b n s l ks) = 1 + depthVs l) := Lib.hid (by rw [depthV])
    have hl0 : ((m : Int) + 1 == 0) = false := by rw [beq_eq_false_iff_ne]; omega
    have hl1 : ((m + 1 : Nat) : Int) = (m : Int) + 1 := by omega
    have hl2 : (m : Int) + 1 - 1 = (m : Int) := by omega
    rw [hl1]
    clear hk hn ho2 hl1
    go_enter Tryz.func89, Tryz.ntmps89
    go_wp2_with fail
    have hB0 : KB w (w.alloc (.cells #[.int .i8 k, .bool b, .int .i64 n, .string s, .slice o l.length cap, .slice o2 ks.length cap2] 64)) := (Below.refl _ _).alloc (Nat.le_refl _) _
    have h4 : (w.alloc (.cells #[.int .i8 k, .bool b, .int .i64 n, .string s, .slice o l.length cap, .slice o2 ks.length cap2] 64)).cell? ⟨w.heap.size, 4, none⟩ = some (.slice o l.length cap) := by simp
    generalize hW1 : w.alloc (.cells #[.int .i8 k, .bool b, .int .i64 n, .string s, .slice o l.length cap, .slice o2 ks.length cap2] 64) = W1 at *
    clear hW1
    have HB0 := Lib.hid hB0
    have H4 := Lib.hid h4
    have HV : Hid (isVs w l a) := Lib.hid hvs
    clear hB0 h4 hvs hks
    go_loopw [5] (fun i wr => ∃ (j : Nat), j ≤ l.length ∧ i = .int .i64 j ∧ Hid (∀ q (h : q < j) (h2 : q < l.length), depthV l[q] ≤ m) ∧ Below W1.heap.size W1 wr) (fun i _ => l.length - (intOf i).toNat)
    case atStart => exact ⟨0, by omega, rfl, Lib.hid (fun q h => absurd h (by omega)), Below.refl _ _⟩
    case round =>
      obtain ⟨j, hj, rfl, hye, hB⟩ := hrel
      have c4 : wr.cell? ⟨w.heap.size, 4, none⟩ = some (.slice o l.length cap) := cell_below hB _ _ H4.out
      by_cases hlt : j < l.length
      · obtain rfl := ho (by omega)
        have hvw := isVs_keep (cell_below hB) l a (isVs_keep (cell_below HB0.out) l a HV.out)
        obtain ⟨c0, c1, c2, c3, c4', c5, g0, g1, g2, g3, g4, g5, hx5⟩ := isVs_at l a j hlt hvw
        have hI := deeper_any m l[j] _ wr (by omega) hx5
        have hdl := depthVs_get l j hlt
        have HBB := Lib.hid hB
        cases hz : deepB l[j] m with
        | true =>
          rw [hz] at hI
          have HI := Lib.hid hI
          have HD : Hid (deepB (.mk k b n s l ks) (m + 1) = true) := Lib.hid (decide_eq_true (by have : m < depthV l[j] := of_decide_eq_true hz; have := HC.out; omega))
          clear hI hB hvw hx5 hz hye hdl
          go_wp2_with (go_at_call 89; (with_reducible refine HI.out.mono ?_); rintro e w5 ⟨rfl, hb5⟩)
          go_ret
          exact ⟨by rw [HD.out]; rfl, HB0.out.trans ((HBB.out.trans (hb5.mono HBB.out.size)).mono HB0.out.size)⟩
        | false =>
          rw [hz] at hI
          have HI := Lib.hid hI
          have hn2 : depthV l[j] ≤ m := by have : ¬ m < depthV l[j] := of_decide_eq_false hz; omega
          have HN : Hid (∀ q (h : q < j + 1) (h2 : q < l.length), depthV l[q] ≤ m) := Lib.hid (fun q h h2 => by
            by_cases e : q = j
            · subst e; exact hn2
            · exact hye.out q (by omega) h2)
          clear hI hB hvw hx5 hz hye hdl hn2
          go_wp2_with (go_at_call 89; (with_reducible refine HI.out.mono ?_); rintro e w5 ⟨rfl, hb5⟩)
          go_roundw
          case rel => exact ⟨j + 1, by omega, by go_num, HN, HBB.out.trans (hb5.mono HBB.out.size)⟩
          case measure => simp [intOf]; omega
      · have HF : Hid (deepB (.mk k b n s l ks) (m + 1) = false) := Lib.hid (decide_eq_false (by
          intro hc
          rw [HC.out] at hc
          obtain ⟨y, hy, hy2⟩ := depthVs_gt (l := l) (n := m) (by omega)
          obtain ⟨q, hq, rfl⟩ := List.getElem_of_mem hy
          have := hye.out q (by omega) hq
          omega))
        have HBB := Lib.hid hB
        clear hye hB
        go_wp2_with fail
        go_ret
        exact ⟨by rw [HF.out]; rfl, HB0.out.trans (HBB.out.mono HB0.out.size)⟩
end Go.Proofs.YtoapaflcokhohaaGreatDoor

set_option linter.unusedVariables false
namespace Go.Proofs.YtoapaflcokhohaaGreatDoor
open Go.RowKit

/-- The same tree? -/
noncomputable def sm (x y : V) : Bool := @decide (x = y) (Classical.propDecidable _)
theorem sm_yes {x y : V} (h : x = y) : sm x y = true := @decide_eq_true _ (Classical.propDecidable _) h
theorem sm_no {x y : V} (h : x ≠ y) : sm x y = false := @decide_eq_false _ (Classical.propDecidable _) h
theorem sm_eq {x y : V} (h : sm x y = true) : x = y := @of_decide_eq_true _ (Classical.propDecidable _) h
theorem sm_ne {x y : V} (h : sm x y = false) : x ≠ y := @of_decide_eq_false _ (Classical.propDecidable _) h
theorem KB.two {w : World} {o o' : Obj} : Below w.heap.size w ((w.alloc o).alloc o') := ((Below.refl _ _).alloc (Nat.le_refl _) _).alloc (by simp) _
theorem beq_toList {S T : ByteArray} (h : S ≠ T) : (S.toList == T.toList) = false := by
  rw [beq_eq_false_iff_ne]
  intro e
  rw [Lib.toList_data, Lib.toList_data] at e
  exact h (ByteArray.ext (by simpa using congrArg List.toArray e))
theorem drewB (n : Nat) (w : World) (m : Nat) : Below n w (w.drewN m) := ⟨rfl, rfl, rfl, Nat.le_refl _, fun _ _ => rfl⟩
theorem drewB1 (n : Nat) (w : World) : Below n w w.drew := ⟨rfl, rfl, rfl, Nat.le_refl _, fun _ _ => rfl⟩
theorem beqI {a b : Int} (h : a ≠ b) : (a == b) = false := by rw [beq_eq_false_iff_ne]; exact h
theorem beqB {a b : Bool} (h : a ≠ b) : (a == b) = false := by rw [beq_eq_false_iff_ne]; exact h

set_option maxRecDepth 100000 in
set_option maxHeartbeats 8000000 in
theorem same_any : ∀ (N : Nat) (x y : V) (v v' : Value) (w : World), sizeV x ≤ N → isV w x v → isV w y v' →
    Calls Tryz.prog 42 #[v, v'] w fun e w' => e = .returned (.bool (sm x y)) ∧ Below w.heap.size w w'
  | 0, x, y, v, v', w, hN, h, h' => absurd (sizeV_pos x) (by omega)
  | N + 1, x, y, v, v', w, hN, h, h' => by
    obtain ⟨k, b, n, s, l, ks⟩ := x
    obtain ⟨k', b', n', s', l', ks'⟩ := y
    unfold isV at h h'
    obtain ⟨lv, kv, rfl, hk, hn, hs, ⟨a, cap, ⟨o, rfl, hc1, hc2, ho⟩, hvs⟩, ⟨a2, cap2, ⟨o2, rfl, hc3, hc4, ho2⟩, hks⟩⟩ := h
    obtain ⟨lv, kv, rfl, hk', hn', hs', ⟨a', cap', ⟨o', rfl, hc1', hc2', ho'⟩, hvs'⟩, ⟨a2', cap2', ⟨o2', rfl, hc3', hc4', ho2'⟩, hks'⟩⟩ := h'
    unfold maxLen at hs hc2 hc4 hs' hc2' hc4'
    clear hk hn hk' hn'
    have hsz : sizeV (.mk k b n s l ks) = 1 + s.size + keysS ks + sizeVs l := by rw [sizeV]
    have hSL : sizeVs l ≤ N := by omega
    clear hsz hN
    by_cases q1 : k ≠ k'
    · have HN : Hid (sm (.mk k b n s l ks) (.mk k' b' n' s' l' ks') = false) := Lib.hid (sm_no (fun e => by injection e; contradiction))
      have f1 := beqI q1
      have f2 : (k != k') = true := bne_iff_ne.2 q1
      clear q1 hvs hvs' hks hks' ho ho' ho2 ho2'
      go_enter Tryz.func42, Tryz.ntmps42
      go_wp2_with fail
      go_ret
      exact ⟨by rw [HN.out]; rfl, KB.two⟩
    obtain rfl : k = k' := Decidable.not_not.1 q1
    by_cases q2 : b ≠ b'
    · have HN : Hid (sm (.mk k b n s l ks) (.mk k b' n' s' l' ks') = false) := Lib.hid (sm_no (fun e => by injection e; contradiction))
      have f1 := beqB q2
      have f2 : (b != b') = true := bne_iff_ne.2 q2
      clear q1 q2 hvs hvs' hks hks' ho ho' ho2 ho2'
      go_enter Tryz.func42, Tryz.ntmps42
      go_wp2_with fail
      go_ret
      exact ⟨by rw [HN.out]; rfl, KB.two⟩
    obtain rfl : b = b' := Decidable.not_not.1 q2
    by_cases q3 : n ≠ n'
    · have HN : Hid (sm (.mk k b n s l ks) (.mk k b n' s' l' ks') = false) := Lib.hid (sm_no (fun e => by injection e; contradiction))
      have f1 := beqI q3
      have f2 : (n != n') = true := bne_iff_ne.2 q3
      clear q1 q2 q3 hvs hvs' hks hks' ho ho' ho2 ho2'
      go_enter Tryz.func42, Tryz.ntmps42
      go_wp2_with fail
      go_ret
      exact ⟨by rw [HN.out]; rfl, KB.two⟩
    obtain rfl : n = n' := Decidable.not_not.1 q3
    by_cases q4 : s ≠ s'
    · have HN : Hid (sm (.mk k b n s l ks) (.mk k b n s' l' ks') = false) := Lib.hid (sm_no (fun e => by injection e; contradiction))
      have f1 := beq_toList q4
      clear q1 q2 q3 q4 hvs hvs' hks hks' ho ho' ho2 ho2'
      go_enter Tryz.func42, Tryz.ntmps42
      go_wp2_with fail
      go_ret
      exact ⟨by rw [HN.out]; rfl, KB.two⟩
    obtain rfl : s = s' := Classical.not_not.1 q4
    by_cases q5 : l.length ≠ l'.length
    · have HN : Hid (sm (.mk k b n s l ks) (.mk k b n s l' ks') = false) := Lib.hid (sm_no (fun e => by injection e; subst_vars; contradiction))
      have f1 : ((l.length : Int) == (l'.length : Int)) = false := beqI (by omega)
      have f2 : ((l.length : Int) != (l'.length : Int)) = true := bne_iff_ne.2 (by omega)
      clear q1 q2 q3 q4 q5 hvs hvs' hks hks' ho ho' ho2 ho2'
      go_enter Tryz.func42, Tryz.ntmps42
      go_wp2_with fail
      go_ret
      exact ⟨by rw [HN.out]; rfl, KB.two⟩
    have q5' : l'.length = l.length := (Decidable.not_not.1 q5).symm
    by_cases q6 : ks.length ≠ ks'.length
    · have HN : Hid (sm (.mk k b n s l ks) (.mk k b n s l' ks') = false) := Lib.hid (sm_no (fun e => by injection e; subst_vars; contradiction))
      have f1 : ((ks.length : Int) == (ks'.length : Int)) = false := beqI (by omega)
      have f2 : ((ks.length : Int) != (ks'.length : Int)) = true := bne_iff_ne.2 (by omega)
      clear q1 q2 q3 q4 q5 q6 hvs hvs' hks hks' ho ho' ho2 ho2'
      go_enter Tryz.func42, Tryz.ntmps42
      go_wp2_with fail
      go_ret
      exact ⟨by rw [HN.out]; rfl, KB.two⟩
    have q6' : ks'.length = ks.length := (Decidable.not_not.1 q6).symm
    rw [q5'] at hc1' ho' ⊢
    rw [q6'] at hc3' ho2' ⊢
    have HKA : Hid (∀ (i : Nat) (h : i < ks.length), ((w.alloc (.cells #[.int .i8 k, .bool b, .int .i64 n, .string s, .slice o l.length cap, .slice o2 ks.length cap2] 64)).alloc (.cells #[.int .i8 k, .bool b, .int .i64 n, .string s, .slice o' l.length cap', .slice o2' ks.length cap2'] 64)).cell? (a2.add i) = some (.string ks[i]) ∧ ks[i].size ≤ maxLen) := Lib.hid (fun i h => ⟨cell_below KB.two _ _ (hks i h).1, (hks i h).2⟩)
    have HKB : Hid (∀ (i : Nat) (h : i < ks'.length), ((w.alloc (.cells #[.int .i8 k, .bool b, .int .i64 n, .string s, .slice o l.length cap, .slice o2 ks.length cap2] 64)).alloc (.cells #[.int .i8 k, .bool b, .int .i64 n, .string s, .slice o' l.length cap', .slice o2' ks.length cap2'] 64)).cell? (a2'.add i) = some (.string ks'[i]) ∧ ks'[i].size ≤ maxLen) := Lib.hid (fun i h => ⟨cell_below KB.two _ _ (hks' i h).1, (hks' i h).2⟩)
    have HVA := Lib.hid hvs
    have HVB := Lib.hid hvs'
    have Q5 := Lib.hid q5'
    have Q6 := Lib.hid q6'
    clear q1 q2 q3 q4 q5 q6 q5' q6' hks hks' hvs hvs'
    go_enter Tryz.func42, Tryz.ntmps42
    go_wp2_with fail
    have hB0 : KB w ((w.alloc (.cells #[.int .i8 k, .bool b, .int .i64 n, .string s, .slice o l.length cap, .slice o2 ks.length cap2] 64)).alloc (.cells #[.int .i8 k, .bool b, .int .i64 n, .string s, .slice o' l.length cap', .slice o2' ks.length cap2'] 64)) := KB.two
    have h4 : ((w.alloc (.cells #[.int .i8 k, .bool b, .int .i64 n, .string s, .slice o l.length cap, .slice o2 ks.length cap2] 64)).alloc (.cells #[.int .i8 k, .bool b, .int .i64 n, .string s, .slice o' l.length cap', .slice o2' ks.length cap2'] 64)).cell? ⟨w.heap.size, 4, none⟩ = some (.slice o l.length cap) := by simp
    have h4' : ((w.alloc (.cells #[.int .i8 k, .bool b, .int .i64 n, .string s, .slice o l.length cap, .slice o2 ks.length cap2] 64)).alloc (.cells #[.int .i8 k, .bool b, .int .i64 n, .string s, .slice o' l.length cap', .slice o2' ks.length cap2'] 64)).cell? ⟨w.heap.size + 1, 4, none⟩ = some (.slice o' l.length cap') := by simp
    have h5 : ((w.alloc (.cells #[.int .i8 k, .bool b, .int .i64 n, .string s, .slice o l.length cap, .slice o2 ks.length cap2] 64)).alloc (.cells #[.int .i8 k, .bool b, .int .i64 n, .string s, .slice o' l.length cap', .slice o2' ks.length cap2'] 64)).cell? ⟨w.heap.size, 5, none⟩ = some (.slice o2 ks.length cap2) := by simp
    have h5' : ((w.alloc (.cells #[.int .i8 k, .bool b, .int .i64 n, .string s, .slice o l.length cap, .slice o2 ks.length cap2] 64)).alloc (.cells #[.int .i8 k, .bool b, .int .i64 n, .string s, .slice o' l.length cap', .slice o2' ks.length cap2'] 64)).cell? ⟨w.heap.size + 1, 5, none⟩ = some (.slice o2' ks.length cap2') := by simp
    generalize hW1 : (w.alloc (.cells #[.int .i8 k, .bool b, .int .i64 n, .string s, .slice o l.length cap, .slice o2 ks.length cap2] 64)).alloc (.cells #[.int .i8 k, .bool b, .int .i64 n, .string s, .slice o' l.length cap', .slice o2' ks.length cap2'] 64) = W1 at *
    clear hW1
    have HB0 := Lib.hid hB0
    have H4 := Lib.hid h4
    have H4' := Lib.hid h4'
    have H5 := Lib.hid h5
    have H5' := Lib.hid h5'
    clear hB0 h4 h4' h5 h5'
    go_loopw [5] (fun i wr => ∃ j : Nat, j ≤ ks.length ∧ i = .int .i64 j ∧ Hid (∀ q, q < j → ks[q]? = ks'[q]?) ∧ Below W1.heap.size W1 wr) (fun i _ => ks.length - (intOf i).toNat)
    case atStart => exact ⟨0, by omega, rfl, Lib.hid (fun q h => absurd h (by omega)), Below.refl _ _⟩
    case round =>
      obtain ⟨j, hj, rfl, hye, hB⟩ := hrel
      have b5 : wr.cell? ⟨w.heap.size, 5, none⟩ = some (.slice o2 ks.length cap2) := cell_below hB _ _ H5.out
      have b5' : wr.cell? ⟨w.heap.size + 1, 5, none⟩ = some (.slice o2' ks.length cap2') := cell_below hB _ _ H5'.out
      by_cases hlt : j < ks.length
      · have hlt' : j < ks'.length := by rw [Q6.out]; exact hlt
        obtain ⟨g1, z1⟩ := HKA.out j hlt
        obtain ⟨g2, z2⟩ := HKB.out j hlt'
        have g1 := cell_below hB _ _ g1
        have g2 := cell_below hB _ _ g2
        obtain rfl := ho2 (by omega)
        obtain rfl := ho2' (by omega)
        have e1 : ks[j]? = some ks[j] := List.getElem?_eq_getElem hlt
        have e2 : ks'[j]? = some ks'[j] := List.getElem?_eq_getElem hlt'
        have hi0 : (0 : Int) ≤ (j : Int) := by omega
        have hi1 : (j : Int) < (ks.length : Int) := by omega
        have HBB := Lib.hid hB
        generalize ks[j] = K at *
        generalize ks'[j] = K' at *
        by_cases hK : K = K'
        · subst hK
          have HN : Hid (∀ q, q < j + 1 → ks[q]? = ks'[q]?) := Lib.hid (fun q h => by
            by_cases e : q = j
            · subst e; rw [e1, e2]
            · exact hye.out q (by omega))
          clear e1 e2 hye z1 z2 hB
          go_wp2_with fail
          go_quiet (fail)
          go_wp2_with fail
          go_roundw
          case rel => exact ⟨j + 1, by omega, by go_num, HN, HBB.out.trans (drewB _ _ _)⟩
          case measure => simp [intOf]; omega
        · have HN : Hid (sm (.mk k b n s l ks) (.mk k b n s l' ks') = false) := Lib.hid (sm_no (fun e => by
            injection e with _ _ _ _ _ e6
            rw [e6] at e1
            rw [e1] at e2
            exact hK (Option.some.inj e2)))
          have f1 := beq_toList hK
          clear e1 e2 hye z1 z2 hK hB
          go_wp2_with fail
          go_quiet (fail)
          go_wp2_with fail
          go_ret
          exact ⟨by rw [HN.out]; rfl, HB0.out.trans ((HBB.out.trans (drewB _ _ _)).mono HB0.out.size)⟩
      · have HKE : Hid (ks = ks') := Lib.hid (List.ext_getElem? (fun q => by
          by_cases h : q < ks.length
          · exact hye.out q (by omega)
          · rw [List.getElem?_eq_none (by omega), List.getElem?_eq_none (by rw [Q6.out]; omega)]))
        have HB1 := Lib.hid hB
        clear hye HKA HKB hB
        go_wp2_with fail
        clear hlt hj ho2 ho2' b5 b5'
        go_loopw [6] (fun i wr => ∃ j : Nat, j ≤ l.length ∧ i = .int .i64 j ∧ Hid (∀ q, q < j → l[q]? = l'[q]?) ∧ Below W1.heap.size W1 wr) (fun i _ => l.length - (intOf i).toNat)
        case atStart => exact ⟨0, by omega, rfl, Lib.hid (fun q h => absurd h (by omega)), HB1.out⟩
        case round =>
          obtain ⟨j, hj, rfl, hye, hB⟩ := hrel
          have c4 : wr.cell? ⟨w.heap.size, 4, none⟩ = some (.slice o l.length cap) := cell_below hB _ _ H4.out
          have c4' : wr.cell? ⟨w.heap.size + 1, 4, none⟩ = some (.slice o' l.length cap') := cell_below hB _ _ H4'.out
          by_cases hlt : j < l.length
          · have hlt' : j < l'.length := by rw [Q5.out]; exact hlt
            obtain rfl := ho (by omega)
            obtain rfl := ho' (by omega)
            have hvw := isVs_keep (cell_below hB) l a (isVs_keep (cell_below HB0.out) l a HVA.out)
            obtain ⟨c0, c1, c2, c3, cc4, c5, g0, g1, g2, g3, g4, g5, hx5⟩ := isVs_at l a j hlt hvw
            have hvw' := isVs_keep (cell_below hB) l' a' (isVs_keep (cell_below HB0.out) l' a' HVB.out)
            obtain ⟨d0, d1, d2, d3, dd4, d5, k0, k1, k2, k3, k4, k5, hy5⟩ := isVs_at l' a' j hlt' hvw'
            have hI := fun w1 => same_any N l[j] l'[j] (.agg #[c0, c1, c2, c3, cc4, c5]) (.agg #[d0, d1, d2, d3, dd4, d5]) w1 (by have := sizeVs_get l j hlt; omega)
            have e1 : l[j]? = some l[j] := List.getElem?_eq_getElem hlt
            have e2 : l'[j]? = some l'[j] := List.getElem?_eq_getElem hlt'
            have HBB := Lib.hid hB
            generalize l[j] = X at *
            generalize l'[j] = Y at *
            have hi0 : (0 : Int) ≤ (j : Int) := by omega
            have hi1 : (j : Int) < (l.length : Int) := by omega
            have HI : Hid (∀ w1, KB wr w1 → Calls Tryz.prog 42 #[.agg #[c0, c1, c2, c3, cc4, c5], .agg #[d0, d1, d2, d3, dd4, d5]] w1 fun e w' => e = .returned (.bool (sm X Y)) ∧ KB wr w') := Lib.hid fun w1 hK => Calls.kb hK (hI w1 (isV_below hK hx5) (isV_below hK hy5))
            have HYE : Hid (sm X Y = true → ∀ q, q < j + 1 → l[q]? = l'[q]?) := Lib.hid (fun hz q h => by
                by_cases e : q = j
                · subst e; rw [e1, e2, sm_eq hz]
                · exact hye.out q (by omega))
            have HNN : Hid (sm X Y = false → sm (.mk k b n s l ks) (.mk k b n s l' ks') = false) := Lib.hid (fun hz => sm_no (fun e => by
                injection e with _ _ _ _ e5 _
                rw [e5] at e1
                rw [e1] at e2
                exact sm_ne hz (Option.some.inj e2)))
            clear hI hB hvw hvw' hx5 hy5 hye e1 e2
            go_wp2_with fail
            go_still_tail 10, (by kernel_rfl)
            cases hz : sm X Y with
            | true =>
              rw [hz] at HI
              have HN := Lib.hid (HYE.out hz)
              clear hz HYE HNN
              go_wp2_with (go_at_call 42; (refine (HI.out _ (drewB1 _ _)).mono ?_); rintro e w5 ⟨rfl, hb5⟩)
              go_roundw
              case rel => exact ⟨j + 1, by omega, by go_num, HN, HBB.out.trans (hb5.mono HBB.out.size)⟩
              case measure => simp [intOf]; omega
            | false =>
              rw [hz] at HI
              have HN := Lib.hid (HNN.out hz)
              clear hz HYE HNN
              go_wp2_with (go_at_call 42; (refine (HI.out _ (drewB1 _ _)).mono ?_); rintro e w5 ⟨rfl, hb5⟩)
              go_ret
              exact ⟨by rw [HN.out]; rfl, HB0.out.trans ((HBB.out.trans (hb5.mono HBB.out.size)).mono HB0.out.size)⟩
          · have HN : Hid (sm (.mk k b n s l ks) (.mk k b n s l' ks') = true) := Lib.hid (sm_yes (by
              have : l = l' := List.ext_getElem? (fun q => by
                by_cases h : q < l.length
                · exact hye.out q (by omega)
                · rw [List.getElem?_eq_none (by omega), List.getElem?_eq_none (by rw [Q5.out]; omega)])
              rw [this, HKE.out]))
            have HBB := Lib.hid hB
            clear hye hB
            go_wp2_with fail
            go_ret
            exact ⟨by rw [HN.out]; rfl, HB0.out.trans (HBB.out.mono HB0.out.size)⟩
end Go.Proofs.YtoapaflcokhohaaGreatDoor

set_option linter.unusedVariables false
namespace Go.Proofs.YtoapaflcokhohaaGreatDoor
open Go.RowKit

theorem isK_nil (w : World) : isK w [] (.slice none 0 0) := ⟨⟨0, 0, none⟩, 0, ⟨none, rfl, Nat.le_refl _, by unfold maxLen; omega, fun h => absurd h (by decide)⟩, fun i h => absurd h (by simp)⟩
theorem isV_leaf (w : World) (k : Int) (b : Bool) (n : Int) (s : ByteArray) (hk : -128 ≤ k ∧ k ≤ 127) (hn : -9223372036854775808 ≤ n ∧ n ≤ 9223372036854775807) (hs : s.size ≤ maxLen) :
    isV w (.mk k b n s [] []) (.agg #[.int .i8 k, .bool b, .int .i64 n, .string s, .slice none 0 0, .slice none 0 0]) := by
  unfold isV
  exact ⟨_, _, rfl, hk, hn, hs, ⟨⟨0, 0, none⟩, 0, ⟨none, rfl, Nat.le_refl _, by unfold maxLen; omega, fun h => absurd h (by decide)⟩, by unfold isVs; trivial⟩, isK_nil w⟩
def V0 : V := .mk 0 false 0 ⟨#[]⟩ [] []
/-- A call that answers a value. -/
def RetV (x : V) (w : World) (e : Ending) (w' : World) : Prop := ∃ v, e = .returned v ∧ isV w' x v ∧ Below w.heap.size w w'

/-- The value beside a key. -/
def look : List ByteArray → List V → ByteArray → Option V
  | k :: ks, x :: l, key => if k = key then some x else look ks l key
  | _, _, _ => none
theorem look_at : ∀ (ks : List ByteArray) (l : List V) (key : ByteArray) (j : Nat) (h : j < ks.length) (h' : j < l.length), (∀ q, q < j → ks[q]? ≠ some key) → ks[j] = key → look ks l key = some l[j]
  | k :: ks, x :: l, key, 0, _, _, _, e => by simp only [List.getElem_cons_zero] at e; simp [look, e]
  | k :: ks, x :: l, key, j + 1, h, h', hq, e => by
    have h0 : k ≠ key := by have := hq 0 (by omega); simpa using this
    simp only [look, if_neg h0]
    rw [look_at ks l key j (by simpa using h) (by simpa using h') (fun q hqj => by have := hq (q + 1) (by omega); simpa using this) (by simpa using e)]
    simp
theorem look_none : ∀ (ks : List ByteArray) (l : List V) (key : ByteArray), (∀ q, q < ks.length → ks[q]? ≠ some key) → look ks l key = none
  | [], l, key, _ => by cases l <;> rfl
  | k :: ks, [], key, _ => rfl
  | k :: ks, x :: l, key, hq => by
    have h0 : k ≠ key := by have := hq 0 (by simp); simpa using this
    simp only [look, if_neg h0]
    exact look_none ks l key (fun q hqj => by have := hq (q + 1) (by simpa using hqj); simpa using this)
def getV (x : V) (key : ByteArray) : Option V := if x.kind = 5 ∧ x.keys.length = x.list.length then look x.keys x.list key else none
def RetG (g : Option V) (w : World) (e : Ending) (w' : World) : Prop := ∃ v, e = .returned (.tuple #[v, .bool g.isSome]) ∧ isV w' (g.getD V0) v ∧ Below w.heap.size w w'
theorem isV_V0 (w : World) : isV w V0 (.agg #[.int .i8 0, .bool false, .int .i64 0, .string ⟨#[]⟩, .slice none 0 0, .slice none 0 0]) := isV_leaf _ _ _ _ _ (by omega) (by omega) (by decide)

end Go.Proofs.YtoapaflcokhohaaGreatDoor

set_option linter.unusedVariables false
namespace Go.Proofs.YtoapaflcokhohaaGreatDoor
open Go.RowKit

/-- Has it what its kind names alone? -/
def plainP : V → Prop
  | .mk k b n s l ks => (0 ≤ k ∧ k ≤ 5) ∧ (b = true → k = 1) ∧ (n ≠ 0 → k = 2) ∧ (s ≠ ⟨#[]⟩ → k = 3) ∧ (l ≠ [] → k = 4 ∨ k = 5) ∧ (k = 5 → ks.length = l.length) ∧ (k ≠ 5 → ks.length = 0)
noncomputable def plainB (x : V) : Bool := @decide (plainP x) (Classical.propDecidable _)
theorem plain_yes {x : V} (h : plainP x) : plainB x = true := @decide_eq_true _ (Classical.propDecidable _) h
theorem plain_no {x : V} (h : ¬ plainP x) : plainB x = false := @decide_eq_false _ (Classical.propDecidable _) h
theorem plain_eq {x : V} (h : plainB x = true) : plainP x := @of_decide_eq_true _ (Classical.propDecidable _) h
theorem emp_no {s : ByteArray} (h : s ≠ ⟨#[]⟩) : s.toList.isEmpty = false := by
  cases e : s.toList with
  | nil =>
    rw [Lib.toList_data] at e
    exact absurd (ByteArray.ext (by simpa using congrArg List.toArray e)) h
  | cons _ _ => rfl

set_option maxRecDepth 100000 in
set_option maxHeartbeats 8000000 in
theorem plain_any (x : V) (v : Value) (w : World) (h : isV w x v) :
    Calls Tryz.prog 100 #[v] w fun e w' => e = .returned (.bool (plainB x)) ∧ Below w.heap.size w w' := by
  obtain ⟨k, b, n, s, l, ks⟩ := x
  unfold isV at h
  obtain ⟨lv, kv, rfl, hk, hn, hs, ⟨a, cap, ⟨o, rfl, hc1, hc2, ho⟩, hvs⟩, ⟨a2, cap2, ⟨o2, rfl, hc3, hc4, ho2⟩, hks⟩⟩ := h
  unfold maxLen at hs hc2 hc4
  clear hk hn ho hvs ho2 hks
  by_cases hr : k < 0
  · have HP : Hid (plainB (.mk k b n s l ks) = false) := Lib.hid (plain_no (fun h => by have := h.1.1; omega))
    have r1 : decide (k < 0) = true := decide_eq_true hr
    clear hr
    go_enter Tryz.func100, Tryz.ntmps100
    go_wp2_with fail
    go_ret
    exact ⟨by rw [HP.out]; rfl, kbA⟩
  by_cases hr2 : 5 < k
  · have HP : Hid (plainB (.mk k b n s l ks) = false) := Lib.hid (plain_no (fun h => by have := h.1.2; omega))
    have r1 : decide (k < 0) = false := decide_eq_false hr
    have r2 : decide (5 < k) = true := decide_eq_true hr2
    clear hr hr2
    go_enter Tryz.func100, Tryz.ntmps100
    go_wp2_with fail
    go_ret
    exact ⟨by rw [HP.out]; rfl, kbA⟩
  cases b with
  | true =>
    by_cases h1 : k ≠ 1
    · have HP : Hid (plainB (.mk k true n s l ks) = false) := Lib.hid (plain_no (fun h => h1 (h.2.1 rfl)))
      have r1 : decide (k < 0) = false := decide_eq_false (by omega)
      have r2 : decide (5 < k) = false := decide_eq_false (by omega)
      have k1 : (k == 1) = false := beqI h1
      have k1' : (k != 1) = true := bne_iff_ne.2 h1
      clear h1 hr hr2
      go_enter Tryz.func100, Tryz.ntmps100
      go_wp2_with fail
      go_ret
      exact ⟨by rw [HP.out]; rfl, kbA⟩
    obtain rfl : k = 1 := Decidable.not_not.1 h1
    clear h1 hr hr2
    by_cases h2 : n ≠ 0
    · have HP : Hid (plainB (.mk 1 true n s l ks) = false) := Lib.hid (plain_no (fun h => by have := h.2.2.1 h2; omega))
      have n1 : (n != 0) = true := bne_iff_ne.2 h2
      have n2 : (n == 0) = false := beqI h2
      clear h2
      go_enter Tryz.func100, Tryz.ntmps100
      go_wp2_with fail
      go_ret
      exact ⟨by rw [HP.out]; rfl, kbA⟩
    obtain rfl : n = 0 := Decidable.not_not.1 h2
    clear h2
    by_cases h3 : s ≠ ⟨#[]⟩
    · have HP : Hid (plainB (.mk 1 true 0 s l ks) = false) := Lib.hid (plain_no (fun h => by have := h.2.2.2.1 h3; omega))
      have s1 := emp_no h3
      have s2 := beq_toList h3
      clear h3
      go_enter Tryz.func100, Tryz.ntmps100
      go_wp2_with fail
      go_ret
      exact ⟨by rw [HP.out]; rfl, kbA⟩
    obtain rfl : s = ⟨#[]⟩ := Classical.not_not.1 h3
    clear h3
    by_cases h4 : l ≠ []
    · have HP : Hid (plainB (.mk 1 true 0 ⟨#[]⟩ l ks) = false) := Lib.hid (plain_no (fun h => by have := h.2.2.2.2.1 h4; omega))
      have l0 : 0 < l.length := List.length_pos_iff.2 h4
      have l1 : decide (0 < (l.length : Int)) = true := decide_eq_true (by omega)
      clear h4
      go_enter Tryz.func100, Tryz.ntmps100
      go_wp2_with fail
      go_ret
      exact ⟨by rw [HP.out]; rfl, kbA⟩
    obtain rfl : l = [] := Classical.not_not.1 h4
    clear h4
    by_cases hz : ks.length = 0
    · have HP : Hid (plainB (.mk 1 true 0 ⟨#[]⟩ [] ks) = true) := Lib.hid (plain_yes (by unfold plainP; refine ⟨by omega, ?_, ?_, ?_, ?_, ?_, fun _ => hz⟩ <;> intro h <;> first | omega | (exact absurd rfl h) | (exact absurd h (by simp)) | (exact .inl rfl) | contradiction))
      have z1 : ((ks.length : Int) == 0) = true := by rw [beq_iff_eq]; omega
      clear  hz
      go_enter Tryz.func100, Tryz.ntmps100
      go_wp2_with fail
      go_ret
      exact ⟨by rw [HP.out]; rfl, kbA⟩
    · have HP : Hid (plainB (.mk 1 true 0 ⟨#[]⟩ [] ks) = false) := Lib.hid (plain_no (fun h => hz (h.2.2.2.2.2.2 (by omega))))
      have z1 : ((ks.length : Int) == 0) = false := beqI (by omega)
      clear  hz
      go_enter Tryz.func100, Tryz.ntmps100
      go_wp2_with fail
      go_ret
      exact ⟨by rw [HP.out]; rfl, kbA⟩
  | false =>
    by_cases h2 : n ≠ 0
    · have n1 : (n != 0) = true := bne_iff_ne.2 h2
      have n2 : (n == 0) = false := beqI h2
      by_cases h1 : k ≠ 2
      · have HP : Hid (plainB (.mk k false n s l ks) = false) := Lib.hid (plain_no (fun h => h1 (h.2.2.1 h2)))
        have r1 : decide (k < 0) = false := decide_eq_false (by omega)
        have r2 : decide (5 < k) = false := decide_eq_false (by omega)
        have k2 : (k == 2) = false := beqI h1
        have k2' : (k != 2) = true := bne_iff_ne.2 h1
        clear h1 h2 hr hr2
        go_enter Tryz.func100, Tryz.ntmps100
        go_wp2_with fail
        go_ret
        exact ⟨by rw [HP.out]; rfl, kbA⟩
      obtain rfl : k = 2 := Decidable.not_not.1 h1
      clear h1 hr hr2
      by_cases h3 : s ≠ ⟨#[]⟩
      · have HP : Hid (plainB (.mk 2 false n s l ks) = false) := Lib.hid (plain_no (fun h => by have := h.2.2.2.1 h3; omega))
        have s1 := emp_no h3
        have s2 := beq_toList h3
        clear h3 h2
        go_enter Tryz.func100, Tryz.ntmps100
        go_wp2_with fail
        go_ret
        exact ⟨by rw [HP.out]; rfl, kbA⟩
      obtain rfl : s = ⟨#[]⟩ := Classical.not_not.1 h3
      clear h3
      by_cases h4 : l ≠ []
      · have HP : Hid (plainB (.mk 2 false n ⟨#[]⟩ l ks) = false) := Lib.hid (plain_no (fun h => by have := h.2.2.2.2.1 h4; omega))
        have l0 : 0 < l.length := List.length_pos_iff.2 h4
        have l1 : decide (0 < (l.length : Int)) = true := decide_eq_true (by omega)
        clear h4 h2
        go_enter Tryz.func100, Tryz.ntmps100
        go_wp2_with fail
        go_ret
        exact ⟨by rw [HP.out]; rfl, kbA⟩
      obtain rfl : l = [] := Classical.not_not.1 h4
      clear h4 h2
      by_cases hz : ks.length = 0
      · have HP : Hid (plainB (.mk 2 false n ⟨#[]⟩ [] ks) = true) := Lib.hid (plain_yes (by unfold plainP; refine ⟨by omega, ?_, ?_, ?_, ?_, ?_, fun _ => hz⟩ <;> intro h <;> first | omega | (exact absurd rfl h) | (exact absurd h (by simp)) | (exact .inl rfl) | contradiction))
        have z1 : ((ks.length : Int) == 0) = true := by rw [beq_iff_eq]; omega
        clear  hz
        go_enter Tryz.func100, Tryz.ntmps100
        go_wp2_with fail
        go_ret
        exact ⟨by rw [HP.out]; rfl, kbA⟩
      · have HP : Hid (plainB (.mk 2 false n ⟨#[]⟩ [] ks) = false) := Lib.hid (plain_no (fun h => hz (h.2.2.2.2.2.2 (by omega))))
        have z1 : ((ks.length : Int) == 0) = false := beqI (by omega)
        clear  hz
        go_enter Tryz.func100, Tryz.ntmps100
        go_wp2_with fail
        go_ret
        exact ⟨by rw [HP.out]; rfl, kbA⟩
    obtain rfl : n = 0 := Decidable.not_not.1 h2
    clear h2
    by_cases h3 : s ≠ ⟨#[]⟩
    · have s1 := emp_no h3
      have s2 := beq_toList h3
      by_cases h1 : k ≠ 3
      · have HP : Hid (plainB (.mk k false 0 s l ks) = false) := Lib.hid (plain_no (fun h => h1 (h.2.2.2.1 h3)))
        have r1 : decide (k < 0) = false := decide_eq_false (by omega)
        have r2 : decide (5 < k) = false := decide_eq_false (by omega)
        have k3 : (k == 3) = false := beqI h1
        have k3' : (k != 3) = true := bne_iff_ne.2 h1
        clear h1 h3 hr hr2
        go_enter Tryz.func100, Tryz.ntmps100
        go_wp2_with fail
        go_ret
        exact ⟨by rw [HP.out]; rfl, kbA⟩
      obtain rfl : k = 3 := Decidable.not_not.1 h1
      clear h1 hr hr2
      by_cases h4 : l ≠ []
      · have HP : Hid (plainB (.mk 3 false 0 s l ks) = false) := Lib.hid (plain_no (fun h => by have := h.2.2.2.2.1 h4; omega))
        have l0 : 0 < l.length := List.length_pos_iff.2 h4
        have l1 : decide (0 < (l.length : Int)) = true := decide_eq_true (by omega)
        clear h4 h3
        go_enter Tryz.func100, Tryz.ntmps100
        go_wp2_with fail
        go_ret
        exact ⟨by rw [HP.out]; rfl, kbA⟩
      obtain rfl : l = [] := Classical.not_not.1 h4
      clear h4 h3
      by_cases hz : ks.length = 0
      · have HP : Hid (plainB (.mk 3 false 0 s [] ks) = true) := Lib.hid (plain_yes (by unfold plainP; refine ⟨by omega, ?_, ?_, ?_, ?_, ?_, fun _ => hz⟩ <;> intro h <;> first | omega | (exact absurd rfl h) | (exact absurd h (by simp)) | (exact .inl rfl) | contradiction))
        have z1 : ((ks.length : Int) == 0) = true := by rw [beq_iff_eq]; omega
        clear  hz
        go_enter Tryz.func100, Tryz.ntmps100
        go_wp2_with fail
        go_ret
        exact ⟨by rw [HP.out]; rfl, kbA⟩
      · have HP : Hid (plainB (.mk 3 false 0 s [] ks) = false) := Lib.hid (plain_no (fun h => hz (h.2.2.2.2.2.2 (by omega))))
        have z1 : ((ks.length : Int) == 0) = false := beqI (by omega)
        clear  hz
        go_enter Tryz.func100, Tryz.ntmps100
        go_wp2_with fail
        go_ret
        exact ⟨by rw [HP.out]; rfl, kbA⟩
    obtain rfl : s = ⟨#[]⟩ := Classical.not_not.1 h3
    clear h3
    by_cases h4 : l ≠ []
    · have l0 : 0 < l.length := List.length_pos_iff.2 h4
      have l1 : decide (0 < (l.length : Int)) = true := decide_eq_true (by omega)
      by_cases h5 : k = 5
      · subst h5
        clear hr hr2
        by_cases hz : ks.length = l.length
        · have HP : Hid (plainB (.mk 5 false 0 ⟨#[]⟩ l ks) = true) := Lib.hid (plain_yes (by unfold plainP; refine ⟨by omega, ?_, ?_, ?_, fun _ => .inr rfl, fun _ => hz, ?_⟩ <;> intro h <;> first | (exact absurd rfl h) | (exact absurd h (by simp))))
          have z1 : ((ks.length : Int) == (l.length : Int)) = true := by rw [beq_iff_eq]; omega
          clear hz h4
          go_enter Tryz.func100, Tryz.ntmps100
          go_wp2_with fail
          go_ret
          exact ⟨by rw [HP.out]; rfl, kbA⟩
        · have HP : Hid (plainB (.mk 5 false 0 ⟨#[]⟩ l ks) = false) := Lib.hid (plain_no (fun h => hz (h.2.2.2.2.2.1 rfl)))
          have z1 : ((ks.length : Int) == (l.length : Int)) = false := beqI (by omega)
          clear hz h4
          go_enter Tryz.func100, Tryz.ntmps100
          go_wp2_with fail
          go_ret
          exact ⟨by rw [HP.out]; rfl, kbA⟩
      by_cases h6 : k = 4
      · subst h6
        clear hr hr2 h5
        by_cases hz : ks.length = 0
        · have HP : Hid (plainB (.mk 4 false 0 ⟨#[]⟩ l ks) = true) := Lib.hid (plain_yes (by unfold plainP; refine ⟨by omega, ?_, ?_, ?_, ?_, ?_, fun _ => hz⟩ <;> intro h <;> first | omega | (exact absurd rfl h) | (exact absurd h (by simp)) | (exact .inl rfl) | contradiction))
          have z1 : ((ks.length : Int) == 0) = true := by rw [beq_iff_eq]; omega
          clear h4 hz
          go_enter Tryz.func100, Tryz.ntmps100
          go_wp2_with fail
          go_ret
          exact ⟨by rw [HP.out]; rfl, kbA⟩
        · have HP : Hid (plainB (.mk 4 false 0 ⟨#[]⟩ l ks) = false) := Lib.hid (plain_no (fun h => hz (h.2.2.2.2.2.2 (by omega))))
          have z1 : ((ks.length : Int) == 0) = false := beqI (by omega)
          clear h4 hz
          go_enter Tryz.func100, Tryz.ntmps100
          go_wp2_with fail
          go_ret
          exact ⟨by rw [HP.out]; rfl, kbA⟩
      · have HP : Hid (plainB (.mk k false 0 ⟨#[]⟩ l ks) = false) := Lib.hid (plain_no (fun h => by have := h.2.2.2.2.1 h4; omega))
        have r1 : decide (k < 0) = false := decide_eq_false (by omega)
        have r2 : decide (5 < k) = false := decide_eq_false (by omega)
        have k4 : (k == 4) = false := beqI h6
        have k4' : (k != 4) = true := bne_iff_ne.2 h6
        have k5 : (k == 5) = false := beqI h5
        have k5' : (k != 5) = true := bne_iff_ne.2 h5
        clear h4 h5 h6 hr hr2
        go_enter Tryz.func100, Tryz.ntmps100
        go_wp2_with fail
        go_ret
        exact ⟨by rw [HP.out]; rfl, kbA⟩
    obtain rfl : l = [] := Classical.not_not.1 h4
    clear h4
    by_cases h5 : k = 5
    · subst h5
      clear hr hr2
      by_cases hz : ks.length = 0
      · have HP : Hid (plainB (.mk 5 false 0 ⟨#[]⟩ [] ks) = true) := Lib.hid (plain_yes (by unfold plainP; refine ⟨by omega, ?_, ?_, ?_, ?_, fun _ => hz, ?_⟩ <;> intro h <;> first | (exact absurd rfl h) | (exact absurd h (by simp))))
        have z1 : ((ks.length : Int) == 0) = true := by rw [beq_iff_eq]; omega
        clear hz
        go_enter Tryz.func100, Tryz.ntmps100
        go_wp2_with fail
        go_ret
        exact ⟨by rw [HP.out]; rfl, kbA⟩
      · have HP : Hid (plainB (.mk 5 false 0 ⟨#[]⟩ [] ks) = false) := Lib.hid (plain_no (fun h => hz (h.2.2.2.2.2.1 rfl)))
        have z1 : ((ks.length : Int) == 0) = false := beqI (by omega)
        clear hz
        go_enter Tryz.func100, Tryz.ntmps100
        go_wp2_with fail
        go_ret
        exact ⟨by rw [HP.out]; rfl, kbA⟩
    · have k5 : (k == 5) = false := beqI h5
      have k5' : (k != 5) = true := bne_iff_ne.2 h5
      have r1 : decide (k < 0) = false := decide_eq_false (by omega)
      have r2 : decide (5 < k) = false := decide_eq_false (by omega)
      by_cases hz : ks.length = 0
      · have HP : Hid (plainB (.mk k false 0 ⟨#[]⟩ [] ks) = true) := Lib.hid (plain_yes (by unfold plainP; refine ⟨⟨by omega, by omega⟩, ?_, ?_, ?_, ?_, ?_, fun _ => hz⟩ <;> intro h <;> first | omega | (exact absurd rfl h) | (exact absurd h (by simp)) | (exact .inl rfl) | contradiction))
        have z1 : ((ks.length : Int) == 0) = true := by rw [beq_iff_eq]; omega
        clear h5 hr hr2 hz
        go_enter Tryz.func100, Tryz.ntmps100
        go_wp2_with fail
        go_ret
        exact ⟨by rw [HP.out]; rfl, kbA⟩
      · have HP : Hid (plainB (.mk k false 0 ⟨#[]⟩ [] ks) = false) := Lib.hid (plain_no (fun h => hz (h.2.2.2.2.2.2 (by omega))))
        have z1 : ((ks.length : Int) == 0) = false := beqI (by omega)
        clear h5 hr hr2 hz
        go_enter Tryz.func100, Tryz.ntmps100
        go_wp2_with fail
        go_ret
        exact ⟨by rw [HP.out]; rfl, kbA⟩
end Go.Proofs.YtoapaflcokhohaaGreatDoor

set_option linter.unusedVariables false
namespace Go.Proofs.YtoapaflcokhohaaGreatDoor
open Go.RowKit

def validS (s : ByteArray) : Bool := Lib.validD s.data.toList
noncomputable def onceB (ks : List ByteArray) : Bool := @decide ks.Nodup (Classical.propDecidable _)
theorem once_yes {ks : List ByteArray} (h : ks.Nodup) : onceB ks = true := @decide_eq_true _ (Classical.propDecidable _) h
theorem once_no {ks : List ByteArray} (h : ¬ ks.Nodup) : onceB ks = false := @decide_eq_false _ (Classical.propDecidable _) h
/-- What is wrong in the whole. -/
noncomputable def ownW (x : V) : Int := if plainB x = false then 2 else if x.num < -9007199254740992 ∨ 9007199254740992 < x.num then 20 else if validS x.text = false then 10 else if x.keys.all validS = false then 10 else if onceB x.keys = false then 41 else 0
theorem ownW_mk (k : Int) (b : Bool) (n : Int) (s : ByteArray) (l : List V) (ks : List ByteArray) : ownW (.mk k b n s l ks) = if plainB (.mk k b n s l ks) = false then 2 else if n < -9007199254740992 ∨ 9007199254740992 < n then 20 else if validS s = false then 10 else if ks.all validS = false then 10 else if onceB ks = false then 41 else 0 := rfl
mutual
/-- The first thing that is wrong. -/
noncomputable def wrongV : V → Int | .mk k b n s l ks => if ownW (.mk k b n s l ks) = 0 then wrongVs l else ownW (.mk k b n s l ks)
noncomputable def wrongVs : List V → Int | [] => 0 | x :: t => if wrongV x = 0 then wrongVs t else wrongV x
end
theorem wrongV_own {x : V} {e : Int} (h : ownW x = e) (he : e ≠ 0) : wrongV x = e := by
  obtain ⟨k, b, n, s, l, ks⟩ := x
  rw [wrongV, h, if_neg he]
theorem wrongV_parts {k n : Int} {b : Bool} {s : ByteArray} {l : List V} {ks : List ByteArray} (h : ownW (.mk k b n s l ks) = 0) : wrongV (.mk k b n s l ks) = wrongVs l := by
  rw [wrongV, if_pos h]
theorem wrongVs_at : ∀ (l : List V) (j : Nat) (h : j < l.length), (∀ q (h : q < l.length), q < j → wrongV l[q] = 0) → wrongV l[j] ≠ 0 → wrongVs l = wrongV l[j]
  | x :: t, 0, _, _, h => by simp only [List.getElem_cons_zero] at h ⊢; rw [wrongVs, if_neg h]
  | x :: t, j + 1, h, hq, hn => by
    have h0 : wrongV x = 0 := hq 0 (by simp) (by omega)
    rw [wrongVs, if_pos h0]
    exact wrongVs_at t j (by simpa using h) (fun q hql hqj => hq (q + 1) (by simpa using hql) (by omega)) hn
theorem wrongVs_none : ∀ (l : List V), (∀ q (h : q < l.length), wrongV l[q] = 0) → wrongVs l = 0
  | [], _ => by rw [wrongVs]
  | x :: t, hq => by
    have h0 : wrongV x = 0 := hq 0 (by simp)
    rw [wrongVs, if_pos h0]
    exact wrongVs_none t (fun q hql => hq (q + 1) (by simpa using hql))
theorem key_le : ∀ (ks : List ByteArray) (j : Nat) (h : j < ks.length), ks[j].size ≤ keysS ks
  | k :: t, 0, _ => by simp [keysS]
  | k :: t, j + 1, h => by
    have := key_le t j (by simpa using h)
    simp only [keysS, List.map_cons, List.sum_cons, List.getElem_cons_succ] at this ⊢
    omega
theorem nodup_snoc (ks : List ByteArray) (j : Nat) (h : j < ks.length) (hd : (ks.take j).Nodup) (hn : ∀ q (h : q < ks.length), q < j → ks[q] ≠ ks[j]) : (ks.take (j + 1)).Nodup := by
  rw [List.take_succ_eq_append_getElem h, List.nodup_append]
  refine ⟨hd, by simp, fun a ha b hb => ?_⟩
  simp only [List.mem_singleton] at hb
  subst hb
  obtain ⟨q, hq, rfl⟩ := List.getElem_of_mem ha
  rw [List.length_take] at hq
  rw [List.getElem_take]
  exact hn q (by omega) (by omega)
theorem not_nodup (ks : List ByteArray) (q j : Nat) (hq : q < j) (h : j < ks.length) (e : ks[q]'(by omega) = ks[j]) : ¬ ks.Nodup := fun hd => by
  have := (List.getElem_inj hd).1 e
  omega
theorem Calls.k0 {f : Nat} {args : Array Value} {w0 w : World} {v : Value} (hK : KB w0 w) (h : Calls Tryz.prog f args w fun e w' => e = .returned v ∧ w' = w) : Calls Tryz.prog f args w fun e w' => e = .returned v ∧ KB w0 w' :=
  h.mono fun _ _ ⟨he, hb⟩ => ⟨he, hb ▸ hK⟩

set_option maxRecDepth 100000 in
set_option maxHeartbeats 16000000 in
theorem wrong_any : ∀ (N : Nat) (x : V) (v : Value) (w : World), sizeV x ≤ N → N ≤ 1000000 → isV w x v →
    Calls Tryz.prog 90 #[v] w fun e w' => e = .returned (.int .i64 (wrongV x)) ∧ Below w.heap.size w w'
  | 0, x, v, w, hN, _, h => absurd (sizeV_pos x) (by omega)
  | N + 1, x, v, w, hN, hM, h => by
    have h00 := h
    obtain ⟨k, b, n, s, l, ks⟩ := x
    unfold isV at h
    obtain ⟨lv, kv, rfl, hk, hn, hs, ⟨a, cap, ⟨o, rfl, hc1, hc2, ho⟩, hvs⟩, ⟨a2, cap2, ⟨o2, rfl, hc3, hc4, ho2⟩, hks⟩⟩ := h
    unfold maxLen at hs hc2 hc4
    have hsz : sizeV (.mk k b n s l ks) = 1 + s.size + keysS ks + sizeVs l := by rw [sizeV]
    have hSL : sizeVs l ≤ N := by omega
    have hs1 : s.size ≤ 1000000 := by omega
    have hkS : keysS ks ≤ 1000000 := by omega
    have HPl : Hid (∀ w1, KB (w.alloc (.cells #[.int .i8 k, .bool b, .int .i64 n, .string s, .slice o l.length cap, .slice o2 ks.length cap2] 64)) w1 → Calls Tryz.prog 100 #[.agg #[.int .i8 k, .bool b, .int .i64 n, .string s, .slice o l.length cap, .slice o2 ks.length cap2]] w1 fun e w' => e = .returned (.bool (plainB (.mk k b n s l ks))) ∧ KB (w.alloc (.cells #[.int .i8 k, .bool b, .int .i64 n, .string s, .slice o l.length cap, .slice o2 ks.length cap2] 64)) w') := Lib.hid fun w1 hK => Calls.kb hK (plain_any _ _ _ (isV_below hK (isV_below kbA h00)))
    have HVa : Hid (∀ (S : ByteArray), S.size ≤ 1000000 → ∀ w1, KB (w.alloc (.cells #[.int .i8 k, .bool b, .int .i64 n, .string s, .slice o l.length cap, .slice o2 ks.length cap2] 64)) w1 → Calls Tryz.prog 97 #[.string S] w1 fun e w' => e = .returned (.bool (validS S)) ∧ KB (w.alloc (.cells #[.int .i8 k, .bool b, .int .i64 n, .string s, .slice o l.length cap, .slice o2 ks.length cap2] 64)) w') := Lib.hid fun S hS w1 hK => Calls.k0 hK ((rvalid_any S w1 (by omega)).mono fun _ _ ⟨h1, h2⟩ => ⟨h1, h2.symm⟩)
    have hO : ∀ e : Int, e ≠ 0 → ownW (.mk k b n s l ks) = e → wrongV (.mk k b n s l ks) = e := fun e he h => wrongV_own h he
    have HB0 : Hid (KB w (w.alloc (.cells #[.int .i8 k, .bool b, .int .i64 n, .string s, .slice o l.length cap, .slice o2 ks.length cap2] 64))) := Lib.hid kbA
    have H2 : Hid ((w.alloc (.cells #[.int .i8 k, .bool b, .int .i64 n, .string s, .slice o l.length cap, .slice o2 ks.length cap2] 64)).cell? ⟨w.heap.size, 2, none⟩ = some (.int .i64 n)) := Lib.hid (by simp)
    have H3 : Hid ((w.alloc (.cells #[.int .i8 k, .bool b, .int .i64 n, .string s, .slice o l.length cap, .slice o2 ks.length cap2] 64)).cell? ⟨w.heap.size, 3, none⟩ = some (.string s)) := Lib.hid (by simp)
    have H4 : Hid ((w.alloc (.cells #[.int .i8 k, .bool b, .int .i64 n, .string s, .slice o l.length cap, .slice o2 ks.length cap2] 64)).cell? ⟨w.heap.size, 4, none⟩ = some (.slice o l.length cap)) := Lib.hid (by simp)
    have H5 : Hid ((w.alloc (.cells #[.int .i8 k, .bool b, .int .i64 n, .string s, .slice o l.length cap, .slice o2 ks.length cap2] 64)).cell? ⟨w.heap.size, 5, none⟩ = some (.slice o2 ks.length cap2)) := Lib.hid (by simp)
    have HK := Lib.hid hks
    have HV := Lib.hid hvs
    have HKS := Lib.hid (key_le ks)
    clear h00 hk hn hsz hN hks hvs
    go_enter Tryz.func90, Tryz.ntmps90
    go_wp2_with fail
    generalize hW1 : w.alloc (.cells #[.int .i8 k, .bool b, .int .i64 n, .string s, .slice o l.length cap, .slice o2 ks.length cap2] 64) = W1 at *
    clear hW1
    refine (HPl.out W1 (Below.refl _ _)).mono ?_
    rintro e w5 ⟨rfl, hb5⟩
    clear HPl
    have c2 := cell_below hb5 _ _ H2.out
    have c3 := cell_below hb5 _ _ H3.out
    cases hp : plainB (.mk k b n s l ks) with
    | false =>
      have HF : Hid (wrongV (.mk k b n s l ks) = 2) := Lib.hid (hO 2 (by omega) (by rw [ownW_mk, hp, if_pos rfl]))
      clear hp hO ho ho2
      go_wp2_with fail
      go_ret
      exact ⟨by rw [HF.out]; rfl, HB0.out.trans (hb5.mono HB0.out.size)⟩
    | true =>
    by_cases hnr : n < -9007199254740992 ∨ 9007199254740992 < n
    · have HF : Hid (wrongV (.mk k b n s l ks) = 20) := Lib.hid (hO 20 (by omega) (by rw [ownW_mk, hp, if_neg (by simp)]; exact if_pos hnr))
      by_cases hn1 : n < -9007199254740992
      · clear hp hO ho ho2 hnr
        go_wp2_with fail
        go_ret
        exact ⟨by rw [HF.out]; rfl, HB0.out.trans (hb5.mono HB0.out.size)⟩
      · have d1 : decide (n < -9007199254740992) = false := decide_eq_false hn1
        have d2 : 9007199254740992 < n := by omega
        clear hp hO ho ho2 hnr hn1
        go_wp2_with fail
        go_ret
        exact ⟨by rw [HF.out]; rfl, HB0.out.trans (hb5.mono HB0.out.size)⟩
    have d1 : decide (n < -9007199254740992) = false := decide_eq_false (by omega)
    have d2 : decide (9007199254740992 < n) = false := decide_eq_false (by omega)
    cases hvt : validS s with
    | false =>
      have HF : Hid (wrongV (.mk k b n s l ks) = 10) := Lib.hid (hO 10 (by omega) (by rw [ownW_mk, hp, if_neg (by simp), if_neg hnr]; exact if_pos hvt))
      have HVT := Lib.hid hvt
      clear hp hO ho ho2 hnr hvt
      go_wp2_with (go_at_call 97; (refine (HVa.out s hs1 _ hb5).mono ?_); rw [HVT.out]; rintro e w6 ⟨rfl, hb6⟩)
      go_ret
      exact ⟨by rw [HF.out]; rfl, HB0.out.trans (hb6.mono HB0.out.size)⟩
    | true =>
    have HVT := Lib.hid hvt
    have HO2 : Hid (∀ e : Int, (if ks.all validS = false then 10 else if onceB ks = false then 41 else 0) = e → (e ≠ 0 → wrongV (.mk k b n s l ks) = e) ∧ (e = 0 → wrongV (.mk k b n s l ks) = wrongVs l)) := Lib.hid (fun e he => by
      have h : ownW (.mk k b n s l ks) = e := by
        rw [ownW_mk, hp, if_neg (by simp), if_neg hnr, if_neg (by rw [hvt]; simp)]
        exact he
      exact ⟨fun h0 => wrongV_own h h0, fun h0 => wrongV_parts (by rw [h, h0])⟩)
    clear hp hO hnr hvt
    go_wp2_with (go_at_call 97; (refine (HVa.out s hs1 _ hb5).mono ?_); rw [HVT.out]; rintro e w6 ⟨rfl, hb6⟩)
    have HB6 := Lib.hid hb6
    clear hb5 hb6 c2 c3 d1 d2
    go_loopw [3] (fun i wr => ∃ j : Nat, j ≤ ks.length ∧ i = .int .i64 j ∧ Hid (∀ q (h : q < ks.length), q < j → validS ks[q] = true) ∧ KB W1 wr) (fun i _ => ks.length - (intOf i).toNat)
    case atStart => exact ⟨0, by omega, rfl, Lib.hid (fun q _ h => absurd h (by omega)), HB6.out⟩
    case round =>
      obtain ⟨j, hj, rfl, hye, hB⟩ := hrel
      have b5 := cell_below hB _ _ H5.out
      by_cases hlt : j < ks.length
      · obtain ⟨g1, z1⟩ := HK.out j hlt
        have g1 := cell_below hB _ _ (cell_below HB0.out _ _ g1)
        obtain rfl := ho2 (by omega)
        have z2 : ks[j].size ≤ 1000000 := by have := HKS.out j hlt; omega
        cases hvk : validS ks[j] with
        | false =>
          have HF : Hid (wrongV (.mk k b n s l ks) = 10) := Lib.hid ((HO2.out 10 (if_pos (by
            rw [← Bool.not_eq_true, List.all_eq_true]
            exact fun hc => by have := hc ks[j] (List.getElem_mem hlt); rw [hvk] at this; cases this))).1 (by omega))
          generalize ks[j] = K at *
          have HVK := Lib.hid hvk
          have HBB := Lib.hid hB
          clear hvk hye z1 hB
          go_wp2_with (go_at_call 97; (refine (HVa.out K z2 _ HBB.out).mono ?_); rw [HVK.out]; rintro e w7 ⟨rfl, hb7⟩)
          go_ret
          exact ⟨by rw [HF.out]; rfl, HB0.out.trans (hb7.mono HB0.out.size)⟩
        | true =>
          have HN : Hid (∀ q (h : q < ks.length), q < j + 1 → validS ks[q] = true) := Lib.hid (fun q h h2 => by
            by_cases e : q = j
            · subst e; exact hvk
            · exact hye.out q h (by omega))
          generalize ks[j] = K at *
          have HVK := Lib.hid hvk
          have HBB := Lib.hid hB
          clear hvk hye z1 hB
          go_wp2_with (go_at_call 97; (refine (HVa.out K z2 _ HBB.out).mono ?_); rw [HVK.out]; rintro e w7 ⟨rfl, hb7⟩)
          go_roundw
          case rel => exact ⟨j + 1, by omega, by go_num, HN, hb7⟩
          case measure => simp [intOf]; omega
      · have HAll : Hid (ks.all validS = true) := Lib.hid (by
          rw [List.all_eq_true]
          intro K hK
          obtain ⟨q, hq, rfl⟩ := List.getElem_of_mem hK
          exact hye.out q hq (by omega))
        have HB7 := Lib.hid hB
        clear hye hB
        go_wp2_with fail
        clear hlt hj b5
        go_loopw [4] (fun i wr => ∃ j : Nat, j ≤ ks.length ∧ i = .int .i64 j ∧ Hid ((ks.take j).Nodup) ∧ KB W1 wr) (fun i _ => ks.length - (intOf i).toNat)
        case atStart => exact ⟨0, by omega, rfl, Lib.hid (by simp), HB7.out⟩
        case round =>
          obtain ⟨j, hj, rfl, hye, hB⟩ := hrel
          have b5 := cell_below hB _ _ H5.out
          by_cases hlt : j < ks.length
          · obtain rfl := ho2 (by omega)
            have HB8 := Lib.hid hB
            clear hB
            go_wp2_with fail
            clear b5
            go_loopw [5] (fun i wr => ∃ q : Nat, q ≤ j ∧ i = .int .i64 q ∧ Hid (∀ p (h : p < ks.length), p < q → ks[p] ≠ ks[j]) ∧ KB W1 wr) (fun i _ => j - (intOf i).toNat)
            case atStart => exact ⟨0, by omega, rfl, Lib.hid (fun p _ h => absurd h (by omega)), HB8.out⟩
            case round =>
              obtain ⟨q, hq, rfl, hqe, hB⟩ := hrel
              have b5 := cell_below hB _ _ H5.out
              by_cases hql : q < j
              · obtain ⟨g1, _⟩ := HK.out q (by omega)
                have g1 := cell_below hB _ _ (cell_below HB0.out _ _ g1)
                obtain ⟨g2, _⟩ := HK.out j hlt
                have g2 := cell_below hB _ _ (cell_below HB0.out _ _ g2)
                have i0 : (0 : Int) ≤ (q : Int) := by omega
                have i1 : (q : Int) < (ks.length : Int) := by omega
                have i2 : (0 : Int) ≤ (j : Int) := by omega
                have i3 : (j : Int) < (ks.length : Int) := by omega
                have HBB := Lib.hid hB
                by_cases hK : ks[q]'(by omega) = ks[j]
                · have HF : Hid (wrongV (.mk k b n s l ks) = 41) := Lib.hid ((HO2.out 41 (by rw [HAll.out, if_neg (by simp), if_pos (once_no (not_nodup ks q j hql hlt hK))])).1 (by omega))
                  have HN' : Hid True := Lib.hid trivial
                  rw [hK] at g1
                  generalize ks[j] = K at *
                  clear hK hqe hye hB
                  go_wp2_with fail
                  go_quiet (fail)
                  go_wp2_with fail
                  go_ret
                  exact ⟨by rw [HF.out]; rfl, HB0.out.trans ((HBB.out.trans (drewB _ _ _)).mono HB0.out.size)⟩
                · have HN : Hid (∀ p (h : p < ks.length), p < q + 1 → ks[p] ≠ ks[j]) := Lib.hid (fun p h h2 => by
                    by_cases e : p = q
                    · subst e; exact hK
                    · exact hqe.out p h (by omega))
                  have f1 := beq_toList hK
                  generalize hX : ks[q]'(by omega) = X at *
                  generalize hY : ks[j] = Y at *
                  clear hX hY hK hqe hB
                  go_wp2_with fail
                  go_quiet (fail)
                  go_wp2_with fail
                  go_roundw
                  case rel => exact ⟨q + 1, by omega, by go_num, HN, HBB.out.trans (drewB _ _ _)⟩
                  case measure => simp [intOf]; omega
              · have HN : Hid ((ks.take (j + 1)).Nodup) := Lib.hid (nodup_snoc ks j hlt hye.out (fun p h h2 => hqe.out p h (by omega)))
                have HBB := Lib.hid hB
                clear hqe hye hB
                go_wp2_with fail
                go_roundw
                case rel => exact ⟨j + 1, by omega, by go_num, HN, HBB.out⟩
                case measure => simp [intOf]; omega
          · have HF : Hid (wrongV (.mk k b n s l ks) = wrongVs l) := Lib.hid ((HO2.out 0 (by
              rw [HAll.out, if_neg (by simp), if_neg]
              have h := hye.out
              rw [List.take_of_length_le (by omega)] at h
              rw [once_yes h]; simp)).2 rfl)
            have HB9 := Lib.hid hB
            clear hye hB
            go_wp2_with fail
            clear hlt hj b5 ho2
            go_loopw [6] (fun i wr => ∃ j : Nat, j ≤ l.length ∧ i = .int .i64 j ∧ Hid (∀ q (h : q < l.length), q < j → wrongV l[q] = 0) ∧ KB W1 wr) (fun i _ => l.length - (intOf i).toNat)
            case atStart => exact ⟨0, by omega, rfl, Lib.hid (fun q _ h => absurd h (by omega)), HB9.out⟩
            case round =>
              obtain ⟨j, hj, rfl, hye, hB⟩ := hrel
              have b4 := cell_below hB _ _ H4.out
              by_cases hlt : j < l.length
              · obtain rfl := ho (by omega)
                have hvw := isVs_keep (cell_below hB) l a (isVs_keep (cell_below HB0.out) l a HV.out)
                obtain ⟨c0, c1, c2, c3, c4, c5, g0, g1, g2, g3, g4, g5, hx5⟩ := isVs_at l a j hlt hvw
                have hI := wrong_any N l[j] _ wr (by have := sizeVs_get l j hlt; omega) (by omega) hx5
                have HBB := Lib.hid hB
                by_cases hz : wrongV l[j] = 0
                · rw [hz] at hI
                  have HI := Lib.hid hI
                  have HN : Hid (∀ q (h : q < l.length), q < j + 1 → wrongV l[q] = 0) := Lib.hid (fun q h h2 => by
                    by_cases e : q = j
                    · subst e; exact hz
                    · exact hye.out q h (by omega))
                  clear hI hB hvw hx5 hz hye
                  go_wp2_with (go_at_call 90; (with_reducible refine HI.out.mono ?_); rintro e w5 ⟨rfl, hb5⟩)
                  go_roundw
                  case rel => exact ⟨j + 1, by omega, by go_num, HN, HBB.out.trans (hb5.mono HBB.out.size)⟩
                  case measure => simp [intOf]; omega
                · have hwv := wrongVs_at l j hlt (fun q h h2 => hye.out q h h2) hz
                  obtain ⟨z, hzz⟩ : ∃ z, wrongV l[j] = z := ⟨_, rfl⟩
                  rw [hzz] at hI hwv hz
                  have HG : Hid (wrongV (.mk k b n s l ks) = z) := Lib.hid (HF.out.trans hwv)
                  have HI := Lib.hid hI
                  have z1 : (z == 0) = false := beqI hz
                  have z2 : (z != 0) = true := bne_iff_ne.2 hz
                  clear hI hB hvw hx5 hz hye hwv hzz
                  go_wp2_with (go_at_call 90; (with_reducible refine HI.out.mono ?_); rintro e w5 ⟨rfl, hb5⟩)
                  go_ret
                  exact ⟨by rw [HG.out]; rfl, HB0.out.trans ((HBB.out.trans (hb5.mono HBB.out.size)).mono HB0.out.size)⟩
              · have HG : Hid (wrongV (.mk k b n s l ks) = 0) := Lib.hid (by rw [HF.out]; exact wrongVs_none l (fun q h => hye.out q h (by omega)))
                have HBB := Lib.hid hB
                clear hye hB
                go_wp2_with fail
                go_ret
                exact ⟨by rw [HG.out]; rfl, HB0.out.trans (HBB.out.mono HB0.out.size)⟩
end Go.Proofs.YtoapaflcokhohaaGreatDoor

set_option linter.unusedVariables false
namespace Go.Proofs.YtoapaflcokhohaaGreatDoor
open Go.RowKit

/-- What is wrong with a value; 0: it may be. -/
noncomputable def checkV (x : V) : Int := if 24 < depthV x then 30 else if wrongV x ≠ 0 then wrongV x else if 4096 < countV x then 3 else 0
set_option maxRecDepth 100000 in
set_option maxHeartbeats 4000000 in
theorem check_any (x : V) (v : Value) (w : World) (hx : sizeV x ≤ 1000000) (h : isV w x v) :
    Calls Tryz.prog 70 #[v] w fun e w' => e = .returned (.int .i64 (checkV x)) ∧ Below w.heap.size w w' := by
  have hC : checkV x = if deepB x 24 = true then 30 else if wrongV x ≠ 0 then wrongV x else if 4096 < countV x then 3 else 0 := by
    unfold checkV deepB
    by_cases h : 24 < depthV x
    · rw [if_pos h, if_pos (decide_eq_true h)]
    · rw [decide_eq_false h, if_neg h, if_neg (by simp : ¬ (false = true))]
  have hcle : countV x ≤ 1000000 := Nat.le_trans (count_le_size x) hx
  obtain ⟨y, hy⟩ : ∃ y, checkV x = y := ⟨_, rfl⟩
  rw [hy] at hC ⊢
  clear hy
  have h00 := h
  obtain ⟨k, b, n, s, l, ks⟩ := x
  unfold isV at h
  obtain ⟨lv, kv, rfl, _, _, _, ⟨a, cap, ⟨o, rfl, _⟩, _⟩, ⟨a2, cap2, ⟨o2, rfl, _⟩, _⟩⟩ := h
  have P1 : Hid (∀ w1, KB (w.alloc (.cells #[.int .i8 k, .bool b, .int .i64 n, .string s, .slice o l.length cap, .slice o2 ks.length cap2] 64)) w1 → Calls Tryz.prog 89 #[.agg #[.int .i8 k, .bool b, .int .i64 n, .string s, .slice o l.length cap, .slice o2 ks.length cap2], .int .i64 24] w1 fun e w' => e = .returned (.bool (deepB (.mk k b n s l ks) 24)) ∧ KB (w.alloc (.cells #[.int .i8 k, .bool b, .int .i64 n, .string s, .slice o l.length cap, .slice o2 ks.length cap2] 64)) w') := Lib.hid fun w1 hK => Calls.kb hK (deeper_any 24 _ _ w1 (by decide) (isV_below hK (isV_below kbA h00)))
  have P2 : Hid (∀ w1, KB (w.alloc (.cells #[.int .i8 k, .bool b, .int .i64 n, .string s, .slice o l.length cap, .slice o2 ks.length cap2] 64)) w1 → Calls Tryz.prog 90 #[.agg #[.int .i8 k, .bool b, .int .i64 n, .string s, .slice o l.length cap, .slice o2 ks.length cap2]] w1 fun e w' => e = .returned (.int .i64 (wrongV (.mk k b n s l ks))) ∧ KB (w.alloc (.cells #[.int .i8 k, .bool b, .int .i64 n, .string s, .slice o l.length cap, .slice o2 ks.length cap2] 64)) w') := Lib.hid fun w1 hK => Calls.kb hK (wrong_any 1000000 _ _ w1 hx (by decide) (isV_below hK (isV_below kbA h00)))
  have P3 : Hid (∀ w1, KB (w.alloc (.cells #[.int .i8 k, .bool b, .int .i64 n, .string s, .slice o l.length cap, .slice o2 ks.length cap2] 64)) w1 → Calls Tryz.prog 91 #[.agg #[.int .i8 k, .bool b, .int .i64 n, .string s, .slice o l.length cap, .slice o2 ks.length cap2]] w1 fun e w' => e = .returned (.int .i64 (countV (.mk k b n s l ks))) ∧ KB (w.alloc (.cells #[.int .i8 k, .bool b, .int .i64 n, .string s, .slice o l.length cap, .slice o2 ks.length cap2] 64)) w') := Lib.hid fun w1 hK => Calls.kb hK (count_any 1000000 _ _ w1 hx (by decide) (isV_below hK (isV_below kbA h00)))
  have HB0 : Hid (KB w (w.alloc (.cells #[.int .i8 k, .bool b, .int .i64 n, .string s, .slice o l.length cap, .slice o2 ks.length cap2] 64))) := Lib.hid kbA
  have HC : Hid (∀ w1, KB (w.alloc (.cells #[.int .i8 k, .bool b, .int .i64 n, .string s, .slice o l.length cap, .slice o2 ks.length cap2] 64)) w1 → w1.cell? ⟨w.heap.size, 0, none⟩ = some (.int .i8 k) ∧ w1.cell? ⟨w.heap.size, 1, none⟩ = some (.bool b) ∧ w1.cell? ⟨w.heap.size, 2, none⟩ = some (.int .i64 n) ∧ w1.cell? ⟨w.heap.size, 3, none⟩ = some (.string s) ∧ w1.cell? ⟨w.heap.size, 4, none⟩ = some (.slice o l.length cap) ∧ w1.cell? ⟨w.heap.size, 5, none⟩ = some (.slice o2 ks.length cap2)) := Lib.hid fun w1 hK =>
    ⟨cell_below hK _ _ (by simp), cell_below hK _ _ (by simp), cell_below hK _ _ (by simp), cell_below hK _ _ (by simp), cell_below hK _ _ (by simp), cell_below hK _ _ (by simp)⟩
  clear h00 hx
  generalize V.mk k b n s l ks = x at *
  obtain ⟨D, hD⟩ : ∃ D, deepB x 24 = D := ⟨_, rfl⟩
  obtain ⟨E, hE⟩ : ∃ E, wrongV x = E := ⟨_, rfl⟩
  obtain ⟨C, hCC⟩ : ∃ C, countV x = C := ⟨_, rfl⟩
  rw [hD] at hC P1
  rw [hE] at hC P2
  rw [hCC] at hC P3 hcle
  clear hD hE hCC
  cases D with
  | true =>
    have HY : Hid (y = 30) := Lib.hid (hC.trans (if_pos rfl))
    clear hC
    go_enter Tryz.func70, Tryz.ntmps70
    go_wp2_with fail
    generalize hW1 : w.alloc (.cells #[.int .i8 k, .bool b, .int .i64 n, .string s, .slice o l.length cap, .slice o2 ks.length cap2] 64) = W1 at *
    clear hW1
    refine (P1.out W1 (Below.refl _ _)).mono ?_
    rintro e w5 ⟨rfl, hb5⟩
    go_wp2_with fail
    go_ret
    exact ⟨by rw [HY.out]; rfl, HB0.out.trans (hb5.mono HB0.out.size)⟩
  | false =>
    rw [if_neg (by simp)] at hC
    by_cases hE0 : E ≠ 0
    · have HY : Hid (y = E) := Lib.hid (hC.trans (if_pos hE0))
      have z1 : (E == 0) = false := beqI hE0
      have z2 : (E != 0) = true := bne_iff_ne.2 hE0
      clear hC hE0
      go_enter Tryz.func70, Tryz.ntmps70
      go_wp2_with fail
      generalize hW1 : w.alloc (.cells #[.int .i8 k, .bool b, .int .i64 n, .string s, .slice o l.length cap, .slice o2 ks.length cap2] 64) = W1 at *
      clear hW1
      refine (P1.out W1 (Below.refl _ _)).mono ?_
      rintro e w5 ⟨rfl, hb5⟩
      obtain ⟨m0, m1, m2, m3, m4, m5⟩ := HC.out w5 hb5
      go_wp2_with (go_at_call 90; (refine (P2.out _ hb5).mono ?_); rintro e w6 ⟨rfl, hb6⟩)
      go_ret
      exact ⟨by rw [HY.out]; rfl, HB0.out.trans (hb6.mono HB0.out.size)⟩
    · obtain rfl : E = 0 := Decidable.not_not.1 hE0
      rw [if_neg hE0] at hC
      have HY : Hid (y = if 4096 < C then 3 else 0) := Lib.hid hC
      clear hC hE0
      by_cases hc : 4096 < C
      · have c1 : decide ((4096 : Int) < (C : Int)) = true := decide_eq_true (by omega)
        have HZ : Hid (y = 3) := Lib.hid (HY.out.trans (if_pos hc))
        clear hc
        go_enter Tryz.func70, Tryz.ntmps70
        go_wp2_with fail
        generalize hW1 : w.alloc (.cells #[.int .i8 k, .bool b, .int .i64 n, .string s, .slice o l.length cap, .slice o2 ks.length cap2] 64) = W1 at *
        clear hW1
        refine (P1.out W1 (Below.refl _ _)).mono ?_
        rintro e w5 ⟨rfl, hb5⟩
        obtain ⟨m0, m1, m2, m3, m4, m5⟩ := HC.out w5 hb5
        go_wp2_with (first | (go_at_call 90; (refine (P2.out _ hb5).mono ?_); rintro e w6 ⟨rfl, hb6⟩; obtain ⟨p0, p1, p2, p3, p4, p5⟩ := HC.out w6 hb6) | (go_at_call 91; (refine (P3.out _ hb6).mono ?_); rintro e w7 ⟨rfl, hb7⟩))
        go_ret
        exact ⟨by rw [HZ.out]; rfl, HB0.out.trans (hb7.mono HB0.out.size)⟩
      · have c1 : decide ((4096 : Int) < (C : Int)) = false := decide_eq_false (by omega)
        have HZ : Hid (y = 0) := Lib.hid (HY.out.trans (if_neg hc))
        clear hc
        go_enter Tryz.func70, Tryz.ntmps70
        go_wp2_with fail
        generalize hW1 : w.alloc (.cells #[.int .i8 k, .bool b, .int .i64 n, .string s, .slice o l.length cap, .slice o2 ks.length cap2] 64) = W1 at *
        clear hW1
        refine (P1.out W1 (Below.refl _ _)).mono ?_
        rintro e w5 ⟨rfl, hb5⟩
        obtain ⟨m0, m1, m2, m3, m4, m5⟩ := HC.out w5 hb5
        go_wp2_with (first | (go_at_call 90; (refine (P2.out _ hb5).mono ?_); rintro e w6 ⟨rfl, hb6⟩; obtain ⟨p0, p1, p2, p3, p4, p5⟩ := HC.out w6 hb6) | (go_at_call 91; (refine (P3.out _ hb6).mono ?_); rintro e w7 ⟨rfl, hb7⟩))
        go_ret
        exact ⟨by rw [HZ.out]; rfl, HB0.out.trans (hb7.mono HB0.out.size)⟩
end Go.Proofs.YtoapaflcokhohaaGreatDoor
