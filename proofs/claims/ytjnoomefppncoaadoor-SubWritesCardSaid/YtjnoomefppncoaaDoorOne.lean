/-
  The reference's One: the rune at a place, as the decoder has it.
-/
import Derived.Test.YtjnoomefppncoaaDoorProg
import Derived.Test.YtjnoomefppncoaaDoorPl
import Derived.Test.YtjnoomefppncoaaDoorBase
import Derived.WalkKit
import Derived.ProofKit
import Derived.Handy
import Derived.Lib.Hide
set_option linter.unusedVariables false
namespace Go.Proofs.YtjnoomefppncoaaDoor
open Go.RowKit

set_option maxRecDepth 100000 in
theorem and31 : ∀ X : Fin 256, bits .and .i64 ((X.val : Nat) : Int) 31 = ((X.val % 32 : Nat) : Int) := by decide
set_option maxRecDepth 100000 in
theorem and15b : ∀ X : Fin 256, bits .and .i64 ((X.val : Nat) : Int) 15 = ((X.val % 16 : Nat) : Int) := by decide
set_option maxRecDepth 100000 in
theorem and7b : ∀ X : Fin 256, bits .and .i64 ((X.val : Nat) : Int) 7 = ((X.val % 8 : Nat) : Int) := by decide

/-- The rune at the head of l, and how many bytes it has; (0, 0): there is none. -/
def oneL (l : List UInt8) : Nat × Nat := if l = [] then (0, 0) else if bad l then (0, 0) else Lib.decodeL l
def pairV (x : Nat × Nat) : Value := .tuple #[.int .i64 (x.1 : Nat), .int .i64 (x.2 : Nat)]

theorem oneL_N {l : List UInt8} (h : l ≠ []) : oneL l = if Lib.decodeN l.length (l.getD 0 0).toNat (l.getD 1 0).toNat (l.getD 2 0).toNat (l.getD 3 0).toNat = (65533, 1) then (0, 0) else Lib.decodeN l.length (l.getD 0 0).toNat (l.getD 1 0).toNat (l.getD 2 0).toNat (l.getD 3 0).toNat := by
  unfold oneL bad
  rw [if_neg h, Lib.decodeL_N]
  generalize Lib.decodeN l.length (l.getD 0 0).toNat (l.getD 1 0).toNat (l.getD 2 0).toNat (l.getD 3 0).toNat = d
  obtain ⟨d1, d2⟩ := d
  by_cases e : d1 = 65533 ∧ d2 = 1
  · rw [decide_eq_true e, if_pos (show (d1, d2) = (65533, 1) by rw [e.1, e.2]), if_pos rfl]
  · rw [decide_eq_false e, if_neg (fun h => e ⟨congrArg Prod.fst h, congrArg Prod.snd h⟩)]; rfl

theorem ret_pair {a b : Int} {x : Nat × Nat} (h : a = x.1) (h2 : b = x.2 := by rfl) : Ending.returned (.tuple #[.int .i64 a, .int .i64 b]) = .returned (pairV x) := by rw [h, h2]; rfl

set_option maxHeartbeats 1000000 in
set_option maxRecDepth 100000 in
theorem one_out (s : ByteArray) (a : Int) (h : a < 0 ∨ (s.size : Int) ≤ a) (hs : s.size ≤ maxLen) (w : World) :
    Calls Tryd.prog 41 #[.string s, .int .i64 a] w fun e w' => e = .returned (pairV (0, 0)) ∧ w = w' := by
  have hs9 : s.size ≤ 9223372036854775807 := by unfold maxLen at hs; omega
  clear hs
  by_cases h0 : a < 0
  · clear h
    go_enter Tryd.func41, Tryd.ntmps41
    go_wp2_with fail
    go_ret2
    exact ⟨rfl, rfl⟩
  · have h1 : (s.size : Int) ≤ a := by omega
    clear h
    go_enter Tryd.func41, Tryd.ntmps41
    go_wp2_with fail
    go_ret2
    exact ⟨rfl, rfl⟩



set_option maxHeartbeats 1000000 in
set_option maxRecDepth 100000 in
theorem one_ascii (s : ByteArray) (p : Nat) (hp : p < s.size) (hs : s.size ≤ 9223372036854775807) (w : World) (h : (s[p]'hp).toNat < 128) :
    Calls Tryd.prog 41 #[.string s, .int .i64 p] w fun e w' => e = .returned (pairV ((s[p]'hp).toNat, 1)) ∧ w = w' := by
  go_enter Tryd.func41, Tryd.ntmps41
  go_wp2_with fail
  go_ret2
  exact ⟨rfl, rfl⟩
set_option maxHeartbeats 1000000 in
set_option maxRecDepth 100000 in
theorem one_stray (s : ByteArray) (p : Nat) (hp : p < s.size) (hs : s.size ≤ 9223372036854775807) (w : World) (h : (128 ≤ (s[p]'hp).toNat ∧ (s[p]'hp).toNat < 192) ∨ 248 ≤ (s[p]'hp).toNat) :
    Calls Tryd.prog 41 #[.string s, .int .i64 p] w fun e w' => e = .returned (pairV (0, 0)) ∧ w = w' := by
  have hb := (s[p]'hp).toNat_lt
  rcases h with ⟨h1, h2⟩ | h
  all_goals
    go_enter Tryd.func41, Tryd.ntmps41
    go_wp2_with fail
    go_ret2
    exact ⟨rfl, rfl⟩

set_option maxHeartbeats 1000000 in
set_option maxRecDepth 100000 in
theorem one_2_short (s : ByteArray) (p : Nat) (hp : p < s.size) (hs : s.size ≤ 4611686018427387904) (w : World) (h1 : 192 ≤ (s[p]'hp).toNat) (h2 : (s[p]'hp).toNat < 224) (h3 : s.size < p + 2) :
    Calls Tryd.prog 41 #[.string s, .int .i64 p] w fun e w' => e = .returned (pairV (0, 0)) ∧ w = w' := by
  have hb := (s[p]'hp).toNat_lt
  go_enter Tryd.func41, Tryd.ntmps41
  go_wp2_with fail
  go_ret2
  exact ⟨rfl, rfl⟩

set_option maxHeartbeats 2000000 in
set_option maxRecDepth 100000 in
theorem one_2_bad1 (s : ByteArray) (p : Nat) (hp : p < s.size) (hs : s.size ≤ 4611686018427387904) (w : World) (h1 : 192 ≤ (s[p]'hp).toNat) (h2 : (s[p]'hp).toNat < 224) (h3 : p + 2 ≤ s.size) (h4 : (s[p + 1]'(by omega)).toNat < 128 ∨ 191 < (s[p + 1]'(by omega)).toNat) :
    Calls Tryd.prog 41 #[.string s, .int .i64 p] w fun e w' => e = .returned (pairV (0, 0)) ∧ w = w' := by
  have hand := and31 ⟨(s[p]'hp).toNat, (s[p]'hp).toNat_lt⟩
  dsimp only at hand
  have b1 := (s[p + 1]'(by omega)).toNat_lt
  rcases h4 with h4 | h4
  all_goals
    go_enter Tryd.func41, Tryd.ntmps41
    go_wp2_with fail
    go_rounds 4
    go_ret2
    exact ⟨rfl, rfl⟩

set_option maxHeartbeats 2000000 in
set_option maxRecDepth 100000 in
theorem one_2_no (s : ByteArray) (p : Nat) (hp : p < s.size) (hs : s.size ≤ 4611686018427387904) (w : World) (h1 : 192 ≤ (s[p]'hp).toNat) (h2 : (s[p]'hp).toNat < 224) (h3 : p + 2 ≤ s.size) (g1 : 128 ≤ (s[p + 1]'(by omega)).toNat ∧ (s[p + 1]'(by omega)).toNat ≤ 191) (r : Nat) (hr : ((s[p]'hp).toNat % 32) * 64 + (s[p + 1]'(by omega)).toNat % 64 = r) (h4 : r < 128) :
    Calls Tryd.prog 41 #[.string s, .int .i64 p] w fun e w' => e = .returned (pairV (0, 0)) ∧ w = w' := by
  have hand := and31 ⟨(s[p]'hp).toNat, (s[p]'hp).toNat_lt⟩
  dsimp only at hand
  have b1 := (s[p + 1]'(by omega)).toNat_lt
  obtain ⟨u1, v1⟩ := g1
  have RR := Lib.hid hr
  have r1 : r ≤ ((s[p]'hp).toNat % 32) * 64 + (s[p + 1]'(by omega)).toNat % 64 := by omega
  have r2 : ((s[p]'hp).toNat % 32) * 64 + (s[p + 1]'(by omega)).toNat % 64 ≤ r := by omega
  clear hr
  all_goals
    go_enter Tryd.func41, Tryd.ntmps41
    go_wp2_with fail
    go_rounds 4
    go_ret2
    exact ⟨rfl, rfl⟩

set_option maxHeartbeats 2000000 in
set_option maxRecDepth 100000 in
theorem one_2_ok (s : ByteArray) (p : Nat) (hp : p < s.size) (hs : s.size ≤ 4611686018427387904) (w : World) (h1 : 192 ≤ (s[p]'hp).toNat) (h2 : (s[p]'hp).toNat < 224) (h3 : p + 2 ≤ s.size) (g1 : 128 ≤ (s[p + 1]'(by omega)).toNat ∧ (s[p + 1]'(by omega)).toNat ≤ 191) (r : Nat) (hr : ((s[p]'hp).toNat % 32) * 64 + (s[p + 1]'(by omega)).toNat % 64 = r) (h4 : 128 ≤ r) :
    Calls Tryd.prog 41 #[.string s, .int .i64 p] w fun e w' => e = .returned (pairV (r, 2)) ∧ w = w' := by
  have hand := and31 ⟨(s[p]'hp).toNat, (s[p]'hp).toNat_lt⟩
  dsimp only at hand
  have b1 := (s[p + 1]'(by omega)).toNat_lt
  obtain ⟨u1, v1⟩ := g1
  have RR := Lib.hid hr
  have r1 : r ≤ ((s[p]'hp).toNat % 32) * 64 + (s[p + 1]'(by omega)).toNat % 64 := by omega
  have r2 : ((s[p]'hp).toNat % 32) * 64 + (s[p + 1]'(by omega)).toNat % 64 ≤ r := by omega
  clear hr
  all_goals
    go_enter Tryd.func41, Tryd.ntmps41
    go_wp2_with fail
    go_rounds 4
    go_ret2
    exact ⟨ret_pair (by omega), rfl⟩

set_option maxHeartbeats 1000000 in
set_option maxRecDepth 100000 in
theorem one_3_short (s : ByteArray) (p : Nat) (hp : p < s.size) (hs : s.size ≤ 4611686018427387904) (w : World) (h1 : 224 ≤ (s[p]'hp).toNat) (h2 : (s[p]'hp).toNat < 240) (h3 : s.size < p + 3) :
    Calls Tryd.prog 41 #[.string s, .int .i64 p] w fun e w' => e = .returned (pairV (0, 0)) ∧ w = w' := by
  have hb := (s[p]'hp).toNat_lt
  go_enter Tryd.func41, Tryd.ntmps41
  go_wp2_with fail
  go_ret2
  exact ⟨rfl, rfl⟩

set_option maxHeartbeats 2000000 in
set_option maxRecDepth 100000 in
theorem one_3_bad1 (s : ByteArray) (p : Nat) (hp : p < s.size) (hs : s.size ≤ 4611686018427387904) (w : World) (h1 : 224 ≤ (s[p]'hp).toNat) (h2 : (s[p]'hp).toNat < 240) (h3 : p + 3 ≤ s.size) (h4 : (s[p + 1]'(by omega)).toNat < 128 ∨ 191 < (s[p + 1]'(by omega)).toNat) :
    Calls Tryd.prog 41 #[.string s, .int .i64 p] w fun e w' => e = .returned (pairV (0, 0)) ∧ w = w' := by
  have hand := and15b ⟨(s[p]'hp).toNat, (s[p]'hp).toNat_lt⟩
  dsimp only at hand
  have b1 := (s[p + 1]'(by omega)).toNat_lt
  have b2 := (s[p + 2]'(by omega)).toNat_lt
  rcases h4 with h4 | h4
  all_goals
    go_enter Tryd.func41, Tryd.ntmps41
    go_wp2_with fail
    go_rounds 4
    go_ret2
    exact ⟨rfl, rfl⟩

set_option maxHeartbeats 2000000 in
set_option maxRecDepth 100000 in
theorem one_3_bad2 (s : ByteArray) (p : Nat) (hp : p < s.size) (hs : s.size ≤ 4611686018427387904) (w : World) (h1 : 224 ≤ (s[p]'hp).toNat) (h2 : (s[p]'hp).toNat < 240) (h3 : p + 3 ≤ s.size) (g1 : 128 ≤ (s[p + 1]'(by omega)).toNat ∧ (s[p + 1]'(by omega)).toNat ≤ 191) (h4 : (s[p + 2]'(by omega)).toNat < 128 ∨ 191 < (s[p + 2]'(by omega)).toNat) :
    Calls Tryd.prog 41 #[.string s, .int .i64 p] w fun e w' => e = .returned (pairV (0, 0)) ∧ w = w' := by
  have hand := and15b ⟨(s[p]'hp).toNat, (s[p]'hp).toNat_lt⟩
  dsimp only at hand
  have b1 := (s[p + 1]'(by omega)).toNat_lt
  have b2 := (s[p + 2]'(by omega)).toNat_lt
  obtain ⟨u1, v1⟩ := g1
  rcases h4 with h4 | h4
  all_goals
    go_enter Tryd.func41, Tryd.ntmps41
    go_wp2_with fail
    go_rounds 4
    go_ret2
    exact ⟨rfl, rfl⟩

set_option maxHeartbeats 2000000 in
set_option maxRecDepth 100000 in
theorem one_3_no (s : ByteArray) (p : Nat) (hp : p < s.size) (hs : s.size ≤ 4611686018427387904) (w : World) (h1 : 224 ≤ (s[p]'hp).toNat) (h2 : (s[p]'hp).toNat < 240) (h3 : p + 3 ≤ s.size) (g1 : 128 ≤ (s[p + 1]'(by omega)).toNat ∧ (s[p + 1]'(by omega)).toNat ≤ 191) (g2 : 128 ≤ (s[p + 2]'(by omega)).toNat ∧ (s[p + 2]'(by omega)).toNat ≤ 191) (r : Nat) (hr : (((s[p]'hp).toNat % 16) * 64 + (s[p + 1]'(by omega)).toNat % 64) * 64 + (s[p + 2]'(by omega)).toNat % 64 = r) (h4 : r < 2048 ∨ (55296 ≤ r ∧ r ≤ 57343)) :
    Calls Tryd.prog 41 #[.string s, .int .i64 p] w fun e w' => e = .returned (pairV (0, 0)) ∧ w = w' := by
  have hand := and15b ⟨(s[p]'hp).toNat, (s[p]'hp).toNat_lt⟩
  dsimp only at hand
  have b1 := (s[p + 1]'(by omega)).toNat_lt
  have b2 := (s[p + 2]'(by omega)).toNat_lt
  obtain ⟨u1, v1⟩ := g1
  obtain ⟨u2, v2⟩ := g2
  have RR := Lib.hid hr
  have r1 : r ≤ (((s[p]'hp).toNat % 16) * 64 + (s[p + 1]'(by omega)).toNat % 64) * 64 + (s[p + 2]'(by omega)).toNat % 64 := by omega
  have r2 : (((s[p]'hp).toNat % 16) * 64 + (s[p + 1]'(by omega)).toNat % 64) * 64 + (s[p + 2]'(by omega)).toNat % 64 ≤ r := by omega
  clear hr
  rcases h4 with h4 | h4
  all_goals
    go_enter Tryd.func41, Tryd.ntmps41
    go_wp2_with fail
    go_rounds 4
    go_ret2
    exact ⟨rfl, rfl⟩

set_option maxHeartbeats 2000000 in
set_option maxRecDepth 100000 in
theorem one_3_ok (s : ByteArray) (p : Nat) (hp : p < s.size) (hs : s.size ≤ 4611686018427387904) (w : World) (h1 : 224 ≤ (s[p]'hp).toNat) (h2 : (s[p]'hp).toNat < 240) (h3 : p + 3 ≤ s.size) (g1 : 128 ≤ (s[p + 1]'(by omega)).toNat ∧ (s[p + 1]'(by omega)).toNat ≤ 191) (g2 : 128 ≤ (s[p + 2]'(by omega)).toNat ∧ (s[p + 2]'(by omega)).toNat ≤ 191) (r : Nat) (hr : (((s[p]'hp).toNat % 16) * 64 + (s[p + 1]'(by omega)).toNat % 64) * 64 + (s[p + 2]'(by omega)).toNat % 64 = r) (h4 : 2048 ≤ r ∧ (r < 55296 ∨ 57343 < r)) :
    Calls Tryd.prog 41 #[.string s, .int .i64 p] w fun e w' => e = .returned (pairV (r, 3)) ∧ w = w' := by
  have hand := and15b ⟨(s[p]'hp).toNat, (s[p]'hp).toNat_lt⟩
  dsimp only at hand
  have b1 := (s[p + 1]'(by omega)).toNat_lt
  have b2 := (s[p + 2]'(by omega)).toNat_lt
  obtain ⟨u1, v1⟩ := g1
  obtain ⟨u2, v2⟩ := g2
  have RR := Lib.hid hr
  have r1 : r ≤ (((s[p]'hp).toNat % 16) * 64 + (s[p + 1]'(by omega)).toNat % 64) * 64 + (s[p + 2]'(by omega)).toNat % 64 := by omega
  have r2 : (((s[p]'hp).toNat % 16) * 64 + (s[p + 1]'(by omega)).toNat % 64) * 64 + (s[p + 2]'(by omega)).toNat % 64 ≤ r := by omega
  clear hr
  obtain ⟨h4, h5⟩ := h4
  rcases h5 with h5 | h5
  all_goals
    go_enter Tryd.func41, Tryd.ntmps41
    go_wp2_with fail
    go_rounds 4
    go_ret2
    exact ⟨ret_pair (by omega), rfl⟩

set_option maxHeartbeats 1000000 in
set_option maxRecDepth 100000 in
theorem one_4_short (s : ByteArray) (p : Nat) (hp : p < s.size) (hs : s.size ≤ 4611686018427387904) (w : World) (h1 : 240 ≤ (s[p]'hp).toNat) (h2 : (s[p]'hp).toNat < 248) (h3 : s.size < p + 4) :
    Calls Tryd.prog 41 #[.string s, .int .i64 p] w fun e w' => e = .returned (pairV (0, 0)) ∧ w = w' := by
  have hb := (s[p]'hp).toNat_lt
  go_enter Tryd.func41, Tryd.ntmps41
  go_wp2_with fail
  go_ret2
  exact ⟨rfl, rfl⟩

set_option maxHeartbeats 2000000 in
set_option maxRecDepth 100000 in
theorem one_4_bad1 (s : ByteArray) (p : Nat) (hp : p < s.size) (hs : s.size ≤ 4611686018427387904) (w : World) (h1 : 240 ≤ (s[p]'hp).toNat) (h2 : (s[p]'hp).toNat < 248) (h3 : p + 4 ≤ s.size) (h4 : (s[p + 1]'(by omega)).toNat < 128 ∨ 191 < (s[p + 1]'(by omega)).toNat) :
    Calls Tryd.prog 41 #[.string s, .int .i64 p] w fun e w' => e = .returned (pairV (0, 0)) ∧ w = w' := by
  have hand := and7b ⟨(s[p]'hp).toNat, (s[p]'hp).toNat_lt⟩
  dsimp only at hand
  have b1 := (s[p + 1]'(by omega)).toNat_lt
  have b2 := (s[p + 2]'(by omega)).toNat_lt
  have b3 := (s[p + 3]'(by omega)).toNat_lt
  rcases h4 with h4 | h4
  all_goals
    go_enter Tryd.func41, Tryd.ntmps41
    go_wp2_with fail
    go_rounds 4
    go_ret2
    exact ⟨rfl, rfl⟩

set_option maxHeartbeats 2000000 in
set_option maxRecDepth 100000 in
theorem one_4_bad2 (s : ByteArray) (p : Nat) (hp : p < s.size) (hs : s.size ≤ 4611686018427387904) (w : World) (h1 : 240 ≤ (s[p]'hp).toNat) (h2 : (s[p]'hp).toNat < 248) (h3 : p + 4 ≤ s.size) (g1 : 128 ≤ (s[p + 1]'(by omega)).toNat ∧ (s[p + 1]'(by omega)).toNat ≤ 191) (h4 : (s[p + 2]'(by omega)).toNat < 128 ∨ 191 < (s[p + 2]'(by omega)).toNat) :
    Calls Tryd.prog 41 #[.string s, .int .i64 p] w fun e w' => e = .returned (pairV (0, 0)) ∧ w = w' := by
  have hand := and7b ⟨(s[p]'hp).toNat, (s[p]'hp).toNat_lt⟩
  dsimp only at hand
  have b1 := (s[p + 1]'(by omega)).toNat_lt
  have b2 := (s[p + 2]'(by omega)).toNat_lt
  have b3 := (s[p + 3]'(by omega)).toNat_lt
  obtain ⟨u1, v1⟩ := g1
  rcases h4 with h4 | h4
  all_goals
    go_enter Tryd.func41, Tryd.ntmps41
    go_wp2_with fail
    go_rounds 4
    go_ret2
    exact ⟨rfl, rfl⟩

set_option maxHeartbeats 2000000 in
set_option maxRecDepth 100000 in
theorem one_4_bad3 (s : ByteArray) (p : Nat) (hp : p < s.size) (hs : s.size ≤ 4611686018427387904) (w : World) (h1 : 240 ≤ (s[p]'hp).toNat) (h2 : (s[p]'hp).toNat < 248) (h3 : p + 4 ≤ s.size) (g1 : 128 ≤ (s[p + 1]'(by omega)).toNat ∧ (s[p + 1]'(by omega)).toNat ≤ 191) (g2 : 128 ≤ (s[p + 2]'(by omega)).toNat ∧ (s[p + 2]'(by omega)).toNat ≤ 191) (h4 : (s[p + 3]'(by omega)).toNat < 128 ∨ 191 < (s[p + 3]'(by omega)).toNat) :
    Calls Tryd.prog 41 #[.string s, .int .i64 p] w fun e w' => e = .returned (pairV (0, 0)) ∧ w = w' := by
  have hand := and7b ⟨(s[p]'hp).toNat, (s[p]'hp).toNat_lt⟩
  dsimp only at hand
  have b1 := (s[p + 1]'(by omega)).toNat_lt
  have b2 := (s[p + 2]'(by omega)).toNat_lt
  have b3 := (s[p + 3]'(by omega)).toNat_lt
  obtain ⟨u1, v1⟩ := g1
  obtain ⟨u2, v2⟩ := g2
  rcases h4 with h4 | h4
  all_goals
    go_enter Tryd.func41, Tryd.ntmps41
    go_wp2_with fail
    go_rounds 4
    go_ret2
    exact ⟨rfl, rfl⟩

set_option maxHeartbeats 2000000 in
set_option maxRecDepth 100000 in
theorem one_4_no (s : ByteArray) (p : Nat) (hp : p < s.size) (hs : s.size ≤ 4611686018427387904) (w : World) (h1 : 240 ≤ (s[p]'hp).toNat) (h2 : (s[p]'hp).toNat < 248) (h3 : p + 4 ≤ s.size) (g1 : 128 ≤ (s[p + 1]'(by omega)).toNat ∧ (s[p + 1]'(by omega)).toNat ≤ 191) (g2 : 128 ≤ (s[p + 2]'(by omega)).toNat ∧ (s[p + 2]'(by omega)).toNat ≤ 191) (g3 : 128 ≤ (s[p + 3]'(by omega)).toNat ∧ (s[p + 3]'(by omega)).toNat ≤ 191) (r : Nat) (hr : ((((s[p]'hp).toNat % 8) * 64 + (s[p + 1]'(by omega)).toNat % 64) * 64 + (s[p + 2]'(by omega)).toNat % 64) * 64 + (s[p + 3]'(by omega)).toNat % 64 = r) (h4 : r < 65536 ∨ 1114111 < r) :
    Calls Tryd.prog 41 #[.string s, .int .i64 p] w fun e w' => e = .returned (pairV (0, 0)) ∧ w = w' := by
  have hand := and7b ⟨(s[p]'hp).toNat, (s[p]'hp).toNat_lt⟩
  dsimp only at hand
  have b1 := (s[p + 1]'(by omega)).toNat_lt
  have b2 := (s[p + 2]'(by omega)).toNat_lt
  have b3 := (s[p + 3]'(by omega)).toNat_lt
  obtain ⟨u1, v1⟩ := g1
  obtain ⟨u2, v2⟩ := g2
  obtain ⟨u3, v3⟩ := g3
  have RR := Lib.hid hr
  have r1 : r ≤ ((((s[p]'hp).toNat % 8) * 64 + (s[p + 1]'(by omega)).toNat % 64) * 64 + (s[p + 2]'(by omega)).toNat % 64) * 64 + (s[p + 3]'(by omega)).toNat % 64 := by omega
  have r2 : ((((s[p]'hp).toNat % 8) * 64 + (s[p + 1]'(by omega)).toNat % 64) * 64 + (s[p + 2]'(by omega)).toNat % 64) * 64 + (s[p + 3]'(by omega)).toNat % 64 ≤ r := by omega
  clear hr
  rcases h4 with h4 | h4
  all_goals
    go_enter Tryd.func41, Tryd.ntmps41
    go_wp2_with fail
    go_rounds 4
    go_ret2
    exact ⟨rfl, rfl⟩

set_option maxHeartbeats 2000000 in
set_option maxRecDepth 100000 in
theorem one_4_ok (s : ByteArray) (p : Nat) (hp : p < s.size) (hs : s.size ≤ 4611686018427387904) (w : World) (h1 : 240 ≤ (s[p]'hp).toNat) (h2 : (s[p]'hp).toNat < 248) (h3 : p + 4 ≤ s.size) (g1 : 128 ≤ (s[p + 1]'(by omega)).toNat ∧ (s[p + 1]'(by omega)).toNat ≤ 191) (g2 : 128 ≤ (s[p + 2]'(by omega)).toNat ∧ (s[p + 2]'(by omega)).toNat ≤ 191) (g3 : 128 ≤ (s[p + 3]'(by omega)).toNat ∧ (s[p + 3]'(by omega)).toNat ≤ 191) (r : Nat) (hr : ((((s[p]'hp).toNat % 8) * 64 + (s[p + 1]'(by omega)).toNat % 64) * 64 + (s[p + 2]'(by omega)).toNat % 64) * 64 + (s[p + 3]'(by omega)).toNat % 64 = r) (h4 : 65536 ≤ r ∧ r ≤ 1114111) :
    Calls Tryd.prog 41 #[.string s, .int .i64 p] w fun e w' => e = .returned (pairV (r, 4)) ∧ w = w' := by
  have hand := and7b ⟨(s[p]'hp).toNat, (s[p]'hp).toNat_lt⟩
  dsimp only at hand
  have b1 := (s[p + 1]'(by omega)).toNat_lt
  have b2 := (s[p + 2]'(by omega)).toNat_lt
  have b3 := (s[p + 3]'(by omega)).toNat_lt
  obtain ⟨u1, v1⟩ := g1
  obtain ⟨u2, v2⟩ := g2
  obtain ⟨u3, v3⟩ := g3
  have RR := Lib.hid hr
  have r1 : r ≤ ((((s[p]'hp).toNat % 8) * 64 + (s[p + 1]'(by omega)).toNat % 64) * 64 + (s[p + 2]'(by omega)).toNat % 64) * 64 + (s[p + 3]'(by omega)).toNat % 64 := by omega
  have r2 : ((((s[p]'hp).toNat % 8) * 64 + (s[p + 1]'(by omega)).toNat % 64) * 64 + (s[p + 2]'(by omega)).toNat % 64) * 64 + (s[p + 3]'(by omega)).toNat % 64 ≤ r := by omega
  clear hr
  obtain ⟨h4, h5⟩ := h4
  all_goals
    go_enter Tryd.func41, Tryd.ntmps41
    go_wp2_with fail
    go_rounds 4
    go_ret2
    exact ⟨ret_pair (by omega), rfl⟩

end Go.Proofs.YtjnoomefppncoaaDoor
