/-
  The reference's One: the rune at a place, as the decoder has it. · The reference's One, at every place; its Valid and Count. · The reference's Valid and Count. · The reference's letter, digit, Name, hex. · What is written reads as the text, whatever stands behind; what is read is a text; what is written is one. · What reads between quotes is a text, of bounded length; two texts that are not the same are written otherwise. · The reference's Bytes: a rune as UTF-8. · The reference's four.
-/
import Derived.Test.YtgbagdfcdljleaaGreatDoorProg
import Derived.Test.YtgbagdfcdljleaaGreatDoorPl
import Derived.Test.YtgbagdfcdljleaaGreatDoorBaseP
import Derived.WalkKit
import Derived.ProofKit
import Derived.Handy
import Derived.Lib.Hide
import Derived.Test.YtgbagdfcdljleaaGreatDoorPA
import Derived.Test.YtgbagdfcdljleaaGreatDoorG1
import Derived.Test.YtgbagdfcdljleaaGreatDoorWk
import Derived.Test.YtgbagdfcdljleaaGreatDoorBld
import Derived.Laws.IdiomStrings
set_option linter.unusedVariables false
set_option linter.unusedSimpArgs false
namespace Go.Proofs.YtgbagdfcdljleaaGreatDoor.Ru
open Go.RowKit

set_option maxRecDepth 100000 in
theorem and31 : ∀ X : Fin 256, bits .and .i64 ((X.val : Nat) : Int) 31 = ((X.val % 32 : Nat) : Int) := by decide
set_option maxRecDepth 100000 in
theorem and15b : ∀ X : Fin 256, bits .and .i64 ((X.val : Nat) : Int) 15 = ((X.val % 16 : Nat) : Int) := by decide
set_option maxRecDepth 100000 in
theorem and7b : ∀ X : Fin 256, bits .and .i64 ((X.val : Nat) : Int) 7 = ((X.val % 8 : Nat) : Int) := by decide

/-- The rune at the head of l, and how many bytes it has; (0, 0): there is none. -/
def oneL (l : List UInt8) : Nat × Nat := if l = [] then (0, 0) else if bad l then (0, 0) else Lib.decodeL l
def pairV (x : Nat × Nat) : Value := .tuple #[.int .i64 (x.1 : Nat), .int .i64 (x.2 : Nat)]

theorem oneL_N {l : List UInt8} (h : l ≠ []) : oneL l = if Lib.decodeN l.length (l.getD 0 0).toNat (l.getD 1 0).toNat (l.getD 2 0).toNat (l.getD 3 0).toNat = (65533, 1) then (0, 0) else Lib.decodeN l.length (l.getD 0 0).toNat (l.getD 1 0).toNat (l.getD 2 0).toNat (l.getD 3 0).toNat := by
  unfold oneL bad
  rw [if_neg h, Lib.decodeL_N]
  generalize Lib.decodeN l.length (l.getD 0 0).toNat (l.getD 1 0).toNat (l.getD 2 0).toNat (l.getD 3 0).toNat = d
  obtain ⟨d1, d2⟩ := d
  by_cases e : d1 = 65533 ∧ d2 = 1
  · rw [decide_eq_true e, if_pos (show (d1, d2) = (65533, 1) by rw [e.1, e.2]), if_pos rfl]
  · rw [decide_eq_false e, if_neg (fun h => e ⟨congrArg Prod.fst h, congrArg Prod.snd h⟩)]; rfl

theorem ret_pair {a b : Int} {x : Nat × Nat} (h : a = x.1) (h2 : b = x.2 := by rfl) : Ending.returned (.tuple #[.int .i64 a, .int .i64 b]) = .returned (pairV x) := by rw [h, h2]; rfl

set_option maxHeartbeats 1000000 in
set_option maxRecDepth 100000 in
theorem one_out (s : ByteArray) (a : Int) (h : a < 0 ∨ (s.size : Int) ≤ a) (hs : s.size ≤ maxLen) (w : World) :
    Calls Tryz.prog 29 #[.string s, .int .i64 a] w fun e w' => e = .returned (pairV (0, 0)) ∧ w = w' := by
  have hs9 : s.size ≤ 9223372036854775807 := by unfold maxLen at hs; omega
  clear hs
  by_cases h0 : a < 0
  · clear h
    go_enter Tryz.func29, Tryz.ntmps29
    go_wp2_with fail
    go_ret2
    exact ⟨rfl, rfl⟩
  · have h1 : (s.size : Int) ≤ a := by omega
    clear h
    go_enter Tryz.func29, Tryz.ntmps29
    go_wp2_with fail
    go_ret2
    exact ⟨rfl, rfl⟩



set_option maxHeartbeats 1000000 in
set_option maxRecDepth 100000 in
theorem one_ascii (s : ByteArray) (p : Nat) (hp : p < s.size) (hs : s.size ≤ 9223372036854775807) (w : World) (h : (s[p]'hp).toNat < 128) :
    Calls Tryz.prog 29 #[.string s, .int .i64 p] w fun e w' => e = .returned (pairV ((s[p]'hp).toNat, 1)) ∧ w = w' := by
  go_enter Tryz.func29, Tryz.ntmps29
  go_wp2_with fail
  go_ret2
  exact ⟨rfl, rfl⟩
set_option maxHeartbeats 1000000 in
set_option maxRecDepth 100000 in
theorem one_stray (s : ByteArray) (p : Nat) (hp : p < s.size) (hs : s.size ≤ 9223372036854775807) (w : World) (h : (128 ≤ (s[p]'hp).toNat ∧ (s[p]'hp).toNat < 192) ∨ 248 ≤ (s[p]'hp).toNat) :
    Calls Tryz.prog 29 #[.string s, .int .i64 p] w fun e w' => e = .returned (pairV (0, 0)) ∧ w = w' := by
  have hb := (s[p]'hp).toNat_lt
  rcases h with ⟨h1, h2⟩ | h
  all_goals
    go_enter Tryz.func29, Tryz.ntmps29
    go_wp2_with fail
    go_ret2
    exact ⟨rfl, rfl⟩

set_option maxHeartbeats 1000000 in
set_option maxRecDepth 100000 in
theorem one_2_short (s : ByteArray) (p : Nat) (hp : p < s.size) (hs : s.size ≤ 4611686018427387904) (w : World) (h1 : 192 ≤ (s[p]'hp).toNat) (h2 : (s[p]'hp).toNat < 224) (h3 : s.size < p + 2) :
    Calls Tryz.prog 29 #[.string s, .int .i64 p] w fun e w' => e = .returned (pairV (0, 0)) ∧ w = w' := by
  have hb := (s[p]'hp).toNat_lt
  go_enter Tryz.func29, Tryz.ntmps29
  go_wp2_with fail
  go_ret2
  exact ⟨rfl, rfl⟩

set_option maxHeartbeats 2000000 in
set_option maxRecDepth 100000 in
theorem one_2_bad1 (s : ByteArray) (p : Nat) (hp : p < s.size) (hs : s.size ≤ 4611686018427387904) (w : World) (h1 : 192 ≤ (s[p]'hp).toNat) (h2 : (s[p]'hp).toNat < 224) (h3 : p + 2 ≤ s.size) (h4 : (s[p + 1]'(by omega)).toNat < 128 ∨ 191 < (s[p + 1]'(by omega)).toNat) :
    Calls Tryz.prog 29 #[.string s, .int .i64 p] w fun e w' => e = .returned (pairV (0, 0)) ∧ w = w' := by
  have hand := and31 ⟨(s[p]'hp).toNat, (s[p]'hp).toNat_lt⟩
  dsimp only at hand
  have b1 := (s[p + 1]'(by omega)).toNat_lt
  rcases h4 with h4 | h4
  all_goals
    go_enter Tryz.func29, Tryz.ntmps29
    go_wp2_with fail
    go_rounds 4
    go_ret2
    exact ⟨rfl, rfl⟩

set_option maxHeartbeats 2000000 in
set_option maxRecDepth 100000 in
theorem one_2_no (s : ByteArray) (p : Nat) (hp : p < s.size) (hs : s.size ≤ 4611686018427387904) (w : World) (h1 : 192 ≤ (s[p]'hp).toNat) (h2 : (s[p]'hp).toNat < 224) (h3 : p + 2 ≤ s.size) (g1 : 128 ≤ (s[p + 1]'(by omega)).toNat ∧ (s[p + 1]'(by omega)).toNat ≤ 191) (r : Nat) (hr : ((s[p]'hp).toNat % 32) * 64 + (s[p + 1]'(by omega)).toNat % 64 = r) (h4 : r < 128) :
    Calls Tryz.prog 29 #[.string s, .int .i64 p] w fun e w' => e = .returned (pairV (0, 0)) ∧ w = w' := by
  have hand := and31 ⟨(s[p]'hp).toNat, (s[p]'hp).toNat_lt⟩
  dsimp only at hand
  have b1 := (s[p + 1]'(by omega)).toNat_lt
  obtain ⟨u1, v1⟩ := g1
  have RR := Lib.hid hr
  have r1 : r ≤ ((s[p]'hp).toNat % 32) * 64 + (s[p + 1]'(by omega)).toNat % 64 := by omega
  have r2 : ((s[p]'hp).toNat % 32) * 64 + (s[p + 1]'(by omega)).toNat % 64 ≤ r := by omega
  clear hr
  all_goals
    go_enter Tryz.func29, Tryz.ntmps29
    go_wp2_with fail
    go_rounds 4
    go_ret2
    exact ⟨rfl, rfl⟩

set_option maxHeartbeats 2000000 in
set_option maxRecDepth 100000 in
theorem one_2_ok (s : ByteArray) (p : Nat) (hp : p < s.size) (hs : s.size ≤ 4611686018427387904) (w : World) (h1 : 192 ≤ (s[p]'hp).toNat) (h2 : (s[p]'hp).toNat < 224) (h3 : p + 2 ≤ s.size) (g1 : 128 ≤ (s[p + 1]'(by omega)).toNat ∧ (s[p + 1]'(by omega)).toNat ≤ 191) (r : Nat) (hr : ((s[p]'hp).toNat % 32) * 64 + (s[p + 1]'(by omega)).toNat % 64 = r) (h4 : 128 ≤ r) :
    Calls Tryz.prog 29 #[.string s, .int .i64 p] w fun e w' => e = .returned (pairV (r, 2)) ∧ w = w' := by
  have hand := and31 ⟨(s[p]'hp).toNat, (s[p]'hp).toNat_lt⟩
  dsimp only at hand
  have b1 := (s[p + 1]'(by omega)).toNat_lt
  obtain ⟨u1, v1⟩ := g1
  have RR := Lib.hid hr
  have r1 : r ≤ ((s[p]'hp).toNat % 32) * 64 + (s[p + 1]'(by omega)).toNat % 64 := by omega
  have r2 : ((s[p]'hp).toNat % 32) * 64 + (s[p + 1]'(by omega)).toNat % 64 ≤ r := by omega
  clear hr
  all_goals
    go_enter Tryz.func29, Tryz.ntmps29
    go_wp2_with fail
    go_rounds 4
    go_ret2
    exact ⟨ret_pair (by omega), rfl⟩

set_option maxHeartbeats 1000000 in
set_option maxRecDepth 100000 in
theorem one_3_short (s : ByteArray) (p : Nat) (hp : p < s.size) (hs : s.size ≤ 4611686018427387904) (w : World) (h1 : 224 ≤ (s[p]'hp).toNat) (h2 : (s[p]'hp).toNat < 240) (h3 : s.size < p + 3) :
    Calls Tryz.prog 29 #[.string s, .int .i64 p] w fun e w' => e = .returned (pairV (0, 0)) ∧ w = w' := by
  have hb := (s[p]'hp).toNat_lt
  go_enter Tryz.func29, Tryz.ntmps29
  go_wp2_with fail
  go_ret2
  exact ⟨rfl, rfl⟩

set_option maxHeartbeats 2000000 in
set_option maxRecDepth 100000 in
theorem one_3_bad1 (s : ByteArray) (p : Nat) (hp : p < s.size) (hs : s.size ≤ 4611686018427387904) (w : World) (h1 : 224 ≤ (s[p]'hp).toNat) (h2 : (s[p]'hp).toNat < 240) (h3 : p + 3 ≤ s.size) (h4 : (s[p + 1]'(by omega)).toNat < 128 ∨ 191 < (s[p + 1]'(by omega)).toNat) :
    Calls Tryz.prog 29 #[.string s, .int .i64 p] w fun e w' => e = .returned (pairV (0, 0)) ∧ w = w' := by
  have hand := and15b ⟨(s[p]'hp).toNat, (s[p]'hp).toNat_lt⟩
  dsimp only at hand
  have b1 := (s[p + 1]'(by omega)).toNat_lt
  have b2 := (s[p + 2]'(by omega)).toNat_lt
  rcases h4 with h4 | h4
  all_goals
    go_enter Tryz.func29, Tryz.ntmps29
    go_wp2_with fail
    go_rounds 4
    go_ret2
    exact ⟨rfl, rfl⟩

set_option maxHeartbeats 2000000 in
set_option maxRecDepth 100000 in
theorem one_3_bad2 (s : ByteArray) (p : Nat) (hp : p < s.size) (hs : s.size ≤ 4611686018427387904) (w : World) (h1 : 224 ≤ (s[p]'hp).toNat) (h2 : (s[p]'hp).toNat < 240) (h3 : p + 3 ≤ s.size) (g1 : 128 ≤ (s[p + 1]'(by omega)).toNat ∧ (s[p + 1]'(by omega)).toNat ≤ 191) (h4 : (s[p + 2]'(by omega)).toNat < 128 ∨ 191 < (s[p + 2]'(by omega)).toNat) :
    Calls Tryz.prog 29 #[.string s, .int .i64 p] w fun e w' => e = .returned (pairV (0, 0)) ∧ w = w' := by
  have hand := and15b ⟨(s[p]'hp).toNat, (s[p]'hp).toNat_lt⟩
  dsimp only at hand
  have b1 := (s[p + 1]'(by omega)).toNat_lt
  have b2 := (s[p + 2]'(by omega)).toNat_lt
  obtain ⟨u1, v1⟩ := g1
  rcases h4 with h4 | h4
  all_goals
    go_enter Tryz.func29, Tryz.ntmps29
    go_wp2_with fail
    go_rounds 4
    go_ret2
    exact ⟨rfl, rfl⟩

set_option maxHeartbeats 2000000 in
set_option maxRecDepth 100000 in
theorem one_3_no (s : ByteArray) (p : Nat) (hp : p < s.size) (hs : s.size ≤ 4611686018427387904) (w : World) (h1 : 224 ≤ (s[p]'hp).toNat) (h2 : (s[p]'hp).toNat < 240) (h3 : p + 3 ≤ s.size) (g1 : 128 ≤ (s[p + 1]'(by omega)).toNat ∧ (s[p + 1]'(by omega)).toNat ≤ 191) (g2 : 128 ≤ (s[p + 2]'(by omega)).toNat ∧ (s[p + 2]'(by omega)).toNat ≤ 191) (r : Nat) (hr : (((s[p]'hp).toNat % 16) * 64 + (s[p + 1]'(by omega)).toNat % 64) * 64 + (s[p + 2]'(by omega)).toNat % 64 = r) (h4 : r < 2048 ∨ (55296 ≤ r ∧ r ≤ 57343)) :
    Calls Tryz.prog 29 #[.string s, .int .i64 p] w fun e w' => e = .returned (pairV (0, 0)) ∧ w = w' := by
  have hand := and15b ⟨(s[p]'hp).toNat, (s[p]'hp).toNat_lt⟩
  dsimp only at hand
  have b1 := (s[p + 1]'(by omega)).toNat_lt
  have b2 := (s[p + 2]'(by omega)).toNat_lt
  obtain ⟨u1, v1⟩ := g1
  obtain ⟨u2, v2⟩ := g2
  have RR := Lib.hid hr
  have r1 : r ≤ (((s[p]'hp).toNat % 16) * 64 + (s[p + 1]'(by omega)).toNat % 64) * 64 + (s[p + 2]'(by omega)).toNat % 64 := by omega
  have r2 : (((s[p]'hp).toNat % 16) * 64 + (s[p + 1]'(by omega)).toNat % 64) * 64 + (s[p + 2]'(by omega)).toNat % 64 ≤ r := by omega
  clear hr
  rcases h4 with h4 | h4
  all_goals
    go_enter Tryz.func29, Tryz.ntmps29
    go_wp2_with fail
    go_rounds 4
    go_ret2
    exact ⟨rfl, rfl⟩

set_option maxHeartbeats 2000000 in
set_option maxRecDepth 100000 in
theorem one_3_ok (s : ByteArray) (p : Nat) (hp : p < s.size) (hs : s.size ≤ 4611686018427387904) (w : World) (h1 : 224 ≤ (s[p]'hp).toNat) (h2 : (s[p]'hp).toNat < 240) (h3 : p + 3 ≤ s.size) (g1 : 128 ≤ (s[p + 1]'(by omega)).toNat ∧ (s[p + 1]'(by omega)).toNat ≤ 191) (g2 : 128 ≤ (s[p + 2]'(by omega)).toNat ∧ (s[p + 2]'(by omega)).toNat ≤ 191) (r : Nat) (hr : (((s[p]'hp).toNat % 16) * 64 + (s[p + 1]'(by omega)).toNat % 64) * 64 + (s[p + 2]'(by omega)).toNat % 64 = r) (h4 : 2048 ≤ r ∧ (r < 55296 ∨ 57343 < r)) :
    Calls Tryz.prog 29 #[.string s, .int .i64 p] w fun e w' => e = .returned (pairV (r, 3)) ∧ w = w' := by
  have hand := and15b ⟨(s[p]'hp).toNat, (s[p]'hp).toNat_lt⟩
  dsimp only at hand
  have b1 := (s[p + 1]'(by omega)).toNat_lt
  have b2 := (s[p + 2]'(by omega)).toNat_lt
  obtain ⟨u1, v1⟩ := g1
  obtain ⟨u2, v2⟩ := g2
  have RR := Lib.hid hr
  have r1 : r ≤ (((s[p]'hp).toNat % 16) * 64 + (s[p + 1]'(by omega)).toNat % 64) * 64 + (s[p + 2]'(by omega)).toNat % 64 := by omega
  have r2 : (((s[p]'hp).toNat % 16) * 64 + (s[p + 1]'(by omega)).toNat % 64) * 64 + (s[p + 2]'(by omega)).toNat % 64 ≤ r := by omega
  clear hr
  obtain ⟨h4, h5⟩ := h4
  rcases h5 with h5 | h5
  all_goals
    go_enter Tryz.func29, Tryz.ntmps29
    go_wp2_with fail
    go_rounds 4
    go_ret2
    exact ⟨ret_pair (by omega), rfl⟩

set_option maxHeartbeats 1000000 in
set_option maxRecDepth 100000 in
theorem one_4_short (s : ByteArray) (p : Nat) (hp : p < s.size) (hs : s.size ≤ 4611686018427387904) (w : World) (h1 : 240 ≤ (s[p]'hp).toNat) (h2 : (s[p]'hp).toNat < 248) (h3 : s.size < p + 4) :
    Calls Tryz.prog 29 #[.string s, .int .i64 p] w fun e w' => e = .returned (pairV (0, 0)) ∧ w = w' := by
  have hb := (s[p]'hp).toNat_lt
  go_enter Tryz.func29, Tryz.ntmps29
  go_wp2_with fail
  go_ret2
  exact ⟨rfl, rfl⟩

set_option maxHeartbeats 2000000 in
set_option maxRecDepth 100000 in
theorem one_4_bad1 (s : ByteArray) (p : Nat) (hp : p < s.size) (hs : s.size ≤ 4611686018427387904) (w : World) (h1 : 240 ≤ (s[p]'hp).toNat) (h2 : (s[p]'hp).toNat < 248) (h3 : p + 4 ≤ s.size) (h4 : (s[p + 1]'(by omega)).toNat < 128 ∨ 191 < (s[p + 1]'(by omega)).toNat) :
    Calls Tryz.prog 29 #[.string s, .int .i64 p] w fun e w' => e = .returned (pairV (0, 0)) ∧ w = w' := by
  have hand := and7b ⟨(s[p]'hp).toNat, (s[p]'hp).toNat_lt⟩
  dsimp only at hand
  have b1 := (s[p + 1]'(by omega)).toNat_lt
  have b2 := (s[p + 2]'(by omega)).toNat_lt
  have b3 := (s[p + 3]'(by omega)).toNat_lt
  rcases h4 with h4 | h4
  all_goals
    go_enter Tryz.func29, Tryz.ntmps29
    go_wp2_with fail
    go_rounds 4
    go_ret2
    exact ⟨rfl, rfl⟩

set_option maxHeartbeats 2000000 in
set_option maxRecDepth 100000 in
theorem one_4_bad2 (s : ByteArray) (p : Nat) (hp : p < s.size) (hs : s.size ≤ 4611686018427387904) (w : World) (h1 : 240 ≤ (s[p]'hp).toNat) (h2 : (s[p]'hp).toNat < 248) (h3 : p + 4 ≤ s.size) (g1 : 128 ≤ (s[p + 1]'(by omega)).toNat ∧ (s[p + 1]'(by omega)).toNat ≤ 191) (h4 : (s[p + 2]'(by omega)).toNat < 128 ∨ 191 < (s[p + 2]'(by omega)).toNat) :
    Calls Tryz.prog 29 #[.string s, .int .i64 p] w fun e w' => e = .returned (pairV (0, 0)) ∧ w = w' := by
  have hand := and7b ⟨(s[p]'hp).toNat, (s[p]'hp).toNat_lt⟩
  dsimp only at hand
  have b1 := (s[p + 1]'(by omega)).toNat_lt
  have b2 := (s[p + 2]'(by omega)).toNat_lt
  have b3 := (s[p + 3]'(by omega)).toNat_lt
  obtain ⟨u1, v1⟩ := g1
  rcases h4 with h4 | h4
  all_goals
    go_enter Tryz.func29, Tryz.ntmps29
    go_wp2_with fail
    go_rounds 4
    go_ret2
    exact ⟨rfl, rfl⟩

set_option maxHeartbeats 2000000 in
set_option maxRecDepth 100000 in
theorem one_4_bad3 (s : ByteArray) (p : Nat) (hp : p < s.size) (hs : s.size ≤ 4611686018427387904) (w : World) (h1 : 240 ≤ (s[p]'hp).toNat) (h2 : (s[p]'hp).toNat < 248) (h3 : p + 4 ≤ s.size) (g1 : 128 ≤ (s[p + 1]'(by omega)).toNat ∧ (s[p + 1]'(by omega)).toNat ≤ 191) (g2 : 128 ≤ (s[p + 2]'(by omega)).toNat ∧ (s[p + 2]'(by omega)).toNat ≤ 191) (h4 : (s[p + 3]'(by omega)).toNat < 128 ∨ 191 < (s[p + 3]'(by omega)).toNat) :
    Calls Tryz.prog 29 #[.string s, .int .i64 p] w fun e w' => e = .returned (pairV (0, 0)) ∧ w = w' := by
  have hand := and7b ⟨(s[p]'hp).toNat, (s[p]'hp).toNat_lt⟩
  dsimp only at hand
  have b1 := (s[p + 1]'(by omega)).toNat_lt
  have b2 := (s[p + 2]'(by omega)).toNat_lt
  have b3 := (s[p + 3]'(by omega)).toNat_lt
  obtain ⟨u1, v1⟩ := g1
  obtain ⟨u2, v2⟩ := g2
  rcases h4 with h4 | h4
  all_goals
    go_enter Tryz.func29, Tryz.ntmps29
    go_wp2_with fail
    go_rounds 4
    go_ret2
    exact ⟨rfl, rfl⟩

set_option maxHeartbeats 2000000 in
set_option maxRecDepth 100000 in
theorem one_4_no (s : ByteArray) (p : Nat) (hp : p < s.size) (hs : s.size ≤ 4611686018427387904) (w : World) (h1 : 240 ≤ (s[p]'hp).toNat) (h2 : (s[p]'hp).toNat < 248) (h3 : p + 4 ≤ s.size) (g1 : 128 ≤ (s[p + 1]'(by omega)).toNat ∧ (s[p + 1]'(by omega)).toNat ≤ 191) (g2 : 128 ≤ (s[p + 2]'(by omega)).toNat ∧ (s[p + 2]'(by omega)).toNat ≤ 191) (g3 : 128 ≤ (s[p + 3]'(by omega)).toNat ∧ (s[p + 3]'(by omega)).toNat ≤ 191) (r : Nat) (hr : ((((s[p]'hp).toNat % 8) * 64 + (s[p + 1]'(by omega)).toNat % 64) * 64 + (s[p + 2]'(by omega)).toNat % 64) * 64 + (s[p + 3]'(by omega)).toNat % 64 = r) (h4 : r < 65536 ∨ 1114111 < r) :
    Calls Tryz.prog 29 #[.string s, .int .i64 p] w fun e w' => e = .returned (pairV (0, 0)) ∧ w = w' := by
  have hand := and7b ⟨(s[p]'hp).toNat, (s[p]'hp).toNat_lt⟩
  dsimp only at hand
  have b1 := (s[p + 1]'(by omega)).toNat_lt
  have b2 := (s[p + 2]'(by omega)).toNat_lt
  have b3 := (s[p + 3]'(by omega)).toNat_lt
  obtain ⟨u1, v1⟩ := g1
  obtain ⟨u2, v2⟩ := g2
  obtain ⟨u3, v3⟩ := g3
  have RR := Lib.hid hr
  have r1 : r ≤ ((((s[p]'hp).toNat % 8) * 64 + (s[p + 1]'(by omega)).toNat % 64) * 64 + (s[p + 2]'(by omega)).toNat % 64) * 64 + (s[p + 3]'(by omega)).toNat % 64 := by omega
  have r2 : ((((s[p]'hp).toNat % 8) * 64 + (s[p + 1]'(by omega)).toNat % 64) * 64 + (s[p + 2]'(by omega)).toNat % 64) * 64 + (s[p + 3]'(by omega)).toNat % 64 ≤ r := by omega
  clear hr
  rcases h4 with h4 | h4
  all_goals
    go_enter Tryz.func29, Tryz.ntmps29
    go_wp2_with fail
    go_rounds 4
    go_ret2
    exact ⟨rfl, rfl⟩

set_option maxHeartbeats 2000000 in
set_option maxRecDepth 100000 in
theorem one_4_ok (s : ByteArray) (p : Nat) (hp : p < s.size) (hs : s.size ≤ 4611686018427387904) (w : World) (h1 : 240 ≤ (s[p]'hp).toNat) (h2 : (s[p]'hp).toNat < 248) (h3 : p + 4 ≤ s.size) (g1 : 128 ≤ (s[p + 1]'(by omega)).toNat ∧ (s[p + 1]'(by omega)).toNat ≤ 191) (g2 : 128 ≤ (s[p + 2]'(by omega)).toNat ∧ (s[p + 2]'(by omega)).toNat ≤ 191) (g3 : 128 ≤ (s[p + 3]'(by omega)).toNat ∧ (s[p + 3]'(by omega)).toNat ≤ 191) (r : Nat) (hr : ((((s[p]'hp).toNat % 8) * 64 + (s[p + 1]'(by omega)).toNat % 64) * 64 + (s[p + 2]'(by omega)).toNat % 64) * 64 + (s[p + 3]'(by omega)).toNat % 64 = r) (h4 : 65536 ≤ r ∧ r ≤ 1114111) :
    Calls Tryz.prog 29 #[.string s, .int .i64 p] w fun e w' => e = .returned (pairV (r, 4)) ∧ w = w' := by
  have hand := and7b ⟨(s[p]'hp).toNat, (s[p]'hp).toNat_lt⟩
  dsimp only at hand
  have b1 := (s[p + 1]'(by omega)).toNat_lt
  have b2 := (s[p + 2]'(by omega)).toNat_lt
  have b3 := (s[p + 3]'(by omega)).toNat_lt
  obtain ⟨u1, v1⟩ := g1
  obtain ⟨u2, v2⟩ := g2
  obtain ⟨u3, v3⟩ := g3
  have RR := Lib.hid hr
  have r1 : r ≤ ((((s[p]'hp).toNat % 8) * 64 + (s[p + 1]'(by omega)).toNat % 64) * 64 + (s[p + 2]'(by omega)).toNat % 64) * 64 + (s[p + 3]'(by omega)).toNat % 64 := by omega
  have r2 : ((((s[p]'hp).toNat % 8) * 64 + (s[p + 1]'(by omega)).toNat % 64) * 64 + (s[p + 2]'(by omega)).toNat % 64) * 64 + (s[p + 3]'(by omega)).toNat % 64 ≤ r := by omega
  clear hr
  obtain ⟨h4, h5⟩ := h4
  all_goals
    go_enter Tryz.func29, Tryz.ntmps29
    go_wp2_with fail
    go_rounds 4
    go_ret2
    exact ⟨ret_pair (by omega), rfl⟩

end Go.Proofs.YtgbagdfcdljleaaGreatDoor.Ru

namespace Go.Proofs.YtgbagdfcdljleaaGreatDoor.Ru
open Go.RowKit

theorem drop_get (s : ByteArray) (p i : Nat) (h : p + i < s.size) : (s.data.toList.drop p).getD i 0 = s[p + i]'h := by
  rw [List.getD, List.getElem?_drop, toList_getElem s (p + i) h]; rfl
theorem drop_len (s : ByteArray) (p : Nat) : (s.data.toList.drop p).length = s.size - p := by rw [List.length_drop, toList_length]
theorem drop_ne (s : ByteArray) (p : Nat) (h : p < s.size) : s.data.toList.drop p ≠ [] := by
  intro e
  have := congrArg List.length e
  rw [drop_len] at this
  simp at this; omega

theorem one_at (s : ByteArray) (p : Nat) (hp : p < s.size) (hs : s.size ≤ 4611686018427387904) (w : World) :
    Calls Tryz.prog 29 #[.string s, .int .i64 p] w fun e w' => e = .returned (pairV (oneL (s.data.toList.drop p))) ∧ w = w' := by
  have g0 : (s.data.toList.drop p).getD 0 0 = s[p]'hp := drop_get s p 0 hp
  have hN := oneL_N (drop_ne s p hp)
  rw [drop_len, g0] at hN
  have hb := (s[p]'hp).toNat_lt
  have z1 : ¬ p + 1 < s.size → True := fun _ => trivial
  by_cases q0 : (s[p]'hp).toNat < 128
  · have : oneL (s.data.toList.drop p) = ((s[p]'hp).toNat, 1) := by
      rw [hN]
      have e : ∀ a b c, Lib.decodeN (s.size - p) (s[p]'hp).toNat a b c = ((s[p]'hp).toNat, 1) := fun a b c => by unfold Lib.decodeN; rw [if_pos q0]
      rw [e, if_neg (fun h => by have := congrArg Prod.fst h; simp at this; omega)]
    rw [this]
    exact one_ascii s p hp (by omega) w q0
  by_cases q1 : (s[p]'hp).toNat < 192 ∨ 248 ≤ (s[p]'hp).toNat
  · have : oneL (s.data.toList.drop p) = (0, 0) := by
      rw [hN]
      have e : ∀ a b c, Lib.decodeN (s.size - p) (s[p]'hp).toNat a b c = (65533, 1) := fun a b c => by
        unfold Lib.decodeN
        rw [if_neg q0, if_neg (by omega), if_neg (by omega), if_neg (by omega)]
      rw [e, if_pos rfl]
    rw [this]
    exact one_stray s p hp (by omega) w (by omega)
  by_cases q2 : (s[p]'hp).toNat < 224
  · by_cases k : p + 2 ≤ s.size
    · have g1 := drop_get s p 1 (by omega)
      rw [g1] at hN
      have b1 := (s[p + 1]'(by omega)).toNat_lt
      by_cases c1 : (s[p + 1]'(by omega)).toNat < 128 ∨ 191 < (s[p + 1]'(by omega)).toNat
      · have : oneL (s.data.toList.drop p) = (0, 0) := by
          rw [hN]
          have e : ∀ b c, Lib.decodeN (s.size - p) (s[p]'hp).toNat (s[p + 1]'(by omega)).toNat b c = (65533, 1) := fun b c => by
            unfold Lib.decodeN
            rw [if_neg q0, if_neg (by omega), if_neg (by omega), if_neg (by omega)]
          rw [e, if_pos rfl]
        rw [this]
        exact one_2_bad1 s p hp hs w (by omega) q2 k c1
      · have e : ∀ b c, Lib.decodeN (s.size - p) (s[p]'hp).toNat (s[p + 1]'(by omega)).toNat b c = if (s[p]'hp).toNat % 32 * 64 + (s[p + 1]'(by omega)).toNat % 64 ≥ 128 then ((s[p]'hp).toNat % 32 * 64 + (s[p + 1]'(by omega)).toNat % 64, 2) else (65533, 1) := fun b c => by
          unfold Lib.decodeN
          rw [if_neg q0, if_pos (by omega)]
        rw [e] at hN
        by_cases qv : (s[p]'hp).toNat % 32 * 64 + (s[p + 1]'(by omega)).toNat % 64 ≥ 128
        · rw [if_pos qv, if_neg (fun h => by have := congrArg Prod.snd h; simp at this)] at hN
          rw [hN]
          exact one_2_ok s p hp hs w (by omega) q2 k (by omega) _ rfl qv
        · rw [if_neg qv, if_pos rfl] at hN
          rw [hN]
          exact one_2_no s p hp hs w (by omega) q2 k (by omega) _ rfl (by omega)
    · have : oneL (s.data.toList.drop p) = (0, 0) := by
        rw [hN]
        have e : ∀ a b c, Lib.decodeN (s.size - p) (s[p]'hp).toNat a b c = (65533, 1) := fun a b c => by
          unfold Lib.decodeN
          rw [if_neg q0, if_neg (by omega), if_neg (by omega), if_neg (by omega)]
        rw [e, if_pos rfl]
      rw [this]
      exact one_2_short s p hp hs w (by omega) q2 (by omega)
  by_cases q3 : (s[p]'hp).toNat < 240
  · by_cases k : p + 3 ≤ s.size
    · have g1 := drop_get s p 1 (by omega)
      have g2 := drop_get s p 2 (by omega)
      rw [g1, g2] at hN
      have b1 := (s[p + 1]'(by omega)).toNat_lt
      have b2 := (s[p + 2]'(by omega)).toNat_lt
      by_cases c1 : (s[p + 1]'(by omega)).toNat < 128 ∨ 191 < (s[p + 1]'(by omega)).toNat
      · have : oneL (s.data.toList.drop p) = (0, 0) := by
          rw [hN]
          have e : ∀ b c, Lib.decodeN (s.size - p) (s[p]'hp).toNat (s[p + 1]'(by omega)).toNat b c = (65533, 1) := fun b c => by
            unfold Lib.decodeN
            rw [if_neg q0, if_neg (by omega), if_neg (by omega), if_neg (by omega)]
          rw [e, if_pos rfl]
        rw [this]
        exact one_3_bad1 s p hp hs w (by omega) q3 k c1
      by_cases c2 : (s[p + 2]'(by omega)).toNat < 128 ∨ 191 < (s[p + 2]'(by omega)).toNat
      · have : oneL (s.data.toList.drop p) = (0, 0) := by
          rw [hN]
          have e : ∀ c, Lib.decodeN (s.size - p) (s[p]'hp).toNat (s[p + 1]'(by omega)).toNat (s[p + 2]'(by omega)).toNat c = (65533, 1) := fun c => by
            unfold Lib.decodeN
            rw [if_neg q0, if_neg (by omega), if_neg (by omega), if_neg (by omega)]
          rw [e, if_pos rfl]
        rw [this]
        exact one_3_bad2 s p hp hs w (by omega) q3 k (by omega) c2
      · have e : ∀ c, Lib.decodeN (s.size - p) (s[p]'hp).toNat (s[p + 1]'(by omega)).toNat (s[p + 2]'(by omega)).toNat c = if (s[p]'hp).toNat % 16 * 4096 + (s[p + 1]'(by omega)).toNat % 64 * 64 + (s[p + 2]'(by omega)).toNat % 64 ≥ 2048 ∧ ((s[p]'hp).toNat % 16 * 4096 + (s[p + 1]'(by omega)).toNat % 64 * 64 + (s[p + 2]'(by omega)).toNat % 64 < 55296 ∨ (57344 ≤ (s[p]'hp).toNat % 16 * 4096 + (s[p + 1]'(by omega)).toNat % 64 * 64 + (s[p + 2]'(by omega)).toNat % 64 ∧ (s[p]'hp).toNat % 16 * 4096 + (s[p + 1]'(by omega)).toNat % 64 * 64 + (s[p + 2]'(by omega)).toNat % 64 ≤ 1114111)) then ((s[p]'hp).toNat % 16 * 4096 + (s[p + 1]'(by omega)).toNat % 64 * 64 + (s[p + 2]'(by omega)).toNat % 64, 3) else (65533, 1) := fun c => by
          unfold Lib.decodeN
          rw [if_neg q0, if_neg (by omega), if_pos (by omega)]
        rw [e] at hN
        obtain ⟨r, hr⟩ : ∃ r, (s[p]'hp).toNat % 16 * 4096 + (s[p + 1]'(by omega)).toNat % 64 * 64 + (s[p + 2]'(by omega)).toNat % 64 = r := ⟨_, rfl⟩
        rw [hr] at hN
        by_cases qv : r ≥ 2048 ∧ (r < 55296 ∨ (57344 ≤ r ∧ r ≤ 1114111))
        · rw [if_pos qv, if_neg (fun h => by have := congrArg Prod.snd h; simp at this)] at hN
          rw [hN]
          exact one_3_ok s p hp hs w (by omega) q3 k (by omega) (by omega) r (by omega) (by omega)
        · rw [if_neg qv, if_pos rfl] at hN
          rw [hN]
          exact one_3_no s p hp hs w (by omega) q3 k (by omega) (by omega) r (by omega) (by omega)
    · have : oneL (s.data.toList.drop p) = (0, 0) := by
        rw [hN]
        have e : ∀ a b c, Lib.decodeN (s.size - p) (s[p]'hp).toNat a b c = (65533, 1) := fun a b c => by
          unfold Lib.decodeN
          rw [if_neg q0, if_neg (by omega), if_neg (by omega), if_neg (by omega)]
        rw [e, if_pos rfl]
      rw [this]
      exact one_3_short s p hp hs w (by omega) q3 (by omega)
  by_cases k : p + 4 ≤ s.size
  · have g1 := drop_get s p 1 (by omega)
    have g2 := drop_get s p 2 (by omega)
    have g3 := drop_get s p 3 (by omega)
    rw [g1, g2, g3] at hN
    have b1 := (s[p + 1]'(by omega)).toNat_lt
    have b2 := (s[p + 2]'(by omega)).toNat_lt
    have b3 := (s[p + 3]'(by omega)).toNat_lt
    by_cases c1 : (s[p + 1]'(by omega)).toNat < 128 ∨ 191 < (s[p + 1]'(by omega)).toNat
    · have : oneL (s.data.toList.drop p) = (0, 0) := by
        rw [hN]
        have e : ∀ b c, Lib.decodeN (s.size - p) (s[p]'hp).toNat (s[p + 1]'(by omega)).toNat b c = (65533, 1) := fun b c => by
          unfold Lib.decodeN
          rw [if_neg q0, if_neg (by omega), if_neg (by omega), if_neg (by omega)]
        rw [e, if_pos rfl]
      rw [this]
      exact one_4_bad1 s p hp hs w (by omega) (by omega) k c1
    by_cases c2 : (s[p + 2]'(by omega)).toNat < 128 ∨ 191 < (s[p + 2]'(by omega)).toNat
    · have : oneL (s.data.toList.drop p) = (0, 0) := by
        rw [hN]
        have e : ∀ c, Lib.decodeN (s.size - p) (s[p]'hp).toNat (s[p + 1]'(by omega)).toNat (s[p + 2]'(by omega)).toNat c = (65533, 1) := fun c => by
          unfold Lib.decodeN
          rw [if_neg q0, if_neg (by omega), if_neg (by omega), if_neg (by omega)]
        rw [e, if_pos rfl]
      rw [this]
      exact one_4_bad2 s p hp hs w (by omega) (by omega) k (by omega) c2
    by_cases c3 : (s[p + 3]'(by omega)).toNat < 128 ∨ 191 < (s[p + 3]'(by omega)).toNat
    · have : oneL (s.data.toList.drop p) = (0, 0) := by
        rw [hN]
        have e : Lib.decodeN (s.size - p) (s[p]'hp).toNat (s[p + 1]'(by omega)).toNat (s[p + 2]'(by omega)).toNat (s[p + 3]'(by omega)).toNat = (65533, 1) := by
          unfold Lib.decodeN
          rw [if_neg q0, if_neg (by omega), if_neg (by omega), if_neg (by omega)]
        rw [e, if_pos rfl]
      rw [this]
      exact one_4_bad3 s p hp hs w (by omega) (by omega) k (by omega) (by omega) c3
    · have e : Lib.decodeN (s.size - p) (s[p]'hp).toNat (s[p + 1]'(by omega)).toNat (s[p + 2]'(by omega)).toNat (s[p + 3]'(by omega)).toNat = if (s[p]'hp).toNat % 8 * 262144 + (s[p + 1]'(by omega)).toNat % 64 * 4096 + (s[p + 2]'(by omega)).toNat % 64 * 64 + (s[p + 3]'(by omega)).toNat % 64 ≥ 65536 ∧ ((s[p]'hp).toNat % 8 * 262144 + (s[p + 1]'(by omega)).toNat % 64 * 4096 + (s[p + 2]'(by omega)).toNat % 64 * 64 + (s[p + 3]'(by omega)).toNat % 64 < 55296 ∨ (57344 ≤ (s[p]'hp).toNat % 8 * 262144 + (s[p + 1]'(by omega)).toNat % 64 * 4096 + (s[p + 2]'(by omega)).toNat % 64 * 64 + (s[p + 3]'(by omega)).toNat % 64 ∧ (s[p]'hp).toNat % 8 * 262144 + (s[p + 1]'(by omega)).toNat % 64 * 4096 + (s[p + 2]'(by omega)).toNat % 64 * 64 + (s[p + 3]'(by omega)).toNat % 64 ≤ 1114111)) then ((s[p]'hp).toNat % 8 * 262144 + (s[p + 1]'(by omega)).toNat % 64 * 4096 + (s[p + 2]'(by omega)).toNat % 64 * 64 + (s[p + 3]'(by omega)).toNat % 64, 4) else (65533, 1) := by
        unfold Lib.decodeN
        rw [if_neg q0, if_neg (by omega), if_neg (by omega), if_pos (by omega)]
      rw [e] at hN
      obtain ⟨r, hr⟩ : ∃ r, (s[p]'hp).toNat % 8 * 262144 + (s[p + 1]'(by omega)).toNat % 64 * 4096 + (s[p + 2]'(by omega)).toNat % 64 * 64 + (s[p + 3]'(by omega)).toNat % 64 = r := ⟨_, rfl⟩
      rw [hr] at hN
      by_cases qv : r ≥ 65536 ∧ (r < 55296 ∨ (57344 ≤ r ∧ r ≤ 1114111))
      · rw [if_pos qv, if_neg (fun h => by have := congrArg Prod.snd h; simp at this)] at hN
        rw [hN]
        exact one_4_ok s p hp hs w (by omega) (by omega) k (by omega) (by omega) (by omega) r (by omega) (by omega)
      · rw [if_neg qv, if_pos rfl] at hN
        rw [hN]
        exact one_4_no s p hp hs w (by omega) (by omega) k (by omega) (by omega) (by omega) r (by omega) (by omega)
  · have : oneL (s.data.toList.drop p) = (0, 0) := by
      rw [hN]
      have e : ∀ a b c, Lib.decodeN (s.size - p) (s[p]'hp).toNat a b c = (65533, 1) := fun a b c => by
        unfold Lib.decodeN
        rw [if_neg q0, if_neg (by omega), if_neg (by omega), if_neg (by omega)]
      rw [e, if_pos rfl]
    rw [this]
    exact one_4_short s p hp hs w (by omega) (by omega) (by omega)
end Go.Proofs.YtgbagdfcdljleaaGreatDoor.Ru

namespace Go.Proofs.YtgbagdfcdljleaaGreatDoor.Ru
open Go.RowKit

theorem oneL_bad {l : List UInt8} (h : bad l = true) : oneL l = (0, 0) := by
  unfold oneL
  split
  · rfl
  · rfl
theorem oneL_good {l : List UInt8} (h0 : l ≠ []) (h : bad l = false) : oneL l = Lib.decodeL l := by
  unfold oneL
  rw [if_neg h0, h]; rfl
theorem bad_size (s : ByteArray) (p : Nat) (hp : p < s.size) (h : bad (s.data.toList.drop p) = true) : (oneL (s.data.toList.drop p)) = (0, 0) := oneL_bad h
theorem good_size (s : ByteArray) (p : Nat) (hp : p < s.size) (h : bad (s.data.toList.drop p) = false) :
    ∃ r n : Nat, oneL (s.data.toList.drop p) = (r, n) ∧ 1 ≤ n ∧ p + n ≤ s.size ∧ r ≤ 1114111 ∧ Lib.validD (s.data.toList.drop p) = Lib.validD (s.data.toList.drop (p + n)) ∧
      (stepsP p (s.data.toList.drop p)) = (p, r) :: stepsP (p + n) (s.data.toList.drop (p + n)) := by
  have h0 := drop_ne s p hp
  have hw := Lib.decodeL_width (s.data.toList.drop p)
  have hl := Lib.decodeL_le (s.data.toList.drop p) h0
  rw [drop_len] at hl
  have hr := Lib.decodeL_rune (s.data.toList.drop p)
  have e1 := oneL_good h0 h
  have e2 := validD_bad h0
  have e3 := stepsP_good p h0 h
  rw [h, List.drop_drop] at e2
  rw [List.drop_drop] at e3
  generalize Lib.decodeL (s.data.toList.drop p) = d at *
  obtain ⟨r, n⟩ := d
  have hp2 : p + n ≤ s.size := by
    have : n ≤ s.size - p := hl
    omega
  exact ⟨r, n, e1, hw, hp2, hr, by simpa using e2, e3⟩

end Go.Proofs.YtgbagdfcdljleaaGreatDoor.Ru

namespace Go.Proofs.YtgbagdfcdljleaaGreatDoor.Ru
open Go.RowKit

theorem rdigit_yes (c : UInt8) (h : digB c = true) (w : World) : Calls Tryz.prog 53 #[.int .u8 c.toNat] w fun e w' => e = .returned (.bool true) ∧ w = w' := by
  obtain ⟨h1, h2⟩ : 48 ≤ c.toNat ∧ c.toNat ≤ 57 := by simpa [digB] using h
  clear h
  go_enter Tryz.func53, Tryz.ntmps53
  go_wp2
  go_ret
  exact ⟨by simp <;> omega, rfl⟩
theorem rdigit_no (c : UInt8) (h : digB c = false) (w : World) : Calls Tryz.prog 53 #[.int .u8 c.toNat] w fun e w' => e = .returned (.bool false) ∧ w = w' := by
  have h' : ¬ (48 ≤ c.toNat ∧ c.toNat ≤ 57) := fun e => by
    have : digB c = true := by simpa [digB] using e
    rw [h] at this; cases this
  clear h
  by_cases h1 : 48 ≤ c.toNat <;> by_cases h2 : c.toNat ≤ 57 <;> first | (exfalso; omega) | skip
  all_goals
    clear h'
    go_enter Tryz.func53, Tryz.ntmps53
    go_wp2
    go_ret
    exact ⟨by simp <;> omega, rfl⟩

theorem hexd_nat : ∀ n : Fin 16, (hexd n.val).toNat = if n.val < 10 then 48 + n.val else 87 + n.val := by decide
end Go.Proofs.YtgbagdfcdljleaaGreatDoor.Ru

namespace Go.Proofs.YtgbagdfcdljleaaGreatDoor.Ru
open Go.Lib

/-- What stands between the quotes. -/
def bodyL (l : List UInt8) : List UInt8 := (steps l).flatMap fun x => qRune x.2
theorem quoteL_body (l : List UInt8) : quoteL l = 34 :: (bodyL l ++ [34]) := rfl
theorem bodyL_step {l : List UInt8} (h0 : l ≠ []) (hb : bad l = false) : bodyL l = qRune (decodeL l).1 ++ bodyL (l.drop (decodeL l).2) := by
  have key : ∀ p (m : List UInt8), (stepsP p m).flatMap (fun x => qRune x.2) = ((stepsP p m).map (·.2)).flatMap qRune := fun p m => by rw [List.flatMap_map]
  unfold bodyL steps
  rw [stepsP_good 0 h0 hb, List.flatMap_cons, key, key, steps_shift _ _ _ (Nat.le_refl _)]

theorem mean_short (r : Nat) (h : shortN r ≠ 0) : meanN (shortN r).toUInt8.toNat = r ∧ (shortN r).toUInt8 ≠ 117 := by
  unfold shortN at *
  by_cases h1 : r = 8
  · subst h1; exact ⟨by decide, by decide⟩
  by_cases h2 : r = 9
  · subst h2; exact ⟨by decide, by decide⟩
  by_cases h3 : r = 10
  · subst h3; exact ⟨by decide, by decide⟩
  by_cases h4 : r = 12
  · subst h4; exact ⟨by decide, by decide⟩
  by_cases h5 : r = 13
  · subst h5; exact ⟨by decide, by decide⟩
  by_cases h6 : r = 34
  · subst h6; exact ⟨by decide, by decide⟩
  by_cases h7 : r = 92
  · subst h7; exact ⟨by decide, by decide⟩
  simp [h1, h2, h3, h4, h5, h6, h7] at h
theorem short_none {r : Nat} (h : shortN r = 0) : r ≠ 34 ∧ r ≠ 92 := by
  refine ⟨fun e => ?_, fun e => ?_⟩ <;> (subst e; exact absurd h (by decide))
theorem short_pos {r : Nat} (h : shortN r ≠ 0) : r ≤ 92 ∧ r ≠ 0 := by
  unfold shortN at h
  (repeat' split at h) <;> omega
theorem hex_back : ∀ r : Fin 32, parse16 0 [48, 48, hexd (r.val / 16), hexd (r.val % 16)] = some r.val := by decide
theorem bad_cons_ascii {c : UInt8} (t : List UInt8) (h : c.toNat < 128) : bad (c :: t) = false := bad_ascii t h

/-- One rune, read back. -/
theorem uqR_rune {l : List UInt8} (h0 : l ≠ []) (hb : bad l = false) (X : List UInt8) (n q : Nat) (acc : List UInt8) :
    uqR (n + 1) (qRune (decodeL l).1 ++ X) q acc = uqR n X (q + (qRune (decodeL l).1).length) (acc ++ l.take (decodeL l).2) := by
  have henc := (take_append_enc h0 hb).1
  generalize hr : (decodeL l).1 = r at *
  by_cases h1 : shortN r ≠ 0
  · have e : qRune r = [92, (shortN r).toUInt8] := by unfold qRune; rw [if_pos h1]
    obtain ⟨m1, m2⟩ := mean_short r h1
    have hne : r ≠ 0 := (short_pos h1).2
    rw [e, uqR, if_neg (by simp), if_neg (by rw [List.cons_append, bad_ascii _ (by decide)]; simp), List.cons_append, decodeL_ascii _ _ (by decide), if_neg (by decide), if_neg (by decide), if_pos (by decide)]
    have he : escL (92 :: ([(shortN r).toUInt8] ++ X)) = some (r, 2) := by
      show (if (shortN r).toUInt8 = 117 then _ else if meanN (shortN r).toUInt8.toNat ≠ 0 then some (meanN (shortN r).toUInt8.toNat, 2) else none) = _
      rw [if_neg m2, m1, if_pos hne]
    rw [he]
    simp only [henc]
    rfl
  have h1' : shortN r = 0 := Decidable.not_not.1 h1
  obtain ⟨n34, n92⟩ := short_none h1'
  by_cases h32 : r < 32
  · have e : qRune r = [92, 117, 48, 48, hexd (r / 16), hexd (r % 16)] := by unfold qRune; rw [if_neg h1, if_pos h32]
    rw [e, uqR, if_neg (by simp), if_neg (by rw [List.cons_append, bad_ascii _ (by decide)]; simp), List.cons_append, decodeL_ascii _ _ (by decide), if_neg (by decide), if_neg (by decide), if_pos (by decide)]
    have hp := hex_back ⟨r, h32⟩
    dsimp only at hp
    have he : escL (92 :: ([117, 48, 48, hexd (r / 16), hexd (r % 16)] ++ X)) = some (r, 6) := by
      show longL (92 :: 117 :: 48 :: 48 :: hexd (r / 16) :: hexd (r % 16) :: X) = _
      have hu : unitL (92 :: 117 :: 48 :: 48 :: hexd (r / 16) :: hexd (r % 16) :: X) = some r := by
        show (if (92 : UInt8) = 92 ∧ (117 : UInt8) = 117 then parse16 0 [48, 48, hexd (r / 16), hexd (r % 16)] else none) = _
        rw [if_pos ⟨rfl, rfl⟩, hp]
      have hf : isFst r = false := by unfold isFst; rw [decide_eq_false (by omega)]; rfl
      have hs : isSnd r = false := by unfold isSnd; rw [decide_eq_false (by omega)]; rfl
      unfold longL
      rw [hu]
      simp only [hf, hs, Bool.false_eq_true, if_false]
    rw [he]
    simp only [henc]
    rfl
  · have e : qRune r = l.take (decodeL l).2 := by unfold qRune; rw [if_neg h1, if_neg h32, henc]
    obtain ⟨hd, hbd⟩ := dec_take h0 hb X
    have hle := decodeL_le l h0
    have hw := decodeL_width l
    have hlen : (l.take (decodeL l).2).length = (decodeL l).2 := by rw [List.length_take]; omega
    have hne : l.take (decodeL l).2 ++ X ≠ [] := by
      intro e
      have := congrArg List.length e
      rw [List.length_append, hlen] at this
      simp at this; omega
    rw [e, uqR, if_neg hne, hbd, if_neg (by simp), hd, hr, if_neg n34, if_neg h32, if_neg n92, henc, hlen]
    have hdr : (l.take (decodeL l).2 ++ X).drop (decodeL l).2 = X := by
      rw [List.drop_append_of_le_length (by omega), List.drop_of_length_le (by omega)]; rfl
    rw [hdr]

theorem qRune_pos {l : List UInt8} (h0 : l ≠ []) (hb : bad l = false) : 1 ≤ (qRune (decodeL l).1).length := by
  unfold qRune
  split
  · simp
  split
  · simp
  · rw [(take_append_enc h0 hb).2]; exact decodeL_width l
/-- A text's body, read back, up to the quote. -/
theorem uqR_body (X : List UInt8) : ∀ (k : Nat) (l : List UInt8), l.length ≤ k → validD l = true → ∀ (n q : Nat) (acc : List UInt8), (bodyL l).length < n →
    uqR n (bodyL l ++ 34 :: X) q acc = (acc ++ l, q + (bodyL l).length + 1, 0) := by
  intro k l hk hv
  refine valid_ind (P := fun l => ∀ (n q : Nat) (acc : List UInt8), (bodyL l).length < n → uqR n (bodyL l ++ 34 :: X) q acc = (acc ++ l, q + (bodyL l).length + 1, 0)) ?_ ?_ k l hk hv
  · intro n q acc hn
    obtain ⟨m, rfl⟩ : ∃ m, n = m + 1 := ⟨n - 1, by omega⟩
    show uqR (m + 1) (34 :: X) q acc = (acc ++ [], q + 0 + 1, 0)
    rw [uqR, if_neg (by simp), bad_ascii _ (by decide), if_neg (by simp), decodeL_ascii _ _ (by decide), if_pos (by decide)]
    simp
  · intro l h0 hb hv ih n q acc hn
    have hs := bodyL_step h0 hb
    have hq := qRune_pos h0 hb
    rw [hs, List.length_append] at hn
    obtain ⟨m, rfl⟩ : ∃ m, n = m + 1 := ⟨n - 1, by omega⟩
    rw [hs, List.append_assoc, uqR_rune h0 hb, ih m _ _ (by omega)]
    rw [List.append_assoc, List.take_append_drop, List.length_append]
    congr 2
    omega

/-- What is written reads as the text, whatever stands behind. -/
theorem unq_quote {l : List UInt8} (hv : validD l = true) (X : List UInt8) : unqI (quoteL l ++ X) 0 = (l, (quoteL l).length, 0) := by
  have hlen : (quoteL l).length = (bodyL l).length + 2 := by rw [quoteL_body]; simp
  unfold unqI
  rw [if_neg (by omega), if_neg]
  · show unqL (quoteL l ++ X) 0 = _
    rw [unqL_uqR _ _ _ (Nat.le_refl _)]
    have e : (quoteL l ++ X).drop (0 + 1) = bodyL l ++ 34 :: X := by rw [quoteL_body]; simp
    rw [e, uqR_body X _ l (Nat.le_refl _) hv _ _ _ (by rw [List.length_append, hlen]; omega), hlen]
    simp
    omega
  · rintro (h | h)
    · rw [List.length_append, hlen] at h
      simp at h
      omega
    · exact h rfl

theorem valid_whole {l : List UInt8} (h0 : l ≠ []) (hb : bad l = false) (hk : (decodeL l).2 = l.length) : validD l = true := by
  rw [validD_bad h0, hb, hk, List.drop_length]; rfl
theorem valid_take {l : List UInt8} (h0 : l ≠ []) (hb : bad l = false) : validD (l.take (decodeL l).2) = true := by
  obtain ⟨hd, hbd⟩ := dec_take h0 hb []
  rw [List.append_nil] at hd hbd
  have hle := decodeL_le l h0
  have hw := decodeL_width l
  have hlen : (l.take (decodeL l).2).length = (decodeL l).2 := by rw [List.length_take]; omega
  refine valid_whole ?_ hbd (by rw [hd, hlen])
  intro e
  rw [e] at hlen
  simp at hlen; omega
theorem qRune_valid {l : List UInt8} (h0 : l ≠ []) (hb : bad l = false) : validD (qRune (decodeL l).1) = true := by
  have henc := (take_append_enc h0 hb).1
  generalize hr : (decodeL l).1 = r at *
  unfold qRune
  split
  · rename_i h1
    have hs := short_pos h1
    refine valid_ascii _ fun c hc => ?_
    simp only [List.mem_cons, List.not_mem_nil, or_false] at hc
    rcases hc with rfl | rfl
    · decide
    · have := mean_short r h1
      exact meanN_ascii (by rw [this.1]; exact hs.2)
  split
  · rename_i h32
    have hx : ∀ k, k < 16 → (hexd k).toNat < 128 := by decide
    refine valid_ascii _ fun c hc => ?_
    simp only [List.mem_cons, List.not_mem_nil, or_false] at hc
    rcases hc with rfl | rfl | rfl | rfl | rfl | rfl
    · decide
    · decide
    · decide
    · decide
    · exact hx _ (by omega)
    · exact hx _ (by omega)
  · rw [henc]; exact valid_take h0 hb
theorem bodyL_valid {l : List UInt8} (hv : validD l = true) : validD (bodyL l) = true := by
  refine valid_ind (P := fun l => validD (bodyL l) = true) rfl ?_ _ l (Nat.le_refl _) hv
  intro l h0 hb _ ih
  rw [bodyL_step h0 hb, valid_append _ (qRune_valid h0 hb)]
  exact ih
theorem quoteL_valid {l : List UInt8} (hv : validD l = true) : validD (quoteL l) = true := by
  rw [quoteL_body, validD_cons 34 _ (by decide), valid_append _ (bodyL_valid hv)]; rfl
end Go.Proofs.YtgbagdfcdljleaaGreatDoor.Ru

namespace Go.Proofs.YtgbagdfcdljleaaGreatDoor.Ru
open Go.Lib

theorem u8n (x : Nat) (h : x < 256) : (x.toUInt8).toNat = x := by simp; omega
set_option maxHeartbeats 1000000 in
theorem enc_valid (r : Nat) (h : r ≤ 1114111) (hv : r < 55296 ∨ 57343 < r) : validD (encodeRune r) = true := by
  by_cases h1 : r ≤ 127
  · have e : encodeRune (r : Int) = [r.toUInt8] := by
      unfold encodeRune; rw [encodeRuneZ_one (by omega) (by omega)]; simp
    rw [e]
    exact valid_ascii _ fun c hc => by simp only [List.mem_cons, List.not_mem_nil, or_false] at hc; subst hc; rw [u8n _ (by omega)]; omega
  by_cases h2 : r ≤ 2047
  · have e : encodeRune (r : Int) = [(192 + r / 64).toUInt8, (128 + r % 64).toUInt8] := by
      unfold encodeRune; rw [encodeRuneZ_two (by omega) (by omega)]
      simp only [List.map_cons, List.map_nil]
      rw [show (192 + (r : Int) / 64).toNat = 192 + r / 64 by omega, show (128 + (r : Int) % 64).toNat = 128 + r % 64 by omega]
    have d : decodeL [(192 + r / 64).toUInt8, (128 + r % 64).toUInt8] = (r, 2) := by
      rw [decodeL_N]
      show decodeN 2 (192 + r / 64).toUInt8.toNat (128 + r % 64).toUInt8.toNat (0 : UInt8).toNat (0 : UInt8).toNat = _
      rw [u8n _ (by omega), u8n _ (by omega)]
      unfold decodeN
      rw [if_neg (by omega), if_pos (by omega), if_pos (by omega)]
      congr 1; omega
    rw [e]
    exact valid_whole (by simp) (by unfold bad; rw [d]; exact decide_eq_false (by simp)) (by rw [d]; rfl)
  by_cases h3 : r ≤ 65535
  · have e : encodeRune (r : Int) = [(224 + r / 4096).toUInt8, (128 + r / 64 % 64).toUInt8, (128 + r % 64).toUInt8] := by
      unfold encodeRune; rw [encodeRuneZ_three (by omega)]
      simp only [List.map_cons, List.map_nil]
      rw [show (224 + (r : Int) / 4096).toNat = 224 + r / 4096 by omega, show (128 + (r : Int) / 64 % 64).toNat = 128 + r / 64 % 64 by omega, show (128 + (r : Int) % 64).toNat = 128 + r % 64 by omega]
    have d : decodeL [(224 + r / 4096).toUInt8, (128 + r / 64 % 64).toUInt8, (128 + r % 64).toUInt8] = (r, 3) := by
      rw [decodeL_N]
      show decodeN 3 (224 + r / 4096).toUInt8.toNat (128 + r / 64 % 64).toUInt8.toNat (128 + r % 64).toUInt8.toNat (0 : UInt8).toNat = _
      rw [u8n _ (by omega), u8n _ (by omega), u8n _ (by omega)]
      unfold decodeN
      rw [if_neg (by omega), if_neg (by omega), if_pos (by omega), if_pos (by omega)]
      congr 1; omega
    rw [e]
    exact valid_whole (by simp) (by unfold bad; rw [d]; exact decide_eq_false (by simp)) (by rw [d]; rfl)
  · have e : encodeRune (r : Int) = [(240 + r / 262144).toUInt8, (128 + r / 4096 % 64).toUInt8, (128 + r / 64 % 64).toUInt8, (128 + r % 64).toUInt8] := by
      unfold encodeRune; rw [encodeRuneZ_four (by omega) (by omega)]
      simp only [List.map_cons, List.map_nil]
      rw [show (240 + (r : Int) / 262144).toNat = 240 + r / 262144 by omega, show (128 + (r : Int) / 4096 % 64).toNat = 128 + r / 4096 % 64 by omega, show (128 + (r : Int) / 64 % 64).toNat = 128 + r / 64 % 64 by omega, show (128 + (r : Int) % 64).toNat = 128 + r % 64 by omega]
    have d : decodeL [(240 + r / 262144).toUInt8, (128 + r / 4096 % 64).toUInt8, (128 + r / 64 % 64).toUInt8, (128 + r % 64).toUInt8] = (r, 4) := by
      rw [decodeL_N]
      show decodeN 4 (240 + r / 262144).toUInt8.toNat (128 + r / 4096 % 64).toUInt8.toNat (128 + r / 64 % 64).toUInt8.toNat (128 + r % 64).toUInt8.toNat = _
      rw [u8n _ (by omega), u8n _ (by omega), u8n _ (by omega), u8n _ (by omega)]
      unfold decodeN
      rw [if_neg (by omega), if_neg (by omega), if_neg (by omega), if_pos (by omega), if_pos (by omega)]
      congr 1; omega
    rw [e]
    exact valid_whole (by simp) (by unfold bad; rw [d]; exact decide_eq_false (by simp)) (by rw [d]; rfl)

theorem uqR_valid : ∀ (n : Nat) (l : List UInt8) (q : Nat) (acc : List UInt8), validD acc = true → validD (uqR n l q acc).1 = true ∧ (uqR n l q acc).1.length ≤ acc.length + 4 * n ∧ ((uqR n l q acc).2.2 = 0 ∨ (uqR n l q acc).2.2 = 10)
  | 0, l, q, acc, _ => ⟨rfl, by simp [uqR], .inr rfl⟩
  | n + 1, l, q, acc, hv => by
    rw [uqR]
    by_cases h0 : l = []
    · rw [if_pos h0]; exact ⟨rfl, by simp, .inr rfl⟩
    rw [if_neg h0]
    cases hb : bad l with
    | true => exact ⟨rfl, by simp, .inr rfl⟩
    | false =>
      rw [if_neg (by simp)]
      split
      · exact ⟨hv, by simp only; omega, .inl rfl⟩
      split
      · exact ⟨rfl, by simp, .inr rfl⟩
      split
      · cases he : escL l with
        | none => exact ⟨rfl, by simp, .inr rfl⟩
        | some y =>
          obtain ⟨y1, y2, _⟩ := escL_rune he
          have ih := uqR_valid n (l.drop y.2) (q + y.2) (acc ++ encodeRune y.1) (by rw [valid_append _ hv]; exact enc_valid _ y1 y2)
          have hl := enc_le y.1
          rw [List.length_append] at ih
          exact ⟨ih.1, by have := ih.2.1; simp only; omega, ih.2.2⟩
      · have ih := uqR_valid n (l.drop (decodeL l).2) (q + (decodeL l).2) (acc ++ encodeRune (decodeL l).1) (by rw [valid_append _ hv, (take_append_enc h0 hb).1]; exact valid_take h0 hb)
        have hl := enc_le (decodeL l).1
        rw [List.length_append] at ih
        exact ⟨ih.1, by have := ih.2.1; omega, ih.2.2⟩
/-- What reads, from a place on. -/
theorem unqI_valid (L : List UInt8) (a : Int) : validD (unqI L a).1 = true ∧ (unqI L a).1.length ≤ 4 * (L.length + 1) ∧ ((unqI L a).2.2 = 0 ∨ (unqI L a).2.2 = 2 ∨ (unqI L a).2.2 = 10) := by
  unfold unqI
  split
  · exact ⟨rfl, by simp, .inr (.inl rfl)⟩
  split
  · exact ⟨rfl, by simp, .inr (.inr rfl)⟩
  · rw [unqL_uqR _ _ _ (Nat.le_refl _)]
    have h := uqR_valid (L.length + 1) (L.drop (a.toNat + 1)) (a.toNat + 1) [] rfl
    refine ⟨h.1, by have := h.2.1; simpa using this, ?_⟩
    rcases h.2.2 with h | h
    · exact .inl h
    · exact .inr (.inr h)
theorem qRune_le6 (l : List UInt8) : (quoteL l).length ≤ 2 + 6 * l.length := by
  rw [quoteL_body]
  have h1 := flat_le (fun x : Nat × Nat => qRune x.2) 6 (fun x => qRune_le _) (steps l)
  have h2 := steps_length l
  have : (bodyL l).length ≤ 6 * l.length := Nat.le_trans h1 (Nat.mul_le_mul_left _ h2)
  simp only [List.length_cons, List.length_append, List.length_nil]
  omega
theorem quote_apart {s t : List UInt8} (hs : validD s = true) (ht : validD t = true) (h : (quoteL s).take (min (quoteL s).length (quoteL t).length) = (quoteL t).take (min (quoteL s).length (quoteL t).length)) : s = t := by
  have key : ∀ {a b : List UInt8}, validD a = true → validD b = true → (quoteL a).length ≤ (quoteL b).length → (quoteL b).take (quoteL a).length = quoteL a → a = b := by
    intro a b ha hb _ he
    have e : quoteL b = quoteL a ++ (quoteL b).drop (quoteL a).length := by
      conv => lhs; rw [← List.take_append_drop (quoteL a).length (quoteL b), he]
    have u1 := unq_quote ha ((quoteL b).drop (quoteL a).length)
    rw [← e] at u1
    have u2 := unq_quote hb []
    rw [List.append_nil] at u2
    rw [u1] at u2
    exact congrArg Prod.fst u2
  rcases Nat.le_total (quoteL s).length (quoteL t).length with hl | hl
  · rw [Nat.min_eq_left hl, List.take_length] at h
    exact key hs ht hl h.symm
  · rw [Nat.min_eq_right hl, List.take_length] at h
    exact (key ht hs hl h).symm
end Go.Proofs.YtgbagdfcdljleaaGreatDoor.Ru

namespace Go.Proofs.YtgbagdfcdljleaaGreatDoor.Ru
open Go.RowKit Go.Shelf

theorem conv_block (w : World) (l : List UInt8) (n : Nat) (C : Array Value) (hn : l.length = n) (hC : (Lib.byteCells l).toArray = C) :
    (convert 57 9 (.slice (some ⟨w.heap.size, 0, none⟩) n n)).run Tryz.prog (w.alloc (.cells C 5)) = .ok (.string ⟨l.toArray⟩) (w.alloc (.cells C 5)) := by
  subst hn
  refine run_convert_bytes_back (P := Tryz.prog) _ 57 9 5 ⟨w.heap.size, 0, none⟩ l.length l Tryz.underlying57 Tryz.underlying5 Tryz.underlying9 (fun j hj => ?_)
  subst hC
  have e : ((⟨w.heap.size, 0, none⟩ : Addr).add j) = ⟨w.heap.size, j, none⟩ := by simp [Addr.add]; try omega
  rw [e, World.cell?_alloc_new]
  simp [Lib.byteCells, hj]

set_option maxRecDepth 100000 in
set_option maxHeartbeats 2000000 in
theorem rbytes_two (r : Nat) (h : 128 ≤ r) (h2 : r < 2048) (hv : r < 55296 ∨ 57343 < r) (w : World) :
    Calls Tryz.prog 48 #[.int .i64 r] w fun e w' => e = .returned (.string ⟨(Lib.encodeRune r).toArray⟩) ∧ Below w.heap.size w w' := by
  obtain ⟨a, ha⟩ : ∃ a : Nat, r / 64 = a := ⟨_, rfl⟩
  obtain ⟨c, hc⟩ : ∃ c : Nat, r % 64 = c := ⟨_, rfl⟩
  have he : Lib.encodeRune (r : Int) = [(192 + a).toUInt8, (128 + c).toUInt8] := by
    unfold Lib.encodeRune
    rw [Lib.encodeRuneZ_two (by omega) (by omega)]
    simp only [List.map_cons, List.map_nil]
    rw [show (192 + (r : Int) / 64 : Int).toNat = 192 + a by omega, show (128 + (r : Int) % 64 : Int).toNat = 128 + c by omega]
  have ia : ((r : Int) / 64) = (a : Int) := by omega
  have ba : a < 32 := by omega
  have ic : ((r : Int) % 64) = (c : Int) := by omega
  have bc : c < 64 := by omega
  have hcv := conv_block w [(192 + a).toUInt8, (128 + c).toUInt8] 2 #[.int .u8 (192 + (a : Int)), .int .u8 (128 + (c : Int))] rfl (by
    simp only [Lib.byteCells, List.map_cons, List.map_nil]
    rw [u8n (192 + a) (by omega), u8n (128 + c) (by omega)]
    rfl)
  rw [he]
  obtain ⟨L, hL⟩ : ∃ L : ByteArray, L = ⟨[(192 + a).toUInt8, (128 + c).toUInt8].toArray⟩ := ⟨_, rfl⟩
  rw [← hL] at hcv ⊢
  have n1 : ¬ (r : Int) < 128 := by omega
  have l2 : (r : Int) < 2048 := by omega
  clear he hL ha hc hv h h2
  go_enter Tryz.func48, Tryz.ntmps48
  go_wp2_with fail
  go_ret
  exact ⟨rfl, by go_grown⟩

set_option maxRecDepth 100000 in
set_option maxHeartbeats 2000000 in
theorem rbytes_three (r : Nat) (h : 2048 ≤ r) (h2 : r < 65536) (hv : r < 55296 ∨ 57343 < r) (w : World) :
    Calls Tryz.prog 48 #[.int .i64 r] w fun e w' => e = .returned (.string ⟨(Lib.encodeRune r).toArray⟩) ∧ Below w.heap.size w w' := by
  obtain ⟨b, hb⟩ : ∃ b : Nat, r / 4096 = b := ⟨_, rfl⟩
  obtain ⟨a, ha⟩ : ∃ a : Nat, r / 64 = a := ⟨_, rfl⟩
  obtain ⟨d, hd⟩ : ∃ d : Nat, a % 64 = d := ⟨_, rfl⟩
  obtain ⟨c, hc⟩ : ∃ c : Nat, r % 64 = c := ⟨_, rfl⟩
  have he : Lib.encodeRune (r : Int) = [(224 + b).toUInt8, (128 + d).toUInt8, (128 + c).toUInt8] := by
    unfold Lib.encodeRune
    rw [Lib.encodeRuneZ_three (by omega)]
    simp only [List.map_cons, List.map_nil]
    rw [show (224 + (r : Int) / 4096 : Int).toNat = 224 + b by omega, show (128 + (r : Int) / 64 % 64 : Int).toNat = 128 + d by omega, show (128 + (r : Int) % 64 : Int).toNat = 128 + c by omega]
  have ib : ((r : Int) / 4096) = (b : Int) := by omega
  have bb : b < 16 := by omega
  have ia : ((r : Int) / 64) = (a : Int) := by omega
  have ba : a < 1024 := by omega
  have id : ((a : Int) % 64) = (d : Int) := by omega
  have bd : d < 64 := by omega
  have ic : ((r : Int) % 64) = (c : Int) := by omega
  have bc : c < 64 := by omega
  have hcv := conv_block w [(224 + b).toUInt8, (128 + d).toUInt8, (128 + c).toUInt8] 3 #[.int .u8 (224 + (b : Int)), .int .u8 (128 + (d : Int)), .int .u8 (128 + (c : Int))] rfl (by
    simp only [Lib.byteCells, List.map_cons, List.map_nil]
    rw [u8n (224 + b) (by omega), u8n (128 + d) (by omega), u8n (128 + c) (by omega)]
    rfl)
  rw [he]
  obtain ⟨L, hL⟩ : ∃ L : ByteArray, L = ⟨[(224 + b).toUInt8, (128 + d).toUInt8, (128 + c).toUInt8].toArray⟩ := ⟨_, rfl⟩
  rw [← hL] at hcv ⊢
  have n1 : ¬ (r : Int) < 128 := by omega
  have n2048 : ¬ (r : Int) < 2048 := by omega
  have l2 : (r : Int) < 65536 := by omega
  clear he hL hb ha hd hc hv h h2
  go_enter Tryz.func48, Tryz.ntmps48
  go_wp2_with fail
  go_ret
  exact ⟨rfl, by go_grown⟩

set_option maxRecDepth 100000 in
set_option maxHeartbeats 2000000 in
theorem rbytes_four (r : Nat) (h : 65536 ≤ r) (h2 : r < 1114112) (hv : r < 55296 ∨ 57343 < r) (w : World) :
    Calls Tryz.prog 48 #[.int .i64 r] w fun e w' => e = .returned (.string ⟨(Lib.encodeRune r).toArray⟩) ∧ Below w.heap.size w w' := by
  obtain ⟨g, hg⟩ : ∃ g : Nat, r / 262144 = g := ⟨_, rfl⟩
  obtain ⟨b, hb⟩ : ∃ b : Nat, r / 4096 = b := ⟨_, rfl⟩
  obtain ⟨k, hk⟩ : ∃ k : Nat, b % 64 = k := ⟨_, rfl⟩
  obtain ⟨a, ha⟩ : ∃ a : Nat, r / 64 = a := ⟨_, rfl⟩
  obtain ⟨d, hd⟩ : ∃ d : Nat, a % 64 = d := ⟨_, rfl⟩
  obtain ⟨c, hc⟩ : ∃ c : Nat, r % 64 = c := ⟨_, rfl⟩
  have he : Lib.encodeRune (r : Int) = [(240 + g).toUInt8, (128 + k).toUInt8, (128 + d).toUInt8, (128 + c).toUInt8] := by
    unfold Lib.encodeRune
    rw [Lib.encodeRuneZ_four (by omega) (by omega)]
    simp only [List.map_cons, List.map_nil]
    rw [show (240 + (r : Int) / 262144 : Int).toNat = 240 + g by omega, show (128 + (r : Int) / 4096 % 64 : Int).toNat = 128 + k by omega, show (128 + (r : Int) / 64 % 64 : Int).toNat = 128 + d by omega, show (128 + (r : Int) % 64 : Int).toNat = 128 + c by omega]
  have ig : ((r : Int) / 262144) = (g : Int) := by omega
  have bg : g < 8 := by omega
  have ib : ((r : Int) / 4096) = (b : Int) := by omega
  have bb : b < 272 := by omega
  have ik : ((b : Int) % 64) = (k : Int) := by omega
  have bk : k < 64 := by omega
  have ia : ((r : Int) / 64) = (a : Int) := by omega
  have ba : a < 17408 := by omega
  have id : ((a : Int) % 64) = (d : Int) := by omega
  have bd : d < 64 := by omega
  have ic : ((r : Int) % 64) = (c : Int) := by omega
  have bc : c < 64 := by omega
  have hcv := conv_block w [(240 + g).toUInt8, (128 + k).toUInt8, (128 + d).toUInt8, (128 + c).toUInt8] 4 #[.int .u8 (240 + (g : Int)), .int .u8 (128 + (k : Int)), .int .u8 (128 + (d : Int)), .int .u8 (128 + (c : Int))] rfl (by
    simp only [Lib.byteCells, List.map_cons, List.map_nil]
    rw [u8n (240 + g) (by omega), u8n (128 + k) (by omega), u8n (128 + d) (by omega), u8n (128 + c) (by omega)]
    rfl)
  rw [he]
  obtain ⟨L, hL⟩ : ∃ L : ByteArray, L = ⟨[(240 + g).toUInt8, (128 + k).toUInt8, (128 + d).toUInt8, (128 + c).toUInt8].toArray⟩ := ⟨_, rfl⟩
  rw [← hL] at hcv ⊢
  have n1 : ¬ (r : Int) < 128 := by omega
  have n2048 : ¬ (r : Int) < 2048 := by omega
  have n65536 : ¬ (r : Int) < 65536 := by omega
  have l2 : (r : Int) < 1114112 := by omega
  clear he hL hg hb hk ha hd hc hv h h2
  go_enter Tryz.func48, Tryz.ntmps48
  go_wp2_with fail
  go_ret
  exact ⟨rfl, by go_grown⟩

set_option maxRecDepth 100000 in
set_option maxHeartbeats 2000000 in
theorem rbytes_one (r : Nat) (h : r < 128) (w : World) :
    Calls Tryz.prog 48 #[.int .i64 r] w fun e w' => e = .returned (.string ⟨(Lib.encodeRune r).toArray⟩) ∧ Below w.heap.size w w' := by
  have he : Lib.encodeRune (r : Int) = [r.toUInt8] := by
    unfold Lib.encodeRune
    rw [Lib.encodeRuneZ_one (by omega) (by omega)]
    simp
  have hcv := conv_block w [r.toUInt8] 1 #[.int .u8 r] rfl (by
    simp only [Lib.byteCells, List.map_cons, List.map_nil]
    rw [u8n r (by omega)])
  rw [he]
  obtain ⟨L, hL⟩ : ∃ L : ByteArray, L = ⟨[r.toUInt8].toArray⟩ := ⟨_, rfl⟩
  rw [← hL] at hcv ⊢
  clear he hL
  go_enter Tryz.func48, Tryz.ntmps48
  go_wp2_with fail
  go_ret
  exact ⟨rfl, by go_grown⟩

theorem rbytes_any (r : Nat) (h : r ≤ 1114111) (hv : r < 55296 ∨ 57343 < r) (w : World) :
    Calls Tryz.prog 48 #[.int .i64 r] w fun e w' => e = .returned (.string ⟨(Lib.encodeRune r).toArray⟩) ∧ Below w.heap.size w w' := by
  by_cases h1 : r < 128
  · exact rbytes_one r h1 w
  by_cases h2 : r < 2048
  · exact rbytes_two r (by omega) h2 hv w
  by_cases h3 : r < 65536
  · exact rbytes_three r (by omega) h3 hv w
  · exact rbytes_four r (by omega) (by omega) hv w
end Go.Proofs.YtgbagdfcdljleaaGreatDoor.Ru

namespace Go.Proofs.YtgbagdfcdljleaaGreatDoor.Ru
open Go.RowKit

def fourO (l : List UInt8) (q : Nat) : Option Nat := if q + 4 ≤ l.length then parse16 0 ((l.drop q).take 4) else none
def fourI : Option Nat → Int
  | some n => n
  | none => -1
theorem take_cons (s : ByteArray) (q n : Nat) (h : q < s.size) : (s.data.toList.drop q).take (n + 1) = s[q] :: (s.data.toList.drop (q + 1)).take n := by
  rw [List.drop_eq_getElem_cons (by rw [toList_length]; exact h), List.take_succ_cons]
  rfl
theorem pow16 (k : Nat) (h : k < 4) : 16 ^ k ≤ 4096 := by
  match k, h with
  | 0, _ => decide
  | 1, _ => decide
  | 2, _ => decide
  | 3, _ => decide

set_option maxRecDepth 100000 in
set_option maxHeartbeats 2000000 in
theorem rfour_any (s : ByteArray) (q : Nat) (hq : q ≤ 50000) (hs : s.size ≤ 20000) (w : World) :
    Calls Tryz.prog 47 #[.string s, .int .i64 q] w fun e w' => e = .returned (.int .i64 (fourI (fourO s.data.toList q))) ∧ w = w' := by
  unfold fourO
  rw [toList_length]
  by_cases h4 : q + 4 ≤ s.size
  · rw [if_pos h4]
    obtain ⟨R, hR⟩ : ∃ R, parse16 0 ((s.data.toList.drop q).take 4) = R := ⟨_, rfl⟩
    rw [hR]
    have HR := Lib.hid hR
    clear hR
    go_enter Tryz.func47, Tryz.ntmps47
    go_wp2_with fail
    go_loop [5, 6] (fun n i => ∃ k m : Nat, k ≤ 4 ∧ i = .int .i64 k ∧ n = .int .i64 m ∧ m < 16 ^ k ∧ parse16 m ((s.data.toList.drop (q + k)).take (4 - k)) = R) (fun n i => 4 - (intOf i).toNat)
    case atStart => exact ⟨0, 0, by omega, rfl, rfl, by decide, HR.out⟩
    case round =>
      obtain ⟨k, m, hk, rfl, rfl, hm, hp⟩ := hrel
      by_cases hlt : k < 4
      · have hqk : q + k < s.size := by omega
        have hp16 := pow16 k hlt
        have hm2 : m < 4096 := by omega
        have hps : 16 ^ (k + 1) = 16 ^ k * 16 := Nat.pow_succ ..
        rw [show 4 - k = (4 - (k + 1)) + 1 by omega, take_cons s (q + k) _ hqk] at hp
        obtain ⟨c, hc⟩ : ∃ c, s[q + k]'hqk = c := ⟨_, rfl⟩
        rw [hc] at hp
        have hc' : (s[q + k]'hqk).toNat = c.toNat := by rw [hc]
        have hbyte := c.toNat_lt
        unfold parse16 at hp
        by_cases hd : 48 ≤ c.toNat ∧ c.toNat ≤ 57
        · have hx : hexv c.toNat = c.toNat - 48 := by unfold hexv; rw [if_pos hd]
          rw [hx, if_pos (by omega)] at hp
          have hdig : digB c = true := by unfold digB; rw [decide_eq_true hd.1, decide_eq_true hd.2]; rfl
          have HD := Lib.hid (rdigit_yes c hdig)
          have HP := Lib.hid hp
          have HM : m * 16 + (c.toNat - 48) < 16 ^ (k + 1) := by omega
          obtain ⟨d1, d2⟩ := hd
          clear hp hc hx hdig hp16 hps hm
          go_wp2_with (go_at_call 53; refine (HD.out _).mono ?_; rintro e w' ⟨rfl, rfl⟩)
          go_round
          case rel => exact ⟨k + 1, m * 16 + (c.toNat - 48), by omega, by go_num, by go_num, HM, by rw [← Nat.add_assoc]; exact HP.out⟩
          case measure => simp [intOf]; omega
        · have hdig : digB c = false := by
            unfold digB
            by_cases d1 : 48 ≤ c.toNat
            · rw [decide_eq_false (by omega : ¬ c.toNat ≤ 57), Bool.and_false]
            · rw [decide_eq_false d1, Bool.false_and]
          have HD := Lib.hid (rdigit_no c hdig)
          by_cases ha : 97 ≤ c.toNat ∧ c.toNat ≤ 102
          · have hx : hexv c.toNat = c.toNat - 87 := by unfold hexv; rw [if_neg hd, if_pos ha]
            rw [hx, if_pos (by omega)] at hp
            have HP := Lib.hid hp
            have HM : m * 16 + (c.toNat - 87) < 16 ^ (k + 1) := by omega
            obtain ⟨d1, d2⟩ := ha
            clear hp hc hx hdig hp16 hps hm hd
            go_wp2_with (go_at_call 53; refine (HD.out _).mono ?_; rintro e w' ⟨rfl, rfl⟩)
            go_round
            case rel => exact ⟨k + 1, m * 16 + (c.toNat - 87), by omega, by go_num, by go_num, HM, by rw [← Nat.add_assoc]; exact HP.out⟩
            case measure => simp [intOf]; omega
          · by_cases hA : 65 ≤ c.toNat ∧ c.toNat ≤ 70
            · have hx : hexv c.toNat = c.toNat - 55 := by unfold hexv; rw [if_neg hd, if_neg ha, if_pos hA]
              rw [hx, if_pos (by omega)] at hp
              have HP := Lib.hid hp
              have HM : m * 16 + (c.toNat - 55) < 16 ^ (k + 1) := by omega
              obtain ⟨d1, d2⟩ := hA
              have d3 : ¬ 97 ≤ c.toNat := by omega
              clear hp hc hx hdig hp16 hps hm hd ha
              go_wp2_with (go_at_call 53; refine (HD.out _).mono ?_; rintro e w' ⟨rfl, rfl⟩)
              go_round
              case rel => exact ⟨k + 1, m * 16 + (c.toNat - 55), by omega, by go_num, by go_num, HM, by rw [← Nat.add_assoc]; exact HP.out⟩
              case measure => simp [intOf]; omega
            · have hx : hexv c.toNat = 16 := by unfold hexv; rw [if_neg hd, if_neg ha, if_neg hA]
              rw [hx, if_neg (by omega)] at hp
              subst hp
              clear hc hx hdig hp16 hps hm hd
              by_cases d1 : 97 ≤ c.toNat <;> by_cases d2 : c.toNat ≤ 102 <;> by_cases d3 : 65 ≤ c.toNat <;> by_cases d4 : c.toNat ≤ 70 <;> first | (exfalso; omega) | skip
              all_goals
                clear ha hA
                go_wp2_with (go_at_call 53; refine (HD.out _).mono ?_; rintro e w' ⟨rfl, rfl⟩)
                go_ret
                exact ⟨rfl, rfl⟩
      · have hke : k = 4 := by omega
        subst hke
        rw [Nat.sub_self, List.take_zero] at hp
        unfold parse16 at hp
        subst hp
        go_wp2_with fail
        go_ret
        exact ⟨rfl, rfl⟩
  · rw [if_neg h4]
    go_enter Tryz.func47, Tryz.ntmps47
    go_wp2_with fail
    go_ret
    exact ⟨rfl, rfl⟩
end Go.Proofs.YtgbagdfcdljleaaGreatDoor.Ru
