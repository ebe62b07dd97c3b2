/-
  The reference's Valid and Count. · The reference's letter, digit, Name, hex. · Contracts of strconv.ParseUint at four bytes, base 16, 16 bits; of unit, joiner, long, escape, of package runes. · Contracts of the small functions of package runes and of its reference: letter, digit, Name. · Contracts of strconv.ParseUint (four hexadecimal digits), and of unit, joiner, long, escape, of package runes. · Contracts of joiner, long, escape, of package runes. · The contract of escape, of package runes. · What Unquote's loop does with each rune, as a plain function. · Plain facts on what is written and read between quotes: Unquote's loop as a recursion over the bytes; what is written reads as the text, whatever stands behind. · The contract of runes.Unquote. · What lies in memory between two rounds of Unquote's loop. · The contract of runes.Unquote, where a quote stands at the place. · The contracts of package runes at every input, and of the statements' helper 'wakes'. · What is written reads as the text, whatever stands behind; what is read is a text; what is written is one. · What reads between quotes is a text, of bounded length; two texts that are not the same are written otherwise. · How a text is written, byte by byte. Plain. · The contract of the reference's Quote.
-/
import Derived.Test.YtllkcldckehipaaGreatDoorGA
import Derived.Test.YtllkcldckehipaaGreatDoorHA
import Derived.Lib.ConvBytes
import Derived.Lib.SmallJoins
import Derived.Laws.Strings3
import Derived.Laws.Closers25
import Derived.Laws.Closers25b
import Derived.BigCall
import Derived.BigGuard
import Derived.Test.YtllkcldckehipaaGreatDoorProg
import Derived.WalkKit
import Derived.ProofKit
import Derived.Below
import Derived.Deep.QuietTactic
import Derived.BigQuiet
import Derived.Lib.Hide
import Derived.Handy
import Derived.WalkSmall
import Derived.WalkSpells
import Derived.Lib.Strings
import Derived.RegionTactic
import Derived.RegionIn
import Derived.Deep.AppendLies
import Derived.Laws.IdiomStrings
import Derived.Laws.OwnMore
set_option linter.unusedVariables false
set_option linter.unusedSimpArgs false
namespace Go.Proofs.YtllkcldckehipaaGreatDoor.Ru
open Go.RowKit

theorem oneL_bad {l : List UInt8} (h : bad l = true) : oneL l = (0, 0) := by
  unfold oneL
  split
  · rfl
  · rfl
theorem oneL_good {l : List UInt8} (h0 : l ≠ []) (h : bad l = false) : oneL l = Lib.decodeL l := by
  unfold oneL
  rw [if_neg h0, h]; rfl
theorem bad_size (s : ByteArray) (p : Nat) (hp : p < s.size) (h : bad (s.data.toList.drop p) = true) : (oneL (s.data.toList.drop p)) = (0, 0) := oneL_bad h
theorem good_size (s : ByteArray) (p : Nat) (hp : p < s.size) (h : bad (s.data.toList.drop p) = false) :
    ∃ r n : Nat, oneL (s.data.toList.drop p) = (r, n) ∧ 1 ≤ n ∧ p + n ≤ s.size ∧ r ≤ 1114111 ∧ Lib.validD (s.data.toList.drop p) = Lib.validD (s.data.toList.drop (p + n)) ∧
      (stepsP p (s.data.toList.drop p)) = (p, r) :: stepsP (p + n) (s.data.toList.drop (p + n)) := by
  have h0 := drop_ne s p hp
  have hw := Lib.decodeL_width (s.data.toList.drop p)
  have hl := Lib.decodeL_le (s.data.toList.drop p) h0
  rw [drop_len] at hl
  have hr := Lib.decodeL_rune (s.data.toList.drop p)
  have e1 := oneL_good h0 h
  have e2 := validD_bad h0
  have e3 := stepsP_good p h0 h
  rw [h, List.drop_drop] at e2
  rw [List.drop_drop] at e3
  generalize Lib.decodeL (s.data.toList.drop p) = d at *
  obtain ⟨r, n⟩ := d
  have hp2 : p + n ≤ s.size := by
    have : n ≤ s.size - p := hl
    omega
  exact ⟨r, n, e1, hw, hp2, hr, by simpa using e2, e3⟩

set_option maxHeartbeats 400000 in
theorem rvalid_any (s : ByteArray) (w : World) (h63 : s.size ≤ 4611686018427387904) :
    Calls Tryz.prog 28 #[.string s] w fun e w' => e = .returned (.bool (Lib.validD s.data.toList)) ∧ w = w' := by
  obtain ⟨V, hV⟩ : ∃ V, Lib.validD s.data.toList = V := ⟨_, rfl⟩
  rw [hV]
  have HV := Lib.hid hV
  clear hV
  go_enter Tryz.func28, Tryz.ntmps28
  go_wp2_with fail
  go_loop [3] (fun i => ∃ k : Nat, k ≤ s.size ∧ i = .int .i64 k ∧ Lib.validD (s.data.toList.drop k) = V) (fun i => s.size - (intOf i).toNat)
  case atStart => exact ⟨0, Nat.zero_le _, rfl, by rw [List.drop_zero]; exact HV.out⟩
  case round =>
    obtain ⟨k, hk, rfl, hv⟩ := hrel
    by_cases hlt : k < s.size
    · have hO := one_at s k hlt h63 w
      cases hb : bad (s.data.toList.drop k) with
      | true =>
        rw [bad_size s k hlt hb] at hO
        have HO := Lib.hid hO
        have e : V = false := by rw [← hv, validD_bad (drop_ne s k hlt), hb]; rfl
        clear hO hb hv
        subst e
        go_wp2_with (go_at_call 44; refine HO.out.mono ?_; rintro e w' ⟨rfl, rfl⟩; unfold pairV)
        go_ret
        exact ⟨rfl, rfl⟩
      | false =>
        obtain ⟨r, n, h1, h2, h3, h4, h5, h6⟩ := good_size s k hlt hb
        rw [h1] at hO
        have HO := Lib.hid hO
        have H5 := Lib.hid (h5.symm.trans hv)
        clear hO hb hv h5 h6 h1
        have hn0 : ¬ n = 0 := by omega
        go_wp2_with (go_at_call 44; refine HO.out.mono ?_; rintro e w' ⟨rfl, rfl⟩; unfold pairV)
        go_round
        case rel => exact ⟨k + n, by omega, by go_num, H5.out⟩
        case measure => simp [intOf]; omega
    · have hke : k = s.size := by omega
      subst hke
      have e : V = true := by
        rw [← hv, List.drop_eq_nil_of_le (by rw [toList_length]; omega)]; rfl
      clear hv
      subst e
      go_wp2_with fail
      go_ret
      exact ⟨rfl, rfl⟩

end Go.Proofs.YtllkcldckehipaaGreatDoor.Ru

namespace Go.Proofs.YtllkcldckehipaaGreatDoor.Ru
open Go.RowKit

theorem hexd_nat : ∀ n : Fin 16, (hexd n.val).toNat = if n.val < 10 then 48 + n.val else 87 + n.val := by decide
set_option maxHeartbeats 1000000 in
theorem rhex_any (n : Nat) (h : n < 16) (w : World) : Calls Tryz.prog 71 #[.int .i64 n] w fun e w' => e = .returned (.int .u8 (hexd n).toNat) ∧ w = w' := by
  have e := hexd_nat ⟨n, h⟩
  dsimp only at e
  obtain ⟨X, hX⟩ : ∃ X, (hexd n).toNat = X := ⟨_, rfl⟩
  rw [hX] at e ⊢
  clear hX
  by_cases h1 : n < 10
  · rw [if_pos h1] at e
    subst e
    go_enter Tryz.func71, Tryz.ntmps71
    go_wp2
    go_ret
    exact ⟨ret_int (by first | omega | (simp; done) | (simp; omega)), rfl⟩
  · rw [if_neg h1] at e
    subst e
    go_enter Tryz.func71, Tryz.ntmps71
    go_wp2
    go_ret
    exact ⟨ret_int (by first | omega | (simp; done) | (simp; omega)), rfl⟩
end Go.Proofs.YtllkcldckehipaaGreatDoor.Ru

namespace Go.Proofs.YtllkcldckehipaaGreatDoor.Ru
open Go.RowKit Go.Shelf Go.Maps

/-- The value of a hexadecimal digit; 16: it is none. -/
def hexv (c : Nat) : Nat := if 48 ≤ c ∧ c ≤ 57 then c - 48 else if 97 ≤ c ∧ c ≤ 102 then c - 87 else if 65 ≤ c ∧ c ≤ 70 then c - 55 else 16
def parse16 : Nat → List UInt8 → Option Nat
  | acc, [] => some acc
  | acc, c :: t => if hexv c.toNat < 16 then parse16 (acc * 16 + hexv c.toNat) t else none
set_option maxRecDepth 100000 in
theorem or32 : ∀ X : Fin 256, bits .or .u8 ((X.val : Nat) : Int) 32 = (((X.val ||| 32 : Nat)) : Int) := by decide
set_option maxRecDepth 100000 in
theorem or32_lo : ∀ X : Fin 256, 97 ≤ X.val → X.val ≤ 122 → X.val ||| 32 = X.val := by decide
set_option maxRecDepth 100000 in
theorem or32_up : ∀ X : Fin 256, 65 ≤ X.val → X.val ≤ 90 → X.val ||| 32 = X.val + 32 := by decide
set_option maxRecDepth 100000 in
theorem or32_no : ∀ X : Fin 256, ¬ (97 ≤ X.val ∧ X.val ≤ 122) → ¬ (65 ≤ X.val ∧ X.val ≤ 90) → ¬ (97 ≤ X.val ||| 32 ∧ X.val ||| 32 ≤ 122) := by decide
set_option maxRecDepth 100000 in
theorem or32_le : ∀ X : Fin 256, X.val ||| 32 ≤ 255 := by decide

end Go.Proofs.YtllkcldckehipaaGreatDoor.Ru

namespace Go.Proofs.YtllkcldckehipaaGreatDoor.Ru
open Go.RowKit

/-- A byte is an ASCII letter. -/
def letB (c : UInt8) : Bool := (decide (97 ≤ c.toNat) && decide (c.toNat ≤ 122)) || (decide (65 ≤ c.toNat) && decide (c.toNat ≤ 90))
def digB (c : UInt8) : Bool := decide (48 ≤ c.toNat) && decide (c.toNat ≤ 57)
/-- The bytes are a name. -/
def nameB (l : List UInt8) : Bool := decide (1 ≤ l.length) && decide (l.length ≤ 32) && (letB (l.getD 0 0) && l.all fun c => letB c || digB c)

theorem nameB_short {l : List UInt8} (h : l.length < 1) : nameB l = false := by
  unfold nameB; rw [decide_eq_false (by omega)]; rfl
theorem nameB_long {l : List UInt8} (h : 32 < l.length) : nameB l = false := by
  unfold nameB; rw [decide_eq_false (by omega : ¬ l.length ≤ 32)]; simp
theorem nameB_head {l : List UInt8} {c : UInt8} (e : l.getD 0 0 = c) (h : letB c = false) : nameB l = false := by
  unfold nameB; rw [e, h]; simp
theorem ret_bool {a b : Bool} (h : a = b) : Ending.returned (.bool a) = .returned (.bool b) := by rw [h]
theorem ret_int {k : IntKind} {a b : Int} (h : a = b) : Ending.returned (.int k a) = .returned (.int k b) := by rw [h]
theorem toList_length (s : ByteArray) : s.data.toList.length = s.size := by rw [Array.length_toList]; rfl
theorem toList_getElem (s : ByteArray) (k : Nat) (h : k < s.size) : s.data.toList[k]? = some s[k] := by
  rw [List.getElem?_eq_getElem (by rw [toList_length]; exact h)]; rfl
theorem take_snoc (s : ByteArray) (k : Nat) (h : k < s.size) : s.data.toList.take (k + 1) = s.data.toList.take k ++ [s[k]] := by
  rw [List.take_succ_eq_append_getElem (by simpa using h)]; rfl
theorem nameB_first (s : ByteArray) (h0 : 0 < s.size) : s.data.toList.getD 0 0 = s[0] := by
  rw [List.getD, toList_getElem s 0 h0]; rfl

end Go.Proofs.YtllkcldckehipaaGreatDoor.Ru

namespace Go.Proofs.YtllkcldckehipaaGreatDoor.Ru
open Go.RowKit Go.Shelf Go.Maps

/-- A '\u' and four hexadecimal digits at the head: their number. -/
def unitL : List UInt8 → Option Nat
  | x :: y :: a :: b :: c :: d :: _ => if x = 92 ∧ y = 117 then parse16 0 [a, b, c, d] else none
  | _ => none
def unitRes : Option Nat → Value
  | some n => .tuple #[.int .i64 n, .bool true]
  | none => .tuple #[.int .i64 0, .bool false]

theorem unitL_short {l : List UInt8} (h : l.length < 6) : unitL l = none := by
  unfold unitL
  split
  · simp at h
    omega
  · rfl
theorem unitL_long {l : List UInt8} (h : 6 ≤ l.length) : unitL l = if l.getD 0 0 = 92 ∧ l.getD 1 0 = 117 then parse16 0 ((l.drop 2).take 4) else none := by
  match l, h with
  | x :: y :: a :: b :: c :: d :: t, _ => simp [unitL]
theorem parse16_lt : ∀ (l : List UInt8) (acc n : Nat), parse16 acc l = some n → n < (acc + 1) * 16 ^ l.length
  | [], acc, n, h => by simp [parse16] at h; simp; omega
  | c :: t, acc, n, h => by
    unfold parse16 at h
    split at h
    · have := parse16_lt t _ _ h
      have e : 16 ^ (c :: t).length = 16 * 16 ^ t.length := by rw [List.length_cons, Nat.pow_succ, Nat.mul_comm]
      rw [e, ← Nat.mul_assoc]
      refine Nat.lt_of_lt_of_le this (Nat.mul_le_mul_right _ ?_)
      omega
    · cases h
theorem unitL_lt {l : List UInt8} {n : Nat} (h : unitL l = some n) : n < 65536 := by
  unfold unitL at h
  split at h
  · split at h
    · have := parse16_lt _ _ _ h
      simpa using this
    · cases h
  · cases h

end Go.Proofs.YtllkcldckehipaaGreatDoor.Ru

namespace Go.Proofs.YtllkcldckehipaaGreatDoor.Ru
open Go.RowKit Go.Shelf Go.Maps

def isFst (u : Nat) : Bool := decide (55296 ≤ u) && decide (u ≤ 56319)
def isSnd (u : Nat) : Bool := decide (56320 ≤ u) && decide (u ≤ 57343)

section
variable (u N : Nat) (hu : u < 65536) (W : World)
set_option maxHeartbeats 1000000 in
include hu in
set_option maxHeartbeats 1000000 in
include hu in
set_option maxHeartbeats 1000000 in
include hu in
set_option maxHeartbeats 1000000 in
include hu in
set_option maxHeartbeats 1000000 in
include hu in
end

/-- A rune's '\u', or its two: the rune, and how many bytes. -/
def longL (l : List UInt8) : Option (Nat × Nat) :=
  match unitL l with
  | none => none
  | some u =>
    if isFst u then
      match unitL (l.drop 6) with
      | none => none
      | some v => if isSnd v then some (65536 + (u - 55296) * 1024 + (v - 56320), 12) else none
    else if isSnd u then none else some (u, 6)
def pairRes (p : Nat) : Option (Nat × Nat) → Value
  | some x => .tuple #[.int .i64 x.1, .int .i64 ((p + x.2 : Nat) : Int)]
  | none => .tuple #[.int .i64 0, .int .i64 0]
theorem unitL_some_le {l : List UInt8} {n : Nat} (h : unitL l = some n) : 6 ≤ l.length := by
  rcases Nat.lt_or_ge l.length 6 with h' | h'
  · rw [unitL_short h'] at h; cases h
  · exact h'
theorem longL_rune {l : List UInt8} {r k : Nat} (h : longL l = some (r, k)) : r ≤ 1114111 ∧ (r < 55296 ∨ 57343 < r) ∧ (k = 6 ∨ k = 12) := by
  unfold longL at h
  split at h
  · cases h
  · rename_i u hu
    have hul := unitL_lt hu
    split at h
    · rename_i hf
      split at h
      · cases h
      · rename_i v hv
        split at h
        · rename_i hs
          simp only [Option.some.injEq, Prod.mk.injEq] at h
          obtain ⟨h1, h2⟩ := h
          simp [isFst] at hf
          simp [isSnd] at hs
          omega
        · cases h
    · rename_i hf
      split at h
      · cases h
      · rename_i hs
        simp only [Option.some.injEq, Prod.mk.injEq] at h
        obtain ⟨h1, h2⟩ := h
        simp [isFst] at hf
        simp [isSnd] at hs
        omega

/-- What the loop of long holds at a round's head. -/
def LongAt (l : List UInt8) (p N : Nat) (at' r : Int) (W : World) : Prop :=
  (r = -1 ∧ at' = p ∧ Boxed W N 3 (.int .i64 0)) ∨
  (∃ f, r = -1 ∧ at' = ((p + 6 : Nat) : Int) ∧ Boxed W N 3 (.int .i64 (f : Nat)) ∧ isFst f = true ∧ unitL l = some f) ∨
  (r = -2 ∧ longL l = none) ∨
  (∃ rr k : Nat, r = rr ∧ at' = ((p + k : Nat) : Int) ∧ longL l = some (rr, k))

end Go.Proofs.YtllkcldckehipaaGreatDoor.Ru

namespace Go.Proofs.YtllkcldckehipaaGreatDoor.Ru
open Go.RowKit Go.Shelf Go.Maps

/-- The rune that a letter behind a backslash stands for; 0: none. -/
def meanN (c : Nat) : Nat := if c = 47 then 47 else if c = 98 then 8 else if c = 116 then 9 else if c = 110 then 10 else if c = 102 then 12 else if c = 114 then 13 else if c = 34 then 34 else if c = 92 then 92 else 0
/-- An escape: the rune, and how many bytes. (The first byte is not looked at but by 'long'.) -/
def escL (l : List UInt8) : Option (Nat × Nat) :=
  match l with
  | _ :: c :: _ => if c = 117 then longL l else if meanN c.toNat ≠ 0 then some (meanN c.toNat, 2) else none
  | _ => none

theorem escL_eq {l : List UInt8} (h : 2 ≤ l.length) : escL l = if l.getD 1 0 = 117 then longL l else if meanN (l.getD 1 0).toNat ≠ 0 then some (meanN (l.getD 1 0).toNat, 2) else none := by
  match l, h with
  | x :: c :: t, _ => rfl
theorem escL_short {l : List UInt8} (h : l.length < 2) : escL l = none := by
  match l, h with
  | [], _ => rfl
  | [x], _ => rfl

theorem meanN_le (c : Nat) : meanN c ≤ 92 := by
  unfold meanN
  (repeat' split) <;> decide
theorem escL_rune {l : List UInt8} {y : Nat × Nat} (h : escL l = some y) : y.1 ≤ 1114111 ∧ (y.1 < 55296 ∨ 57343 < y.1) ∧ (y.2 = 2 ∨ y.2 = 6 ∨ y.2 = 12) := by
  unfold escL at h
  split at h
  · split at h
    · obtain ⟨h1, h2, h3⟩ := longL_rune (r := y.1) (k := y.2) h
      exact ⟨h1, h2, .inr h3⟩
    · rename_i c _ _
      split at h
      · have := meanN_le c.toNat
        simp only [Option.some.injEq] at h
        subst h
        exact ⟨Nat.le_trans this (by decide), .inl (Nat.lt_of_le_of_lt this (by decide)), .inl rfl⟩
      · cases h
  · cases h

end Go.Proofs.YtllkcldckehipaaGreatDoor.Ru

namespace Go.Proofs.YtllkcldckehipaaGreatDoor.Ru
open Go.RowKit Go.Shelf Go.Maps

theorem decodeL_valid (l : List UInt8) : (Lib.decodeL l).1 < 55296 ∨ 57343 < (Lib.decodeL l).1 := by
  rw [Lib.decodeL_N]
  have h0 := (l.getD 0 0).toNat_lt
  unfold Lib.decodeN
  repeat' split
  all_goals (simp only; omega)
theorem runeLen_enc (r : Nat) (h : r ≤ 1114111) (hv : r < 55296 ∨ 57343 < r) : Lib.runeLen r = ((Lib.encodeRune r).length : Int) := by
  unfold Lib.runeLen Lib.encodeRune Lib.encodeRuneZ
  rw [List.length_map]
  repeat' split
  all_goals first | rfl | (exfalso; omega)

abbrev UAns := List UInt8 × Nat × Nat
/-- One rune of the loop: what is read so far and where it goes on; or the answer. -/
def stepU (L : List UInt8) (p : Nat) (st : Nat × List UInt8) (x : Nat × Nat) : (Nat × List UInt8) ⊕ UAns :=
  if p + 1 + x.1 < st.1 then .inl st
  else if x.2 = 34 then .inr (st.2, p + 1 + x.1 + 1, 0)
  else if x.2 < 32 then .inr ([], p + 1 + x.1, 10)
  else if x.2 = 92 then
    match escL (L.drop (p + 1 + x.1)) with
    | none => .inr ([], p + 1 + x.1, 10)
    | some y => .inl (p + 1 + x.1 + y.2, st.2 ++ Lib.encodeRune y.1)
  else .inl (p + 1 + x.1 + (Lib.encodeRune x.2).length, st.2 ++ Lib.encodeRune x.2)
def foldU (L : List UInt8) (p : Nat) : (Nat × List UInt8) → List (Nat × Nat) → (Nat × List UInt8) ⊕ UAns
  | st, [] => .inl st
  | st, x :: xs => match stepU L p st x with
    | .inl st' => foldU L p st' xs
    | .inr a => .inr a
theorem foldU_snoc (L : List UInt8) (p : Nat) (x : Nat × Nat) : ∀ (xs : List (Nat × Nat)) (st : Nat × List UInt8), foldU L p st (xs ++ [x]) = match foldU L p st xs with
    | .inl st' => stepU L p st' x
    | .inr a => .inr a
  | [], st => by
    simp only [List.nil_append, foldU]
    cases stepU L p st x <;> rfl
  | y :: xs, st => by
    simp only [List.cons_append, foldU]
    cases stepU L p st y with
    | inl st' => exact foldU_snoc L p x xs st'
    | inr a => rfl
theorem foldU_app (L : List UInt8) (p : Nat) (a : UAns) (ys : List (Nat × Nat)) : ∀ (xs : List (Nat × Nat)) (st : Nat × List UInt8), foldU L p st xs = .inr a → foldU L p st (xs ++ ys) = .inr a
  | [], st, h => by cases h
  | y :: xs, st, h => by
    unfold foldU at h
    simp only [List.cons_append, foldU]
    cases hs : stepU L p st y with
    | inl st' =>
      rw [hs] at h
      exact foldU_app L p a ys xs st' h
    | inr b =>
      rw [hs] at h
      exact h
theorem enc_le (r : Nat) : (Lib.encodeRune r).length ≤ 4 := by
  have := Lib.runeCells_le r
  rw [Lib.runeCells_length] at this
  omega
theorem foldU_len (L : List UInt8) (p : Nat) : ∀ (xs : List (Nat × Nat)) (st st' : Nat × List UInt8), foldU L p st xs = .inl st' → st'.2.length ≤ st.2.length + 4 * xs.length
  | [], st, st', h => by cases h; simp
  | x :: xs, st, st', h => by
    unfold foldU at h
    split at h
    · rename_i st1 h1
      have ih := foldU_len L p xs st1 st' h
      have : st1.2.length ≤ st.2.length + 4 := by
        unfold stepU at h1
        split at h1
        · cases h1; omega
        split at h1
        · cases h1
        split at h1
        · cases h1
        split at h1
        · split at h1
          · cases h1
          · rename_i y _
            have := enc_le y.1
            cases h1
            simp only [List.length_append]; omega
        · have := enc_le x.2
          cases h1
          simp only [List.length_append]; omega
      simp only [List.length_cons]
      omega
    · cases h
/-- What is read between quotes from p on, in L: the text, the place, the error. -/
def unqL (L : List UInt8) (p : Nat) : UAns :=
  match foldU L p (p + 1, []) (steps (L.drop (p + 1))) with
  | .inl st => ([], st.1, 10)
  | .inr a => a
def ansV (a : UAns) : Value := .tuple #[.string ⟨a.1.toArray⟩, .int .i64 (a.2.1 : Nat), .int .i64 (a.2.2 : Nat)]
end Go.Proofs.YtllkcldckehipaaGreatDoor.Ru

namespace Go.Proofs.YtllkcldckehipaaGreatDoor.Ru
open Go.Lib

set_option maxHeartbeats 4000000 in
set_option maxRecDepth 100000 in
theorem decodeN_same (n n' b0 b1 b2 b3 c1 c2 c3 : Nat) (hg : ¬ ((decodeN n b0 b1 b2 b3).1 = 65533 ∧ (decodeN n b0 b1 b2 b3).2 = 1)) (hn : (decodeN n b0 b1 b2 b3).2 ≤ n')
    (h1 : 1 < (decodeN n b0 b1 b2 b3).2 → c1 = b1) (h2 : 2 < (decodeN n b0 b1 b2 b3).2 → c2 = b2) (h3 : 3 < (decodeN n b0 b1 b2 b3).2 → c3 = b3) : decodeN n' b0 c1 c2 c3 = decodeN n b0 b1 b2 b3 := by
  by_cases q0 : b0 < 128
  · simp [decodeN, q0]
  by_cases q1 : b0 / 32 = 6 ∧ (1 < n ∧ b1 / 64 = 2)
  · by_cases qv : b0 % 32 * 64 + b1 % 64 ≥ 128
    · have e : decodeN n b0 b1 b2 b3 = (b0 % 32 * 64 + b1 % 64, 2) := by simp only [decodeN, if_neg q0, if_pos q1, if_pos qv]
      rw [e] at hn h1 ⊢
      have e1 := h1 (by simp)
      subst e1
      have q1' : b0 / 32 = 6 ∧ (1 < n' ∧ c1 / 64 = 2) := ⟨q1.1, hn, q1.2.2⟩
      simp only [decodeN, if_neg q0, if_pos q1', if_pos qv]
    · exact absurd (by simp only [decodeN, if_neg q0, if_pos q1, if_neg qv]; trivial) hg
  by_cases q2 : b0 / 16 = 14 ∧ (1 < n ∧ b1 / 64 = 2) ∧ (2 < n ∧ b2 / 64 = 2)
  · by_cases qv : b0 % 16 * 4096 + b1 % 64 * 64 + b2 % 64 ≥ 2048 ∧ (b0 % 16 * 4096 + b1 % 64 * 64 + b2 % 64 < 55296 ∨ (57344 ≤ b0 % 16 * 4096 + b1 % 64 * 64 + b2 % 64 ∧ b0 % 16 * 4096 + b1 % 64 * 64 + b2 % 64 ≤ 1114111))
    · have e : decodeN n b0 b1 b2 b3 = (b0 % 16 * 4096 + b1 % 64 * 64 + b2 % 64, 3) := by simp only [decodeN, if_neg q0, if_neg q1, if_pos q2, if_pos qv]
      rw [e] at hn h1 h2 ⊢
      have e1 := h1 (by simp)
      have e2 := h2 (by simp)
      subst e1 e2
      have q2' : b0 / 16 = 14 ∧ (1 < n' ∧ c1 / 64 = 2) ∧ (2 < n' ∧ c2 / 64 = 2) := ⟨q2.1, ⟨by simp at hn; omega, q2.2.1.2⟩, hn, q2.2.2.2⟩
      have q1' : ¬ (b0 / 32 = 6 ∧ (1 < n' ∧ c1 / 64 = 2)) := by omega
      simp only [decodeN, if_neg q0, if_neg q1', if_pos q2', if_pos qv]
    · exact absurd (by simp only [decodeN, if_neg q0, if_neg q1, if_pos q2, if_neg qv]; trivial) hg
  by_cases q3 : b0 / 8 = 30 ∧ (1 < n ∧ b1 / 64 = 2) ∧ (2 < n ∧ b2 / 64 = 2) ∧ (3 < n ∧ b3 / 64 = 2)
  · by_cases qv : b0 % 8 * 262144 + b1 % 64 * 4096 + b2 % 64 * 64 + b3 % 64 ≥ 65536 ∧ (b0 % 8 * 262144 + b1 % 64 * 4096 + b2 % 64 * 64 + b3 % 64 < 55296 ∨ (57344 ≤ b0 % 8 * 262144 + b1 % 64 * 4096 + b2 % 64 * 64 + b3 % 64 ∧ b0 % 8 * 262144 + b1 % 64 * 4096 + b2 % 64 * 64 + b3 % 64 ≤ 1114111))
    · have e : decodeN n b0 b1 b2 b3 = (b0 % 8 * 262144 + b1 % 64 * 4096 + b2 % 64 * 64 + b3 % 64, 4) := by simp only [decodeN, if_neg q0, if_neg q1, if_neg q2, if_pos q3, if_pos qv]
      rw [e] at hn h1 h2 h3 ⊢
      have e1 := h1 (by simp)
      have e2 := h2 (by simp)
      have e3 := h3 (by simp)
      subst e1 e2 e3
      have hn4 : 4 ≤ n' := hn
      have q3' : b0 / 8 = 30 ∧ (1 < n' ∧ c1 / 64 = 2) ∧ (2 < n' ∧ c2 / 64 = 2) ∧ (3 < n' ∧ c3 / 64 = 2) := ⟨q3.1, ⟨by omega, q3.2.1.2⟩, ⟨by omega, q3.2.2.1.2⟩, by omega, q3.2.2.2.2⟩
      have q1' : ¬ (b0 / 32 = 6 ∧ (1 < n' ∧ c1 / 64 = 2)) := by omega
      have q2' : ¬ (b0 / 16 = 14 ∧ (1 < n' ∧ c1 / 64 = 2) ∧ (2 < n' ∧ c2 / 64 = 2)) := by omega
      simp only [decodeN, if_neg q0, if_neg q1', if_neg q2', if_pos q3', if_pos qv]
    · exact absurd (by simp only [decodeN, if_neg q0, if_neg q1, if_neg q2, if_pos q3, if_neg qv]; trivial) hg
  · exact absurd (by simp only [decodeN, if_neg q0, if_neg q1, if_neg q2, if_neg q3]; trivial) hg

/-- A rune's bytes decide. -/
theorem dec_take {l : List UInt8} (h0 : l ≠ []) (h : bad l = false) (m : List UInt8) : decodeL (l.take (decodeL l).2 ++ m) = decodeL l ∧ bad (l.take (decodeL l).2 ++ m) = false := by
  have hb := bad_false h
  have hle := decodeL_le l h0
  have hw := decodeL_width l
  have e : decodeL (l.take (decodeL l).2 ++ m) = decodeL l := by
    have g : ∀ i, i < (decodeL l).2 → (l.take (decodeL l).2 ++ m).getD i 0 = l.getD i 0 := fun i hi => by
      rw [List.getD, List.getD, List.getElem?_append_left (by rw [List.length_take]; omega), List.getElem?_take_of_lt hi]
    have g0 := g 0 (by omega)
    have hlen : (decodeL l).2 ≤ (l.take (decodeL l).2 ++ m).length := by rw [List.length_append, List.length_take]; omega
    rw [decodeL_N (l.take (decodeL l).2 ++ m), g0]
    rw [decodeL_N l] at hb hlen g ⊢
    exact decodeN_same _ _ _ _ _ _ _ _ _ hb hlen (fun h => by rw [g 1 h]) (fun h => by rw [g 2 h]) (fun h => by rw [g 3 h])
  refine ⟨e, ?_⟩
  unfold bad
  rw [e]
  exact decide_eq_false hb

/-- What is read between quotes, byte by byte. -/
def uqR : Nat → List UInt8 → Nat → List UInt8 → UAns
  | 0, _, q, _ => ([], q, 10)
  | n + 1, l, q, acc =>
    if l = [] then ([], q, 10) else if bad l then ([], q, 10)
    else if (decodeL l).1 = 34 then (acc, q + 1, 0)
    else if (decodeL l).1 < 32 then ([], q, 10)
    else if (decodeL l).1 = 92 then
      match escL l with
      | none => ([], q, 10)
      | some y => uqR n (l.drop y.2) (q + y.2) (acc ++ encodeRune y.1)
    else uqR n (l.drop (decodeL l).2) (q + (decodeL l).2) (acc ++ encodeRune (decodeL l).1)
def finU : (Nat × List UInt8) ⊕ UAns → UAns
  | .inl st => ([], st.1, 10)
  | .inr a => a

theorem hexv_ascii {c : Nat} (h : hexv c < 16) : c < 128 := by
  unfold hexv at h
  (repeat' split at h) <;> omega
theorem unitL_ascii {l : List UInt8} {n : Nat} (h : unitL l = some n) : ∀ c ∈ l.take 6, c.toNat < 128 := by
  unfold unitL at h
  split at h
  · rename_i x y a b c d t
    split at h
    · rename_i hxy
      obtain ⟨rfl, rfl⟩ := hxy
      have step : ∀ {acc : Nat} {c : UInt8} {t : List UInt8} {m : Nat}, parse16 acc (c :: t) = some m → c.toNat < 128 ∧ ∃ acc', parse16 acc' t = some m := by
        intro acc c t m h
        unfold parse16 at h
        split at h
        · rename_i hx; exact ⟨hexv_ascii hx, _, h⟩
        · cases h
      obtain ⟨ha, _, h⟩ := step h
      obtain ⟨hb, _, h⟩ := step h
      obtain ⟨hc, _, h⟩ := step h
      obtain ⟨hd, _, h⟩ := step h
      intro z hz
      simp only [List.take_succ_cons, List.take_zero, List.mem_cons, List.not_mem_nil, or_false] at hz
      rcases hz with rfl | rfl | rfl | rfl | rfl | rfl
      · decide
      · decide
      · exact ha
      · exact hb
      · exact hc
      · exact hd
    · cases h
  · cases h
theorem longL_ascii {l : List UInt8} {y : Nat × Nat} (h : longL l = some y) : y.2 ≤ l.length ∧ ∀ c ∈ l.take y.2, c.toNat < 128 := by
  unfold longL at h
  split at h
  · cases h
  · rename_i u hu
    have h1 := unitL_ascii hu
    have h2 := unitL_some_le hu
    split at h
    · split at h
      · cases h
      · rename_i v hv
        have h3 := unitL_ascii hv
        have h4 := unitL_some_le hv
        rw [List.length_drop] at h4
        split at h
        · simp only [Option.some.injEq] at h
          subst h
          refine ⟨by omega, fun c hc => ?_⟩
          rw [show (12 : Nat) = 6 + 6 from rfl, List.take_add] at hc
          rcases List.mem_append.1 hc with hc | hc
          · exact h1 c hc
          · exact h3 c hc
        · cases h
    · split at h
      · cases h
      · simp only [Option.some.injEq] at h
        subst h
        exact ⟨h2, h1⟩
theorem meanN_ascii {c : Nat} (h : meanN c ≠ 0) : c < 128 := by
  unfold meanN at h
  (repeat' split at h) <;> omega
theorem escL_ascii {l : List UInt8} {y : Nat × Nat} (h : escL l = some y) (h0 : ∀ c ∈ l.take 1, c.toNat < 128) : y.2 ≤ l.length ∧ (∀ c ∈ l.take y.2, c.toNat < 128) ∧ 2 ≤ y.2 := by
  have h2 := (escL_rune h).2.2
  unfold escL at h
  split at h
  · rename_i x c t
    split at h
    · obtain ⟨a, b⟩ := longL_ascii h
      exact ⟨a, b, by omega⟩
    · split at h
      · rename_i hm
        simp only [Option.some.injEq] at h
        subst h
        refine ⟨by simp, fun z hz => ?_, Nat.le_refl _⟩
        simp only [List.take_succ_cons, List.take_zero, List.mem_cons, List.not_mem_nil, or_false] at hz
        rcases hz with rfl | rfl
        · exact h0 _ (by simp)
        · exact meanN_ascii hm
      · cases h
  · cases h

theorem finU_eq (L : List UInt8) (p : Nat) : unqL L p = finU (foldU L p (p + 1, []) (steps (L.drop (p + 1)))) := by
  unfold unqL finU
  split <;> simp_all

/-- Steps that lie within what has been read are passed over. -/
theorem fold_skip (L : List UInt8) (p : Nat) (acc : List UInt8) : ∀ (d i : Nat) (l : List UInt8), d ≤ l.length → (∀ c ∈ l.take d, c.toNat < 128) →
    foldU L p (p + 1 + i + d, acc) (stepsP i l) = foldU L p (p + 1 + i + d, acc) (stepsP (i + d) (l.drop d))
  | 0, i, l, _, _ => by simp
  | d + 1, i, [], h, _ => by simp at h
  | d + 1, i, c :: t, h, ha => by
    have hc : c.toNat < 128 := ha c (by simp)
    rw [stepsP_ascii t hc, List.drop_succ_cons]
    have e1 : stepU L p (p + 1 + i + (d + 1), acc) (i, c.toNat) = .inl (p + 1 + i + (d + 1), acc) := by
      unfold stepU
      rw [if_pos (by simp only; omega)]
    have e2 : foldU L p (p + 1 + i + (d + 1), acc) ((i, c.toNat) :: stepsP (i + 1) t) = foldU L p (p + 1 + i + (d + 1), acc) (stepsP (i + 1) t) := by
      rw [foldU, e1]
    rw [e2, show p + 1 + i + (d + 1) = p + 1 + (i + 1) + d by omega, fold_skip L p acc d (i + 1) t (by simpa using h) (fun z hz => ha z (by simp [hz])), show i + (d + 1) = i + 1 + d by omega]

theorem take_append_enc {l : List UInt8} (h0 : l ≠ []) (hb : bad l = false) : (encodeRune ((decodeL l).1 : Int)) = l.take (decodeL l).2 ∧ (encodeRune ((decodeL l).1 : Int)).length = (decodeL l).2 := by
  have e := encode_decode l h0 (bad_false hb)
  refine ⟨e, ?_⟩
  rw [e, List.length_take]
  have := decodeL_le l h0
  omega

theorem head_ascii {l : List UInt8} (h0 : l ≠ []) (hb : bad l = false) {r : Nat} (hr : (decodeL l).1 = r) (h : r < 128) : ∃ t, l = r.toUInt8 :: t ∧ (decodeL l).2 = 1 := by
  have e := (take_append_enc h0 hb).1
  rw [hr] at e
  have e2 : encodeRune (r : Int) = [r.toUInt8] := by
    unfold encodeRune
    rw [encodeRuneZ_one (by omega) (by omega)]
    simp
  have hk := (take_append_enc h0 hb).2
  rw [hr, e2] at hk
  rw [e2, ← hk] at e
  match l, h0 with
  | c :: t, _ =>
    simp at e
    exact ⟨t, by rw [show r.toUInt8 = c from e], hk.symm⟩

/-- THE LOOP IS THE RECURSION. -/
theorem fold_uqR (L : List UInt8) (p : Nat) : ∀ (n i : Nat) (acc : List UInt8), (L.drop (p + 1 + i)).length ≤ n →
    finU (foldU L p (p + 1 + i, acc) (stepsP i (L.drop (p + 1 + i)))) = uqR (n + 1) (L.drop (p + 1 + i)) (p + 1 + i) acc := by
  intro n
  induction n with
  | zero =>
    intro i acc hn
    have : L.drop (p + 1 + i) = [] := List.eq_nil_of_length_eq_zero (by omega)
    rw [this]
    rfl
  | succ n ih =>
    intro i acc hn
    generalize hl : L.drop (p + 1 + i) = l at hn
    rw [uqR]
    by_cases h0 : l = []
    · rw [if_pos h0, h0]; rfl
    rw [if_neg h0]
    cases hb : bad l with
    | true =>
      rw [if_pos rfl, stepsP_bad i hb]; rfl
    | false =>
      rw [if_neg (by simp)]
      have hw := decodeL_width l
      have hle := decodeL_le l h0
      have hpos := List.length_pos_iff.2 h0
      rw [stepsP_good i h0 hb, foldU]
      by_cases h34 : (decodeL l).1 = 34
      · have : stepU L p (p + 1 + i, acc) (i, (decodeL l).1) = .inr (acc, p + 1 + i + 1, 0) := by
          unfold stepU; rw [if_neg (by simp), if_pos h34]
        rw [this, if_pos h34]; rfl
      rw [if_neg h34]
      by_cases h32 : (decodeL l).1 < 32
      · have : stepU L p (p + 1 + i, acc) (i, (decodeL l).1) = .inr ([], p + 1 + i, 10) := by
          unfold stepU; rw [if_neg (by simp), if_neg h34, if_pos h32]
        rw [this, if_pos h32]; rfl
      rw [if_neg h32]
      by_cases h92 : (decodeL l).1 = 92
      · rw [if_pos h92]
        obtain ⟨t, ht, hk1⟩ := head_ascii h0 hb h92 (by decide)
        cases he : escL l with
        | none =>
          have : stepU L p (p + 1 + i, acc) (i, (decodeL l).1) = .inr ([], p + 1 + i, 10) := by
            unfold stepU; rw [if_neg (by simp), if_neg h34, if_neg h32, if_pos h92]; simp only [hl, he]
          rw [this]; rfl
        | some y =>
          have : stepU L p (p + 1 + i, acc) (i, (decodeL l).1) = .inl (p + 1 + i + y.2, acc ++ encodeRune y.1) := by
            unfold stepU; rw [if_neg (by simp), if_neg h34, if_neg h32, if_pos h92]; simp only [hl, he]
          rw [this]
          obtain ⟨hy1, hy2, hy3⟩ := escL_ascii he (fun c hc => by rw [ht] at hc; simp at hc; subst hc; decide)
          have hd1 : l.drop 1 = t := by rw [ht]; rfl
          have sk := fold_skip L p (acc ++ encodeRune y.1) (y.2 - 1) (i + 1) (l.drop 1) (by rw [List.length_drop]; omega) (fun c hc => hy2 c (by
            have : l.take y.2 = l.take 1 ++ (l.drop 1).take (y.2 - 1) := by rw [← List.take_add]; congr 1; omega
            rw [this]; exact List.mem_append_right _ hc))
          rw [show p + 1 + (i + 1) + (y.2 - 1) = p + 1 + i + y.2 by omega, show i + 1 + (y.2 - 1) = i + y.2 by omega, List.drop_drop, show 1 + (y.2 - 1) = y.2 by omega] at sk
          have hdl : l.drop y.2 = L.drop (p + 1 + (i + y.2)) := by rw [← hl, List.drop_drop]; congr 1; omega
          have ih2 := ih (i + y.2) (acc ++ encodeRune y.1) (by rw [← hdl, List.length_drop]; omega)
          rw [← hdl] at ih2
          rw [show p + 1 + (i + y.2) = p + 1 + i + y.2 by omega] at ih2
          show finU (foldU L p (p + 1 + i + y.2, acc ++ encodeRune y.1) (stepsP (i + (decodeL l).2) (l.drop (decodeL l).2))) = _
          rw [hk1, sk]
          exact ih2
      · rw [if_neg h92]
        obtain ⟨_, hel⟩ := take_append_enc h0 hb
        have : stepU L p (p + 1 + i, acc) (i, (decodeL l).1) = .inl (p + 1 + i + (decodeL l).2, acc ++ encodeRune (decodeL l).1) := by
          unfold stepU; rw [if_neg (by simp), if_neg h34, if_neg h32, if_neg h92]; simp only [hel]
        rw [this]
        have hdl : l.drop (decodeL l).2 = L.drop (p + 1 + (i + (decodeL l).2)) := by rw [← hl, List.drop_drop]; congr 1; omega
        have ih2 := ih (i + (decodeL l).2) (acc ++ encodeRune (decodeL l).1) (by rw [← hdl, List.length_drop]; omega)
        rw [← hdl] at ih2
        rw [show p + 1 + (i + (decodeL l).2) = p + 1 + i + (decodeL l).2 by omega] at ih2
        exact ih2
theorem unqL_uqR (L : List UInt8) (p n : Nat) (hn : L.length ≤ n) : unqL L p = uqR (n + 1) (L.drop (p + 1)) (p + 1) [] := by
  rw [finU_eq]
  have h := fold_uqR L p n 0 [] (by rw [List.length_drop]; omega)
  rw [Nat.add_zero] at h
  exact h
end Go.Proofs.YtllkcldckehipaaGreatDoor.Ru

namespace Go.Proofs.YtllkcldckehipaaGreatDoor.Ru
open Go.RowKit Go.Shelf Go.Maps
attribute [local go_sem] Oper.semAt_some

end Go.Proofs.YtllkcldckehipaaGreatDoor.Ru

namespace Go.Proofs.YtllkcldckehipaaGreatDoor.Ru
open Go.RowKit Go.Shelf Go.Maps

/-- Behind a return: the results. -/
def UA (w : World) (a : UAns) (W : World) : Prop :=
  (Boxed W (w.heap.size + 1 + 1) 9 (.string ⟨a.1.toArray⟩) ∧ Boxed W (w.heap.size + 1 + 1 + 1) 3 (.int .i64 (a.2.1 : Nat)) ∧ Boxed W (w.heap.size + 1 + 1 + 1 + 1) 29 (.int .i64 (a.2.2 : Nat))) ∧ Below w.heap.size w W

section
variable {w : World} {s R : ByteArray} {p k nm : Nat} {D : DataW Unit} {st : Nat × List UInt8} {W W' : World}

theorem keeps_below (hb : Below W.heap.size W W') : KeepsOthers W W' :=
  ⟨hb.size, fun j o hj _ => (hb.block j (Array.getElem?_eq_some_iff.1 hj).1).trans hj⟩
theorem kpB_below {m B : Nat} (hb : Below W.heap.size W W') (hm : m ≤ W.heap.size) (hB : B < W.heap.size) : KpB m B W W' := ⟨hb.mono hm, hb.block B hB⟩
theorem ret_keeps (W : World) (A B C : Nat) (x y z : Value) : KeepsOthers W (((W.setCell ⟨A, 0, none⟩ x).setCell ⟨B, 0, none⟩ y).setCell ⟨C, 0, none⟩ z) :=
  ((KeepsOthers.setCell _ _ _).trans (KeepsOthers.setCell _ _ _)).trans (KeepsOthers.setCell _ _ _)
end

def UAo (w : World) (o : (Nat × List UInt8) ⊕ UAns) (W : World) : Prop :=
  match o with
  | .inl _ => False
  | .inr a => UA w a W
theorem UAo_own {β : Type} {w : World} {z : Nat} (f : β → (Nat × List UInt8) ⊕ UAns) (hz : w.heap.size ≤ z) (q : Prop) : OwnFrom z (fun x W => q ∧ UAo w (f x) W) := by
  intro x A C row hs hg hr
  refine ⟨hs.1, ?_⟩
  have hs' : UAo w (f x) A := hs.2
  unfold UAo at hs' ⊢
  split
  · rename_i st hst
    rw [hst] at hs'
    exact hs'
  · rename_i a ha
    rw [ha] at hs'
    obtain ⟨⟨h1, h2, h3⟩, h4⟩ := hs'
    have hb : ∀ {N : Nat} {t : TypeId} {v : Value}, Boxed A N t v → Boxed C N t v := fun {N t v} hN =>
      hN.kept hg (fun e => by
        obtain ⟨_, o, ho, hc⟩ := hr _ e.symm
        rw [show A.heap[N]? = _ from hN] at ho
        cases ho; cases hc)
    exact ⟨⟨hb h1, hb h2, hb h3⟩, h4.grown hg h4.size (fun r e => by have := (hr r e).1; omega)⟩
end Go.Proofs.YtllkcldckehipaaGreatDoor.Ru

namespace Go.Proofs.YtllkcldckehipaaGreatDoor.Ru
open Go.RowKit Go.Shelf Go.Maps
attribute [local go_sem] Oper.semAt_some

end Go.Proofs.YtllkcldckehipaaGreatDoor.Ru

namespace Go.Proofs.YtllkcldckehipaaGreatDoor.Ru
open Go.RowKit Go.Shelf Go.Maps

def quoteR (l : List UInt8) : Value := if Lib.validD l then .tuple #[.string ⟨(quoteL l).toArray⟩, .int .i64 0] else .tuple #[.string ⟨#[]⟩, .int .i64 10]
/-- Unquote's answer. -/
def unqI (L : List UInt8) (at' : Int) : UAns :=
  if at' < 0 ∨ (L.length : Int) < at' then ([], 0, 2) else if at'.toNat = L.length ∨ L.getD at'.toNat 0 ≠ 34 then ([], at'.toNat, 10) else unqL L at'.toNat
theorem wake_q : quoteR [97, 10] = .tuple #[.string ⟨#[34, 97, 92, 110, 34]⟩, .int .i64 0] := by kernel_rfl
theorem wake_u : ansV (unqI [34, 92, 117, 48, 48, 52, 49, 34] 0) = .tuple #[.string ⟨#[65]⟩, .int .i64 8, .int .i64 0] := by kernel_rfl

end Go.Proofs.YtllkcldckehipaaGreatDoor.Ru

namespace Go.Proofs.YtllkcldckehipaaGreatDoor.Ru
open Go.Lib

/-- What stands between the quotes. -/
def bodyL (l : List UInt8) : List UInt8 := (steps l).flatMap fun x => qRune x.2
theorem quoteL_body (l : List UInt8) : quoteL l = 34 :: (bodyL l ++ [34]) := rfl
theorem bodyL_step {l : List UInt8} (h0 : l ≠ []) (hb : bad l = false) : bodyL l = qRune (decodeL l).1 ++ bodyL (l.drop (decodeL l).2) := by
  have key : ∀ p (m : List UInt8), (stepsP p m).flatMap (fun x => qRune x.2) = ((stepsP p m).map (·.2)).flatMap qRune := fun p m => by rw [List.flatMap_map]
  unfold bodyL steps
  rw [stepsP_good 0 h0 hb, List.flatMap_cons, key, key, steps_shift _ _ _ (Nat.le_refl _)]

theorem mean_short (r : Nat) (h : shortN r ≠ 0) : meanN (shortN r).toUInt8.toNat = r ∧ (shortN r).toUInt8 ≠ 117 := by
  unfold shortN at *
  by_cases h1 : r = 8
  · subst h1; exact ⟨by decide, by decide⟩
  by_cases h2 : r = 9
  · subst h2; exact ⟨by decide, by decide⟩
  by_cases h3 : r = 10
  · subst h3; exact ⟨by decide, by decide⟩
  by_cases h4 : r = 12
  · subst h4; exact ⟨by decide, by decide⟩
  by_cases h5 : r = 13
  · subst h5; exact ⟨by decide, by decide⟩
  by_cases h6 : r = 34
  · subst h6; exact ⟨by decide, by decide⟩
  by_cases h7 : r = 92
  · subst h7; exact ⟨by decide, by decide⟩
  simp [h1, h2, h3, h4, h5, h6, h7] at h
theorem short_none {r : Nat} (h : shortN r = 0) : r ≠ 34 ∧ r ≠ 92 := by
  refine ⟨fun e => ?_, fun e => ?_⟩ <;> (subst e; exact absurd h (by decide))
theorem short_pos {r : Nat} (h : shortN r ≠ 0) : r ≤ 92 ∧ r ≠ 0 := by
  unfold shortN at h
  (repeat' split at h) <;> omega
theorem hex_back : ∀ r : Fin 32, parse16 0 [48, 48, hexd (r.val / 16), hexd (r.val % 16)] = some r.val := by decide
theorem bad_cons_ascii {c : UInt8} (t : List UInt8) (h : c.toNat < 128) : bad (c :: t) = false := bad_ascii t h

/-- One rune, read back. -/
theorem uqR_rune {l : List UInt8} (h0 : l ≠ []) (hb : bad l = false) (X : List UInt8) (n q : Nat) (acc : List UInt8) :
    uqR (n + 1) (qRune (decodeL l).1 ++ X) q acc = uqR n X (q + (qRune (decodeL l).1).length) (acc ++ l.take (decodeL l).2) := by
  have henc := (take_append_enc h0 hb).1
  generalize hr : (decodeL l).1 = r at *
  by_cases h1 : shortN r ≠ 0
  · have e : qRune r = [92, (shortN r).toUInt8] := by unfold qRune; rw [if_pos h1]
    obtain ⟨m1, m2⟩ := mean_short r h1
    have hne : r ≠ 0 := (short_pos h1).2
    rw [e, uqR, if_neg (by simp), if_neg (by rw [List.cons_append, bad_ascii _ (by decide)]; simp), List.cons_append, decodeL_ascii _ _ (by decide), if_neg (by decide), if_neg (by decide), if_pos (by decide)]
    have he : escL (92 :: ([(shortN r).toUInt8] ++ X)) = some (r, 2) := by
      show (if (shortN r).toUInt8 = 117 then _ else if meanN (shortN r).toUInt8.toNat ≠ 0 then some (meanN (shortN r).toUInt8.toNat, 2) else none) = _
      rw [if_neg m2, m1, if_pos hne]
    rw [he]
    simp only [henc]
    rfl
  have h1' : shortN r = 0 := Decidable.not_not.1 h1
  obtain ⟨n34, n92⟩ := short_none h1'
  by_cases h32 : r < 32
  · have e : qRune r = [92, 117, 48, 48, hexd (r / 16), hexd (r % 16)] := by unfold qRune; rw [if_neg h1, if_pos h32]
    rw [e, uqR, if_neg (by simp), if_neg (by rw [List.cons_append, bad_ascii _ (by decide)]; simp), List.cons_append, decodeL_ascii _ _ (by decide), if_neg (by decide), if_neg (by decide), if_pos (by decide)]
    have hp := hex_back ⟨r, h32⟩
    dsimp only at hp
    have he : escL (92 :: ([117, 48, 48, hexd (r / 16), hexd (r % 16)] ++ X)) = some (r, 6) := by
      show longL (92 :: 117 :: 48 :: 48 :: hexd (r / 16) :: hexd (r % 16) :: X) = _
      have hu : unitL (92 :: 117 :: 48 :: 48 :: hexd (r / 16) :: hexd (r % 16) :: X) = some r := by
        show (if (92 : UInt8) = 92 ∧ (117 : UInt8) = 117 then parse16 0 [48, 48, hexd (r / 16), hexd (r % 16)] else none) = _
        rw [if_pos ⟨rfl, rfl⟩, hp]
      have hf : isFst r = false := by unfold isFst; rw [decide_eq_false (by omega)]; rfl
      have hs : isSnd r = false := by unfold isSnd; rw [decide_eq_false (by omega)]; rfl
      unfold longL
      rw [hu]
      simp only [hf, hs, Bool.false_eq_true, if_false]
    rw [he]
    simp only [henc]
    rfl
  · have e : qRune r = l.take (decodeL l).2 := by unfold qRune; rw [if_neg h1, if_neg h32, henc]
    obtain ⟨hd, hbd⟩ := dec_take h0 hb X
    have hle := decodeL_le l h0
    have hw := decodeL_width l
    have hlen : (l.take (decodeL l).2).length = (decodeL l).2 := by rw [List.length_take]; omega
    have hne : l.take (decodeL l).2 ++ X ≠ [] := by
      intro e
      have := congrArg List.length e
      rw [List.length_append, hlen] at this
      simp at this; omega
    rw [e, uqR, if_neg hne, hbd, if_neg (by simp), hd, hr, if_neg n34, if_neg h32, if_neg n92, henc, hlen]
    have hdr : (l.take (decodeL l).2 ++ X).drop (decodeL l).2 = X := by
      rw [List.drop_append_of_le_length (by omega), List.drop_of_length_le (by omega)]; rfl
    rw [hdr]

theorem qRune_pos {l : List UInt8} (h0 : l ≠ []) (hb : bad l = false) : 1 ≤ (qRune (decodeL l).1).length := by
  unfold qRune
  split
  · simp
  split
  · simp
  · rw [(take_append_enc h0 hb).2]; exact decodeL_width l
/-- A text's body, read back, up to the quote. -/
theorem uqR_body (X : List UInt8) : ∀ (k : Nat) (l : List UInt8), l.length ≤ k → validD l = true → ∀ (n q : Nat) (acc : List UInt8), (bodyL l).length < n →
    uqR n (bodyL l ++ 34 :: X) q acc = (acc ++ l, q + (bodyL l).length + 1, 0) := by
  intro k l hk hv
  refine valid_ind (P := fun l => ∀ (n q : Nat) (acc : List UInt8), (bodyL l).length < n → uqR n (bodyL l ++ 34 :: X) q acc = (acc ++ l, q + (bodyL l).length + 1, 0)) ?_ ?_ k l hk hv
  · intro n q acc hn
    obtain ⟨m, rfl⟩ : ∃ m, n = m + 1 := ⟨n - 1, by omega⟩
    show uqR (m + 1) (34 :: X) q acc = (acc ++ [], q + 0 + 1, 0)
    rw [uqR, if_neg (by simp), bad_ascii _ (by decide), if_neg (by simp), decodeL_ascii _ _ (by decide), if_pos (by decide)]
    simp
  · intro l h0 hb hv ih n q acc hn
    have hs := bodyL_step h0 hb
    have hq := qRune_pos h0 hb
    rw [hs, List.length_append] at hn
    obtain ⟨m, rfl⟩ : ∃ m, n = m + 1 := ⟨n - 1, by omega⟩
    rw [hs, List.append_assoc, uqR_rune h0 hb, ih m _ _ (by omega)]
    rw [List.append_assoc, List.take_append_drop, List.length_append]
    congr 2
    omega

/-- What is written reads as the text, whatever stands behind. -/
theorem unq_quote {l : List UInt8} (hv : validD l = true) (X : List UInt8) : unqI (quoteL l ++ X) 0 = (l, (quoteL l).length, 0) := by
  have hlen : (quoteL l).length = (bodyL l).length + 2 := by rw [quoteL_body]; simp
  unfold unqI
  rw [if_neg (by omega), if_neg]
  · show unqL (quoteL l ++ X) 0 = _
    rw [unqL_uqR _ _ _ (Nat.le_refl _)]
    have e : (quoteL l ++ X).drop (0 + 1) = bodyL l ++ 34 :: X := by rw [quoteL_body]; simp
    rw [e, uqR_body X _ l (Nat.le_refl _) hv _ _ _ (by rw [List.length_append, hlen]; omega), hlen]
    simp
    omega
  · rintro (h | h)
    · rw [List.length_append, hlen] at h
      simp at h
      omega
    · exact h rfl

theorem valid_whole {l : List UInt8} (h0 : l ≠ []) (hb : bad l = false) (hk : (decodeL l).2 = l.length) : validD l = true := by
  rw [validD_bad h0, hb, hk, List.drop_length]; rfl
theorem valid_take {l : List UInt8} (h0 : l ≠ []) (hb : bad l = false) : validD (l.take (decodeL l).2) = true := by
  obtain ⟨hd, hbd⟩ := dec_take h0 hb []
  rw [List.append_nil] at hd hbd
  have hle := decodeL_le l h0
  have hw := decodeL_width l
  have hlen : (l.take (decodeL l).2).length = (decodeL l).2 := by rw [List.length_take]; omega
  refine valid_whole ?_ hbd (by rw [hd, hlen])
  intro e
  rw [e] at hlen
  simp at hlen; omega
theorem qRune_valid {l : List UInt8} (h0 : l ≠ []) (hb : bad l = false) : validD (qRune (decodeL l).1) = true := by
  have henc := (take_append_enc h0 hb).1
  generalize hr : (decodeL l).1 = r at *
  unfold qRune
  split
  · rename_i h1
    have hs := short_pos h1
    refine valid_ascii _ fun c hc => ?_
    simp only [List.mem_cons, List.not_mem_nil, or_false] at hc
    rcases hc with rfl | rfl
    · decide
    · have := mean_short r h1
      exact meanN_ascii (by rw [this.1]; exact hs.2)
  split
  · rename_i h32
    have hx : ∀ k, k < 16 → (hexd k).toNat < 128 := by decide
    refine valid_ascii _ fun c hc => ?_
    simp only [List.mem_cons, List.not_mem_nil, or_false] at hc
    rcases hc with rfl | rfl | rfl | rfl | rfl | rfl
    · decide
    · decide
    · decide
    · decide
    · exact hx _ (by omega)
    · exact hx _ (by omega)
  · rw [henc]; exact valid_take h0 hb
theorem bodyL_valid {l : List UInt8} (hv : validD l = true) : validD (bodyL l) = true := by
  refine valid_ind (P := fun l => validD (bodyL l) = true) rfl ?_ _ l (Nat.le_refl _) hv
  intro l h0 hb _ ih
  rw [bodyL_step h0 hb, valid_append _ (qRune_valid h0 hb)]
  exact ih
theorem quoteL_valid {l : List UInt8} (hv : validD l = true) : validD (quoteL l) = true := by
  rw [quoteL_body, validD_cons 34 _ (by decide), valid_append _ (bodyL_valid hv)]; rfl
end Go.Proofs.YtllkcldckehipaaGreatDoor.Ru

namespace Go.Proofs.YtllkcldckehipaaGreatDoor.Ru
open Go.Lib

theorem u8n (x : Nat) (h : x < 256) : (x.toUInt8).toNat = x := by simp; omega
set_option maxHeartbeats 1000000 in
theorem enc_valid (r : Nat) (h : r ≤ 1114111) (hv : r < 55296 ∨ 57343 < r) : validD (encodeRune r) = true := by
  by_cases h1 : r ≤ 127
  · have e : encodeRune (r : Int) = [r.toUInt8] := by
      unfold encodeRune; rw [encodeRuneZ_one (by omega) (by omega)]; simp
    rw [e]
    exact valid_ascii _ fun c hc => by simp only [List.mem_cons, List.not_mem_nil, or_false] at hc; subst hc; rw [u8n _ (by omega)]; omega
  by_cases h2 : r ≤ 2047
  · have e : encodeRune (r : Int) = [(192 + r / 64).toUInt8, (128 + r % 64).toUInt8] := by
      unfold encodeRune; rw [encodeRuneZ_two (by omega) (by omega)]
      simp only [List.map_cons, List.map_nil]
      rw [show (192 + (r : Int) / 64).toNat = 192 + r / 64 by omega, show (128 + (r : Int) % 64).toNat = 128 + r % 64 by omega]
    have d : decodeL [(192 + r / 64).toUInt8, (128 + r % 64).toUInt8] = (r, 2) := by
      rw [decodeL_N]
      show decodeN 2 (192 + r / 64).toUInt8.toNat (128 + r % 64).toUInt8.toNat (0 : UInt8).toNat (0 : UInt8).toNat = _
      rw [u8n _ (by omega), u8n _ (by omega)]
      unfold decodeN
      rw [if_neg (by omega), if_pos (by omega), if_pos (by omega)]
      congr 1; omega
    rw [e]
    exact valid_whole (by simp) (by unfold bad; rw [d]; exact decide_eq_false (by simp)) (by rw [d]; rfl)
  by_cases h3 : r ≤ 65535
  · have e : encodeRune (r : Int) = [(224 + r / 4096).toUInt8, (128 + r / 64 % 64).toUInt8, (128 + r % 64).toUInt8] := by
      unfold encodeRune; rw [encodeRuneZ_three (by omega)]
      simp only [List.map_cons, List.map_nil]
      rw [show (224 + (r : Int) / 4096).toNat = 224 + r / 4096 by omega, show (128 + (r : Int) / 64 % 64).toNat = 128 + r / 64 % 64 by omega, show (128 + (r : Int) % 64).toNat = 128 + r % 64 by omega]
    have d : decodeL [(224 + r / 4096).toUInt8, (128 + r / 64 % 64).toUInt8, (128 + r % 64).toUInt8] = (r, 3) := by
      rw [decodeL_N]
      show decodeN 3 (224 + r / 4096).toUInt8.toNat (128 + r / 64 % 64).toUInt8.toNat (128 + r % 64).toUInt8.toNat (0 : UInt8).toNat = _
      rw [u8n _ (by omega), u8n _ (by omega), u8n _ (by omega)]
      unfold decodeN
      rw [if_neg (by omega), if_neg (by omega), if_pos (by omega), if_pos (by omega)]
      congr 1; omega
    rw [e]
    exact valid_whole (by simp) (by unfold bad; rw [d]; exact decide_eq_false (by simp)) (by rw [d]; rfl)
  · have e : encodeRune (r : Int) = [(240 + r / 262144).toUInt8, (128 + r / 4096 % 64).toUInt8, (128 + r / 64 % 64).toUInt8, (128 + r % 64).toUInt8] := by
      unfold encodeRune; rw [encodeRuneZ_four (by omega) (by omega)]
      simp only [List.map_cons, List.map_nil]
      rw [show (240 + (r : Int) / 262144).toNat = 240 + r / 262144 by omega, show (128 + (r : Int) / 4096 % 64).toNat = 128 + r / 4096 % 64 by omega, show (128 + (r : Int) / 64 % 64).toNat = 128 + r / 64 % 64 by omega, show (128 + (r : Int) % 64).toNat = 128 + r % 64 by omega]
    have d : decodeL [(240 + r / 262144).toUInt8, (128 + r / 4096 % 64).toUInt8, (128 + r / 64 % 64).toUInt8, (128 + r % 64).toUInt8] = (r, 4) := by
      rw [decodeL_N]
      show decodeN 4 (240 + r / 262144).toUInt8.toNat (128 + r / 4096 % 64).toUInt8.toNat (128 + r / 64 % 64).toUInt8.toNat (128 + r % 64).toUInt8.toNat = _
      rw [u8n _ (by omega), u8n _ (by omega), u8n _ (by omega), u8n _ (by omega)]
      unfold decodeN
      rw [if_neg (by omega), if_neg (by omega), if_neg (by omega), if_pos (by omega), if_pos (by omega)]
      congr 1; omega
    rw [e]
    exact valid_whole (by simp) (by unfold bad; rw [d]; exact decide_eq_false (by simp)) (by rw [d]; rfl)

theorem uqR_valid : ∀ (n : Nat) (l : List UInt8) (q : Nat) (acc : List UInt8), validD acc = true → validD (uqR n l q acc).1 = true ∧ (uqR n l q acc).1.length ≤ acc.length + 4 * n ∧ ((uqR n l q acc).2.2 = 0 ∨ (uqR n l q acc).2.2 = 10)
  | 0, l, q, acc, _ => ⟨rfl, by simp [uqR], .inr rfl⟩
  | n + 1, l, q, acc, hv => by
    rw [uqR]
    by_cases h0 : l = []
    · rw [if_pos h0]; exact ⟨rfl, by simp, .inr rfl⟩
    rw [if_neg h0]
    cases hb : bad l with
    | true => exact ⟨rfl, by simp, .inr rfl⟩
    | false =>
      rw [if_neg (by simp)]
      split
      · exact ⟨hv, by simp only; omega, .inl rfl⟩
      split
      · exact ⟨rfl, by simp, .inr rfl⟩
      split
      · cases he : escL l with
        | none => exact ⟨rfl, by simp, .inr rfl⟩
        | some y =>
          obtain ⟨y1, y2, _⟩ := escL_rune he
          have ih := uqR_valid n (l.drop y.2) (q + y.2) (acc ++ encodeRune y.1) (by rw [valid_append _ hv]; exact enc_valid _ y1 y2)
          have hl := enc_le y.1
          rw [List.length_append] at ih
          exact ⟨ih.1, by have := ih.2.1; simp only; omega, ih.2.2⟩
      · have ih := uqR_valid n (l.drop (decodeL l).2) (q + (decodeL l).2) (acc ++ encodeRune (decodeL l).1) (by rw [valid_append _ hv, (take_append_enc h0 hb).1]; exact valid_take h0 hb)
        have hl := enc_le (decodeL l).1
        rw [List.length_append] at ih
        exact ⟨ih.1, by have := ih.2.1; omega, ih.2.2⟩
/-- What reads, from a place on. -/
theorem unqI_valid (L : List UInt8) (a : Int) : validD (unqI L a).1 = true ∧ (unqI L a).1.length ≤ 4 * (L.length + 1) ∧ ((unqI L a).2.2 = 0 ∨ (unqI L a).2.2 = 2 ∨ (unqI L a).2.2 = 10) := by
  unfold unqI
  split
  · exact ⟨rfl, by simp, .inr (.inl rfl)⟩
  split
  · exact ⟨rfl, by simp, .inr (.inr rfl)⟩
  · rw [unqL_uqR _ _ _ (Nat.le_refl _)]
    have h := uqR_valid (L.length + 1) (L.drop (a.toNat + 1)) (a.toNat + 1) [] rfl
    refine ⟨h.1, by have := h.2.1; simpa using this, ?_⟩
    rcases h.2.2 with h | h
    · exact .inl h
    · exact .inr (.inr h)
theorem qRune_le6 (l : List UInt8) : (quoteL l).length ≤ 2 + 6 * l.length := by
  rw [quoteL_body]
  have h1 := flat_le (fun x : Nat × Nat => qRune x.2) 6 (fun x => qRune_le _) (steps l)
  have h2 := steps_length l
  have : (bodyL l).length ≤ 6 * l.length := Nat.le_trans h1 (Nat.mul_le_mul_left _ h2)
  simp only [List.length_cons, List.length_append, List.length_nil]
  omega
theorem quote_apart {s t : List UInt8} (hs : validD s = true) (ht : validD t = true) (h : (quoteL s).take (min (quoteL s).length (quoteL t).length) = (quoteL t).take (min (quoteL s).length (quoteL t).length)) : s = t := by
  have key : ∀ {a b : List UInt8}, validD a = true → validD b = true → (quoteL a).length ≤ (quoteL b).length → (quoteL b).take (quoteL a).length = quoteL a → a = b := by
    intro a b ha hb _ he
    have e : quoteL b = quoteL a ++ (quoteL b).drop (quoteL a).length := by
      conv => lhs; rw [← List.take_append_drop (quoteL a).length (quoteL b), he]
    have u1 := unq_quote ha ((quoteL b).drop (quoteL a).length)
    rw [← e] at u1
    have u2 := unq_quote hb []
    rw [List.append_nil] at u2
    rw [u1] at u2
    exact congrArg Prod.fst u2
  rcases Nat.le_total (quoteL s).length (quoteL t).length with hl | hl
  · rw [Nat.min_eq_left hl, List.take_length] at h
    exact key hs ht hl h.symm
  · rw [Nat.min_eq_right hl, List.take_length] at h
    exact (key ht hs hl h).symm
end Go.Proofs.YtllkcldckehipaaGreatDoor.Ru

namespace Go.Proofs.YtllkcldckehipaaGreatDoor.Ru
open Go.Lib

def qB (c : UInt8) : List UInt8 := if shortN c.toNat ≠ 0 then [92, (shortN c.toNat).toUInt8] else if c.toNat < 32 then [92, 117, 48, 48, hexd (c.toNat / 16), hexd (c.toNat % 16)] else [c]

theorem shortN_big {r : Nat} (h : 128 ≤ r) : shortN r = 0 := by
  unfold shortN
  repeat rw [if_neg (by omega)]
theorem qB_big {c : UInt8} (h : 128 ≤ c.toNat) : qB c = [c] := by
  unfold qB
  rw [shortN_big h, if_neg (by simp), if_neg (by omega)]
theorem qB_flat : ∀ (l : List UInt8), (∀ c ∈ l, 128 ≤ c.toNat) → l.flatMap qB = l
  | [], _ => rfl
  | c :: t, h => by
    rw [List.flatMap_cons, qB_big (h c (by simp)), qB_flat t fun x hx => h x (by simp [hx])]; rfl
theorem enc_big (r : Nat) (h : 128 ≤ r) (h2 : r ≤ 1114111) (hv : r < 55296 ∨ 57343 < r) : ∀ c ∈ encodeRune (r : Int), 128 ≤ c.toNat := by
  intro c hc
  unfold encodeRune at hc
  obtain ⟨x, hx, rfl⟩ := List.mem_map.1 hc
  have hb : 128 ≤ x ∧ x < 256 := by
    unfold encodeRuneZ at hx
    rw [if_neg (by omega)] at hx
    split at hx
    · simp only [List.mem_cons, List.not_mem_nil, or_false] at hx; omega
    · split at hx
      · simp only [List.mem_cons, List.not_mem_nil, or_false] at hx; omega
      · split at hx
        · simp only [List.mem_cons, List.not_mem_nil, or_false] at hx; omega
        · simp only [List.mem_cons, List.not_mem_nil, or_false] at hx; omega
  rw [u8n _ (by omega)]
  omega
theorem quoteB_step {l : List UInt8} (h0 : l ≠ []) (hb : bad l = false) : (l.take (decodeL l).2).flatMap qB = qRune (decodeL l).1 := by
  have hr := decodeL_rune l
  have hval := decodeL_valid l
  by_cases h : (decodeL l).1 < 128
  · obtain ⟨t, ht, hk⟩ := head_ascii h0 hb rfl h
    generalize (decodeL l).1 = r at *
    rw [hk, ht]
    have e : (r.toUInt8).toNat = r := u8n r (by omega)
    simp only [List.take_succ_cons, List.take_zero, List.flatMap_cons, List.flatMap_nil, List.append_nil]
    unfold qB qRune
    rw [e]
    split
    · rfl
    · split
      · rfl
      · unfold encodeRune
        rw [encodeRuneZ_one (by omega) (by omega)]
        simp
  · obtain ⟨e1, e2⟩ := take_append_enc h0 hb
    rw [← e1]
    generalize (decodeL l).1 = r at *
    rw [qB_flat _ (enc_big r (by omega) hr hval)]
    unfold qRune
    rw [shortN_big (by omega), if_neg (by simp), if_neg (by omega)]
theorem quoteB {l : List UInt8} (hv : validD l = true) : l.flatMap qB = bodyL l := by
  refine valid_ind (P := fun l => l.flatMap qB = bodyL l) rfl ?_ l.length l (Nat.le_refl _) hv
  intro l h0 hb hv ih
  rw [bodyL_step h0 hb, ← ih, ← quoteB_step h0 hb, ← List.flatMap_append, List.take_append_drop]
end Go.Proofs.YtllkcldckehipaaGreatDoor.Ru

namespace Go.Proofs.YtllkcldckehipaaGreatDoor.Ru
open Go.RowKit Go.Shelf

def accL (l : List UInt8) (k : Nat) : List UInt8 := 34 :: (l.take k).flatMap qB
theorem accL_snoc (s : ByteArray) (k : Nat) (h : k < s.size) : accL s.data.toList (k + 1) = accL s.data.toList k ++ qB s[k] := by
  unfold accL
  rw [take_snoc s k h, List.flatMap_append]
  simp
theorem shortN_none {r : Nat} (h1 : r ≠ 34) (h2 : r ≠ 92) (h3 : r ≠ 8) (h4 : r ≠ 9) (h5 : r ≠ 10) (h6 : r ≠ 12) (h7 : r ≠ 13) : shortN r = 0 := by
  unfold shortN
  rw [if_neg h3, if_neg h4, if_neg h5, if_neg h6, if_neg h7, if_neg h1, if_neg h2]
theorem qB_len (c : UInt8) : (qB c).length ≤ 6 := by
  unfold qB
  split
  · simp
  · split <;> simp
theorem accL_len (l : List UInt8) (k : Nat) : (accL l k).length ≤ 1 + 6 * k := by
  unfold accL
  rw [List.length_cons]
  have := flat_le qB 6 qB_len (l.take k)
  rw [List.length_take] at this
  have h2 : 6 * min k l.length ≤ 6 * k := Nat.mul_le_mul_left 6 (Nat.min_le_left _ _)
  omega
/-- Between two rounds: the row of bytes, and what lay below. -/
def RQ (w : World) (A : List UInt8) (v : Value) (W : World) : Prop := W.ownsRow w.heap.size 5 1 v A.length (Lib.byteCells A) ∧ Below w.heap.size w W
theorem RQ.step {w W W' : World} {A news : List UInt8} {v v' : Value} {o : Obj} {n : Nat} {cs : List Value} (h : RQ w A v W) (hown : W'.ownsRow w.heap.size 5 1 v' (A.length + n) (Lib.byteCells A ++ cs)) (hg : (W.alloc o).grownBy W' v.ownBlock)
    (hn : news.length = n) (hc : Lib.byteCells news = cs) : RQ w (A ++ news) v' W' := by
  refine ⟨?_, ?_⟩
  · rw [List.length_append, byteCells_append, hn, hc]
    exact hown
  · exact (h.2.alloc (by have := h.2.size; omega) _).grown hg (by have := h.2.size; simp; omega) (fun k hk => (h.1.lt k hk).1)

set_option maxHeartbeats 1000000 in
theorem rquote_no (s : ByteArray) (w : World) (hvd : Lib.validD s.data.toList = false) (hs : s.size ≤ 20000) :
    Calls Tryz.prog 52 #[.string s] w fun e w' => e = .returned (quoteR s.data.toList) ∧ Below w.heap.size w w' := by
  have hv := rvalid_any s w (by omega)
  rw [hvd] at hv
  have hq : quoteR s.data.toList = .tuple #[.string ⟨#[]⟩, .int .i64 10] := by unfold quoteR; rw [hvd]; rfl
  rw [hq]
  have HV := Lib.hid hv
  clear hv hvd hq
  go_enter Tryz.func52, Tryz.ntmps52
  go_wp2_with (go_at_call 28; refine HV.out.mono ?_; rintro e w' ⟨rfl, rfl⟩)
  go_ret2
  exact ⟨rfl, Below.refl _ _⟩

set_option maxRecDepth 100000 in
set_option maxHeartbeats 4000000 in
theorem rquote_yes (s : ByteArray) (w : World) (hvd : Lib.validD s.data.toList = true) (hs : s.size ≤ 20000) :
    Calls Tryz.prog 52 #[.string s] w fun e w' => e = .returned (quoteR s.data.toList) ∧ Below w.heap.size w w' := by
  have hv := rvalid_any s w (by omega)
  rw [hvd] at hv
  have hq : quoteR s.data.toList = .tuple #[.string ⟨(accL s.data.toList s.size ++ [34]).toArray⟩, .int .i64 0] := by
    unfold quoteR accL
    rw [hvd, if_pos rfl, quoteL_body, List.take_of_length_le (by rw [toList_length]; omega), quoteB hvd]
    rfl
  rw [hq]
  have HV := Lib.hid hv
  have HL := Lib.hid (accL_len s.data.toList)
  clear hv hvd hq
  obtain ⟨i0, hi, hz0, hz1, hz2⟩ := info_parts infoByte
  go_enter Tryz.func52, Tryz.ntmps52
  go_wp2_with (go_at_call 28; refine HV.out.mono ?_; rintro e w' ⟨rfl, rfl⟩)
  go_loopw [4, 5] (fun v i wr => ∃ k : Nat, k ≤ s.size ∧ i = .int .i64 k ∧ RQ w (accL s.data.toList k) v wr) (fun v i _ => s.size - (intOf i).toNat)
  case atStart =>
    refine ⟨0, Nat.zero_le _, rfl, ?_, by go_grown⟩
    have := World.ownsRow_lit (base := w.heap.size) (e := 5) (size := 1) w #[.int .u8 34] 1 (Nat.le_refl _) (by unfold maxLen; omega) rfl
    exact this
  case round =>
    obtain ⟨k, hk, rfl, hown⟩ := hrel
    have hlen := HL.out k
    by_cases hlt : k < s.size
    · have hsn := accL_snoc s k hlt
      generalize accL s.data.toList k = A at *
      obtain ⟨c, hc⟩ : ∃ c, s[k] = c := ⟨_, rfl⟩
      rw [hc] at hsn
      by_cases e34 : c.toNat = 34
      · have hcc : s[k].toNat = 34 := by rw [hc]; exact e34
        have HS := Lib.hid (show accL s.data.toList (k + 1) = A ++ [92, 34] by rw [hsn]; congr 1; unfold qB; rw [e34]; rfl)
        have HC := Lib.hid (show Lib.byteCells [92, 34] = [.int .u8 92, .int .u8 34] by rfl)
        clear hsn hc e34
        go_wp2_with (at_builtin; refine wpList_append_own _ rfl _ _ 37 rfl w.heap.size 5 i0 (.int .u8 0) 1 1 Tryz.underlying37 hi hz0 hz1 hz2 rfl (by decide) _ _ _ rfl (hown.1.alloc _) ⟨wr.heap.size, 0, none⟩ 2 2 [.int .u8 92, .int .u8 34] rfl rfl ?c1 ?c2 ?c3 ?c4 ?c5 ?_)
        case c1 =>
          intro j u hj
          match j, hj with
          | 0, hj => simp at hj; subst hj; simp [Addr.add]
          | 1, hj => simp at hj; subst hj; simp [Addr.add]
        case c2 => intro u hu; simp at hu; rcases hu with rfl | rfl <;> rfl
        case c3 => unfold maxLen; omega
        case c4 => omega
        case c5 => have := hown.2.size; simp; omega
        intro v' w1 hown' hgrow _
        have hR := hown.step (news := [92, 34]) hown' hgrow rfl HC.out
        clear hown' hgrow hown
        go_wp2_with fail
        go_roundw
        case rel => exact ⟨k + 1, by omega, by go_num, by rw [HS.out]; exact hR⟩
        case measure => simp [intOf]; omega
      by_cases e92 : c.toNat = 92
      · have hcc : s[k].toNat = 92 := by rw [hc]; exact e92
        have HS := Lib.hid (show accL s.data.toList (k + 1) = A ++ [92, 92] by rw [hsn]; congr 1; unfold qB; rw [e92]; rfl)
        have HC := Lib.hid (show Lib.byteCells [92, 92] = [.int .u8 92, .int .u8 92] by rfl)
        clear hsn hc e92
        go_wp2_with (at_builtin; refine wpList_append_own _ rfl _ _ 37 rfl w.heap.size 5 i0 (.int .u8 0) 1 1 Tryz.underlying37 hi hz0 hz1 hz2 rfl (by decide) _ _ _ rfl (hown.1.alloc _) ⟨wr.heap.size, 0, none⟩ 2 2 [.int .u8 92, .int .u8 92] rfl rfl ?c1 ?c2 ?c3 ?c4 ?c5 ?_)
        case c1 =>
          intro j u hj
          match j, hj with
          | 0, hj => simp at hj; subst hj; simp [Addr.add]
          | 1, hj => simp at hj; subst hj; simp [Addr.add]
        case c2 => intro u hu; simp at hu; rcases hu with rfl | rfl <;> rfl
        case c3 => unfold maxLen; omega
        case c4 => omega
        case c5 => have := hown.2.size; simp; omega
        intro v' w1 hown' hgrow _
        have hR := hown.step (news := [92, 92]) hown' hgrow rfl HC.out
        clear hown' hgrow hown
        go_wp2_with fail
        go_roundw
        case rel => exact ⟨k + 1, by omega, by go_num, by rw [HS.out]; exact hR⟩
        case measure => simp [intOf]; omega
      by_cases e8 : c.toNat = 8
      · have hcc : s[k].toNat = 8 := by rw [hc]; exact e8
        have HS := Lib.hid (show accL s.data.toList (k + 1) = A ++ [92, 98] by rw [hsn]; congr 1; unfold qB; rw [e8]; rfl)
        have HC := Lib.hid (show Lib.byteCells [92, 98] = [.int .u8 92, .int .u8 98] by rfl)
        clear hsn hc e8
        go_wp2_with (at_builtin; refine wpList_append_own _ rfl _ _ 37 rfl w.heap.size 5 i0 (.int .u8 0) 1 1 Tryz.underlying37 hi hz0 hz1 hz2 rfl (by decide) _ _ _ rfl (hown.1.alloc _) ⟨wr.heap.size, 0, none⟩ 2 2 [.int .u8 92, .int .u8 98] rfl rfl ?c1 ?c2 ?c3 ?c4 ?c5 ?_)
        case c1 =>
          intro j u hj
          match j, hj with
          | 0, hj => simp at hj; subst hj; simp [Addr.add]
          | 1, hj => simp at hj; subst hj; simp [Addr.add]
        case c2 => intro u hu; simp at hu; rcases hu with rfl | rfl <;> rfl
        case c3 => unfold maxLen; omega
        case c4 => omega
        case c5 => have := hown.2.size; simp; omega
        intro v' w1 hown' hgrow _
        have hR := hown.step (news := [92, 98]) hown' hgrow rfl HC.out
        clear hown' hgrow hown
        go_wp2_with fail
        go_roundw
        case rel => exact ⟨k + 1, by omega, by go_num, by rw [HS.out]; exact hR⟩
        case measure => simp [intOf]; omega
      by_cases e9 : c.toNat = 9
      · have hcc : s[k].toNat = 9 := by rw [hc]; exact e9
        have HS := Lib.hid (show accL s.data.toList (k + 1) = A ++ [92, 116] by rw [hsn]; congr 1; unfold qB; rw [e9]; rfl)
        have HC := Lib.hid (show Lib.byteCells [92, 116] = [.int .u8 92, .int .u8 116] by rfl)
        clear hsn hc e9
        go_wp2_with (at_builtin; refine wpList_append_own _ rfl _ _ 37 rfl w.heap.size 5 i0 (.int .u8 0) 1 1 Tryz.underlying37 hi hz0 hz1 hz2 rfl (by decide) _ _ _ rfl (hown.1.alloc _) ⟨wr.heap.size, 0, none⟩ 2 2 [.int .u8 92, .int .u8 116] rfl rfl ?c1 ?c2 ?c3 ?c4 ?c5 ?_)
        case c1 =>
          intro j u hj
          match j, hj with
          | 0, hj => simp at hj; subst hj; simp [Addr.add]
          | 1, hj => simp at hj; subst hj; simp [Addr.add]
        case c2 => intro u hu; simp at hu; rcases hu with rfl | rfl <;> rfl
        case c3 => unfold maxLen; omega
        case c4 => omega
        case c5 => have := hown.2.size; simp; omega
        intro v' w1 hown' hgrow _
        have hR := hown.step (news := [92, 116]) hown' hgrow rfl HC.out
        clear hown' hgrow hown
        go_wp2_with fail
        go_roundw
        case rel => exact ⟨k + 1, by omega, by go_num, by rw [HS.out]; exact hR⟩
        case measure => simp [intOf]; omega
      by_cases e10 : c.toNat = 10
      · have hcc : s[k].toNat = 10 := by rw [hc]; exact e10
        have HS := Lib.hid (show accL s.data.toList (k + 1) = A ++ [92, 110] by rw [hsn]; congr 1; unfold qB; rw [e10]; rfl)
        have HC := Lib.hid (show Lib.byteCells [92, 110] = [.int .u8 92, .int .u8 110] by rfl)
        clear hsn hc e10
        go_wp2_with (at_builtin; refine wpList_append_own _ rfl _ _ 37 rfl w.heap.size 5 i0 (.int .u8 0) 1 1 Tryz.underlying37 hi hz0 hz1 hz2 rfl (by decide) _ _ _ rfl (hown.1.alloc _) ⟨wr.heap.size, 0, none⟩ 2 2 [.int .u8 92, .int .u8 110] rfl rfl ?c1 ?c2 ?c3 ?c4 ?c5 ?_)
        case c1 =>
          intro j u hj
          match j, hj with
          | 0, hj => simp at hj; subst hj; simp [Addr.add]
          | 1, hj => simp at hj; subst hj; simp [Addr.add]
        case c2 => intro u hu; simp at hu; rcases hu with rfl | rfl <;> rfl
        case c3 => unfold maxLen; omega
        case c4 => omega
        case c5 => have := hown.2.size; simp; omega
        intro v' w1 hown' hgrow _
        have hR := hown.step (news := [92, 110]) hown' hgrow rfl HC.out
        clear hown' hgrow hown
        go_wp2_with fail
        go_roundw
        case rel => exact ⟨k + 1, by omega, by go_num, by rw [HS.out]; exact hR⟩
        case measure => simp [intOf]; omega
      by_cases e12 : c.toNat = 12
      · have hcc : s[k].toNat = 12 := by rw [hc]; exact e12
        have HS := Lib.hid (show accL s.data.toList (k + 1) = A ++ [92, 102] by rw [hsn]; congr 1; unfold qB; rw [e12]; rfl)
        have HC := Lib.hid (show Lib.byteCells [92, 102] = [.int .u8 92, .int .u8 102] by rfl)
        clear hsn hc e12
        go_wp2_with (at_builtin; refine wpList_append_own _ rfl _ _ 37 rfl w.heap.size 5 i0 (.int .u8 0) 1 1 Tryz.underlying37 hi hz0 hz1 hz2 rfl (by decide) _ _ _ rfl (hown.1.alloc _) ⟨wr.heap.size, 0, none⟩ 2 2 [.int .u8 92, .int .u8 102] rfl rfl ?c1 ?c2 ?c3 ?c4 ?c5 ?_)
        case c1 =>
          intro j u hj
          match j, hj with
          | 0, hj => simp at hj; subst hj; simp [Addr.add]
          | 1, hj => simp at hj; subst hj; simp [Addr.add]
        case c2 => intro u hu; simp at hu; rcases hu with rfl | rfl <;> rfl
        case c3 => unfold maxLen; omega
        case c4 => omega
        case c5 => have := hown.2.size; simp; omega
        intro v' w1 hown' hgrow _
        have hR := hown.step (news := [92, 102]) hown' hgrow rfl HC.out
        clear hown' hgrow hown
        go_wp2_with fail
        go_roundw
        case rel => exact ⟨k + 1, by omega, by go_num, by rw [HS.out]; exact hR⟩
        case measure => simp [intOf]; omega
      by_cases e13 : c.toNat = 13
      · have hcc : s[k].toNat = 13 := by rw [hc]; exact e13
        have HS := Lib.hid (show accL s.data.toList (k + 1) = A ++ [92, 114] by rw [hsn]; congr 1; unfold qB; rw [e13]; rfl)
        have HC := Lib.hid (show Lib.byteCells [92, 114] = [.int .u8 92, .int .u8 114] by rfl)
        clear hsn hc e13
        go_wp2_with (at_builtin; refine wpList_append_own _ rfl _ _ 37 rfl w.heap.size 5 i0 (.int .u8 0) 1 1 Tryz.underlying37 hi hz0 hz1 hz2 rfl (by decide) _ _ _ rfl (hown.1.alloc _) ⟨wr.heap.size, 0, none⟩ 2 2 [.int .u8 92, .int .u8 114] rfl rfl ?c1 ?c2 ?c3 ?c4 ?c5 ?_)
        case c1 =>
          intro j u hj
          match j, hj with
          | 0, hj => simp at hj; subst hj; simp [Addr.add]
          | 1, hj => simp at hj; subst hj; simp [Addr.add]
        case c2 => intro u hu; simp at hu; rcases hu with rfl | rfl <;> rfl
        case c3 => unfold maxLen; omega
        case c4 => omega
        case c5 => have := hown.2.size; simp; omega
        intro v' w1 hown' hgrow _
        have hR := hown.step (news := [92, 114]) hown' hgrow rfl HC.out
        clear hown' hgrow hown
        go_wp2_with fail
        go_roundw
        case rel => exact ⟨k + 1, by omega, by go_num, by rw [HS.out]; exact hR⟩
        case measure => simp [intOf]; omega
      have hsh := shortN_none e34 e92 e8 e9 e10 e12 e13
      have n34 : ((c.toNat : Int) == 34) = false := by rw [beq_eq_false_iff_ne]; omega
      have n92 : ((c.toNat : Int) == 92) = false := by rw [beq_eq_false_iff_ne]; omega
      have n8 : ((c.toNat : Int) == 8) = false := by rw [beq_eq_false_iff_ne]; omega
      have n9 : ((c.toNat : Int) == 9) = false := by rw [beq_eq_false_iff_ne]; omega
      have n10 : ((c.toNat : Int) == 10) = false := by rw [beq_eq_false_iff_ne]; omega
      have n12 : ((c.toNat : Int) == 12) = false := by rw [beq_eq_false_iff_ne]; omega
      have n13 : ((c.toNat : Int) == 13) = false := by rw [beq_eq_false_iff_ne]; omega
      clear e34 e92 e8 e9 e10 e12 e13
      by_cases e32 : c.toNat < 32
      · have HS := Lib.hid (show accL s.data.toList (k + 1) = A ++ [92, 117, 48, 48, hexd (c.toNat / 16), hexd (c.toNat % 16)] by rw [hsn]; congr 1; unfold qB; rw [if_neg (by rw [hsh]; simp), if_pos e32])
        have HC := Lib.hid (show Lib.byteCells [92, 117, 48, 48, hexd (c.toNat / 16), hexd (c.toNat % 16)] = [.int .u8 92, .int .u8 117, .int .u8 48, .int .u8 48, .int .u8 (hexd (c.toNat / 16)).toNat, .int .u8 (hexd (c.toNat % 16)).toNat] by rfl)
        have H1 : Hid (∀ w1, Calls Tryz.prog 71 #[.int .i64 ((c.toNat : Int) / 16)] w1 fun e w' => e = .returned (.int .u8 (hexd (c.toNat / 16)).toNat) ∧ w1 = w') := Lib.hid fun w1 => by have := rhex_any (c.toNat / 16) (by omega) w1; rw [show ((c.toNat / 16 : Nat) : Int) = (c.toNat : Int) / 16 by omega] at this; exact this
        have H2 : Hid (∀ w1, Calls Tryz.prog 71 #[.int .i64 ((c.toNat : Int) % 16)] w1 fun e w' => e = .returned (.int .u8 (hexd (c.toNat % 16)).toNat) ∧ w1 = w') := Lib.hid fun w1 => by have := rhex_any (c.toNat % 16) (by omega) w1; rw [show ((c.toNat % 16 : Nat) : Int) = (c.toNat : Int) % 16 by omega] at this; exact this
        clear hsn hsh
        go_wp2_with fail
        refine (H1.out _).mono ?_
        rintro e w' ⟨rfl, rfl⟩
        go_wp2_with fail
        refine (H2.out _).mono ?_
        rintro e w' ⟨rfl, rfl⟩
        go_wp2_with (at_builtin; refine wpList_append_own _ rfl _ _ 37 rfl w.heap.size 5 i0 (.int .u8 0) 1 1 Tryz.underlying37 hi hz0 hz1 hz2 rfl (by decide) _ _ _ rfl (hown.1.alloc _) ⟨wr.heap.size, 0, none⟩ 6 6 [.int .u8 92, .int .u8 117, .int .u8 48, .int .u8 48, .int .u8 (hexd (c.toNat / 16)).toNat, .int .u8 (hexd (c.toNat % 16)).toNat] rfl rfl ?c1 ?c2 ?c3 ?c4 ?c5 ?_)
        case c1 =>
          intro j u hj
          match j, hj with
          | 0, hj => simp at hj; subst hj; simp [Addr.add]
          | 1, hj => simp at hj; subst hj; simp [Addr.add]
          | 2, hj => simp at hj; subst hj; simp [Addr.add]
          | 3, hj => simp at hj; subst hj; simp [Addr.add]
          | 4, hj => simp at hj; subst hj; simp [Addr.add]
          | 5, hj => simp at hj; subst hj; simp [Addr.add]
        case c2 => intro u hu; simp at hu; rcases hu with rfl | rfl | rfl | rfl | rfl | rfl <;> rfl
        case c3 => unfold maxLen; omega
        case c4 => omega
        case c5 => have := hown.2.size; simp; omega
        intro v' w1 hown' hgrow _
        have hR := hown.step (news := [92, 117, 48, 48, hexd (c.toNat / 16), hexd (c.toNat % 16)]) hown' hgrow rfl HC.out
        clear hown' hgrow hown
        go_wp2_with fail
        go_roundw
        case rel => exact ⟨k + 1, by omega, by go_num, by rw [HS.out]; exact hR⟩
        case measure => simp [intOf]; omega
      · have HS := Lib.hid (show accL s.data.toList (k + 1) = A ++ [c] by rw [hsn]; congr 1; unfold qB; rw [if_neg (by rw [hsh]; simp), if_neg e32])
        have HC := Lib.hid (show Lib.byteCells [c] = [.int .u8 c.toNat] by rfl)
        clear hsn hsh
        go_wp2_with (at_builtin; refine wpList_append_own _ rfl _ _ 37 rfl w.heap.size 5 i0 (.int .u8 0) 1 1 Tryz.underlying37 hi hz0 hz1 hz2 rfl (by decide) _ _ _ rfl (hown.1.alloc _) ⟨wr.heap.size, 0, none⟩ 1 1 [.int .u8 c.toNat] rfl rfl ?c1 ?c2 ?c3 ?c4 ?c5 ?_)
        case c1 =>
          intro j u hj
          match j, hj with
          | 0, hj => simp at hj; subst hj; simp [Addr.add]
        case c2 => intro u hu; simp at hu; subst hu; rfl
        case c3 => unfold maxLen; omega
        case c4 => omega
        case c5 => have := hown.2.size; simp; omega
        intro v' w1 hown' hgrow _
        have hR := hown.step (news := [c]) hown' hgrow rfl HC.out
        clear hown' hgrow hown
        go_wp2_with fail
        go_roundw
        case rel => exact ⟨k + 1, by omega, by go_num, by rw [HS.out]; exact hR⟩
        case measure => simp [intOf]; omega

    · have hke : k = s.size := by omega
      subst hke
      obtain ⟨A, hA⟩ : ∃ A, accL s.data.toList s.size = A := ⟨_, rfl⟩
      rw [hA] at hown hlen
      have HA := Lib.hid hA
      clear hA
      go_wp2_with (at_builtin; refine wpList_append_own _ rfl _ _ 37 rfl w.heap.size 5 i0 (.int .u8 0) 1 1 Tryz.underlying37 hi hz0 hz1 hz2 rfl (by decide) _ _ _ rfl (hown.1.alloc _) ⟨wr.heap.size, 0, none⟩ 1 1 [.int .u8 34] rfl rfl ?c1 ?c2 ?c3 ?c4 ?c5 ?_)
      case c1 =>
        intro j u hj
        match j, hj with
        | 0, hj => simp at hj; subst hj; simp [Addr.add]
      case c2 => intro u hu; simp at hu; subst hu; rfl
      case c3 => unfold maxLen; omega
      case c4 => omega
      case c5 => have := hown.2.size; simp; omega
      intro v' w1 hown' hgrow _
      have hR := hown.step (news := [34]) hown' hgrow rfl rfl
      clear hown' hgrow hown
      obtain ⟨g, cap, rfl, hg, hgl⟩ := hR.1.form (by simp)
      have hcv := run_convert_bytes_back (P := Tryz.prog) w1 37 9 5 ⟨g, 0, none⟩ cap (A ++ [34]) Tryz.underlying37 Tryz.underlying5 Tryz.underlying9 (fun j hj => by
        have := hR.1.cells (g := g) rfl j _ (List.getElem?_eq_getElem (by simpa [Lib.byteCells] using hj))
        rw [this]
        simp only [Lib.byteCells, List.getElem_map])
      obtain ⟨n, hn⟩ : ∃ n, (A ++ [34]).length = n := ⟨_, rfl⟩
      rw [hn] at hcv ⊢
      clear hn
      have HB := Lib.hid hR.2
      clear hR
      go_wp2_with fail
      go_ret2
      exact ⟨by rw [HA.out]; rfl, HB.out⟩

theorem rquote_any (s : ByteArray) (w : World) (hs : s.size ≤ 20000) :
    Calls Tryz.prog 52 #[.string s] w fun e w' => e = .returned (quoteR s.data.toList) ∧ Below w.heap.size w w' := by
  cases hv : Lib.validD s.data.toList with
  | false => exact rquote_no s w hv hs
  | true => exact rquote_yes s w hv hs
end Go.Proofs.YtllkcldckehipaaGreatDoor.Ru
