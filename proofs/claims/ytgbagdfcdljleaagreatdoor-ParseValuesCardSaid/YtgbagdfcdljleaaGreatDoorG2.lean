/-
  Contracts of strconv.ParseUint (four hexadecimal digits), and of unit, joiner, long, escape, of package runes. · Contracts of joiner, long, escape, of package runes. · The contract of escape, of package runes.
-/
import Derived.Test.YtgbagdfcdljleaaGreatDoorPu
import Derived.Handy
import Derived.Deep.QuietTactic
import Derived.BigQuiet
import Derived.WalkSmall
import Derived.WalkSpells
import Derived.Test.YtgbagdfcdljleaaGreatDoorBase
import Derived.Lib.Strings
set_option linter.unusedVariables false
set_option linter.unusedSimpArgs false
namespace Go.Proofs.YtgbagdfcdljleaaGreatDoor.Ru
open Go.RowKit Go.Shelf Go.Maps

/-- What the calls take of the package variables: unicode/utf8's two tables; strconv.ErrSyntax holds an error. -/
def Env (w : World) : Prop := 7 ≤ w.heap.size ∧ Lib.Utf8Tabs 1 2 w ∧ ∃ ev, w.cell? ⟨3, 0, none⟩ = some ev ∧ (ev = .nilIface ∨ ∃ te pe, ev = .iface te pe)
theorem Env.below {n : Nat} {w w' : World} (h : Env w) (hb : Below n w w') (hn : 7 ≤ n) : Env w' := by
  obtain ⟨h1, h2, ev, h3, h4⟩ := h
  exact ⟨Nat.le_trans h1 hb.size, tabs_below h2 hb (by omega), ev, (hb.cell (p := ⟨3, 0, none⟩) (by simp; omega)).trans h3, h4⟩

set_option maxHeartbeats 1000000 in
theorem pu_ok (t : ByteArray) (hne : t.size ≠ 0) (hmax : t.size ≤ 4) (n : Nat) (h : parse16 0 t.data.toList = some n) (w : World) :
    Calls Tryz.prog 82 #[.string t, .int .i64 16, .int .i64 16] w fun e w' => e = .returned (.tuple #[.int .u64 n, .nilIface]) ∧ Below w.heap.size w w' := by
  have hp := parse16_any t hne hmax w
  rw [h] at hp
  simp only [uintRes] at hp
  have HP := Lib.hid hp
  have hb := Lib.hid (Lib.bytesWorld_below w 5 t)
  clear hp h
  go_enter Tryz.func82, Tryz.ntmps82
  go_wp2_with (go_at_call 83; refine HP.out.mono ?_; rintro e w' ⟨rfl, rfl⟩)
  go_ret2
  exact ⟨rfl, hb.out⟩
set_option maxHeartbeats 1000000 in
theorem pu_no (t : ByteArray) (hne : t.size ≠ 0) (hmax : t.size ≤ 4) (h : parse16 0 t.data.toList = none) (w : World) (hE : Env w) :
    Calls Tryz.prog 82 #[.string t, .int .i64 16, .int .i64 16] w fun e w' => (∃ T v, e = .returned (.tuple #[.int .u64 0, .iface T v])) ∧ Below w.heap.size w w' := by
  have hp := parse16_any t hne hmax w
  rw [h] at hp
  simp only [uintRes] at hp
  have HP := Lib.hid hp
  have hb := Lib.bytesWorld_below w 5 t
  have hE1 := hE.below hb hE.1
  obtain ⟨_, _, ev, hev, hev2⟩ := hE1
  have HT := Lib.hid (Tryz.strconv_toError_syntax ⟨#[80, 97, 114, 115, 101, 85, 105, 110, 116]⟩ t 16 16 ev _ (by omega) hev hev2)
  have HB := Lib.hid hb
  clear hp h hev hev2 hb hE
  go_enter Tryz.func82, Tryz.ntmps82
  go_wp2_with (first | (go_at_call 83; refine HP.out.mono ?_; rintro e w' ⟨rfl, rfl⟩) | (go_at_call 84; refine HT.out.mono ?_; rintro e w' ⟨N, rfl, _, _, hb2⟩))
  go_ret2
  exact ⟨⟨_, _, rfl⟩, HB.out.trans (hb2.mono HB.out.size)⟩

/-- A '\u' and four hexadecimal digits at the head: their number. -/
def unitL : List UInt8 → Option Nat
  | x :: y :: a :: b :: c :: d :: _ => if x = 92 ∧ y = 117 then parse16 0 [a, b, c, d] else none
  | _ => none
def unitRes : Option Nat → Value
  | some n => .tuple #[.int .i64 n, .bool true]
  | none => .tuple #[.int .i64 0, .bool false]

theorem unitL_short {l : List UInt8} (h : l.length < 6) : unitL l = none := by
  unfold unitL
  split
  · simp at h
    omega
  · rfl
theorem unitL_long {l : List UInt8} (h : 6 ≤ l.length) : unitL l = if l.getD 0 0 = 92 ∧ l.getD 1 0 = 117 then parse16 0 ((l.drop 2).take 4) else none := by
  match l, h with
  | x :: y :: a :: b :: c :: d :: t, _ => simp [unitL]
theorem parse16_lt : ∀ (l : List UInt8) (acc n : Nat), parse16 acc l = some n → n < (acc + 1) * 16 ^ l.length
  | [], acc, n, h => by simp [parse16] at h; simp; omega
  | c :: t, acc, n, h => by
    unfold parse16 at h
    split at h
    · have := parse16_lt t _ _ h
      have e : 16 ^ (c :: t).length = 16 * 16 ^ t.length := by rw [List.length_cons, Nat.pow_succ, Nat.mul_comm]
      rw [e, ← Nat.mul_assoc]
      refine Nat.lt_of_lt_of_le this (Nat.mul_le_mul_right _ ?_)
      omega
    · cases h
theorem unitL_lt {l : List UInt8} {n : Nat} (h : unitL l = some n) : n < 65536 := by
  unfold unitL at h
  split at h
  · split at h
    · have := parse16_lt _ _ _ h
      simpa using this
    · cases h
  · cases h

set_option maxHeartbeats 2000000 in
set_option maxRecDepth 100000 in
theorem unit_any (s : ByteArray) (p : Nat) (hp : p ≤ s.size) (hs : s.size ≤ maxLen) (w : World) (hE : Env w) :
    Calls Tryz.prog 78 #[.string s, .int .i64 p] w fun e w' => e = .returned (unitRes (unitL (s.data.toList.drop p))) ∧ Below w.heap.size w w' := by
  have hs9 : s.size ≤ 9223372036854775807 := by unfold maxLen at hs; omega
  clear hs
  have hll : (s.data.toList.drop p).length = s.size - p := by rw [List.length_drop, Array.length_toList]; rfl
  by_cases h6 : s.size - p < 6
  · have hr := Lib.hid (unitL_short (l := s.data.toList.drop p) (by omega))
    have h6' : (s.size : Int) - (p : Int) < 6 := by omega
    clear hll h6 hE
    go_enter Tryz.func78, Tryz.ntmps78
    go_wp2_with fail
    go_ret2
    exact ⟨by rw [hr.out]; rfl, Below.refl _ _⟩
  · have hu := unitL_long (l := s.data.toList.drop p) (by omega)
    have g0 : (s.data.toList.drop p).getD 0 0 = s[p]'(by omega) := by
      rw [List.getD, List.getElem?_drop, Nat.add_zero, toList_getElem s p (by omega)]; rfl
    have g1 : (s.data.toList.drop p).getD 1 0 = s[p + 1]'(by omega) := by
      rw [List.getD, List.getElem?_drop, toList_getElem s (p + 1) (by omega)]; rfl
    rw [g0, g1, List.drop_drop] at hu
    have h6' : ¬ (s.size : Int) - (p : Int) < 6 := by omega
    have hi0 : p < s.size := by omega
    have hi1 : p + 1 < s.size := by omega
    have hi6 : p + 6 ≤ s.size := by omega
    clear g0 g1 hll
    cases hb0 : ((s[p]'hi0).toNat : Int) != 92 with
    | true =>
      have hr := Lib.hid (show unitL (s.data.toList.drop p) = none by
        rw [hu, if_neg]
        rintro ⟨e, _⟩
        rw [e] at hb0
        exact absurd hb0 (by decide))
      clear hu hE h6
      go_enter Tryz.func78, Tryz.ntmps78
      go_wp2_with fail
      go_ret2
      exact ⟨by rw [hr.out]; rfl, Below.refl _ _⟩
    | false =>
      have hx0 : s[p]'hi0 = 92 := by
        have : ((s[p]'hi0).toNat : Int) = 92 := by simpa using hb0
        exact UInt8.toNat_inj.1 (by simpa using (by omega : (s[p]'hi0).toNat = 92))
      cases hb1 : ((s[p + 1]'hi1).toNat : Int) != 117 with
      | true =>
        have hr := Lib.hid (show unitL (s.data.toList.drop p) = none by
          rw [hu, if_neg]
          rintro ⟨_, e⟩
          rw [e] at hb1
          exact absurd hb1 (by decide))
        clear hu hE h6 hx0
        go_enter Tryz.func78, Tryz.ntmps78
        go_wp2_with fail
        go_ret2
        exact ⟨by rw [hr.out]; rfl, Below.refl _ _⟩
      | false =>
        have hx1 : s[p + 1]'hi1 = 117 := by
          have : ((s[p + 1]'hi1).toNat : Int) = 117 := by simpa using hb1
          exact UInt8.toNat_inj.1 (by simpa using (by omega : (s[p + 1]'hi1).toNat = 117))
        rw [if_pos ⟨hx0, hx1⟩] at hu
        have het : (s.extract (p + 2) (p + 6)).data.toList = (s.data.toList.drop (p + 2)).take 4 := by
          rw [Lib.extract_data, show p + 6 - (p + 2) = 4 by omega]
        have hes : (s.extract (p + 2) (p + 6)).size = 4 := by rw [ByteArray.size_extract]; omega
        rw [← het] at hu
        clear het hx0 hx1 h6
        cases hp : parse16 0 (s.extract (p + 2) (p + 6)).data.toList with
        | some n =>
          have hn := Lib.hid (pu_ok (s.extract (p + 2) (p + 6)) (by omega) (by omega) n hp)
          have hl : n < 65536 := unitL_lt (hu.trans hp)
          have hr := Lib.hid (hu.trans hp)
          clear hu hp hes hE
          go_enter Tryz.func78, Tryz.ntmps78
          go_wp2_with (go_at_call 82; refine (hn.out _).mono ?_; rintro e w' ⟨rfl, hb⟩)
          go_quiet (fail)
          go_wp2
          go_ret2
          exact ⟨by rw [hr.out]; rfl, hb.trans ⟨rfl, rfl, rfl, Nat.le_refl _, fun _ _ => rfl⟩⟩
        | none =>
          have hn := Lib.hid (pu_no (s.extract (p + 2) (p + 6)) (by omega) (by omega) hp _ hE)
          have hr := Lib.hid (hu.trans hp)
          clear hu hp hes hE
          go_enter Tryz.func78, Tryz.ntmps78
          go_wp2_with (go_at_call 82; refine hn.out.mono ?_; rintro e w' ⟨⟨T, v, rfl⟩, hb⟩)
          go_quiet (fail)
          go_wp2
          go_ret2
          exact ⟨by rw [hr.out]; rfl, hb.trans ⟨rfl, rfl, rfl, Nat.le_refl _, fun _ _ => rfl⟩⟩
end Go.Proofs.YtgbagdfcdljleaaGreatDoor.Ru

namespace Go.Proofs.YtgbagdfcdljleaaGreatDoor.Ru
open Go.RowKit Go.Shelf Go.Maps

def isFst (u : Nat) : Bool := decide (55296 ≤ u) && decide (u ≤ 56319)
def isSnd (u : Nat) : Bool := decide (56320 ≤ u) && decide (u ≤ 57343)

section
variable (u N : Nat) (hu : u < 65536) (W : World)
set_option maxHeartbeats 1000000 in
include hu in
theorem join_snd0 (h : isSnd u = true) (hb : Boxed W N 3 (.int .i64 0)) :
    Calls Tryz.prog 81 #[.int .i64 u, .pointer (some ⟨N, 0, none⟩)] W fun e w' => e = .returned (.int .i64 (-2)) ∧ w' = W := by
  obtain ⟨h1, h2⟩ : 56320 ≤ u ∧ u ≤ 57343 := by simpa [isSnd] using h
  have hc := hb.cell
  have h3 : 55296 ≤ u := by omega
  have h4 : ¬ u ≤ 56319 := by omega
  clear h hb
  go_enter Tryz.func81, Tryz.ntmps81
  go_wp2_with fail
  go_ret
  exact ⟨rfl, rfl⟩
set_option maxHeartbeats 1000000 in
include hu in
theorem join_fst0 (h : isFst u = true) (hb : Boxed W N 3 (.int .i64 0)) :
    Calls Tryz.prog 81 #[.int .i64 u, .pointer (some ⟨N, 0, none⟩)] W fun e w' => e = .returned (.int .i64 (-1)) ∧ w' = W.setCell ⟨N, 0, none⟩ (.int .i64 u) := by
  obtain ⟨h1, h2⟩ : 55296 ≤ u ∧ u ≤ 56319 := by simpa [isFst] using h
  have hc := hb.cell
  have hf := hb.frozen
  have h3 : ¬ 56320 ≤ u := by omega
  clear h hb
  go_enter Tryz.func81, Tryz.ntmps81
  go_wp2_with fail
  go_ret
  exact ⟨rfl, rfl⟩
set_option maxHeartbeats 1000000 in
include hu in
theorem join_one0 (h : isFst u = false) (h' : isSnd u = false) (hb : Boxed W N 3 (.int .i64 0)) :
    Calls Tryz.prog 81 #[.int .i64 u, .pointer (some ⟨N, 0, none⟩)] W fun e w' => e = .returned (.int .i64 u) ∧ w' = W := by
  have h1 : u < 55296 ∨ 57343 < u := by
    simp [isFst, isSnd] at h h'
    omega
  have hc := hb.cell
  clear h hb h'
  rcases h1 with h1 | h1
  all_goals
    go_enter Tryz.func81, Tryz.ntmps81
    go_wp2_with fail
    go_ret
    exact ⟨rfl, rfl⟩
set_option maxHeartbeats 1000000 in
include hu in
theorem join_snd1 (f : Nat) (hf : isFst f = true) (h : isSnd u = true) (hb : Boxed W N 3 (.int .i64 f)) :
    Calls Tryz.prog 81 #[.int .i64 u, .pointer (some ⟨N, 0, none⟩)] W fun e w' => e = .returned (.int .i64 ((65536 + (f - 55296) * 1024 + (u - 56320) : Nat) : Int)) ∧ w' = W := by
  obtain ⟨h1, h2⟩ : 56320 ≤ u ∧ u ≤ 57343 := by simpa [isSnd] using h
  obtain ⟨f1, f2⟩ : 55296 ≤ f ∧ f ≤ 56319 := by simpa [isFst] using hf
  have hc := hb.cell
  have hne : ((f : Int) != 0) = true := by simp; omega
  have h3 : 55296 ≤ u := by omega
  have h4 : ¬ u ≤ 56319 := by omega
  clear h hb hf
  go_enter Tryz.func81, Tryz.ntmps81
  go_wp2_with fail
  go_ret
  refine ⟨ret_int ?_, rfl⟩
  omega
set_option maxHeartbeats 1000000 in
include hu in
theorem join_no1 (f : Nat) (hf : isFst f = true) (h : isSnd u = false) (hb : Boxed W N 3 (.int .i64 f)) :
    Calls Tryz.prog 81 #[.int .i64 u, .pointer (some ⟨N, 0, none⟩)] W fun e w' => e = .returned (.int .i64 (-2)) ∧ w' = W := by
  obtain ⟨f1, f2⟩ : 55296 ≤ f ∧ f ≤ 56319 := by simpa [isFst] using hf
  have h1 : u < 55296 ∨ (55296 ≤ u ∧ u ≤ 56319) ∨ 57343 < u := by
    simp [isSnd] at h
    omega
  have hc := hb.cell
  have hne : ((f : Int) != 0) = true := by simp; omega
  clear h hb hf
  rcases h1 with h1 | ⟨h1, h2⟩ | h1
  all_goals
    go_enter Tryz.func81, Tryz.ntmps81
    go_wp2_with fail
    go_ret
    exact ⟨rfl, rfl⟩
end

theorem joiner_any (w : World) : Calls Tryz.prog 77 #[] w fun e w' => e = .returned (.func (.func 81) #[] #[.pointer (some ⟨w.heap.size, 0, none⟩)]) ∧ w' = w.alloc (.cells #[.int .i64 0] 3) := by
  go_enter Tryz.func77, Tryz.ntmps77
  go_wp2_with fail
  go_ret
  exact ⟨rfl, rfl⟩

/-- A rune's '\u', or its two: the rune, and how many bytes. -/
def longL (l : List UInt8) : Option (Nat × Nat) :=
  match unitL l with
  | none => none
  | some u =>
    if isFst u then
      match unitL (l.drop 6) with
      | none => none
      | some v => if isSnd v then some (65536 + (u - 55296) * 1024 + (v - 56320), 12) else none
    else if isSnd u then none else some (u, 6)
def pairRes (p : Nat) : Option (Nat × Nat) → Value
  | some x => .tuple #[.int .i64 x.1, .int .i64 ((p + x.2 : Nat) : Int)]
  | none => .tuple #[.int .i64 0, .int .i64 0]
theorem unitL_some_le {l : List UInt8} {n : Nat} (h : unitL l = some n) : 6 ≤ l.length := by
  rcases Nat.lt_or_ge l.length 6 with h' | h'
  · rw [unitL_short h'] at h; cases h
  · exact h'
theorem longL_rune {l : List UInt8} {r k : Nat} (h : longL l = some (r, k)) : r ≤ 1114111 ∧ (r < 55296 ∨ 57343 < r) ∧ (k = 6 ∨ k = 12) := by
  unfold longL at h
  split at h
  · cases h
  · rename_i u hu
    have hul := unitL_lt hu
    split at h
    · rename_i hf
      split at h
      · cases h
      · rename_i v hv
        split at h
        · rename_i hs
          simp only [Option.some.injEq, Prod.mk.injEq] at h
          obtain ⟨h1, h2⟩ := h
          simp [isFst] at hf
          simp [isSnd] at hs
          omega
        · cases h
    · rename_i hf
      split at h
      · cases h
      · rename_i hs
        simp only [Option.some.injEq, Prod.mk.injEq] at h
        obtain ⟨h1, h2⟩ := h
        simp [isFst] at hf
        simp [isSnd] at hs
        omega

/-- What the loop of long holds at a round's head. -/
def LongAt (l : List UInt8) (p N : Nat) (at' r : Int) (W : World) : Prop :=
  (r = -1 ∧ at' = p ∧ Boxed W N 3 (.int .i64 0)) ∨
  (∃ f, r = -1 ∧ at' = ((p + 6 : Nat) : Int) ∧ Boxed W N 3 (.int .i64 (f : Nat)) ∧ isFst f = true ∧ unitL l = some f) ∨
  (r = -2 ∧ longL l = none) ∨
  (∃ rr k : Nat, r = rr ∧ at' = ((p + k : Nat) : Int) ∧ longL l = some (rr, k))

set_option maxHeartbeats 2000000 in
set_option maxRecDepth 100000 in
theorem long_any (s : ByteArray) (p : Nat) (hp : p ≤ s.size) (hs : s.size ≤ maxLen) (w : World) (hE : Env w) :
    Calls Tryz.prog 73 #[.string s, .int .i64 p] w fun e w' => e = .returned (pairRes p (longL (s.data.toList.drop p))) ∧ Below w.heap.size w w' := by
  have hs9 : s.size ≤ 9223372036854775807 := by unfold maxLen at hs; omega
  have hll : (s.data.toList.drop p).length = s.size - p := by rw [List.length_drop, Array.length_toList]; rfl
  have hM := Lib.hid hs
  clear hs
  go_enter Tryz.func73, Tryz.ntmps73
  go_wp2_with (go_at_call 77; refine (joiner_any _).mono ?_; rintro e w' ⟨rfl, rfl⟩)
  go_loopw [1, 4] (fun va vr wr => ∃ at' r : Int, va = .int .i64 at' ∧ vr = .int .i64 r ∧ LongAt (s.data.toList.drop p) p w.heap.size at' r wr ∧ Below w.heap.size w wr)
    (fun va vr _ => if intOf vr = -1 then p + 7 - (intOf va).toNat else 0)
  case atStart => exact ⟨_, _, rfl, rfl, .inl ⟨rfl, rfl, Boxed.new w _ _⟩, (Below.refl _ w).alloc (Nat.le_refl _) _⟩
  case round =>
    obtain ⟨at', r, rfl, rfl, hA, hB⟩ := hrel
    rcases hA with ⟨rfl, rfl, bx⟩ | ⟨f, rfl, rfl, bx, hf, hu⟩ | ⟨rfl, hn⟩ | ⟨rr, k, rfl, rfl, hn⟩
    · have hun := Lib.hid (unit_any s p hp hM.out wr (hE.below hB hE.1))
      cases hu : unitL (s.data.toList.drop p) with
      | none =>
        have hl := Lib.hid (show longL (s.data.toList.drop p) = none by unfold longL; rw [hu])
        have hun' := hun.out
        rw [hu] at hun'
        simp only [unitRes] at hun'
        have HU := Lib.hid hun'
        clear hun hun' hu hE
        go_wp2_with (go_at_call 78; refine HU.out.mono ?_; rintro e w' ⟨rfl, hb⟩)
        go_ret2
        exact ⟨by rw [hl.out]; rfl, hB.trans (hb.mono hB.size)⟩
      | some u =>
        have hul := unitL_lt hu
        have hle := unitL_some_le hu
        rw [hll] at hle
        have hun' := hun.out
        rw [hu] at hun'
        simp only [unitRes] at hun'
        have HU := Lib.hid hun'
        have H0 := Lib.hid hu
        clear hun hun' hu hE
        cases hf : isFst u with
        | true =>
          have HJ := Lib.hid (fun W => join_fst0 u w.heap.size hul W hf)
          have HF := Lib.hid hf
          clear hf
          go_wp2_with fail
          refine HU.out.mono ?_
          rintro e w1 ⟨rfl, hb⟩
          have bx1 : Boxed w1 w.heap.size 3 (.int .i64 0) := (hb.block _ bx.lt).trans bx
          go_wp2_with fail
          refine (HJ.out _ bx1).mono ?_
          rintro e w2 ⟨rfl, rfl⟩
          have bx2 := bx1.set (.int .i64 u)
          have hz := hb.size
          go_wp2_with fail
          go_roundw
          case rel => exact ⟨_, _, rfl, rfl, .inr (.inl ⟨u, rfl, by omega, bx2, HF.out, H0.out⟩), (hB.trans (hb.mono hB.size)).setCell (p := ⟨w.heap.size, 0, none⟩) (Nat.le_refl _) _⟩
          case measure => simp [intOf] <;> omega
        | false =>
          cases hs2 : isSnd u with
          | true =>
            have HJ := Lib.hid (fun W => join_snd0 u w.heap.size hul W hs2)
            have HL := Lib.hid (show longL (s.data.toList.drop p) = none by unfold longL; rw [H0.out]; simp [hf, hs2])
            clear hf hs2
            go_wp2_with fail
            refine HU.out.mono ?_
            rintro e w1 ⟨rfl, hb⟩
            have bx1 : Boxed w1 w.heap.size 3 (.int .i64 0) := (hb.block _ bx.lt).trans bx
            go_wp2_with fail
            refine (HJ.out _ bx1).mono ?_
            rintro e w2 ⟨rfl, rfl⟩
            go_wp2_with fail
            go_roundw
            case rel => exact ⟨_, _, rfl, rfl, .inr (.inr (.inl ⟨rfl, HL.out⟩)), hB.trans (hb.mono hB.size)⟩
            case measure => simp [intOf] <;> omega
          | false =>
            have HJ := Lib.hid (fun W => join_one0 u w.heap.size hul W hf hs2)
            have HL := Lib.hid (show longL (s.data.toList.drop p) = some (u, 6) by unfold longL; rw [H0.out]; simp [hf, hs2])
            clear hf hs2
            go_wp2_with fail
            refine HU.out.mono ?_
            rintro e w1 ⟨rfl, hb⟩
            have bx1 : Boxed w1 w.heap.size 3 (.int .i64 0) := (hb.block _ bx.lt).trans bx
            go_wp2_with fail
            refine (HJ.out _ bx1).mono ?_
            rintro e w2 ⟨rfl, rfl⟩
            go_wp2_with fail
            go_roundw
            case rel => exact ⟨_, _, rfl, rfl, .inr (.inr (.inr ⟨u, 6, rfl, by omega, HL.out⟩)), hB.trans (hb.mono hB.size)⟩
            case measure => simp [intOf] <;> omega
    · have hle := unitL_some_le hu
      rw [hll] at hle
      have hun := Lib.hid (unit_any s (p + 6) (by omega) hM.out wr (hE.below hB hE.1))
      have hdd : (s.data.toList.drop p).drop 6 = s.data.toList.drop (p + 6) := by rw [List.drop_drop]
      have hll6 : (s.data.toList.drop (p + 6)).length = s.size - (p + 6) := by rw [List.length_drop, Array.length_toList]; rfl
      cases hv : unitL (s.data.toList.drop (p + 6)) with
      | none =>
        have hl := Lib.hid (show longL (s.data.toList.drop p) = none by unfold longL; rw [hu, hdd, hv]; simp [hf])
        have hun' := hun.out
        rw [hv] at hun'
        simp only [unitRes] at hun'
        clear hun hu hE hv hf hdd hll6
        rw [show ((p + 6 : Nat) : Int) = (p : Int) + 6 from rfl] at hun'
        have HU := Lib.hid hun'
        clear hun'
        go_wp2_with fail
        refine HU.out.mono ?_
        rintro e w1 ⟨rfl, hb⟩
        go_wp2_with fail
        go_ret2
        exact ⟨by rw [hl.out]; rfl, hB.trans (hb.mono hB.size)⟩
      | some v =>
        have hvl := unitL_lt hv
        have hle2 := unitL_some_le hv
        rw [hll6] at hle2
        have hun' := hun.out
        rw [hv] at hun'
        simp only [unitRes] at hun'
        rw [show ((p + 6 : Nat) : Int) = (p : Int) + 6 from rfl] at hun'
        have HU := Lib.hid hun'
        clear hun hun' hE
        cases hs2 : isSnd v with
        | true =>
          have HJ := Lib.hid (fun W => join_snd1 v w.heap.size hvl W f hf hs2)
          have HL := Lib.hid (show longL (s.data.toList.drop p) = some (65536 + (f - 55296) * 1024 + (v - 56320), 12) by unfold longL; rw [hu, hdd, hv]; simp [hf, hs2])
          obtain ⟨rr, hrr⟩ : ∃ rr, 65536 + (f - 55296) * 1024 + (v - 56320) = rr := ⟨_, rfl⟩
          have hr16 : 65536 ≤ rr := by omega
          rw [hrr] at HJ HL
          clear hf hs2 hu hv hdd hrr hll6 hll
          go_wp2_with fail
          refine HU.out.mono ?_
          rintro e w1 ⟨rfl, hb⟩
          have bx1 : Boxed w1 w.heap.size 3 (.int .i64 f) := (hb.block _ bx.lt).trans bx
          go_wp2_with fail
          refine (HJ.out _ bx1).mono ?_
          rintro e w2 ⟨rfl, rfl⟩
          go_wp2_with fail
          go_roundw
          case rel => exact ⟨_, _, rfl, rfl, .inr (.inr (.inr ⟨rr, 12, rfl, by omega, HL.out⟩)), hB.trans (hb.mono hB.size)⟩
          case measure => simp [intOf] <;> omega
        | false =>
          have HJ := Lib.hid (fun W => join_no1 v w.heap.size hvl W f hf hs2)
          have HL := Lib.hid (show longL (s.data.toList.drop p) = none by unfold longL; rw [hu, hdd, hv]; simp [hf, hs2])
          clear hf hs2 hu hv hdd hll6 hll
          go_wp2_with fail
          refine HU.out.mono ?_
          rintro e w1 ⟨rfl, hb⟩
          have bx1 : Boxed w1 w.heap.size 3 (.int .i64 f) := (hb.block _ bx.lt).trans bx
          go_wp2_with fail
          refine (HJ.out _ bx1).mono ?_
          rintro e w2 ⟨rfl, rfl⟩
          go_wp2_with fail
          go_roundw
          case rel => exact ⟨_, _, rfl, rfl, .inr (.inr (.inl ⟨rfl, HL.out⟩)), hB.trans (hb.mono hB.size)⟩
          case measure => simp [intOf] <;> omega
    · go_wp2_with fail
      go_ret2
      have HN := hn
      exact ⟨by rw [hn]; rfl, hB⟩
    · have hr := longL_rune hn
      have HN := Lib.hid hn
      clear hn hE
      go_wp2_with fail
      go_ret2
      exact ⟨by rw [HN.out]; rfl, hB⟩
end Go.Proofs.YtgbagdfcdljleaaGreatDoor.Ru

namespace Go.Proofs.YtgbagdfcdljleaaGreatDoor.Ru
open Go.RowKit Go.Shelf Go.Maps

/-- The rune that a letter behind a backslash stands for; 0: none. -/
def meanN (c : Nat) : Nat := if c = 47 then 47 else if c = 98 then 8 else if c = 116 then 9 else if c = 110 then 10 else if c = 102 then 12 else if c = 114 then 13 else if c = 34 then 34 else if c = 92 then 92 else 0
/-- An escape: the rune, and how many bytes. (The first byte is not looked at but by 'long'.) -/
def escL (l : List UInt8) : Option (Nat × Nat) :=
  match l with
  | _ :: c :: _ => if c = 117 then longL l else if meanN c.toNat ≠ 0 then some (meanN c.toNat, 2) else none
  | _ => none

theorem look_meanings {W : World} {b n : Nat} {D : DataW Unit} (h : W.ownsMap Tryz.prog 5 (plainElem Tryz.prog 3) b n D) (hD : ∀ c : Int, D.atKey (.int .u8 c) .nil = meanD c) (c : Nat) (hc : c < 256) :
    (Instr.lookup 85 (.map (some b)) (.int .u8 c) true).run Tryz.prog W = .ok (.tuple #[.int .i64 (meanN c), .bool (decide (meanN c ≠ 0))]) W := by
  have hz : (zeroValue 3).run Tryz.prog W = .ok (.int .i64 0) W := by kernel_rfl
  have hkey : keyOf Tryz.prog 5 (.int .u8 c) = some (.int .u8 c) := keyOf_int_mk Tryz.underlying5 (by go_wf)
  have hlk := look_ok h law5 Tryz.underlying85 Tryz.underlying3 hz hkey
  rw [hD] at hlk
  have key : ∀ k : Nat, ((c : Int) = (k : Int)) = (c = k) := fun k => propext Int.ofNat_inj
  have h1 : ((c : Int) = 47) = (c = 47) := key 47
  have h2 : ((c : Int) = 98) = (c = 98) := key 98
  have h3 : ((c : Int) = 116) = (c = 116) := key 116
  have h4 : ((c : Int) = 110) = (c = 110) := key 110
  have h5 : ((c : Int) = 102) = (c = 102) := key 102
  have h6 : ((c : Int) = 114) = (c = 114) := key 114
  have h7 : ((c : Int) = 34) = (c = 34) := key 34
  have h8 : ((c : Int) = 92) = (c = 92) := key 92
  unfold meanD meanL at hlk
  simp only [h1, h2, h3, h4, h5, h6, h7, h8, and_true] at hlk
  unfold meanN
  repeat' split at hlk
  all_goals (rcases hlk with ⟨e, hrun⟩ | ⟨c', e, hrun⟩)
  all_goals first | (cases e; done) | (cases e; rw [hrun]; simp [*])

theorem escL_eq {l : List UInt8} (h : 2 ≤ l.length) : escL l = if l.getD 1 0 = 117 then longL l else if meanN (l.getD 1 0).toNat ≠ 0 then some (meanN (l.getD 1 0).toNat, 2) else none := by
  match l, h with
  | x :: c :: t, _ => rfl
theorem escL_short {l : List UInt8} (h : l.length < 2) : escL l = none := by
  match l, h with
  | [], _ => rfl
  | [x], _ => rfl

theorem meanN_le (c : Nat) : meanN c ≤ 92 := by
  unfold meanN
  (repeat' split) <;> decide
theorem escL_rune {l : List UInt8} {y : Nat × Nat} (h : escL l = some y) : y.1 ≤ 1114111 ∧ (y.1 < 55296 ∨ 57343 < y.1) ∧ (y.2 = 2 ∨ y.2 = 6 ∨ y.2 = 12) := by
  unfold escL at h
  split at h
  · split at h
    · obtain ⟨h1, h2, h3⟩ := longL_rune (r := y.1) (k := y.2) h
      exact ⟨h1, h2, .inr h3⟩
    · rename_i c _ _
      split at h
      · have := meanN_le c.toNat
        simp only [Option.some.injEq] at h
        subst h
        exact ⟨Nat.le_trans this (by decide), .inl (Nat.lt_of_le_of_lt this (by decide)), .inl rfl⟩
      · cases h
  · cases h

set_option maxHeartbeats 2000000 in
set_option maxRecDepth 100000 in
theorem escape_any (s : ByteArray) (p : Nat) (hp : p < s.size) (hs : s.size ≤ maxLen) (w : World) (hE : Env w) (b n : Nat) (D : DataW Unit) (hm : w.ownsMap Tryz.prog 5 (plainElem Tryz.prog 3) b n D) (hD : ∀ c : Int, D.atKey (.int .u8 c) .nil = meanD c) :
    Calls Tryz.prog 64 #[.string s, .int .i64 p, .map (some b)] w fun e w' => e = .returned (pairRes p (escL (s.data.toList.drop p))) ∧ Below w.heap.size w w' := by
  have hs9 : s.size ≤ 9223372036854775807 := by unfold maxLen at hs; omega
  have hll : (s.data.toList.drop p).length = s.size - p := by rw [List.length_drop, Array.length_toList]; rfl
  by_cases h1 : p + 1 = s.size
  · have hl := Lib.hid (escL_short (l := s.data.toList.drop p) (by omega))
    have h1' : ((p : Int) + 1 == (s.size : Int)) = true := by rw [beq_iff_eq]; omega
    clear hE hm hD hs h1 hll
    go_enter Tryz.func64, Tryz.ntmps64
    go_wp2_with fail
    go_ret2
    exact ⟨by rw [hl.out]; rfl, Below.refl _ _⟩
  · have hlt : p + 1 < s.size := by omega
    have g1 : (s.data.toList.drop p).getD 1 0 = s[p + 1]'hlt := by
      rw [List.getD, List.getElem?_drop, toList_getElem s (p + 1) hlt]; rfl
    have hl := escL_eq (l := s.data.toList.drop p) (by omega)
    rw [g1] at hl
    have h1' : ((p : Int) + 1 == (s.size : Int)) = false := by rw [beq_eq_false_iff_ne]; omega
    have hlk := look_meanings hm hD (s[p + 1]'hlt).toNat (s[p + 1]'hlt).toNat_lt
    have hlong := Lib.hid (long_any s p (by omega) hs w hE)
    clear hE hm hD hs h1 hll g1
    cases hu : ((s[p + 1]'hlt).toNat : Int) == 117 with
    | true =>
      have hx : s[p + 1]'hlt = 117 := by
        have : ((s[p + 1]'hlt).toNat : Int) = 117 := by simpa using hu
        exact UInt8.toNat_inj.1 (by simpa using (by omega : (s[p + 1]'hlt).toNat = 117))
      rw [if_pos hx] at hl
      have HL := Lib.hid hl
      clear hl hx hlk
      go_enter Tryz.func64, Tryz.ntmps64
      go_wp2_with fail
      refine hlong.out.mono ?_
      rintro e w1 ⟨rfl, hb⟩
      obtain ⟨v1, v2, hv⟩ : ∃ v1 v2, pairRes p (longL (s.data.toList.drop p)) = .tuple #[v1, v2] := by
        cases longL (s.data.toList.drop p) <;> exact ⟨_, _, rfl⟩
      have HV := Lib.hid hv
      rw [hv]
      clear hv
      go_wp2_with fail
      go_ret2
      exact ⟨by rw [HL.out, HV.out]; rfl, hb⟩
    | false =>
      have hx : ¬ s[p + 1]'hlt = 117 := by
        intro e
        rw [e] at hu
        exact absurd hu (by decide)
      rw [if_neg hx] at hl
      clear hlong hx
      by_cases hmn : meanN (s[p + 1]'hlt).toNat ≠ 0
      · rw [if_pos hmn] at hl
        rw [decide_eq_true hmn] at hlk
        have HL := Lib.hid hl
        clear hl hmn
        go_enter Tryz.func64, Tryz.ntmps64
        go_wp2_with fail
        go_ret2
        exact ⟨by rw [HL.out]; rfl, Below.refl _ _⟩
      · rw [if_neg hmn] at hl
        rw [decide_eq_false hmn] at hlk
        have HL := Lib.hid hl
        clear hl hmn
        go_enter Tryz.func64, Tryz.ntmps64
        go_wp2_with fail
        go_ret2
        exact ⟨by rw [HL.out]; rfl, Below.refl _ _⟩
end Go.Proofs.YtgbagdfcdljleaaGreatDoor.Ru
