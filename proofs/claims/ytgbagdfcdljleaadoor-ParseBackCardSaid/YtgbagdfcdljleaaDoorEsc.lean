/-
  Contracts of strconv.ParseUint (four hexadecimal digits), and of unit, joiner, long, escape, of package runes.
-/
import Derived.Test.YtgbagdfcdljleaaDoorPu
import Derived.Handy
import Derived.Deep.QuietTactic
import Derived.BigQuiet
import Derived.WalkSmall
import Derived.WalkSpells
import Derived.Test.YtgbagdfcdljleaaDoorBase
import Derived.Lib.Strings
set_option linter.unusedVariables false
namespace Go.Proofs.YtgbagdfcdljleaaDoor.Ru
open Go.RowKit Go.Shelf Go.Maps

/-- What the calls take of the package variables: unicode/utf8's two tables; strconv.ErrSyntax holds an error. -/
def Env (w : World) : Prop := 7 ≤ w.heap.size ∧ Lib.Utf8Tabs 0 1 w ∧ ∃ ev, w.cell? ⟨3, 0, none⟩ = some ev ∧ (ev = .nilIface ∨ ∃ te pe, ev = .iface te pe)
theorem Env.below {n : Nat} {w w' : World} (h : Env w) (hb : Below n w w') (hn : 7 ≤ n) : Env w' := by
  obtain ⟨h1, h2, ev, h3, h4⟩ := h
  exact ⟨Nat.le_trans h1 hb.size, tabs_below h2 hb (by omega), ev, (hb.cell (p := ⟨3, 0, none⟩) (by simp; omega)).trans h3, h4⟩

set_option maxHeartbeats 1000000 in
theorem pu_ok (t : ByteArray) (hne : t.size ≠ 0) (hmax : t.size ≤ 4) (n : Nat) (h : parse16 0 t.data.toList = some n) (w : World) :
    Calls Tryd.prog 86 #[.string t, .int .i64 16, .int .i64 16] w fun e w' => e = .returned (.tuple #[.int .u64 n, .nilIface]) ∧ Below w.heap.size w w' := by
  have hp := parse16_any t hne hmax w
  rw [h] at hp
  simp only [uintRes] at hp
  have HP := Lib.hid hp
  have hb := Lib.hid (Lib.bytesWorld_below w 5 t)
  clear hp h
  go_enter Tryd.func86, Tryd.ntmps86
  go_wp2_with (go_at_call 87; refine HP.out.mono ?_; rintro e w' ⟨rfl, rfl⟩)
  go_ret2
  exact ⟨rfl, hb.out⟩
set_option maxHeartbeats 1000000 in
theorem pu_no (t : ByteArray) (hne : t.size ≠ 0) (hmax : t.size ≤ 4) (h : parse16 0 t.data.toList = none) (w : World) (hE : Env w) :
    Calls Tryd.prog 86 #[.string t, .int .i64 16, .int .i64 16] w fun e w' => (∃ T v, e = .returned (.tuple #[.int .u64 0, .iface T v])) ∧ Below w.heap.size w w' := by
  have hp := parse16_any t hne hmax w
  rw [h] at hp
  simp only [uintRes] at hp
  have HP := Lib.hid hp
  have hb := Lib.bytesWorld_below w 5 t
  have hE1 := hE.below hb hE.1
  obtain ⟨_, _, ev, hev, hev2⟩ := hE1
  have HT := Lib.hid (Tryd.strconv_toError_syntax ⟨#[80, 97, 114, 115, 101, 85, 105, 110, 116]⟩ t 16 16 ev _ (by omega) hev hev2)
  have HB := Lib.hid hb
  clear hp h hev hev2 hb hE
  go_enter Tryd.func86, Tryd.ntmps86
  go_wp2_with (first | (go_at_call 87; refine HP.out.mono ?_; rintro e w' ⟨rfl, rfl⟩) | (go_at_call 88; refine HT.out.mono ?_; rintro e w' ⟨N, rfl, _, _, hb2⟩))
  go_ret2
  exact ⟨⟨_, _, rfl⟩, HB.out.trans (hb2.mono HB.out.size)⟩

/-- A '\u' and four hexadecimal digits at the head: their number. -/
def unitL : List UInt8 → Option Nat
  | x :: y :: a :: b :: c :: d :: _ => if x = 92 ∧ y = 117 then parse16 0 [a, b, c, d] else none
  | _ => none
def unitRes : Option Nat → Value
  | some n => .tuple #[.int .i64 n, .bool true]
  | none => .tuple #[.int .i64 0, .bool false]

theorem unitL_short {l : List UInt8} (h : l.length < 6) : unitL l = none := by
  unfold unitL
  split
  · simp at h
    omega
  · rfl
theorem unitL_long {l : List UInt8} (h : 6 ≤ l.length) : unitL l = if l.getD 0 0 = 92 ∧ l.getD 1 0 = 117 then parse16 0 ((l.drop 2).take 4) else none := by
  match l, h with
  | x :: y :: a :: b :: c :: d :: t, _ => simp [unitL]
theorem parse16_lt : ∀ (l : List UInt8) (acc n : Nat), parse16 acc l = some n → n < (acc + 1) * 16 ^ l.length
  | [], acc, n, h => by simp [parse16] at h; simp; omega
  | c :: t, acc, n, h => by
    unfold parse16 at h
    split at h
    · have := parse16_lt t _ _ h
      have e : 16 ^ (c :: t).length = 16 * 16 ^ t.length := by rw [List.length_cons, Nat.pow_succ, Nat.mul_comm]
      rw [e, ← Nat.mul_assoc]
      refine Nat.lt_of_lt_of_le this (Nat.mul_le_mul_right _ ?_)
      omega
    · cases h
theorem unitL_lt {l : List UInt8} {n : Nat} (h : unitL l = some n) : n < 65536 := by
  unfold unitL at h
  split at h
  · split at h
    · have := parse16_lt _ _ _ h
      simpa using this
    · cases h
  · cases h

set_option maxHeartbeats 2000000 in
set_option maxRecDepth 100000 in
theorem unit_any (s : ByteArray) (p : Nat) (hp : p ≤ s.size) (hs : s.size ≤ maxLen) (w : World) (hE : Env w) :
    Calls Tryd.prog 81 #[.string s, .int .i64 p] w fun e w' => e = .returned (unitRes (unitL (s.data.toList.drop p))) ∧ Below w.heap.size w w' := by
  have hs9 : s.size ≤ 9223372036854775807 := by unfold maxLen at hs; omega
  clear hs
  have hll : (s.data.toList.drop p).length = s.size - p := by rw [List.length_drop, Array.length_toList]; rfl
  by_cases h6 : s.size - p < 6
  · have hr := Lib.hid (unitL_short (l := s.data.toList.drop p) (by omega))
    have h6' : (s.size : Int) - (p : Int) < 6 := by omega
    clear hll h6 hE
    go_enter Tryd.func81, Tryd.ntmps81
    go_wp2_with fail
    go_ret2
    exact ⟨by rw [hr.out]; rfl, Below.refl _ _⟩
  · have hu := unitL_long (l := s.data.toList.drop p) (by omega)
    have g0 : (s.data.toList.drop p).getD 0 0 = s[p]'(by omega) := by
      rw [List.getD, List.getElem?_drop, Nat.add_zero, toList_getElem s p (by omega)]; rfl
    have g1 : (s.data.toList.drop p).getD 1 0 = s[p + 1]'(by omega) := by
      rw [List.getD, List.getElem?_drop, toList_getElem s (p + 1) (by omega)]; rfl
    rw [g0, g1, List.drop_drop] at hu
    have h6' : ¬ (s.size : Int) - (p : Int) < 6 := by omega
    have hi0 : p < s.size := by omega
    have hi1 : p + 1 < s.size := by omega
    have hi6 : p + 6 ≤ s.size := by omega
    clear g0 g1 hll
    cases hb0 : ((s[p]'hi0).toNat : Int) != 92 with
    | true =>
      have hr := Lib.hid (show unitL (s.data.toList.drop p) = none by
        rw [hu, if_neg]
        rintro ⟨e, _⟩
        rw [e] at hb0
        exact absurd hb0 (by decide))
      clear hu hE h6
      go_enter Tryd.func81, Tryd.ntmps81
      go_wp2_with fail
      go_ret2
      exact ⟨by rw [hr.out]; rfl, Below.refl _ _⟩
    | false =>
      have hx0 : s[p]'hi0 = 92 := by
        have : ((s[p]'hi0).toNat : Int) = 92 := by simpa using hb0
        exact UInt8.toNat_inj.1 (by simpa using (by omega : (s[p]'hi0).toNat = 92))
      cases hb1 : ((s[p + 1]'hi1).toNat : Int) != 117 with
      | true =>
        have hr := Lib.hid (show unitL (s.data.toList.drop p) = none by
          rw [hu, if_neg]
          rintro ⟨_, e⟩
          rw [e] at hb1
          exact absurd hb1 (by decide))
        clear hu hE h6 hx0
        go_enter Tryd.func81, Tryd.ntmps81
        go_wp2_with fail
        go_ret2
        exact ⟨by rw [hr.out]; rfl, Below.refl _ _⟩
      | false =>
        have hx1 : s[p + 1]'hi1 = 117 := by
          have : ((s[p + 1]'hi1).toNat : Int) = 117 := by simpa using hb1
          exact UInt8.toNat_inj.1 (by simpa using (by omega : (s[p + 1]'hi1).toNat = 117))
        rw [if_pos ⟨hx0, hx1⟩] at hu
        have het : (s.extract (p + 2) (p + 6)).data.toList = (s.data.toList.drop (p + 2)).take 4 := by
          rw [Lib.extract_data, show p + 6 - (p + 2) = 4 by omega]
        have hes : (s.extract (p + 2) (p + 6)).size = 4 := by rw [ByteArray.size_extract]; omega
        rw [← het] at hu
        clear het hx0 hx1 h6
        cases hp : parse16 0 (s.extract (p + 2) (p + 6)).data.toList with
        | some n =>
          have hn := Lib.hid (pu_ok (s.extract (p + 2) (p + 6)) (by omega) (by omega) n hp)
          have hl : n < 65536 := unitL_lt (hu.trans hp)
          have hr := Lib.hid (hu.trans hp)
          clear hu hp hes hE
          go_enter Tryd.func81, Tryd.ntmps81
          go_wp2_with (go_at_call 86; refine (hn.out _).mono ?_; rintro e w' ⟨rfl, hb⟩)
          go_quiet (fail)
          go_wp2
          go_ret2
          exact ⟨by rw [hr.out]; rfl, hb.trans ⟨rfl, rfl, rfl, Nat.le_refl _, fun _ _ => rfl⟩⟩
        | none =>
          have hn := Lib.hid (pu_no (s.extract (p + 2) (p + 6)) (by omega) (by omega) hp _ hE)
          have hr := Lib.hid (hu.trans hp)
          clear hu hp hes hE
          go_enter Tryd.func81, Tryd.ntmps81
          go_wp2_with (go_at_call 86; refine hn.out.mono ?_; rintro e w' ⟨⟨T, v, rfl⟩, hb⟩)
          go_quiet (fail)
          go_wp2
          go_ret2
          exact ⟨by rw [hr.out]; rfl, hb.trans ⟨rfl, rfl, rfl, Nat.le_refl _, fun _ _ => rfl⟩⟩
end Go.Proofs.YtgbagdfcdljleaaDoor.Ru
