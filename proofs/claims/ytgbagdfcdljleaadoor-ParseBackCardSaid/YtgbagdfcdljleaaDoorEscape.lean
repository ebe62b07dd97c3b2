/-
  The contract of escape, of package runes.
-/
import Derived.Test.YtgbagdfcdljleaaDoorLong
set_option linter.unusedVariables false
namespace Go.Proofs.YtgbagdfcdljleaaDoor.Ru
open Go.RowKit Go.Shelf Go.Maps

/-- The rune that a letter behind a backslash stands for; 0: none. -/
def meanN (c : Nat) : Nat := if c = 47 then 47 else if c = 98 then 8 else if c = 116 then 9 else if c = 110 then 10 else if c = 102 then 12 else if c = 114 then 13 else if c = 34 then 34 else if c = 92 then 92 else 0
/-- An escape: the rune, and how many bytes. (The first byte is not looked at but by 'long'.) -/
def escL (l : List UInt8) : Option (Nat × Nat) :=
  match l with
  | _ :: c :: _ => if c = 117 then longL l else if meanN c.toNat ≠ 0 then some (meanN c.toNat, 2) else none
  | _ => none

theorem look_meanings {W : World} {b n : Nat} {D : DataW Unit} (h : W.ownsMap Tryd.prog 5 (plainElem Tryd.prog 3) b n D) (hD : ∀ c : Int, D.atKey (.int .u8 c) .nil = meanD c) (c : Nat) (hc : c < 256) :
    (Instr.lookup 92 (.map (some b)) (.int .u8 c) true).run Tryd.prog W = .ok (.tuple #[.int .i64 (meanN c), .bool (decide (meanN c ≠ 0))]) W := by
  have hz : (zeroValue 3).run Tryd.prog W = .ok (.int .i64 0) W := by kernel_rfl
  have hkey : keyOf Tryd.prog 5 (.int .u8 c) = some (.int .u8 c) := keyOf_int_mk Tryd.underlying5 (by go_wf)
  have hlk := look_ok h law5 Tryd.underlying92 Tryd.underlying3 hz hkey
  rw [hD] at hlk
  have key : ∀ k : Nat, ((c : Int) = (k : Int)) = (c = k) := fun k => propext Int.ofNat_inj
  have h1 : ((c : Int) = 47) = (c = 47) := key 47
  have h2 : ((c : Int) = 98) = (c = 98) := key 98
  have h3 : ((c : Int) = 116) = (c = 116) := key 116
  have h4 : ((c : Int) = 110) = (c = 110) := key 110
  have h5 : ((c : Int) = 102) = (c = 102) := key 102
  have h6 : ((c : Int) = 114) = (c = 114) := key 114
  have h7 : ((c : Int) = 34) = (c = 34) := key 34
  have h8 : ((c : Int) = 92) = (c = 92) := key 92
  unfold meanD meanL at hlk
  simp only [h1, h2, h3, h4, h5, h6, h7, h8, and_true] at hlk
  unfold meanN
  repeat' split at hlk
  all_goals (rcases hlk with ⟨e, hrun⟩ | ⟨c', e, hrun⟩)
  all_goals first | (cases e; done) | (cases e; rw [hrun]; simp [*])

theorem escL_eq {l : List UInt8} (h : 2 ≤ l.length) : escL l = if l.getD 1 0 = 117 then longL l else if meanN (l.getD 1 0).toNat ≠ 0 then some (meanN (l.getD 1 0).toNat, 2) else none := by
  match l, h with
  | x :: c :: t, _ => rfl
theorem escL_short {l : List UInt8} (h : l.length < 2) : escL l = none := by
  match l, h with
  | [], _ => rfl
  | [x], _ => rfl

theorem meanN_le (c : Nat) : meanN c ≤ 92 := by
  unfold meanN
  (repeat' split) <;> decide
theorem escL_rune {l : List UInt8} {y : Nat × Nat} (h : escL l = some y) : y.1 ≤ 1114111 ∧ (y.1 < 55296 ∨ 57343 < y.1) ∧ (y.2 = 2 ∨ y.2 = 6 ∨ y.2 = 12) := by
  unfold escL at h
  split at h
  · split at h
    · obtain ⟨h1, h2, h3⟩ := longL_rune (r := y.1) (k := y.2) h
      exact ⟨h1, h2, .inr h3⟩
    · rename_i c _ _
      split at h
      · have := meanN_le c.toNat
        simp only [Option.some.injEq] at h
        subst h
        exact ⟨Nat.le_trans this (by decide), .inl (Nat.lt_of_le_of_lt this (by decide)), .inl rfl⟩
      · cases h
  · cases h

set_option maxHeartbeats 2000000 in
set_option maxRecDepth 100000 in
theorem escape_any (s : ByteArray) (p : Nat) (hp : p < s.size) (hs : s.size ≤ maxLen) (w : World) (hE : Env w) (b n : Nat) (D : DataW Unit) (hm : w.ownsMap Tryd.prog 5 (plainElem Tryd.prog 3) b n D) (hD : ∀ c : Int, D.atKey (.int .u8 c) .nil = meanD c) :
    Calls Tryd.prog 68 #[.string s, .int .i64 p, .map (some b)] w fun e w' => e = .returned (pairRes p (escL (s.data.toList.drop p))) ∧ Below w.heap.size w w' := by
  have hs9 : s.size ≤ 9223372036854775807 := by unfold maxLen at hs; omega
  have hll : (s.data.toList.drop p).length = s.size - p := by rw [List.length_drop, Array.length_toList]; rfl
  by_cases h1 : p + 1 = s.size
  · have hl := Lib.hid (escL_short (l := s.data.toList.drop p) (by omega))
    have h1' : ((p : Int) + 1 == (s.size : Int)) = true := by rw [beq_iff_eq]; omega
    clear hE hm hD hs h1 hll
    go_enter Tryd.func68, Tryd.ntmps68
    go_wp2_with fail
    go_ret2
    exact ⟨by rw [hl.out]; rfl, Below.refl _ _⟩
  · have hlt : p + 1 < s.size := by omega
    have g1 : (s.data.toList.drop p).getD 1 0 = s[p + 1]'hlt := by
      rw [List.getD, List.getElem?_drop, toList_getElem s (p + 1) hlt]; rfl
    have hl := escL_eq (l := s.data.toList.drop p) (by omega)
    rw [g1] at hl
    have h1' : ((p : Int) + 1 == (s.size : Int)) = false := by rw [beq_eq_false_iff_ne]; omega
    have hlk := look_meanings hm hD (s[p + 1]'hlt).toNat (s[p + 1]'hlt).toNat_lt
    have hlong := Lib.hid (long_any s p (by omega) hs w hE)
    clear hE hm hD hs h1 hll g1
    cases hu : ((s[p + 1]'hlt).toNat : Int) == 117 with
    | true =>
      have hx : s[p + 1]'hlt = 117 := by
        have : ((s[p + 1]'hlt).toNat : Int) = 117 := by simpa using hu
        exact UInt8.toNat_inj.1 (by simpa using (by omega : (s[p + 1]'hlt).toNat = 117))
      rw [if_pos hx] at hl
      have HL := Lib.hid hl
      clear hl hx hlk
      go_enter Tryd.func68, Tryd.ntmps68
      go_wp2_with fail
      refine hlong.out.mono ?_
      rintro e w1 ⟨rfl, hb⟩
      obtain ⟨v1, v2, hv⟩ : ∃ v1 v2, pairRes p (longL (s.data.toList.drop p)) = .tuple #[v1, v2] := by
        cases longL (s.data.toList.drop p) <;> exact ⟨_, _, rfl⟩
      have HV := Lib.hid hv
      rw [hv]
      clear hv
      go_wp2_with fail
      go_ret2
      exact ⟨by rw [HL.out, HV.out]; rfl, hb⟩
    | false =>
      have hx : ¬ s[p + 1]'hlt = 117 := by
        intro e
        rw [e] at hu
        exact absurd hu (by decide)
      rw [if_neg hx] at hl
      clear hlong hx
      by_cases hmn : meanN (s[p + 1]'hlt).toNat ≠ 0
      · rw [if_pos hmn] at hl
        rw [decide_eq_true hmn] at hlk
        have HL := Lib.hid hl
        clear hl hmn
        go_enter Tryd.func68, Tryd.ntmps68
        go_wp2_with fail
        go_ret2
        exact ⟨by rw [HL.out]; rfl, Below.refl _ _⟩
      · rw [if_neg hmn] at hl
        rw [decide_eq_false hmn] at hlk
        have HL := Lib.hid hl
        clear hl hmn
        go_enter Tryd.func68, Tryd.ntmps68
        go_wp2_with fail
        go_ret2
        exact ⟨by rw [HL.out]; rfl, Below.refl _ _⟩
end Go.Proofs.YtgbagdfcdljleaaDoor.Ru
