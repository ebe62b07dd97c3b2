/-
  The reference's dot, Attr, shut, hole.
-/
import Derived.Test.YtjnoomefppncoaaDoorLy
import Derived.Test.YtjnoomefppncoaaDoorLe
import Derived.Deep.RegionWith
set_option linter.unusedVariables false
namespace Go.Proofs.YtjnoomefppncoaaDoor
open Go.RowKit Go.Shelf

theorem cutB_at {b : UInt8} {l : List UInt8} {j : Nat} (h : j < l.length) (hb : l[j] = b) (hn : b ∉ l.take j) : cutB b l = some (l.take j, l.drop (j + 1)) := by
  have e : l = l.take j ++ b :: l.drop (j + 1) := by
    rw [← hb, ← List.drop_eq_getElem_cons h, List.take_append_drop]
  have := cutB_app (l.drop (j + 1)) hn
  rw [← e] at this
  exact this
/-- Where the first b stands; -1: nowhere. -/
def posB (b : UInt8) (l : List UInt8) : Int := match cutB b l with
  | none => -1
  | some (x, _) => (x.length : Int)
theorem not_snoc {s : ByteArray} {b : UInt8} {a i : Nat} (hi : a + i < s.size) (h : b ∉ (s.data.toList.drop a).take i) (hne : s[a + i] ≠ b) : b ∉ (s.data.toList.drop a).take (i + 1) := by
  have hl : i < (s.data.toList.drop a).length := by rw [List.length_drop, toList_length]; omega
  rw [List.take_succ_eq_append_getElem hl]
  intro hm
  rcases List.mem_append.1 hm with hm | hm
  · exact h hm
  · have := List.mem_singleton.1 hm
    rw [List.getElem_drop] at this
    exact hne this.symm

set_option maxRecDepth 100000 in
set_option maxHeartbeats 4000000 in
theorem dot_any (s : ByteArray) (w : World) (hs : s.size ≤ maxLen) : Calls Tryd.prog 28 #[.string s] w fun e w' => e = .returned (.int .i64 (posB 46 s.data.toList)) ∧ w = w' := by
  unfold maxLen at hs
  obtain ⟨R, hR⟩ : ∃ R, posB 46 s.data.toList = R := ⟨_, rfl⟩
  rw [hR]
  have HR := Lib.hid hR
  clear hR
  go_enter Tryd.func28, Tryd.ntmps28
  go_wp2_with fail
  go_loop [3] (fun iv => ∃ i : Nat, i ≤ s.size ∧ iv = .int .i64 i ∧ Hid ((46 : UInt8) ∉ (s.data.toList.drop 0).take i)) (fun iv => s.size - (intOf iv).toNat)
  case atStart => exact ⟨0, Nat.zero_le _, rfl, Lib.hid (by simp)⟩
  case round =>
    obtain ⟨i, hi, rfl, hn⟩ := hrel
    by_cases hlt : i < s.size
    · by_cases hq : s[i] = 46
      · have hq2 : (((s[i].toNat : Nat) : Int) == 46) = true := by rw [hq]; rfl
        have HQ := Lib.hid hq
        clear hq
        go_wp2_with fail
        go_ret
        refine ⟨ret_int ?_, rfl⟩
        have hl : i < s.data.toList.length := by rw [toList_length]; exact hlt
        have := cutB_at (b := 46) hl HQ.out (by have := hn.out; rw [List.drop_zero] at this; exact this)
        rw [← HR.out]
        unfold posB
        rw [this]
        simp only [List.length_take, toList_length]
        omega
      · have hq2 : (((s[i].toNat : Nat) : Int) == 46) = false := beq_eq_false_iff_ne.2 (fun e => hq (toNat_eq (n := 46) (by omega)))
        have hn2 := Lib.hid (not_snoc (b := 46) (a := 0) (i := i) (by omega) hn.out (by simpa using hq))
        clear hq hn
        go_wp2_with fail
        go_round
        case rel => exact ⟨i + 1, by omega, by go_num, hn2⟩
        case measure => simp [intOf]; omega
    · obtain rfl : i = s.size := by omega
      go_wp2_with fail
      go_ret
      refine ⟨ret_int ?_, rfl⟩
      have : (46 : UInt8) ∉ s.data.toList := by
        have := hn.out
        rw [List.drop_zero, List.take_of_length_le (by rw [toList_length]; exact Nat.le_refl _)] at this
        exact this
      rw [← HR.out]
      unfold posB
      rw [cutB_no this]

set_option maxRecDepth 100000 in
set_option maxHeartbeats 4000000 in
theorem shut_any (s : ByteArray) (a : Nat) (ha : a ≤ s.size) (w : World) (hs : s.size ≤ maxLen) : Calls Tryd.prog 22 #[.string s, .int .i64 a] w fun e w' => (match cutB 125 (s.data.toList.drop a) with
    | none => e = .returned (.int .i64 (-1))
    | some (x, _) => e = .returned (.int .i64 (((a + x.length : Nat)) : Int))) ∧ w = w' := by
  unfold maxLen at hs
  obtain ⟨R, hR⟩ : ∃ R, cutB 125 (s.data.toList.drop a) = R := ⟨_, rfl⟩
  rw [hR]
  have HR := Lib.hid hR
  clear hR
  go_enter Tryd.func22, Tryd.ntmps22
  go_wp2_with fail
  go_loop [5] (fun iv => ∃ i : Nat, a + i ≤ s.size ∧ iv = .int .i64 ((a + i : Nat) : Int) ∧ Hid ((125 : UInt8) ∉ (s.data.toList.drop a).take i)) (fun iv => s.size - (intOf iv).toNat)
  case atStart => exact ⟨0, by omega, rfl, Lib.hid (by simp)⟩
  case round =>
    obtain ⟨i, hi, rfl, hn⟩ := hrel
    obtain ⟨q, hqe⟩ : ∃ q, a + i = q := ⟨_, rfl⟩
    by_cases hlt : a + i < s.size
    · by_cases hq : s[a + i] = 125
      · have HQ := Lib.hid hq
        have hres : R = some ((s.data.toList.drop a).take i, (s.data.toList.drop a).drop (i + 1)) := by
          have hl : i < (s.data.toList.drop a).length := by rw [List.length_drop, toList_length]; omega
          rw [← HR.out]
          exact cutB_at hl (by rw [List.getElem_drop]; exact hq) hn.out
        have hlen : ((s.data.toList.drop a).take i).length = i := by rw [List.length_take, List.length_drop, toList_length]; omega
        have hq2 : (((s[a + i].toNat : Nat) : Int) == 125) = true := by rw [hq]; rfl
        subst hres
        have HLE := Lib.hid hlen
        clear hq HR hn hlen
        rw [hqe]
        simp only [hqe] at hlt hq2 hi
        go_wp2_with fail
        go_ret
        exact ⟨ret_int (a := (q : Int)) (by omega), rfl⟩
      · have hn2 := Lib.hid (not_snoc hlt hn.out hq)
        have hq2 : (((s[a + i].toNat : Nat) : Int) == 125) = false := beq_eq_false_iff_ne.2 (fun e => hq (toNat_eq (n := 125) (by omega)))
        clear hq hn
        try rw [hqe]
        simp only [hqe] at hlt hq2 hi
        go_wp2_with fail
        go_round
        case rel => exact ⟨i + 1, by omega, by go_num, hn2⟩
        case measure => simp [intOf]; omega
    · have hres : R = none := by
        rw [← HR.out]
        refine cutB_no ?_
        have := hn.out
        rw [List.take_of_length_le (by rw [List.length_drop, toList_length]; omega)] at this
        exact this
      subst hres
      clear HR hn
      try rw [hqe]
      simp only [hqe] at hlt hi
      go_wp2_with fail
      go_ret
      exact ⟨rfl, rfl⟩

theorem posB_none {b : UInt8} {l : List UInt8} (h : cutB b l = none) : posB b l = -1 := by unfold posB; rw [h]
theorem posB_some {b : UInt8} {l x y : List UInt8} (h : cutB b l = some (x, y)) : posB b l = (x.length : Int) := by unfold posB; rw [h]
theorem ext_front {s : ByteArray} {b : UInt8} {x y : List UInt8} (h : s.data.toList = x ++ b :: y) : s.extract 0 x.length = bs x ∧ s.extract (x.length + 1) s.size = bs y ∧ x.length + 1 + y.length = s.size := by
  have hl : s.size = x.length + 1 + y.length := by rw [← toList_length, h]; simp; omega
  refine ⟨?_, ?_, hl.symm⟩
  · rw [ext_sub, sub_of (l := s.data.toList) (a := 0) (b := x.length) (i := x) (t := b :: y) (by rw [List.drop_zero]; exact h) (by omega)]
  · rw [ext_sub, sub_of (l := s.data.toList) (a := x.length + 1) (b := s.size) (i := y) (t := []) ?_ (by omega)]
    rw [List.append_nil, h, ← List.drop_drop, List.drop_left]
    rfl

set_option maxRecDepth 100000 in
set_option maxHeartbeats 4000000 in
theorem rattr_any (s : ByteArray) (w : World) (hs : s.size ≤ maxLen) : Calls Tryd.prog 15 #[.string s] w fun e w' => e = .returned (.bool (attrB s.data.toList)) ∧ w = w' := by
  have HD := Lib.hid (dot_any s w hs)
  unfold attrB
  cases hc : cutB 46 s.data.toList with
  | none =>
    have HN := Lib.hid (rname_any s w hs)
    rw [posB_none hc] at HD
    simp only
    generalize nameB s.data.toList = r at *
    clear hc hs
    go_enter Tryd.func15, Tryd.ntmps15
    go_wp2_with (first | (go_at_call 28; refine HD.out.mono ?_; rintro e w5 ⟨rfl, rfl⟩) | (go_at_call 29; refine HN.out.mono ?_; rintro e w5 ⟨rfl, rfl⟩))
    go_ret
    exact ⟨rfl, rfl⟩
  | some p =>
    obtain ⟨x, y⟩ := p
    obtain ⟨h1, h2, h3⟩ := ext_front (cutB_some hc).1
    unfold maxLen at hs
    rw [posB_some hc] at HD
    have HN := Lib.hid (rname_any (bs y) w (by rw [bs_size]; unfold maxLen; omega))
    rw [bs_list] at HN
    simp only
    have c1 : (0 : Int) ≤ (x.length : Int) := by omega
    have c2 : (x.length : Int) ≤ (s.size : Int) := by omega
    have c3 : (0 : Int) ≤ (x.length : Int) + 1 := by omega
    have c4 : (x.length : Int) + 1 ≤ (s.size : Int) := by omega
    have c5 : ¬ (x.length : Int) < 0 := by omega
    have c6 : x.length + 1 ≤ 9223372036854775807 := by omega
    generalize x.length = k at *
    by_cases hx : x = outputs
    · have hxt : (x == [79, 117, 116, 112, 117, 116, 115]) = true := by rw [hx]; rfl
      rw [decide_eq_true hx, Bool.true_and]
      generalize nameB y = r at *
      clear hc hx
      go_enter Tryd.func15, Tryd.ntmps15
      go_wp2_with (first | (go_at_call 28; refine HD.out.mono ?_; rintro e w5 ⟨rfl, rfl⟩) | (go_at_call 29; refine HN.out.mono ?_; rintro e w5 ⟨rfl, rfl⟩))
      go_ret
      exact ⟨rfl, rfl⟩
    · have hxt : (x == [79, 117, 116, 112, 117, 116, 115]) = false := beq_eq_false_iff_ne.2 hx
      rw [decide_eq_false hx, Bool.false_and]
      clear hc hx HN
      go_enter Tryd.func15, Tryd.ntmps15
      go_wp2_with (first | (go_at_call 28; refine HD.out.mono ?_; rintro e w5 ⟨rfl, rfl⟩))
      go_ret
      exact ⟨rfl, rfl⟩
end Go.Proofs.YtjnoomefppncoaaDoor
