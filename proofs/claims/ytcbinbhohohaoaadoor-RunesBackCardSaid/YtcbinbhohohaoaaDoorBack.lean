/-
  The statement RunesBack: the call returns true, and writes nothing that was there.
-/
import Derived.Test.YtcbinbhohohaoaaDoorApart
set_option linter.unusedVariables false
namespace Go.Proofs.YtcbinbhohohaoaaDoor
open Go.RowKit Go.Shelf Go.Maps

set_option maxHeartbeats 4000000 in
set_option maxRecDepth 100000 in
theorem back_long (s t : ByteArray) (w : World) (hE : Env w) (hs : s.size ≤ maxLen) (ht : t.size ≤ maxLen) (h : 1000 < s.size ∨ 1000 < t.size) :
    Calls Tryd.prog 6 #[.string s, .string t] w fun e w' => e = .returned (.bool true) ∧ Below w.heap.size w w' := by
  have HW := Lib.hid (wakes_any w hE)
  have hs9 : s.size ≤ 9223372036854775807 := by unfold maxLen at hs; omega
  have ht9 : t.size ≤ 9223372036854775807 := by unfold maxLen at ht; omega
  clear hs ht hE
  by_cases h1 : 1000 < s.size
  · clear h
    go_enter Tryd.func6, Tryd.ntmps6
    go_wp2_with (go_at_call 9; refine HW.out.mono ?_; rintro e w' ⟨rfl, hb⟩)
    go_ret
    exact ⟨rfl, hb⟩
  · have h2 := h.resolve_left h1
    clear h
    go_enter Tryd.func6, Tryd.ntmps6
    go_wp2_with (go_at_call 9; refine HW.out.mono ?_; rintro e w' ⟨rfl, hb⟩)
    go_ret
    exact ⟨rfl, hb⟩

set_option maxHeartbeats 4000000 in
set_option maxRecDepth 100000 in
/-- s is a text; what stands behind reads as one. -/
theorem back_walk_tt (s b Q T Q' : ByteArray) (z : Nat) (w : World) (hK0 : K w w) (hs : s.size ≤ 1000) (hb : b.size ≤ 1000) (hQ : Q.size ≤ 100000) (hQ' : Q'.size ≤ 100000)
    (HQ : Hid (∀ w1, K w w1 → Calls Tryd.prog 10 #[.string s] w1 fun e w' => e = .returned (.tuple #[.string Q, .int .i64 0]) ∧ K w w'))
    (HU : Hid (∀ w1, K w w1 → Calls Tryd.prog 18 #[.string (Q ++ b), .int .i64 0] w1 fun e w' => e = .returned (.tuple #[.string s, .int .i64 Q.size, .int .i64 0]) ∧ K w w'))
    (HV : Hid (∀ w1, K w w1 → Calls Tryd.prog 12 #[.string s] w1 fun e w' => e = .returned (.bool true) ∧ K w w'))
    (HVq : Hid (∀ w1, K w w1 → Calls Tryd.prog 12 #[.string Q] w1 fun e w' => e = .returned (.bool true) ∧ K w w'))
    (HUb : Hid (∀ w1, K w w1 → Calls Tryd.prog 18 #[.string b, .int .i64 0] w1 fun e w' => e = .returned (.tuple #[.string T, .int .i64 (z : Nat), .int .i64 0]) ∧ K w w'))
    (HQt : Hid (∀ w1, K w w1 → Calls Tryd.prog 10 #[.string T] w1 fun e w' => e = .returned (.tuple #[.string Q', .int .i64 0]) ∧ K w w'))
    (HUt : Hid (∀ w1, K w w1 → Calls Tryd.prog 18 #[.string Q', .int .i64 0] w1 fun e w' => e = .returned (.tuple #[.string T, .int .i64 Q'.size, .int .i64 0]) ∧ K w w'))
    (HW : Hid (∀ w1, K w w1 → Calls Tryd.prog 9 #[] w1 fun e w' => e = .returned (.bool true) ∧ K w w')) :
    Calls Tryd.prog 6 #[.string s, .string b] w fun e w' => e = .returned (.bool true) ∧ K w w' := by
  have d1 : (s.toList != s.toList) = false := by simp
  have d2 : (T.toList != T.toList) = false := by simp
  have d3 : ((Q.size : Int) != (Q.size : Int)) = false := by simp
  have d4 : ((Q'.size : Int) != (Q'.size : Int)) = false := by simp
  go_enter Tryd.func6, Tryd.ntmps6
  go_wp2_with (first | (go_at_call 10; (with_reducible refine (HQ.out _ (by assumption)).mono ?_); rintro e w' ⟨rfl, hK⟩) | (go_at_call 18; (with_reducible refine (HU.out _ (by assumption)).mono ?_); rintro e w' ⟨rfl, hK⟩) | (go_at_call 12; (with_reducible refine (HV.out _ (by assumption)).mono ?_); rintro e w' ⟨rfl, hK⟩) | (go_at_call 12; (with_reducible refine (HVq.out _ (by assumption)).mono ?_); rintro e w' ⟨rfl, hK⟩) | (go_at_call 18; (with_reducible refine (HUb.out _ (by assumption)).mono ?_); rintro e w' ⟨rfl, hK⟩) | (go_at_call 10; (with_reducible refine (HQt.out _ (by assumption)).mono ?_); rintro e w' ⟨rfl, hK⟩) | (go_at_call 18; (with_reducible refine (HUt.out _ (by assumption)).mono ?_); rintro e w' ⟨rfl, hK⟩) | (go_at_call 9; (with_reducible refine (HW.out _ (by assumption)).mono ?_); rintro e w' ⟨rfl, hK⟩))
  go_ret
  exact ⟨rfl, by assumption⟩

set_option maxHeartbeats 4000000 in
set_option maxRecDepth 100000 in
/-- s is a text; what stands behind does not read as one. -/
theorem back_walk_tf (s b Q T : ByteArray) (z f : Nat) (w : World) (hK0 : K w w) (hs : s.size ≤ 1000) (hb : b.size ≤ 1000) (hQ : Q.size ≤ 100000) (hf : ((f : Int) == 0) = false)
    (HQ : Hid (∀ w1, K w w1 → Calls Tryd.prog 10 #[.string s] w1 fun e w' => e = .returned (.tuple #[.string Q, .int .i64 0]) ∧ K w w'))
    (HU : Hid (∀ w1, K w w1 → Calls Tryd.prog 18 #[.string (Q ++ b), .int .i64 0] w1 fun e w' => e = .returned (.tuple #[.string s, .int .i64 Q.size, .int .i64 0]) ∧ K w w'))
    (HV : Hid (∀ w1, K w w1 → Calls Tryd.prog 12 #[.string s] w1 fun e w' => e = .returned (.bool true) ∧ K w w'))
    (HVq : Hid (∀ w1, K w w1 → Calls Tryd.prog 12 #[.string Q] w1 fun e w' => e = .returned (.bool true) ∧ K w w'))
    (HUb : Hid (∀ w1, K w w1 → Calls Tryd.prog 18 #[.string b, .int .i64 0] w1 fun e w' => e = .returned (.tuple #[.string T, .int .i64 (z : Nat), .int .i64 (f : Nat)]) ∧ K w w'))
    (HW : Hid (∀ w1, K w w1 → Calls Tryd.prog 9 #[] w1 fun e w' => e = .returned (.bool true) ∧ K w w')) :
    Calls Tryd.prog 6 #[.string s, .string b] w fun e w' => e = .returned (.bool true) ∧ K w w' := by
  have d1 : (s.toList != s.toList) = false := by simp
  have d3 : ((Q.size : Int) != (Q.size : Int)) = false := by simp
  go_enter Tryd.func6, Tryd.ntmps6
  go_wp2_with (first | (go_at_call 10; (with_reducible refine (HQ.out _ (by assumption)).mono ?_); rintro e w' ⟨rfl, hK⟩) | (go_at_call 18; (with_reducible refine (HU.out _ (by assumption)).mono ?_); rintro e w' ⟨rfl, hK⟩) | (go_at_call 12; (with_reducible refine (HV.out _ (by assumption)).mono ?_); rintro e w' ⟨rfl, hK⟩) | (go_at_call 12; (with_reducible refine (HVq.out _ (by assumption)).mono ?_); rintro e w' ⟨rfl, hK⟩) | (go_at_call 18; (with_reducible refine (HUb.out _ (by assumption)).mono ?_); rintro e w' ⟨rfl, hK⟩) | (go_at_call 9; (with_reducible refine (HW.out _ (by assumption)).mono ?_); rintro e w' ⟨rfl, hK⟩))
  go_ret
  exact ⟨rfl, by assumption⟩

set_option maxHeartbeats 4000000 in
set_option maxRecDepth 100000 in
/-- s is no text; what stands behind reads as one. -/
theorem back_walk_ft (s b T Q' : ByteArray) (z : Nat) (w : World) (hK0 : K w w) (hs : s.size ≤ 1000) (hb : b.size ≤ 1000) (hQ' : Q'.size ≤ 100000)
    (HQ : Hid (∀ w1, K w w1 → Calls Tryd.prog 10 #[.string s] w1 fun e w' => e = .returned (.tuple #[.string ⟨#[]⟩, .int .i64 10]) ∧ K w w'))
    (HV : Hid (∀ w1, K w w1 → Calls Tryd.prog 12 #[.string s] w1 fun e w' => e = .returned (.bool false) ∧ K w w'))
    (HUb : Hid (∀ w1, K w w1 → Calls Tryd.prog 18 #[.string b, .int .i64 0] w1 fun e w' => e = .returned (.tuple #[.string T, .int .i64 (z : Nat), .int .i64 0]) ∧ K w w'))
    (HQt : Hid (∀ w1, K w w1 → Calls Tryd.prog 10 #[.string T] w1 fun e w' => e = .returned (.tuple #[.string Q', .int .i64 0]) ∧ K w w'))
    (HUt : Hid (∀ w1, K w w1 → Calls Tryd.prog 18 #[.string Q', .int .i64 0] w1 fun e w' => e = .returned (.tuple #[.string T, .int .i64 Q'.size, .int .i64 0]) ∧ K w w'))
    (HW : Hid (∀ w1, K w w1 → Calls Tryd.prog 9 #[] w1 fun e w' => e = .returned (.bool true) ∧ K w w')) :
    Calls Tryd.prog 6 #[.string s, .string b] w fun e w' => e = .returned (.bool true) ∧ K w w' := by
  have d2 : (T.toList != T.toList) = false := by simp
  have d4 : ((Q'.size : Int) != (Q'.size : Int)) = false := by simp
  go_enter Tryd.func6, Tryd.ntmps6
  go_wp2_with (first | (go_at_call 10; (with_reducible refine (HQ.out _ (by assumption)).mono ?_); rintro e w' ⟨rfl, hK⟩) | (go_at_call 12; (with_reducible refine (HV.out _ (by assumption)).mono ?_); rintro e w' ⟨rfl, hK⟩) | (go_at_call 18; (with_reducible refine (HUb.out _ (by assumption)).mono ?_); rintro e w' ⟨rfl, hK⟩) | (go_at_call 10; (with_reducible refine (HQt.out _ (by assumption)).mono ?_); rintro e w' ⟨rfl, hK⟩) | (go_at_call 18; (with_reducible refine (HUt.out _ (by assumption)).mono ?_); rintro e w' ⟨rfl, hK⟩) | (go_at_call 9; (with_reducible refine (HW.out _ (by assumption)).mono ?_); rintro e w' ⟨rfl, hK⟩))
  go_ret
  exact ⟨rfl, by assumption⟩

set_option maxHeartbeats 4000000 in
set_option maxRecDepth 100000 in
/-- Neither. -/
theorem back_walk_ff (s b T : ByteArray) (z f : Nat) (w : World) (hK0 : K w w) (hs : s.size ≤ 1000) (hb : b.size ≤ 1000) (hf : ((f : Int) == 0) = false)
    (HQ : Hid (∀ w1, K w w1 → Calls Tryd.prog 10 #[.string s] w1 fun e w' => e = .returned (.tuple #[.string ⟨#[]⟩, .int .i64 10]) ∧ K w w'))
    (HV : Hid (∀ w1, K w w1 → Calls Tryd.prog 12 #[.string s] w1 fun e w' => e = .returned (.bool false) ∧ K w w'))
    (HUb : Hid (∀ w1, K w w1 → Calls Tryd.prog 18 #[.string b, .int .i64 0] w1 fun e w' => e = .returned (.tuple #[.string T, .int .i64 (z : Nat), .int .i64 (f : Nat)]) ∧ K w w'))
    (HW : Hid (∀ w1, K w w1 → Calls Tryd.prog 9 #[] w1 fun e w' => e = .returned (.bool true) ∧ K w w')) :
    Calls Tryd.prog 6 #[.string s, .string b] w fun e w' => e = .returned (.bool true) ∧ K w w' := by
  go_enter Tryd.func6, Tryd.ntmps6
  go_wp2_with (first | (go_at_call 10; (with_reducible refine (HQ.out _ (by assumption)).mono ?_); rintro e w' ⟨rfl, hK⟩) | (go_at_call 12; (with_reducible refine (HV.out _ (by assumption)).mono ?_); rintro e w' ⟨rfl, hK⟩) | (go_at_call 18; (with_reducible refine (HUb.out _ (by assumption)).mono ?_); rintro e w' ⟨rfl, hK⟩) | (go_at_call 9; (with_reducible refine (HW.out _ (by assumption)).mono ?_); rintro e w' ⟨rfl, hK⟩))
  go_ret
  exact ⟨rfl, by assumption⟩

theorem mk_data (s : ByteArray) : (⟨s.data.toList.toArray⟩ : ByteArray) = s := by simp

theorem back_any (s b : ByteArray) (w : World) (hE : Env w) (hs : s.size ≤ maxLen) (hb : b.size ≤ maxLen) :
    Calls Tryd.prog 6 #[.string s, .string b] w fun e w' => e = .returned (.bool true) ∧ Below w.heap.size w w' := by
  by_cases h : 1000 < s.size ∨ 1000 < b.size
  · exact back_long s b w hE hs hb h
  have hs1 : s.size ≤ 1000 := by omega
  have hb1 : b.size ≤ 1000 := by omega
  have h7 := hE.1
  have hK0 := K.refl hE
  refine Calls.mono (R := fun e w' => e = .returned (.bool true) ∧ K w w') ?_ fun e w' h => ⟨h.1, h.2.2⟩
  have HW : Hid (∀ w1, K w w1 → Calls Tryd.prog 9 #[] w1 fun e w' => e = .returned (.bool true) ∧ K w w') := Lib.hid fun w1 hK => Calls.k h7 hK fun hE1 => wakes_any w1 hE1
  have qy : ∀ x : ByteArray, x.size ≤ 100000 → Lib.validD x.data.toList = true → Hid (∀ w1, K w w1 → Calls Tryd.prog 10 #[.string x] w1 fun e w' => e = .returned (.tuple #[.string ⟨(quoteL x.data.toList).toArray⟩, .int .i64 0]) ∧ K w w') := fun x hx hv => Lib.hid fun w1 hK => Calls.k h7 hK fun hE1 => by
    have := quote_any x (by omega) w1 hE1
    unfold quoteR at this
    rw [hv] at this
    exact this
  have qn : Lib.validD s.data.toList = false → Hid (∀ w1, K w w1 → Calls Tryd.prog 10 #[.string s] w1 fun e w' => e = .returned (.tuple #[.string ⟨#[]⟩, .int .i64 10]) ∧ K w w') := fun hv => Lib.hid fun w1 hK => Calls.k h7 hK fun hE1 => by
    have := quote_any s (by omega) w1 hE1
    unfold quoteR at this
    rw [hv] at this
    exact this
  have va : ∀ x : ByteArray, x.size ≤ 100000 → ∀ v, Lib.validD x.data.toList = v → Hid (∀ w1, K w w1 → Calls Tryd.prog 12 #[.string x] w1 fun e w' => e = .returned (.bool v) ∧ K w w') := fun x hx v hv => Lib.hid fun w1 hK => Calls.k h7 hK fun hE1 => by
    have := valid_any x w1 (by unfold maxLen; omega) hE1.2.1
    rw [hv] at this
    exact this
  have un : ∀ x : ByteArray, x.size ≤ 200000 → ∀ a, unqI x.data.toList 0 = a → Hid (∀ w1, K w w1 → Calls Tryd.prog 18 #[.string x, .int .i64 0] w1 fun e w' => e = .returned (ansV a) ∧ K w w') := fun x hx a ha => Lib.hid fun w1 hK => Calls.k h7 hK fun hE1 => by
    have := unquote_any x 0 (by omega) w1 hE1
    rw [ha] at this
    exact this
  have back : ∀ x : ByteArray, x.size ≤ 10000 → Lib.validD x.data.toList = true → ∀ y : ByteArray, y.size ≤ 1000 → Hid (∀ w1, K w w1 → Calls Tryd.prog 18 #[.string ((⟨(quoteL x.data.toList).toArray⟩ : ByteArray) ++ y), .int .i64 0] w1 fun e w' => e = .returned (.tuple #[.string x, .int .i64 (⟨(quoteL x.data.toList).toArray⟩ : ByteArray).size, .int .i64 0]) ∧ K w w') := fun x hx hv y hy => by
    have hq := qRune_le6 x.data.toList
    rw [toList_length] at hq
    have e := un ((⟨(quoteL x.data.toList).toArray⟩ : ByteArray) ++ y) (by rw [size_append, len_of]; omega) (x.data.toList, (quoteL x.data.toList).length, 0) (by rw [data_append]; exact unq_quote hv y.data.toList)
    simp only [ansV] at e
    rw [mk_data] at e
    rw [len_of]
    exact e
  have hU := un b (by omega) _ rfl
  obtain ⟨hv1, hl1, hf1⟩ := unqI_valid b.data.toList 0
  rw [toList_length] at hl1
  generalize unqI b.data.toList 0 = r at hU hv1 hl1 hf1
  obtain ⟨T, z, f⟩ := r
  simp only [ansV] at hU
  dsimp only at hv1 hl1 hf1
  have hTz : (⟨T.toArray⟩ : ByteArray).size ≤ 5000 := by rw [len_of]; omega
  have hqT := qRune_le6 T
  have hqs := qRune_le6 s.data.toList
  rw [toList_length] at hqs
  have hzT : (⟨(quoteL T).toArray⟩ : ByteArray).size ≤ 100000 := by rw [len_of]; omega
  have hzs : (⟨(quoteL s.data.toList).toArray⟩ : ByteArray).size ≤ 100000 := by rw [len_of]; omega
  have emp : ∀ x : ByteArray, x ++ (⟨#[]⟩ : ByteArray) = x := fun x => by
    apply ByteArray.ext
    simp
  have bT := back ⟨T.toArray⟩ (by omega) hv1 ⟨#[]⟩ (by decide)
  rw [emp] at bT
  cases hv : Lib.validD s.data.toList with
  | true =>
    have hvq : Lib.validD (⟨(quoteL s.data.toList).toArray⟩ : ByteArray).data.toList = true := quoteL_valid hv
    by_cases hf : f = 0
    · subst hf
      exact back_walk_tt s b _ ⟨T.toArray⟩ ⟨(quoteL T).toArray⟩ z w hK0 hs1 hb1 hzs hzT (qy s (by omega) hv) (back s (by omega) hv b hb1) (va s (by omega) _ hv) (va _ hzs _ hvq) hU (qy ⟨T.toArray⟩ (by omega) hv1) bT HW
    · exact back_walk_tf s b _ ⟨T.toArray⟩ z f w hK0 hs1 hb1 hzs (by rw [beq_eq_false_iff_ne]; omega) (qy s (by omega) hv) (back s (by omega) hv b hb1) (va s (by omega) _ hv) (va _ hzs _ hvq) hU HW
  | false =>
    by_cases hf : f = 0
    · subst hf
      exact back_walk_ft s b ⟨T.toArray⟩ ⟨(quoteL T).toArray⟩ z w hK0 hs1 hb1 hzT (qn hv) (va s (by omega) _ hv) hU (qy ⟨T.toArray⟩ (by omega) hv1) bT HW
    · exact back_walk_ff s b ⟨T.toArray⟩ z f w hK0 hs1 hb1 (by rw [beq_eq_false_iff_ne]; omega) (qn hv) (va s (by omega) _ hv) hU HW
end Go.Proofs.YtcbinbhohohaoaaDoor
