/-
  The statement RunesApart: the call returns true, and writes nothing that was there.
-/
import Derived.Test.YtcbinbhohohaoaaDoorJoin
import Derived.Test.YtcbinbhohohaoaaDoorPl5
import Derived.Deep.RegionWith
set_option linter.unusedVariables false
namespace Go.Proofs.YtcbinbhohohaoaaDoor
open Go.RowKit Go.Shelf Go.Maps

theorem len_of (l : List UInt8) : (ByteArray.mk l.toArray).size = l.length := by simp [ByteArray.size]
theorem K.drew {w0 w : World} (h : K w0 w) : K w0 w.drew := ⟨h.1, h.2.trans ⟨rfl, rfl, rfl, Nat.le_refl _, fun _ _ => rfl⟩⟩
theorem data_of (l : List UInt8) : (ByteArray.mk l.toArray).data.toList = l := rfl

set_option maxHeartbeats 4000000 in
set_option maxRecDepth 100000 in
theorem apart_long (s t : ByteArray) (w : World) (hE : Env w) (hs : s.size ≤ maxLen) (ht : t.size ≤ maxLen) (h : 1000 < s.size ∨ 1000 < t.size) :
    Calls Tryd.prog 7 #[.string s, .string t] w fun e w' => e = .returned (.bool true) ∧ Below w.heap.size w w' := by
  have HW := Lib.hid (wakes_any w hE)
  have hs9 : s.size ≤ 9223372036854775807 := by unfold maxLen at hs; omega
  have ht9 : t.size ≤ 9223372036854775807 := by unfold maxLen at ht; omega
  clear hs ht hE
  by_cases h1 : 1000 < s.size
  · clear h
    go_enter Tryd.func7, Tryd.ntmps7
    go_wp2_with (go_at_call 9; refine HW.out.mono ?_; rintro e w' ⟨rfl, hb⟩)
    go_ret
    exact ⟨rfl, hb⟩
  · have h2 := h.resolve_left h1
    clear h
    go_enter Tryd.func7, Tryd.ntmps7
    go_wp2_with (go_at_call 9; refine HW.out.mono ?_; rintro e w' ⟨rfl, hb⟩)
    go_ret
    exact ⟨rfl, hb⟩

set_option maxHeartbeats 4000000 in
set_option maxRecDepth 100000 in
/-- One of the two is no text. -/
theorem apart_none (s t : ByteArray) (w : World) (hE : Env w) (hs : s.size ≤ 1000) (ht : t.size ≤ 1000) (h : Lib.validD s.data.toList = false ∨ Lib.validD t.data.toList = false) :
    Calls Tryd.prog 7 #[.string s, .string t] w fun e w' => e = .returned (.bool true) ∧ Below w.heap.size w w' := by
  have h7 := hE.1
  have hK0 := K.refl hE
  refine Calls.mono (R := fun e w' => e = .returned (.bool true) ∧ K w w') ?_ fun e w' h => ⟨h.1, h.2.2⟩
  have HW : Hid (∀ w1, K w w1 → Calls Tryd.prog 9 #[] w1 fun e w' => e = .returned (.bool true) ∧ K w w') := Lib.hid fun w1 hK => Calls.k h7 hK fun hE1 => wakes_any w1 hE1
  have no : ∀ x : ByteArray, x.size ≤ 1000 → Lib.validD x.data.toList = false → ∀ w1, K w w1 → Calls Tryd.prog 10 #[.string x] w1 fun e w' => e = .returned (.tuple #[.string ⟨#[]⟩, .int .i64 10]) ∧ K w w' := fun x hx hv w1 hK => Calls.k h7 hK fun hE1 => by
    have := quote_any x (by omega) w1 hE1
    unfold quoteR at this
    rw [hv] at this
    exact this
  have yes : ∀ x : ByteArray, x.size ≤ 1000 → Lib.validD x.data.toList = true → ∀ w1, K w w1 → Calls Tryd.prog 10 #[.string x] w1 fun e w' => e = .returned (.tuple #[.string ⟨(quoteL x.data.toList).toArray⟩, .int .i64 0]) ∧ K w w' := fun x hx hv w1 hK => Calls.k h7 hK fun hE1 => by
    have := quote_any x (by omega) w1 hE1
    unfold quoteR at this
    rw [hv] at this
    exact this
  cases hv : Lib.validD s.data.toList with
  | false =>
    have HS := Lib.hid (no s hs hv)
    cases hv2 : Lib.validD t.data.toList with
    | false =>
      have HT := Lib.hid (no t ht hv2)
      clear h hE hv hv2 no yes
      go_enter Tryd.func7, Tryd.ntmps7
      go_wp2_with (first | (go_at_call 10; (with_reducible refine (HS.out _ (by assumption)).mono ?_); rintro e w' ⟨rfl, hK⟩) | (go_at_call 10; (with_reducible refine (HT.out _ (by assumption)).mono ?_); rintro e w' ⟨rfl, hK⟩) | (go_at_call 9; (with_reducible refine (HW.out _ (by assumption)).mono ?_); rintro e w' ⟨rfl, hK⟩))
      go_ret
      exact ⟨rfl, by assumption⟩
    | true =>
      have HT := Lib.hid (yes t ht hv2)
      clear h hE hv hv2 no yes
      go_enter Tryd.func7, Tryd.ntmps7
      go_wp2_with (first | (go_at_call 10; (with_reducible refine (HS.out _ (by assumption)).mono ?_); rintro e w' ⟨rfl, hK⟩) | (go_at_call 10; (with_reducible refine (HT.out _ (by assumption)).mono ?_); rintro e w' ⟨rfl, hK⟩) | (go_at_call 9; (with_reducible refine (HW.out _ (by assumption)).mono ?_); rintro e w' ⟨rfl, hK⟩))
      go_ret
      exact ⟨rfl, by assumption⟩
  | true =>
    have hv2 := h.resolve_left (by rw [hv]; simp)
    have HS := Lib.hid (yes s hs hv)
    have HT := Lib.hid (no t ht hv2)
    clear h hE hv hv2 no yes
    go_enter Tryd.func7, Tryd.ntmps7
    go_wp2_with (first | (go_at_call 10; (with_reducible refine (HS.out _ (by assumption)).mono ?_); rintro e w' ⟨rfl, hK⟩) | (go_at_call 10; (with_reducible refine (HT.out _ (by assumption)).mono ?_); rintro e w' ⟨rfl, hK⟩) | (go_at_call 9; (with_reducible refine (HW.out _ (by assumption)).mono ?_); rintro e w' ⟨rfl, hK⟩))
    go_ret
    exact ⟨rfl, by assumption⟩

set_option maxHeartbeats 4000000 in
set_option maxRecDepth 100000 in
/-- Both are texts. -/
theorem apart_both (s t : ByteArray) (w : World) (hE : Env w) (hs : s.size ≤ 1000) (ht : t.size ≤ 1000) (hv : Lib.validD s.data.toList = true) (hv2 : Lib.validD t.data.toList = true) :
    Calls Tryd.prog 7 #[.string s, .string t] w fun e w' => e = .returned (.bool true) ∧ Below w.heap.size w w' := by
  have h7 := hE.1
  have hK0 := K.refl hE
  refine Calls.mono (R := fun e w' => e = .returned (.bool true) ∧ K w w') ?_ fun e w' h => ⟨h.1, h.2.2⟩
  have HW : Hid (∀ w1, K w w1 → Calls Tryd.prog 9 #[] w1 fun e w' => e = .returned (.bool true) ∧ K w w') := Lib.hid fun w1 hK => Calls.k h7 hK fun hE1 => wakes_any w1 hE1
  have yes : ∀ x : ByteArray, x.size ≤ 1000 → Lib.validD x.data.toList = true → ∀ w1, K w w1 → Calls Tryd.prog 10 #[.string x] w1 fun e w' => e = .returned (.tuple #[.string ⟨(quoteL x.data.toList).toArray⟩, .int .i64 0]) ∧ K w w' := fun x hx hv w1 hK => Calls.k h7 hK fun hE1 => by
    have := quote_any x (by omega) w1 hE1
    unfold quoteR at this
    rw [hv] at this
    exact this
  obtain ⟨A, hA⟩ : ∃ A : ByteArray, A = ⟨(quoteL s.data.toList).toArray⟩ := ⟨_, rfl⟩
  obtain ⟨B, hB⟩ : ∃ B : ByteArray, B = ⟨(quoteL t.data.toList).toArray⟩ := ⟨_, rfl⟩
  have HS := Lib.hid (yes s hs hv)
  have HT := Lib.hid (yes t ht hv2)
  rw [← hA] at HS
  rw [← hB] at HT
  obtain ⟨n, hn⟩ : ∃ n : Nat, min A.size B.size = n := ⟨_, rfl⟩
  have hmn : min (A.size : Int) (B.size : Int) = (n : Int) := by omega
  have hnA : n ≤ A.size := by omega
  have hnB : n ≤ B.size := by omega
  have hnA' : (n : Int) ≤ A.size := by omega
  have hnB' : (n : Int) ≤ B.size := by omega
  have hAL : A.data.toList = quoteL s.data.toList := by rw [hA]
  have hBL : B.data.toList = quoteL t.data.toList := by rw [hB]
  have hAz : (quoteL s.data.toList).length = A.size := by rw [hA, len_of]
  have hBz : (quoteL t.data.toList).length = B.size := by rw [hB, len_of]
  have same : ((A.extract 0 n).toList == (B.extract 0 n).toList) = (s.toList == t.toList) := by
    rw [Lib.extract_toList, Lib.extract_toList, Lib.toList_data, Lib.toList_data, hAL, hBL, Nat.sub_zero, List.drop_zero, List.drop_zero]
    rw [Bool.eq_iff_iff, beq_iff_eq, beq_iff_eq]
    constructor
    · intro h
      rw [← hn, ← hAz, ← hBz] at h
      exact quote_apart hv hv2 h
    · intro h
      rw [h]
  have hAs : A.size ≤ 6002 := by have := qRune_le6 s.data.toList; rw [hA, len_of]; rw [toList_length] at this; omega
  have hBs : B.size ≤ 6002 := by have := qRune_le6 t.data.toList; rw [hB, len_of]; rw [toList_length] at this; omega
  clear hE hv hv2 yes hA hB hAL hBL hAz hBz hn
  have HM := Lib.hid hmn
  have SAME := Lib.hid same
  clear same
  go_enter Tryd.func7, Tryd.ntmps7
  go_wp2_with (first | (go_at_call 10; (with_reducible refine (HS.out _ (by assumption)).mono ?_); rintro e w' ⟨rfl, hK⟩) | (go_at_call 10; (with_reducible refine (HT.out _ (by assumption)).mono ?_); rintro e w' ⟨rfl, hK⟩) | (go_at_call 9; (with_reducible refine (HW.out _ (by assumption)).mono ?_); rintro e w' ⟨rfl, hK⟩))
  cases hq : (s.toList == t.toList) with
  | true =>
    have hq2 := SAME.out.trans hq
    go_region_with (go_at_call 9; refine (HW.out _ (by first | assumption | exact K.drew (by assumption))).mono ?_; rintro e w' ⟨rfl, hK⟩)
    all_goals go_wp2_with fail
    all_goals go_ret
    all_goals exact ⟨rfl, by assumption⟩
  | false =>
    have hq2 := SAME.out.trans hq
    go_region_with (go_at_call 9; refine (HW.out _ (by first | assumption | exact K.drew (by assumption))).mono ?_; rintro e w' ⟨rfl, hK⟩)
    all_goals go_wp2_with fail
    all_goals go_ret
    all_goals exact ⟨rfl, by assumption⟩

theorem apart_any (s t : ByteArray) (w : World) (hE : Env w) (hs : s.size ≤ maxLen) (ht : t.size ≤ maxLen) :
    Calls Tryd.prog 7 #[.string s, .string t] w fun e w' => e = .returned (.bool true) ∧ Below w.heap.size w w' := by
  by_cases h : 1000 < s.size ∨ 1000 < t.size
  · exact apart_long s t w hE hs ht h
  have hs1 : s.size ≤ 1000 := by omega
  have ht1 : t.size ≤ 1000 := by omega
  cases hv : Lib.validD s.data.toList with
  | false => exact apart_none s t w hE hs1 ht1 (.inl hv)
  | true =>
    cases hv2 : Lib.validD t.data.toList with
    | false => exact apart_none s t w hE hs1 ht1 (.inr hv2)
    | true => exact apart_both s t w hE hs1 ht1 hv hv2
end Go.Proofs.YtcbinbhohohaoaaDoor
