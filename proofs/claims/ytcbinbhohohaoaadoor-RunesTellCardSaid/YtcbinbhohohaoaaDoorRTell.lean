/-
  The statement RunesTell: the call returns true, and writes nothing that was there.
-/
import Derived.Test.YtcbinbhohohaoaaDoorRQuote
import Derived.Test.YtcbinbhohohaoaaDoorJoin
set_option linter.unusedVariables false
namespace Go.Proofs.YtcbinbhohohaoaaDoor
open Go.RowKit Go.Shelf Go.Maps

theorem quoteR_form (l : List UInt8) : ∃ (Q : ByteArray) (e : Int), quoteR l = .tuple #[.string Q, .int .i64 e] := by
  unfold quoteR
  split
  · exact ⟨_, _, rfl⟩
  · exact ⟨_, _, rfl⟩
theorem Calls.k0 {f : Nat} {args : Array Value} {w0 w : World} {v : Value} (hK : K w0 w) (h : Calls Tryd.prog f args w fun e w' => e = .returned v ∧ w = w') : Calls Tryd.prog f args w fun e w' => e = .returned v ∧ K w0 w' :=
  h.mono fun _ _ ⟨he, hb⟩ => ⟨he, hb ▸ hK⟩

set_option maxHeartbeats 4000000 in
set_option maxRecDepth 100000 in
theorem tell_long (s : ByteArray) (w : World) (hE : Env w) (hs : s.size ≤ maxLen) (h : 2000 < s.size) :
    Calls Tryd.prog 3 #[.string s] w fun e w' => e = .returned (.bool true) ∧ Below w.heap.size w w' := by
  have HW := Lib.hid (wakes_any w hE)
  have hs9 : s.size ≤ 9223372036854775807 := by unfold maxLen at hs; omega
  clear hs hE
  go_enter Tryd.func3, Tryd.ntmps3
  go_wp2_with fail
  refine HW.out.mono ?_
  rintro e w1 ⟨rfl, hb1⟩
  go_wp2_with fail
  go_ret
  exact ⟨rfl, hb1⟩

set_option maxHeartbeats 4000000 in
set_option maxRecDepth 100000 in
theorem tell_short (s : ByteArray) (w : World) (hE : Env w) (hs : s.size ≤ 2000) :
    Calls Tryd.prog 3 #[.string s] w fun e w' => e = .returned (.bool true) ∧ Below w.heap.size w w' := by
  have h7 := hE.1
  have hK0 := K.refl hE
  have hM : s.size ≤ maxLen := by unfold maxLen; omega
  have h63 : s.size ≤ 4611686018427387904 := by omega
  refine Calls.mono (R := fun e w' => e = .returned (.bool true) ∧ K w w') ?_ fun e w' h => ⟨h.1, h.2.2⟩
  obtain ⟨Q, q, hq⟩ := quoteR_form s.data.toList
  have HW : Hid (∀ w1, K w w1 → Calls Tryd.prog 9 #[] w1 fun e w' => e = .returned (.bool true) ∧ K w w') := Lib.hid fun w1 hK => Calls.k h7 hK fun hE1 => wakes_any w1 hE1
  have HQ : Hid (∀ w1, K w w1 → Calls Tryd.prog 10 #[.string s] w1 fun e w' => e = .returned (.tuple #[.string Q, .int .i64 q]) ∧ K w w') := Lib.hid fun w1 hK => Calls.k h7 hK fun hE1 => by
    have := quote_any s (by omega) w1 hE1
    rw [hq] at this
    exact this
  have HRQ : Hid (∀ w1, K w w1 → Calls Tryd.prog 11 #[.string s] w1 fun e w' => e = .returned (.tuple #[.string Q, .int .i64 q]) ∧ K w w') := Lib.hid fun w1 hK => Calls.k h7 hK fun hE1 => by
    have := rquote_any s w1 hs
    rw [hq] at this
    exact this
  have HV : Hid (∀ w1, K w w1 → Calls Tryd.prog 12 #[.string s] w1 fun e w' => e = .returned (.bool (Lib.validD s.data.toList)) ∧ K w w') := Lib.hid fun w1 hK => Calls.k h7 hK fun hE1 => valid_any s w1 hM hE1.2.1
  have HRV : Hid (∀ w1, K w w1 → Calls Tryd.prog 13 #[.string s] w1 fun e w' => e = .returned (.bool (Lib.validD s.data.toList)) ∧ K w w') := Lib.hid fun w1 hK => Calls.k0 hK (rvalid_any s w1 h63)
  have HN : Hid (∀ w1, K w w1 → Calls Tryd.prog 14 #[.string s] w1 fun e w' => e = .returned (.bool (nameB s.data.toList)) ∧ K w w') := Lib.hid fun w1 hK => Calls.k0 hK (name_any s w1 hM)
  have HRN : Hid (∀ w1, K w w1 → Calls Tryd.prog 15 #[.string s] w1 fun e w' => e = .returned (.bool (nameB s.data.toList)) ∧ K w w') := Lib.hid fun w1 hK => Calls.k0 hK (rname_any s w1 hM)
  have HC : Hid (∀ w1, K w w1 → Calls Tryd.prog 16 #[.string s] w1 fun e w' => e = .returned (.int .i64 (countN s.data.toList)) ∧ K w w') := Lib.hid fun w1 hK => Calls.k h7 hK fun hE1 => count_any s w1 hM (by have := hE1.1; omega) hE1.2.1
  have HRC : Hid (∀ w1, K w w1 → Calls Tryd.prog 17 #[.string s] w1 fun e w' => e = .returned (.int .i64 (countN s.data.toList)) ∧ K w w') := Lib.hid fun w1 hK => Calls.k0 hK (rcount_any s w1 h63)
  clear hE hq hM
  obtain ⟨V, hV⟩ : ∃ V, Lib.validD s.data.toList = V := ⟨_, rfl⟩
  obtain ⟨N, hN⟩ : ∃ N, nameB s.data.toList = N := ⟨_, rfl⟩
  obtain ⟨C, hC⟩ : ∃ C, countN s.data.toList = C := ⟨_, rfl⟩
  rw [hV] at HV HRV
  rw [hN] at HN HRN
  rw [hC] at HC HRC
  clear hV hN hC
  go_enter Tryd.func3, Tryd.ntmps3
  go_wp2_with (first | (go_at_call 10; (with_reducible refine (HQ.out _ (by assumption)).mono ?_); rintro e w' ⟨rfl, hK⟩) | (go_at_call 11; (with_reducible refine (HRQ.out _ (by assumption)).mono ?_); rintro e w' ⟨rfl, hK⟩) | (go_at_call 12; (with_reducible refine (HV.out _ (by assumption)).mono ?_); rintro e w' ⟨rfl, hK⟩) | (go_at_call 13; (with_reducible refine (HRV.out _ (by assumption)).mono ?_); rintro e w' ⟨rfl, hK⟩) | (go_at_call 14; (with_reducible refine (HN.out _ (by assumption)).mono ?_); rintro e w' ⟨rfl, hK⟩) | (go_at_call 15; (with_reducible refine (HRN.out _ (by assumption)).mono ?_); rintro e w' ⟨rfl, hK⟩) | (go_at_call 16; (with_reducible refine (HC.out _ (by assumption)).mono ?_); rintro e w' ⟨rfl, hK⟩) | (go_at_call 17; (with_reducible refine (HRC.out _ (by assumption)).mono ?_); rintro e w' ⟨rfl, hK⟩) | (go_at_call 9; (with_reducible refine (HW.out _ (by assumption)).mono ?_); rintro e w' ⟨rfl, hK⟩))
  go_ret
  exact ⟨rfl, by assumption⟩

theorem tell_any (s : ByteArray) (w : World) (hE : Env w) (hs : s.size ≤ maxLen) :
    Calls Tryd.prog 3 #[.string s] w fun e w' => e = .returned (.bool true) ∧ Below w.heap.size w w' := by
  by_cases h : 2000 < s.size
  · exact tell_long s w hE hs h
  · exact tell_short s w hE (by omega)
end Go.Proofs.YtcbinbhohohaoaaDoor
