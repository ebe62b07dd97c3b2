/-
  The statement RunesRead: the call returns true, and writes nothing that was there.
-/
import Derived.Test.YtoojfgajlakonaaDoorRUnq
import Derived.Test.YtoojfgajlakonaaDoorJoin
set_option linter.unusedVariables false
namespace Go.Proofs.YtoojfgajlakonaaDoor
open Go.RowKit Go.Shelf Go.Maps

set_option maxHeartbeats 4000000 in
set_option maxRecDepth 100000 in
theorem read_long (s : ByteArray) (at' : Int) (w : World) (hE : Env w) (hs : s.size ≤ maxLen) (h : 2000 < s.size) :
    Calls Tryd.prog 4 #[.string s, .int .i64 at'] w fun e w' => e = .returned (.bool true) ∧ Below w.heap.size w w' := by
  have HW := Lib.hid (wakes_any w hE)
  have hs9 : s.size ≤ 9223372036854775807 := by unfold maxLen at hs; omega
  clear hs hE
  go_enter Tryd.func4, Tryd.ntmps4
  go_wp2_with fail
  refine HW.out.mono ?_
  rintro e w1 ⟨rfl, hb1⟩
  go_wp2_with fail
  go_ret
  exact ⟨rfl, hb1⟩

set_option maxHeartbeats 4000000 in
set_option maxRecDepth 100000 in
theorem read_short (s : ByteArray) (at' : Int) (w : World) (hE : Env w) (hs : s.size ≤ 2000) :
    Calls Tryd.prog 4 #[.string s, .int .i64 at'] w fun e w' => e = .returned (.bool true) ∧ Below w.heap.size w w' := by
  have h7 := hE.1
  have hK0 := K.refl hE
  refine Calls.mono (R := fun e w' => e = .returned (.bool true) ∧ K w w') ?_ fun e w' h => ⟨h.1, h.2.2⟩
  obtain ⟨Q, i, q, hq⟩ : ∃ (Q : ByteArray) (i q : Int), ansV (unqI s.data.toList at') = .tuple #[.string Q, .int .i64 i, .int .i64 q] := ⟨_, _, _, rfl⟩
  have HW : Hid (∀ w1, K w w1 → Calls Tryd.prog 9 #[] w1 fun e w' => e = .returned (.bool true) ∧ K w w') := Lib.hid fun w1 hK => Calls.k h7 hK fun hE1 => wakes_any w1 hE1
  have HQ : Hid (∀ w1, K w w1 → Calls Tryd.prog 18 #[.string s, .int .i64 at'] w1 fun e w' => e = .returned (.tuple #[.string Q, .int .i64 i, .int .i64 q]) ∧ K w w') := Lib.hid fun w1 hK => Calls.k h7 hK fun hE1 => by
    have := unquote_any s at' (by omega) w1 hE1
    rw [hq] at this
    exact this
  have HRQ : Hid (∀ w1, K w w1 → Calls Tryd.prog 19 #[.string s, .int .i64 at'] w1 fun e w' => e = .returned (.tuple #[.string Q, .int .i64 i, .int .i64 q]) ∧ K w w') := Lib.hid fun w1 hK => Calls.k h7 hK fun hE1 => by
    have := runq_any s at' hs w1
    rw [hq] at this
    exact this
  clear hE hq
  go_enter Tryd.func4, Tryd.ntmps4
  go_wp2_with (first | (go_at_call 18; (with_reducible refine (HQ.out _ (by assumption)).mono ?_); rintro e w' ⟨rfl, hK⟩) | (go_at_call 19; (with_reducible refine (HRQ.out _ (by assumption)).mono ?_); rintro e w' ⟨rfl, hK⟩) | (go_at_call 9; (with_reducible refine (HW.out _ (by assumption)).mono ?_); rintro e w' ⟨rfl, hK⟩))
  go_ret
  exact ⟨rfl, by assumption⟩

theorem read_any (s : ByteArray) (at' : Int) (w : World) (hE : Env w) (hs : s.size ≤ maxLen) {p : Prop} (_ : p) :
    Calls Tryd.prog 4 #[.string s, .int .i64 at'] w fun e w' => e = .returned (.bool true) ∧ Below w.heap.size w w' := by
  by_cases h : 2000 < s.size
  · exact read_long s at' w hE hs h
  · exact read_short s at' w hE (by omega)
end Go.Proofs.YtoojfgajlakonaaDoor
