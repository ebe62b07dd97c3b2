/-
  The contract of runes.Unquote.
-/
import Derived.Test.YtgbagdfcdljleaaGreatDoorUqP
import Derived.RegionTactic
import Derived.RegionIn
set_option linter.unusedVariables false
set_option linter.unusedSimpArgs false
namespace Go.Proofs.YtgbagdfcdljleaaGreatDoor.Ru
open Go.RowKit Go.Shelf Go.Maps
attribute [local go_sem] Oper.semAt_some

set_option maxRecDepth 100000 in
set_option maxHeartbeats 1000000 in
theorem unq_arg (s : ByteArray) (at' : Int) (h : at' < 0 ∨ (s.size : Int) < at') (hs : s.size ≤ maxLen) (w : World) :
    Calls Tryz.prog 52 #[.string s, .int .i64 at'] w fun e w' => e = .returned (ansV ([], 0, 2)) ∧ Below w.heap.size w w' := by
  have hs9 : s.size ≤ 9223372036854775807 := by unfold maxLen at hs; omega
  clear hs
  refine (callsIn_wide (n := 9)).1 ?_
  refine callsIn_of_wp_marks Tryz.func52 rfl trivial ?_ rfl
  simp only [Tryz.ntmps52, List.size_toArray, List.length_cons, List.length_nil, Nat.reduceAdd, Nat.reduceSub, Array.replicate_succ, Array.replicate_zero, List.push_toArray, List.append_toArray, List.nil_append, List.cons_append]
  by_cases h0 : at' < 0
  · clear h
    gi_wp2_with fail
    exact ⟨ansV ([], 0, 2), by simp [results, Tryz.results52, go_sem, ansV], rfl, by go_grown⟩
  · have h1 : (s.size : Int) < at' := by omega
    clear h
    gi_wp2_with fail
    exact ⟨ansV ([], 0, 2), by simp [results, Tryz.results52, go_sem, ansV], rfl, by go_grown⟩

set_option maxRecDepth 100000 in
set_option maxHeartbeats 1000000 in
theorem unq_noquote (s : ByteArray) (p : Nat) (hp : p ≤ s.size) (h : p = s.size ∨ s.data.toList.getD p 0 ≠ 34) (hs : s.size ≤ maxLen) (w : World) :
    Calls Tryz.prog 52 #[.string s, .int .i64 p] w fun e w' => e = .returned (ansV ([], p, 10)) ∧ Below w.heap.size w w' := by
  have hs9 : s.size ≤ 9223372036854775807 := by unfold maxLen at hs; omega
  clear hs
  refine (callsIn_wide (n := 9)).1 ?_
  refine callsIn_of_wp_marks Tryz.func52 rfl trivial ?_ rfl
  simp only [Tryz.ntmps52, List.size_toArray, List.length_cons, List.length_nil, Nat.reduceAdd, Nat.reduceSub, Array.replicate_succ, Array.replicate_zero, List.push_toArray, List.append_toArray, List.nil_append, List.cons_append]
  by_cases h0 : p = s.size
  · have h1 : ((p : Int) == (s.size : Int)) = true := by rw [beq_iff_eq]; omega
    clear h h0
    gi_wp2_with fail
    gi_region
    all_goals gi_wp2_with fail
    all_goals exact ⟨ansV ([], p, 10), by simp [results, Tryz.results52, go_sem, ansV], rfl, by go_grown⟩
  · have h1 : ((p : Int) == (s.size : Int)) = false := by rw [beq_eq_false_iff_ne]; omega
    have hlt : p < s.size := by omega
    have h2 : ((s[p]'hlt).toNat : Int) != 34 := by
      have hne := h.resolve_left h0
      rw [List.getD, toList_getElem s p hlt] at hne
      rw [bne_iff_ne]
      intro e
      exact hne (UInt8.toNat_inj.1 (by simpa using (by omega : (s[p]'hlt).toNat = 34)))
    clear h h0
    gi_wp2_with fail
    gi_region
    all_goals gi_wp2_with fail
    all_goals exact ⟨ansV ([], p, 10), by simp [results, Tryz.results52, go_sem, ansV], rfl, by go_grown⟩
end Go.Proofs.YtgbagdfcdljleaaGreatDoor.Ru
