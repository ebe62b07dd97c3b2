/-
  Contracts of runes.Valid and runes.Count.
-/
import Derived.RangeFuncNested
import Derived.RangeFuncBound
import Derived.RangeFuncCalls
import Derived.RangeFuncLeaves
import Derived.Shelf.Abstract
import Derived.Shelf.RegionOpen
import Derived.WalkKit
import Derived.OwnWalkIn
import Derived.TacticsInMore
import Derived.LoopNIn
import Derived.LoopIn
import Derived.Lib.Hide
import Derived.Test.YtoojfgajlakonaaDoorAll
set_option linter.unusedVariables false
namespace Go.Proofs.YtoojfgajlakonaaDoor
open Go.RowKit Go.Shelf
attribute [local go_sem] Oper.semAt_some

theorem valid_any (s : ByteArray) (w : World) (hs : s.size ≤ maxLen) (hT : Lib.Utf8Tabs 0 1 w) :
    Calls Tryd.prog 12 #[.string s] w fun e w' => e = .returned (.bool (Lib.validD s.data.toList)) ∧ Below w.heap.size w w' := by
  have hv := Lib.hid (Tryd.utf8_ValidString s w (by unfold maxLen at hs; omega) hT)
  clear hs
  go_enter Tryd.func12, Tryd.ntmps12
  go_wp2_with (go_at_call 28; refine hv.out.mono ?_; rintro e w' ⟨rfl, hb⟩)
  go_ret
  exact ⟨rfl, hb⟩

def countN (l : List UInt8) : Nat := if Lib.validD l then (steps l).length else 0

set_option maxRecDepth 100000 in
set_option maxHeartbeats 1000000 in
theorem count_no (s : ByteArray) (w : World) (hvd : Lib.validD s.data.toList = false) (hs : s.size ≤ maxLen) (hT : Lib.Utf8Tabs 0 1 w) :
    Calls Tryd.prog 16 #[.string s] w fun e w' => e = .returned (.int .i64 0) ∧ Below w.heap.size w w' := by
  have hv := valid_any s w hs hT
  rw [hvd] at hv
  clear hvd hs
  have HV := Lib.hid hv
  clear hv
  refine (callsIn_wide (n := 9)).1 ?_
  refine callsIn_of_wp_marks Tryd.func16 rfl trivial ?_ rfl
  simp only [Tryd.ntmps16, List.size_toArray, List.length_cons, List.length_nil, Nat.reduceAdd, Nat.reduceSub, Array.replicate_succ, Array.replicate_zero, List.push_toArray, List.append_toArray, List.nil_append, List.cons_append]
  gi_wp2_with fail
  refine ⟨trivial, ?_⟩
  refine (callsIn_wide.2 HV.out).mono ?_
  rintro e w1 ⟨rfl, hb1⟩
  gi_wp2_with fail
  exact ⟨_, results_tmp rfl _ _ _, rfl, hb1⟩

set_option maxRecDepth 100000 in
set_option maxHeartbeats 1000000 in
theorem count_yes (s : ByteArray) (w : World) (hvd : Lib.validD s.data.toList = true) (hs : s.size ≤ maxLen) (h2 : 2 ≤ w.heap.size) (hT : Lib.Utf8Tabs 0 1 w) :
    Calls Tryd.prog 16 #[.string s] w fun e w' => e = .returned (.int .i64 (steps s.data.toList).length) ∧ Below w.heap.size w w' := by
  have hv := valid_any s w hs hT
  rw [hvd] at hv
  have hsl := steps_length s.data.toList
  rw [show s.data.toList.length = s.size by rw [Array.length_toList]; rfl] at hsl
  have hS := Lib.hid hs
  have hs9 : s.size ≤ 9223372036854775807 := by unfold maxLen at hs; omega
  have HV := Lib.hid hv
  clear hs hvd hv
  refine (callsIn_wide (n := 9)).1 ?_
  refine callsIn_of_wp_marks Tryd.func16 rfl trivial ?_ rfl
  simp only [Tryd.ntmps16, List.size_toArray, List.length_cons, List.length_nil, Nat.reduceAdd, Nat.reduceSub, Array.replicate_succ, Array.replicate_zero, List.push_toArray, List.append_toArray, List.nil_append, List.cons_append]
  gi_wp2_with fail
  refine ⟨trivial, ?_⟩
  refine (callsIn_wide.2 HV.out).mono ?_
  rintro e w1 ⟨rfl, hb1⟩
  have hsz1 := hb1.size
  gi_wp2_with fail
  refine ⟨trivial, ?_⟩
  refine (all_in _ s _).mono ?_
  rintro e w' ⟨rfl, rfl⟩
  gi_wp2_with fail
  obtain ⟨N, hN⟩ : ∃ N, w1.heap.size = N := ⟨_, rfl⟩
  have hT1 := tabs_below hT hb1 h2
  have bN := Boxed.new w1 3 (.int .i64 0)
  have bB := Boxed.new (w1.alloc (.cells #[.int .i64 0] 3)) 9 (.string s)
  rw [World.size_alloc, hN] at bB
  rw [hN] at bN
  simp only [hN]
  refine wpIn_rangeFunc_ownG rfl (by omega) (gf := 37) (lb := #[.pointer (some ⟨N + 1, 0, none⟩)]) rfl trivial (enters_of Tryd.func37 (by kernel_rfl) rfl)
    (all_stops 8 (by omega) s hS.out (N + 1) w.heap.size _ ?cB h2 ?cm bB.cell ?cT) kpB_t (kpB_b ?d1 ?d2) (Below.refl _ _) (fun _ => rfl)
    (fun pre W => Boxed W N 3 (.int .i64 pre.length) ∧ Below w.heap.size w W)
    (fun _ _ _ => False) ?hI (fun _ _ _ _ _ hs _ _ => hs) ?h0
    (fun x => { tmps := #[.string s, undef, .int .i64 0, .pointer (some ⟨N, 0, none⟩), .string s, .bool true, .bool false, .string s, .func (.func 37) #[] #[.pointer (some ⟨N + 1, 0, none⟩)], .int .i64 x.1.1, .int .i64 x.1.2, undef, undef, undef], defers := [] }) ?assign ?body ?done ?stop
  case cB => simp [hN]
  case cm => simp; omega
  case cT => exact tabs_below (tabs_below hT1 ((Below.refl w1.heap.size w1).alloc (Nat.le_refl _) _) (by omega)) ((Below.refl _ _).alloc (Nat.le_refl _) _) (by simp; omega)
  case d1 => simp; omega
  case d2 => simp [hN]
  case hI => exact OwnFrom.and (Own.from (boxed_own _ _ _) _) (ownFrom_below (Nat.le_refl _) (by simp; omega))
  case h0 => exact ⟨bN.alloc _, (hb1.alloc (by omega) _).alloc (by simp; omega) _⟩
  case assign =>
    intro l x W K hK
    unfold encStp
    gi_wp2_with fail
    simpa using hK
  case body =>
    rintro l pre x W ⟨bW, hB⟩ hlen
    have hcN := bW.cell
    have hfN := bW.frozen
    gi_wp2_with fail
    refine ⟨(KeepsOthers.setCell _ _ _).from _, ⟨(Below.refl _ W).setCell (p := ⟨N, 0, none⟩) (by simp; omega) _, ?_⟩, ?_, hB.setCell (p := ⟨N, 0, none⟩) (by simp; omega) _⟩
    · exact RowKit.Below.heap_setCell _ _ _ _ (by simp)
    · have := bW.set (.int .i64 ((pre ++ [x]).length : Nat))
      simpa using this
  case stop =>
    rintro D c pre W _ _ h _
    exact h.elim
  case done =>
    rintro D xs W hD hxs ⟨bW, hB⟩ hK
    have hcN := bW.cell
    have hlx : xs.length = (steps s.data.toList).length := by rw [← hxs]; simp
    gi_wp2_with fail
    refine ⟨by simp, .inl ⟨_, _, rfl, run_takeDeferred hK, ?_⟩⟩
    exact ⟨_, results_tmp rfl _ _ _, rfl, hB.trans (belowK_b (w := w) (Nat.le_refl _) W D _ _ (by simp at hD; omega) hK rfl rfl)⟩

theorem count_any (s : ByteArray) (w : World) (hs : s.size ≤ maxLen) (h2 : 2 ≤ w.heap.size) (hT : Lib.Utf8Tabs 0 1 w) :
    Calls Tryd.prog 16 #[.string s] w fun e w' => e = .returned (.int .i64 (countN s.data.toList)) ∧ Below w.heap.size w w' := by
  unfold countN
  cases hvd : Lib.validD s.data.toList with
  | false => exact count_no s w hvd hs hT
  | true => exact count_yes s w hvd hs h2 hT
end Go.Proofs.YtoojfgajlakonaaDoor
