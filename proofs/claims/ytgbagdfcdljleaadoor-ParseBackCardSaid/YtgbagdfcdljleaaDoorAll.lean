/-
  The iterator that runes.All hands back: whatever the loop's body is, it is given the places and the runes of the text, one behind the other, up to where it is no text.
-/
import Derived.RangeFuncNested
import Derived.RangeFuncBound
import Derived.RangeFuncCalls
import Derived.RangeFuncLeaves
import Derived.Shelf.Abstract
import Derived.Shelf.RegionOpen
import Derived.WalkKit
import Derived.OwnWalkIn
import Derived.TacticsInMore
import Derived.LoopNIn
import Derived.LoopIn
import Derived.Lib.Hide
import Derived.Test.YtgbagdfcdljleaaDoorShelf
import Derived.Test.YtgbagdfcdljleaaDoorPl
set_option linter.unusedVariables false
namespace Go.Proofs.YtgbagdfcdljleaaDoor.Ru
open Go.RowKit Go.Shelf
attribute [local go_sem] Oper.semAt_some

theorem tabs_below {n : Nat} {w w' : World} (h : Lib.Utf8Tabs 0 1 w) (hb : Below n w w') (hn : 2 ≤ n) : Lib.Utf8Tabs 0 1 w' :=
  ⟨fun c hc => (hb.cell (p := ⟨0, c, none⟩) (by simp; omega)).trans (h.1 c hc),
   fun i hi => ⟨(hb.cell (p := ⟨1, 2 * i, none⟩) (by simp; omega)).trans (h.2 i hi).1, (hb.cell (p := ⟨1, 2 * i + 1, none⟩) (by simp; omega)).trans (h.2 i hi).2⟩⟩

theorem dec_any (s : ByteArray) (p : Nat) (hp : p < s.size) (w : World) (hT : Lib.Utf8Tabs 0 1 w) :
    Calls Tryd.prog 74 #[.string (s.extract p s.size)] w fun e w' => e = .returned (.tuple #[.int .i32 (Lib.decodeL (s.data.toList.drop p)).1, .int .i64 (Lib.decodeL (s.data.toList.drop p)).2]) ∧ Below w.heap.size w w' := by
  have e : Lib.decodeGo (s.extract p s.size) = Lib.decodeL (s.data.toList.drop p) := by
    unfold Lib.decodeGo Lib.decodeL
    rw [if_neg (by rw [Lib.ext_size]; omega), ← Lib.ext_list]
  have := Tryd.utf8_DecodeRuneInString (s.extract p s.size) w hT
  rw [e] at this
  exact this

def encStp {l : List UInt8} (x : Stp l) : Array Value := #[.int .i64 x.1.1, .int .i64 x.1.2]

theorem all_in (n : Nat) (s : ByteArray) (w : World) :
    CallsIn Fence.wide n Tryd.prog 66 #[.string s] w fun e w' => e = .returned (.func (.func 73) #[] #[.pointer (some ⟨w.heap.size, 0, none⟩)]) ∧ w' = w.alloc (.cells #[.string s] 9) := by
  refine callsIn_of_wp Tryd.func66 rfl trivial ?_ rfl
  simp only [Tryd.ntmps66, List.size_toArray, List.length_cons, List.length_nil, Nat.reduceAdd, Nat.reduceSub, Array.replicate_succ, Array.replicate_zero, List.push_toArray, List.append_toArray, List.nil_append, List.cons_append]
  gi_wp2
  go_ret
  exact ⟨rfl, rfl⟩

/-- What a round keeps: all below m, and block B. -/
def KpB (m B : Nat) (W W' : World) : Prop := Below m W W' ∧ W'.heap[B]? = W.heap[B]?
theorem kpB_t {m B : Nat} {X Y Z : World} (h : KpB m B X Y) (k : KpB m B Y Z) : KpB m B X Z := ⟨h.1.trans k.1, k.2.trans h.2⟩
theorem kpB_refl (m B : Nat) (X : World) : KpB m B X X := ⟨Below.refl _ _, rfl⟩
theorem kpB_b {m B z : Nat} (hm : m ≤ z) (hB : B < z) (W : World) (l : Nat) (o o' : Obj) (hl : z ≤ l) (h1 : W.heap[l]? = some o) (h2 : o.isCells = false) (h3 : o.isWalk = false) : KpB m B W (W.putObj l o') :=
  ⟨(Below.refl m W).grown (grownBy_putObj' W l o') (Nat.le_of_lt (Nat.lt_of_le_of_lt hm (Nat.lt_of_le_of_lt hl (Array.getElem?_eq_some_iff.1 h1).1))) (fun k e => by cases e; omega),
   World.putObj_heap_other (by omega)⟩
theorem KpB.cell {m B : Nat} {X Y : World} (h : KpB m B X Y) : Y.cell? ⟨B, 0, none⟩ = X.cell? ⟨B, 0, none⟩ := World.cell?_of_block (a := ⟨B, 0, none⟩) h.2

set_option maxRecDepth 100000 in
set_option maxHeartbeats 1000000 in
theorem all_stops (n : Nat) (hn : 2 ≤ n) (s : ByteArray) (hs : s.size ≤ maxLen) (B m : Nat) (w : World) (hB : B < w.heap.size) (h2 : 2 ≤ m) (hm : m ≤ w.heap.size) (hc : w.cell? ⟨B, 0, none⟩ = some (.string s)) (hT : Lib.Utf8Tabs 0 1 w) :
    SeqStopsK Fence.wide n Tryd.prog 73 #[.pointer (some ⟨B, 0, none⟩)] (encStp (l := s.data.toList)) (KpB m B) (fun xs => xs.map (·.1) = steps s.data.toList) (fun pre => pre.map (·.1) <+: steps s.data.toList) (steps s.data.toList).length w := fun l J Jx W hW hJ hJx hY h0 => by
  unfold maxLen at hs
  have hs' : s.size ≤ 9223372036854775807 := hs
  clear hs
  refine callsIn_of_wp Tryd.func73 rfl trivial ?_ rfl
  simp only [Tryd.ntmps73, List.size_toArray, List.length_cons, List.length_nil, Nat.reduceAdd, Nat.reduceSub, Array.replicate_succ, Array.replicate_zero, List.push_toArray, List.append_toArray, List.nil_append, List.cons_append]
  have hcW : W.cell? ⟨B, 0, none⟩ = some (.string s) := (hW.cell (p := ⟨B, 0, none⟩) (by simp; omega)).trans hc
  have hTW := tabs_below hT hW (by omega)
  gi_wp2
  gi_loopw [3] (fun i wr => ∃ (p : Nat) (pre : List (Stp s.data.toList)), i = .int .i64 p ∧ p ≤ s.size ∧ pre.map (·.1) ++ stepsP p (s.data.toList.drop p) = steps s.data.toList ∧ J pre wr ∧ wr.cell? ⟨B, 0, none⟩ = some (.string s) ∧ Lib.Utf8Tabs 0 1 wr ∧ W.heap.size ≤ wr.heap.size)
    (fun i _ => s.size - (intOf i).toNat)
  case atStart =>
    exact ⟨0, [], rfl, Nat.zero_le _, by simp [steps], h0, hcW, hTW, Nat.le_refl _⟩
  case round =>
    obtain ⟨p, pre, rfl, hp, hpre, hJs, hcr, hTr, hsz⟩ := hrel
    by_cases hlt : p < s.size
    · have hne : s.data.toList.drop p ≠ [] := by
        intro e
        have := congrArg List.length e
        rw [List.length_drop, Array.length_toList] at this
        have : s.data.size = s.size := rfl
        simp at *; omega
      have hw1 := Lib.decodeL_width (s.data.toList.drop p)
      have hle := Lib.decodeL_le (s.data.toList.drop p) hne
      have hrn := Lib.decodeL_rune (s.data.toList.drop p)
      have hdl : (s.data.toList.drop p).length = s.size - p := by rw [List.length_drop, Array.length_toList]; rfl
      rw [hdl] at hle
      have hd := dec_any s p hlt wr hTr
      have hgood := stepsP_good p hne
      have hbad := stepsP_bad p (l := s.data.toList.drop p)
      cases hb : bad (s.data.toList.drop p) with
      | true =>
        have hb' : (Lib.decodeL (s.data.toList.drop p)).1 = 65533 ∧ (Lib.decodeL (s.data.toList.drop p)).2 = 1 := by simpa [bad] using hb
        have hend := hbad hb
        rw [hb'.1, hb'.2] at hd
        rw [hend, List.append_nil] at hpre
        have HD := Lib.hid hd
        have HP := Lib.hid hpre
        clear hgood hbad hb' hb hend hw1 hle hrn hd hpre hdl hne hY
        gi_wp2_with fail
        refine ⟨trivial, fun _ => by omega, ?_⟩
        refine (callsIn_wide.2 HD.out).mono ?_
        rintro e w' ⟨rfl, hbel⟩
        gi_wp2_with fail
        refine bodyPost_ret (results_none rfl _ _ _) rfl ?_
        exact ⟨⟨_, rfl⟩, .inl ⟨pre, HP.out, hJ _ _ _ none hJs ⟨hbel.os, hbel.tape, hbel.output, hbel.size, fun k hk _ => hbel.block k hk⟩ (fun _ e => by cases e)⟩⟩
      | false =>
        have hb' := bad_false hb
        have hst := hgood hb
        rw [List.drop_drop] at hst
        rw [hst] at hpre
        generalize hR : (Lib.decodeL (s.data.toList.drop p)).1 = R at *
        generalize hK : (Lib.decodeL (s.data.toList.drop p)).2 = K at *
        have hmem : (p, R) ∈ steps s.data.toList := by rw [← hpre]; simp
        have hlen : pre.length < (steps s.data.toList).length := by rw [← hpre]; simp
        have HD := Lib.hid hd
        have HP := Lib.hid hpre
        have HB := Lib.hid hb'
        clear hgood hbad hb' hb hst hd hpre hdl hne hR hK
        gi_wp2_with fail
        refine ⟨trivial, fun _ => by omega, ?_⟩
        refine (callsIn_wide.2 HD.out).mono ?_
        rintro e w1 ⟨rfl, hbel⟩
        have hJ1 : J pre w1 := hJ _ _ _ none hJs ⟨hbel.os, hbel.tape, hbel.output, hbel.size, fun k hk _ => hbel.block k hk⟩ (fun _ e => by cases e)
        have hc1 : w1.cell? ⟨B, 0, none⟩ = some (.string s) := (hbel.cell (p := ⟨B, 0, none⟩) (by have := hW.size; simp; omega)).trans hcr
        have hT1 := tabs_below hTr hbel (by have := hW.size; omega)
        obtain ⟨fn, tmps, assign, body, hy, hR⟩ := hY pre ⟨(p, R), hmem⟩ w1 hJ1 hlen
        dsimp only [encStp] at hy
        have hsz1 := hbel.size
        have hdec : (((R : Int) == 65533) = true ∧ ((K : Int) == 1) = false) ∨ ((R : Int) == 65533) = false := by
          by_cases hr3 : R = 65533
          · refine .inl ⟨by rw [hr3]; rfl, ?_⟩
            rw [beq_eq_false_iff_ne]
            intro e
            exact HB.out ⟨hr3, by omega⟩
          · refine .inr ?_
            rw [beq_eq_false_iff_ne]
            intro e
            exact hr3 (by omega)
        clear hY
        rcases hdec with ⟨hr4, hk4⟩ | hr4
        all_goals
          gi_wp2_with fail
          refine ⟨fun _ => by omega, ?_⟩
          refine hR.mono ?_
          rintro e W3 (⟨rfl, hJ3, hk3⟩ | ⟨rfl, hJx3⟩)
          · have hc3 : W3.cell? ⟨B, 0, none⟩ = some (.string s) := hk3.cell.trans hc1
            have hT3 := tabs_below hT1 hk3.1 h2
            have hz3 := hk3.1.size
            clear hy hR
            gi_wp2_with fail
            go_roundw
            case rel => exact ⟨p + K, pre ++ [⟨(p, R), hmem⟩], by go_num, by omega, by have := HP.out; simpa using this, hJ3, hc3, hT3, by omega⟩
            case measure => simp [intOf]; omega
          · clear hy hR
            gi_wp2_with fail
            refine bodyPost_ret (results_none rfl _ _ _) rfl ?_
            exact ⟨⟨_, rfl⟩, .inr ⟨pre ++ [⟨(p, R), hmem⟩], ⟨_, by have := HP.out; simpa using this⟩, hJx3⟩⟩
    · have hpe : p = s.size := by omega
      subst hpe
      have hd0 : s.data.toList.drop s.size = [] := List.drop_eq_nil_of_le (by rw [Array.length_toList]; exact Nat.le_refl _)
      rw [hd0, stepsP_nil, List.append_nil] at hpre
      have HP := Lib.hid hpre
      clear hpre hd0 hY
      gi_wp2
      go_end0
      exact ⟨⟨_, rfl⟩, .inl ⟨pre, HP.out, hJs⟩⟩
end Go.Proofs.YtgbagdfcdljleaaDoor.Ru
