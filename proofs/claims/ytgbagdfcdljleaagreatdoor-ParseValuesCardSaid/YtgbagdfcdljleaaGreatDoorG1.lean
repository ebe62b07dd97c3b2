/-
  The iterator that runes.All hands back: whatever the loop's body is, it is given the places and the runes of the text, one behind the other, up to where it is no text. · Contracts of runes.Valid and runes.Count. · The two tables of runes' escapes, maps that the call makes: letters, meanings. · The contract of runes.Quote.
-/
import Derived.RangeFuncNested
import Derived.RangeFuncBound
import Derived.RangeFuncCalls
import Derived.RangeFuncLeaves
import Derived.Shelf.Abstract
import Derived.Shelf.RegionOpen
import Derived.WalkKit
import Derived.OwnWalkIn
import Derived.TacticsInMore
import Derived.LoopNIn
import Derived.LoopIn
import Derived.Lib.Hide
import Derived.Test.YtgbagdfcdljleaaGreatDoorShelf
import Derived.Test.YtgbagdfcdljleaaGreatDoorPl
import Derived.Maps.OwnIn
import Derived.Maps.OwnOps
import Derived.Maps.RangeWalk
import Derived.Maps.Ext
import Derived.Maps.Views
import Derived.Test.YtgbagdfcdljleaaGreatDoorBld
set_option linter.unusedVariables false
set_option linter.unusedSimpArgs false
namespace Go.Proofs.YtgbagdfcdljleaaGreatDoor.Ru
open Go.RowKit Go.Shelf
attribute [local go_sem] Oper.semAt_some

theorem tabs_below {n : Nat} {w w' : World} (h : Lib.Utf8Tabs 1 2 w) (hb : Below n w w') (hn : 3 ≤ n) : Lib.Utf8Tabs 1 2 w' :=
  ⟨fun c hc => (hb.cell (p := ⟨1, c, none⟩) (by simp; omega)).trans (h.1 c hc),
   fun i hi => ⟨(hb.cell (p := ⟨2, 2 * i, none⟩) (by simp; omega)).trans (h.2 i hi).1, (hb.cell (p := ⟨2, 2 * i + 1, none⟩) (by simp; omega)).trans (h.2 i hi).2⟩⟩

theorem dec_any (s : ByteArray) (p : Nat) (hp : p < s.size) (w : World) (hT : Lib.Utf8Tabs 1 2 w) :
    Calls Tryz.prog 72 #[.string (s.extract p s.size)] w fun e w' => e = .returned (.tuple #[.int .i32 (Lib.decodeL (s.data.toList.drop p)).1, .int .i64 (Lib.decodeL (s.data.toList.drop p)).2]) ∧ Below w.heap.size w w' := by
  have e : Lib.decodeGo (s.extract p s.size) = Lib.decodeL (s.data.toList.drop p) := by
    unfold Lib.decodeGo Lib.decodeL
    rw [if_neg (by rw [Lib.ext_size]; omega), ← Lib.ext_list]
  have := Tryz.utf8_DecodeRuneInString (s.extract p s.size) w hT
  rw [e] at this
  exact this

def encStp {l : List UInt8} (x : Stp l) : Array Value := #[.int .i64 x.1.1, .int .i64 x.1.2]

theorem all_in (n : Nat) (s : ByteArray) (w : World) :
    CallsIn Fence.wide n Tryz.prog 62 #[.string s] w fun e w' => e = .returned (.func (.func 71) #[] #[.pointer (some ⟨w.heap.size, 0, none⟩)]) ∧ w' = w.alloc (.cells #[.string s] 9) := by
  refine callsIn_of_wp Tryz.func62 rfl trivial ?_ rfl
  simp only [Tryz.ntmps62, List.size_toArray, List.length_cons, List.length_nil, Nat.reduceAdd, Nat.reduceSub, Array.replicate_succ, Array.replicate_zero, List.push_toArray, List.append_toArray, List.nil_append, List.cons_append]
  gi_wp2
  go_ret
  exact ⟨rfl, rfl⟩

/-- What a round keeps: all below m, and block B. -/
def KpB (m B : Nat) (W W' : World) : Prop := Below m W W' ∧ W'.heap[B]? = W.heap[B]?
theorem kpB_t {m B : Nat} {X Y Z : World} (h : KpB m B X Y) (k : KpB m B Y Z) : KpB m B X Z := ⟨h.1.trans k.1, k.2.trans h.2⟩
theorem kpB_refl (m B : Nat) (X : World) : KpB m B X X := ⟨Below.refl _ _, rfl⟩
theorem kpB_b {m B z : Nat} (hm : m ≤ z) (hB : B < z) (W : World) (l : Nat) (o o' : Obj) (hl : z ≤ l) (h1 : W.heap[l]? = some o) (h2 : o.isCells = false) (h3 : o.isWalk = false) : KpB m B W (W.putObj l o') :=
  ⟨(Below.refl m W).grown (grownBy_putObj' W l o') (Nat.le_of_lt (Nat.lt_of_le_of_lt hm (Nat.lt_of_le_of_lt hl (Array.getElem?_eq_some_iff.1 h1).1))) (fun k e => by cases e; omega),
   World.putObj_heap_other (by omega)⟩
theorem KpB.cell {m B : Nat} {X Y : World} (h : KpB m B X Y) : Y.cell? ⟨B, 0, none⟩ = X.cell? ⟨B, 0, none⟩ := World.cell?_of_block (a := ⟨B, 0, none⟩) h.2

set_option maxRecDepth 100000 in
set_option maxHeartbeats 1000000 in
theorem all_stops (n : Nat) (hn : 3 ≤ n) (s : ByteArray) (hs : s.size ≤ maxLen) (B m : Nat) (w : World) (hB : B < w.heap.size) (h2 : 3 ≤ m) (hm : m ≤ w.heap.size) (hc : w.cell? ⟨B, 0, none⟩ = some (.string s)) (hT : Lib.Utf8Tabs 1 2 w) :
    SeqStopsK Fence.wide n Tryz.prog 71 #[.pointer (some ⟨B, 0, none⟩)] (encStp (l := s.data.toList)) (KpB m B) (fun xs => xs.map (·.1) = steps s.data.toList) (fun pre => pre.map (·.1) <+: steps s.data.toList) (steps s.data.toList).length w := fun l J Jx W hW hJ hJx hY h0 => by
  unfold maxLen at hs
  have hs' : s.size ≤ 9223372036854775807 := hs
  clear hs
  refine callsIn_of_wp Tryz.func71 rfl trivial ?_ rfl
  simp only [Tryz.ntmps71, List.size_toArray, List.length_cons, List.length_nil, Nat.reduceAdd, Nat.reduceSub, Array.replicate_succ, Array.replicate_zero, List.push_toArray, List.append_toArray, List.nil_append, List.cons_append]
  have hcW : W.cell? ⟨B, 0, none⟩ = some (.string s) := (hW.cell (p := ⟨B, 0, none⟩) (by simp; omega)).trans hc
  have hTW := tabs_below hT hW (by omega)
  gi_wp2
  gi_loopw [3] (fun i wr => ∃ (p : Nat) (pre : List (Stp s.data.toList)), i = .int .i64 p ∧ p ≤ s.size ∧ pre.map (·.1) ++ stepsP p (s.data.toList.drop p) = steps s.data.toList ∧ J pre wr ∧ wr.cell? ⟨B, 0, none⟩ = some (.string s) ∧ Lib.Utf8Tabs 1 2 wr ∧ W.heap.size ≤ wr.heap.size)
    (fun i _ => s.size - (intOf i).toNat)
  case atStart =>
    exact ⟨0, [], rfl, Nat.zero_le _, by simp [steps], h0, hcW, hTW, Nat.le_refl _⟩
  case round =>
    obtain ⟨p, pre, rfl, hp, hpre, hJs, hcr, hTr, hsz⟩ := hrel
    by_cases hlt : p < s.size
    · have hne : s.data.toList.drop p ≠ [] := by
        intro e
        have := congrArg List.length e
        rw [List.length_drop, Array.length_toList] at this
        have : s.data.size = s.size := rfl
        simp at *; omega
      have hw1 := Lib.decodeL_width (s.data.toList.drop p)
      have hle := Lib.decodeL_le (s.data.toList.drop p) hne
      have hrn := Lib.decodeL_rune (s.data.toList.drop p)
      have hdl : (s.data.toList.drop p).length = s.size - p := by rw [List.length_drop, Array.length_toList]; rfl
      rw [hdl] at hle
      have hd := dec_any s p hlt wr hTr
      have hgood := stepsP_good p hne
      have hbad := stepsP_bad p (l := s.data.toList.drop p)
      cases hb : bad (s.data.toList.drop p) with
      | true =>
        have hb' : (Lib.decodeL (s.data.toList.drop p)).1 = 65533 ∧ (Lib.decodeL (s.data.toList.drop p)).2 = 1 := by simpa [bad] using hb
        have hend := hbad hb
        rw [hb'.1, hb'.2] at hd
        rw [hend, List.append_nil] at hpre
        have HD := Lib.hid hd
        have HP := Lib.hid hpre
        clear hgood hbad hb' hb hend hw1 hle hrn hd hpre hdl hne hY
        gi_wp2_with fail
        refine ⟨trivial, fun _ => by omega, ?_⟩
        refine (callsIn_wide.2 HD.out).mono ?_
        rintro e w' ⟨rfl, hbel⟩
        gi_wp2_with fail
        refine bodyPost_ret (results_none rfl _ _ _) rfl ?_
        exact ⟨⟨_, rfl⟩, .inl ⟨pre, HP.out, hJ _ _ _ none hJs ⟨hbel.os, hbel.tape, hbel.output, hbel.size, fun k hk _ => hbel.block k hk⟩ (fun _ e => by cases e)⟩⟩
      | false =>
        have hb' := bad_false hb
        have hst := hgood hb
        rw [List.drop_drop] at hst
        rw [hst] at hpre
        generalize hR : (Lib.decodeL (s.data.toList.drop p)).1 = R at *
        generalize hK : (Lib.decodeL (s.data.toList.drop p)).2 = K at *
        have hmem : (p, R) ∈ steps s.data.toList := by rw [← hpre]; simp
        have hlen : pre.length < (steps s.data.toList).length := by rw [← hpre]; simp
        have HD := Lib.hid hd
        have HP := Lib.hid hpre
        have HB := Lib.hid hb'
        clear hgood hbad hb' hb hst hd hpre hdl hne hR hK
        gi_wp2_with fail
        refine ⟨trivial, fun _ => by omega, ?_⟩
        refine (callsIn_wide.2 HD.out).mono ?_
        rintro e w1 ⟨rfl, hbel⟩
        have hJ1 : J pre w1 := hJ _ _ _ none hJs ⟨hbel.os, hbel.tape, hbel.output, hbel.size, fun k hk _ => hbel.block k hk⟩ (fun _ e => by cases e)
        have hc1 : w1.cell? ⟨B, 0, none⟩ = some (.string s) := (hbel.cell (p := ⟨B, 0, none⟩) (by have := hW.size; simp; omega)).trans hcr
        have hT1 := tabs_below hTr hbel (by have := hW.size; omega)
        obtain ⟨fn, tmps, assign, body, hy, hR⟩ := hY pre ⟨(p, R), hmem⟩ w1 hJ1 hlen
        dsimp only [encStp] at hy
        have hsz1 := hbel.size
        have hdec : (((R : Int) == 65533) = true ∧ ((K : Int) == 1) = false) ∨ ((R : Int) == 65533) = false := by
          by_cases hr3 : R = 65533
          · refine .inl ⟨by rw [hr3]; rfl, ?_⟩
            rw [beq_eq_false_iff_ne]
            intro e
            exact HB.out ⟨hr3, by omega⟩
          · refine .inr ?_
            rw [beq_eq_false_iff_ne]
            intro e
            exact hr3 (by omega)
        clear hY
        rcases hdec with ⟨hr4, hk4⟩ | hr4
        all_goals
          gi_wp2_with fail
          refine ⟨fun _ => by omega, ?_⟩
          refine hR.mono ?_
          rintro e W3 (⟨rfl, hJ3, hk3⟩ | ⟨rfl, hJx3⟩)
          · have hc3 : W3.cell? ⟨B, 0, none⟩ = some (.string s) := hk3.cell.trans hc1
            have hT3 := tabs_below hT1 hk3.1 h2
            have hz3 := hk3.1.size
            clear hy hR
            gi_wp2_with fail
            go_roundw
            case rel => exact ⟨p + K, pre ++ [⟨(p, R), hmem⟩], by go_num, by omega, by have := HP.out; simpa using this, hJ3, hc3, hT3, by omega⟩
            case measure => simp [intOf]; omega
          · clear hy hR
            gi_wp2_with fail
            refine bodyPost_ret (results_none rfl _ _ _) rfl ?_
            exact ⟨⟨_, rfl⟩, .inr ⟨pre ++ [⟨(p, R), hmem⟩], ⟨_, by have := HP.out; simpa using this⟩, hJx3⟩⟩
    · have hpe : p = s.size := by omega
      subst hpe
      have hd0 : s.data.toList.drop s.size = [] := List.drop_eq_nil_of_le (by rw [Array.length_toList]; exact Nat.le_refl _)
      rw [hd0, stepsP_nil, List.append_nil] at hpre
      have HP := Lib.hid hpre
      clear hpre hd0 hY
      gi_wp2
      go_end0
      exact ⟨⟨_, rfl⟩, .inl ⟨pre, HP.out, hJs⟩⟩
end Go.Proofs.YtgbagdfcdljleaaGreatDoor.Ru

namespace Go.Proofs.YtgbagdfcdljleaaGreatDoor.Ru
open Go.RowKit Go.Shelf
attribute [local go_sem] Oper.semAt_some

def countN (l : List UInt8) : Nat := if Lib.validD l then (steps l).length else 0

end Go.Proofs.YtgbagdfcdljleaaGreatDoor.Ru

namespace Go.Proofs.YtgbagdfcdljleaaGreatDoor.Ru
open Go.RowKit Go.Shelf Go.Maps

/-- 'v, ok := m[k]' at elements of an integer kind, as an equation on the run. -/
theorem look_ok {P : Program} {W : World} {k e t : TypeId} {b n : Nat} {D : DataW Unit} {q : IntKind} (h : W.ownsMap P k (plainElem P e) b n D) (K : Keyed P k) (ht : P.underlying t = some (.map k e)) (he : P.underlying e = some (.int q)) (hz : (zeroValue e).run P W = .ok (.int q 0) W)
    {key : Value} {kl : Lit} (hkey : keyOf P k key = some kl) :
    (D.atKey kl .nil = .nil ∧ (Instr.lookup t (.map (some b)) key true).run P W = .ok (.tuple #[.int q 0, .bool false]) W) ∨
    ∃ c, D.atKey kl .nil = .lit (.int q c) ∧ (Instr.lookup t (.map (some b)) key true).run P W = .ok (.tuple #[.int q c, .bool true]) W := by
  obtain ⟨es, clock, hb, F, _, rfl⟩ := h
  rcases Maps.fit_look true K ht hz hb F hkey with ⟨hrun, _, hat⟩ | ⟨e0, y, _, _, hrun, hRv, hat, _⟩
  · exact .inl ⟨hat .nil, hrun⟩
  · obtain ⟨c, hc, rfl, _⟩ := plainElem_int_inv he hRv
    rw [hc] at hrun
    exact .inr ⟨c, hat .nil, hrun⟩

theorem law3 : Keyed Tryz.prog 3 := int_keyed Tryz.underlying3
theorem law5 : Keyed Tryz.prog 5 := int_keyed Tryz.underlying5

/-- What letters holds, in the order of its keys. -/
def lettersD : DataW Unit := .map [(.int .i64 8, .lit (.int .u8 98)), (.int .i64 9, .lit (.int .u8 116)), (.int .i64 10, .lit (.int .u8 110)), (.int .i64 12, .lit (.int .u8 102)), (.int .i64 13, .lit (.int .u8 114)), (.int .i64 34, .lit (.int .u8 34)), (.int .i64 92, .lit (.int .u8 92))]
theorem lettersD_eq : (((((((DataW.map [] : DataW Unit).put (.int .i64 34) (.lit (.int .u8 34))).put (.int .i64 92) (.lit (.int .u8 92))).put (.int .i64 8) (.lit (.int .u8 98))).put (.int .i64 9) (.lit (.int .u8 116))).put (.int .i64 10) (.lit (.int .u8 110))).put (.int .i64 12) (.lit (.int .u8 102))).put (.int .i64 13) (.lit (.int .u8 114)) = lettersD := by
  simp [DataW.put, DataW.insert, Lit.before, Lit.sameKey, lettersD]

set_option maxRecDepth 100000 in
set_option maxHeartbeats 1000000 in
theorem letters_any (w : World) :
    Calls Tryz.prog 70 #[] w fun e w' => e = .returned (.map (some w.heap.size)) ∧ w'.ownsMap Tryz.prog 3 (plainElem Tryz.prog 5) w.heap.size 7 lettersD ∧ Below w.heap.size w w' := by
  have hmm := @run_makeMap Tryz.prog
  have o0 := World.ownsMap_made (H := Unit) w Tryz.prog 3 (plainElem Tryz.prog 5)
  obtain ⟨w1, r1, o1, g1⟩ := o0.update (key := .int .i64 34) (val := .int .u8 34) law3 Tryz.underlying99 (by decide) (keyOf_int_mk Tryz.underlying3 (by decide)) (plainElem_int Tryz.underlying5 (by decide))
  obtain ⟨w2, r2, o2, g2⟩ := o1.update (key := .int .i64 92) (val := .int .u8 92) law3 Tryz.underlying99 (by decide) (keyOf_int_mk Tryz.underlying3 (by decide)) (plainElem_int Tryz.underlying5 (by decide))
  obtain ⟨w3, r3, o3, g3⟩ := o2.update (key := .int .i64 8) (val := .int .u8 98) law3 Tryz.underlying99 (by decide) (keyOf_int_mk Tryz.underlying3 (by decide)) (plainElem_int Tryz.underlying5 (by decide))
  obtain ⟨w4, r4, o4, g4⟩ := o3.update (key := .int .i64 9) (val := .int .u8 116) law3 Tryz.underlying99 (by decide) (keyOf_int_mk Tryz.underlying3 (by decide)) (plainElem_int Tryz.underlying5 (by decide))
  obtain ⟨w5, r5, o5, g5⟩ := o4.update (key := .int .i64 10) (val := .int .u8 110) law3 Tryz.underlying99 (by decide) (keyOf_int_mk Tryz.underlying3 (by decide)) (plainElem_int Tryz.underlying5 (by decide))
  obtain ⟨w6, r6, o6, g6⟩ := o5.update (key := .int .i64 12) (val := .int .u8 102) law3 Tryz.underlying99 (by decide) (keyOf_int_mk Tryz.underlying3 (by decide)) (plainElem_int Tryz.underlying5 (by decide))
  obtain ⟨w7, r7, o7, g7⟩ := o6.update (key := .int .i64 13) (val := .int .u8 114) law3 Tryz.underlying99 (by decide) (keyOf_int_mk Tryz.underlying3 (by decide)) (plainElem_int Tryz.underlying5 (by decide))
  rw [lettersD_eq] at o7
  have b1 := (((Below.refl w.heap.size w).alloc (Nat.le_refl _) (.map #[] 0)).grown g1 (by simp) (fun k e => by cases e; exact Nat.le_refl _))
  have z1 := b1.size
  have b2 := b1.grown g2 z1 (fun k e => by cases e; exact Nat.le_refl _)
  have b3 := b2.grown g3 b2.size (fun k e => by cases e; exact Nat.le_refl _)
  have b4 := b3.grown g4 b3.size (fun k e => by cases e; exact Nat.le_refl _)
  have b5 := b4.grown g5 b4.size (fun k e => by cases e; exact Nat.le_refl _)
  have b6 := b5.grown g6 b5.size (fun k e => by cases e; exact Nat.le_refl _)
  have b7 := b6.grown g7 b6.size (fun k e => by cases e; exact Nat.le_refl _)
  have O7 := Lib.hid o7
  have B7 := Lib.hid b7
  clear o0 o1 o2 o3 o4 o5 o6 o7 g1 g2 g3 g4 g5 g6 g7 b1 b2 b3 b4 b5 b6 b7 z1
  go_enter Tryz.func70, Tryz.ntmps70
  go_wp2_with fail
  go_ret
  exact ⟨rfl, O7.out, B7.out⟩

/-- The rune that a letter behind a backslash stands for, of those that have been laid: all but the ones that are still to come. -/
def meanL (left : Lit → Bool) (c : Int) : DataW Unit :=
  if c = 47 then .lit (.int .i64 47)
  else if c = 98 ∧ left (.int .i64 8) = false then .lit (.int .i64 8)
  else if c = 116 ∧ left (.int .i64 9) = false then .lit (.int .i64 9)
  else if c = 110 ∧ left (.int .i64 10) = false then .lit (.int .i64 10)
  else if c = 102 ∧ left (.int .i64 12) = false then .lit (.int .i64 12)
  else if c = 114 ∧ left (.int .i64 13) = false then .lit (.int .i64 13)
  else if c = 34 ∧ left (.int .i64 34) = false then .lit (.int .i64 34)
  else if c = 92 ∧ left (.int .i64 92) = false then .lit (.int .i64 92)
  else .nil
/-- The rune that a letter behind a backslash stands for. -/
def meanD (c : Int) : DataW Unit := meanL (fun _ => false) c

theorem lettersD_at (x : Int) : lettersD.atKey (.int .i64 x) .nil = if x = 8 then .lit (.int .u8 98) else if x = 9 then .lit (.int .u8 116) else if x = 10 then .lit (.int .u8 110) else if x = 12 then .lit (.int .u8 102) else if x = 13 then .lit (.int .u8 114) else if x = 34 then .lit (.int .u8 34) else if x = 92 then .lit (.int .u8 92) else .nil := by
  have key : ∀ a : Int, Lit.sameKey (.int .i64 a) (.int .i64 x) = decide (x = a) := fun a => by simp [Lit.sameKey, eq_comm]
  simp only [lettersD, DataW.atKey, List.find?_cons, List.find?_nil, key]
  by_cases h1 : x = 8
  · simp [h1]
  by_cases h2 : x = 9
  · simp [h2]
  by_cases h3 : x = 10
  · simp [h3]
  by_cases h4 : x = 12
  · simp [h4]
  by_cases h5 : x = 13
  · simp [h5]
  by_cases h6 : x = 34
  · simp [h6]
  by_cases h7 : x = 92
  · simp [h7]
  simp [h1, h2, h3, h4, h5, h6, h7]

theorem meanL_step {left : Lit → Bool} {D : DataW Unit} (hD : ∀ c : Int, D.atKey (.int .u8 c) .nil = meanL left c) (hm : IsMap D) {x c : Int} (hat : ∀ zd, lettersD.atKey (.int .i64 x) zd = .lit (.int .u8 c)) (hl : left (.int .i64 x) = true) :
    ∀ c' : Int, (D.put (.int .u8 c) (.lit (.int .i64 x))).atKey (.int .u8 c') .nil = meanL (fun z => left z && !z.sameKey (.int .i64 x)) c' := by
  intro c'
  have h := hat .nil
  rw [lettersD_at] at h
  have key : ∀ a : Int, Lit.sameKey (.int .i64 a) (.int .i64 x) = decide (a = x) := fun a => by simp [Lit.sameKey]
  by_cases hc : c' = c
  · subst hc
    rw [atKey_put_same (k := .int .u8 c') hm trivial]
    unfold meanL
    simp only [key]
    repeat' split at h
    all_goals first | (cases h; done) | (have hce := h; simp at hce; subst_vars; simp)
  · rw [atKey_put_other (by intro e; cases e; exact hc rfl), hD]
    unfold meanL
    simp only [key]
    repeat' split at h
    all_goals first | (cases h; done) | (have hce := h; simp at hce; subst_vars; simp [hc])

theorem meanL_start (c : Int) : ((DataW.map [] : DataW Unit).put (.int .u8 47) (.lit (.int .i64 47))).atKey (.int .u8 c) .nil = meanL (Maps.has lettersD) c := by
  have h8 : Maps.has lettersD (.int .i64 8) = true := by decide
  have h9 : Maps.has lettersD (.int .i64 9) = true := by decide
  have h10 : Maps.has lettersD (.int .i64 10) = true := by decide
  have h12 : Maps.has lettersD (.int .i64 12) = true := by decide
  have h13 : Maps.has lettersD (.int .i64 13) = true := by decide
  have h34 : Maps.has lettersD (.int .i64 34) = true := by decide
  have h92 : Maps.has lettersD (.int .i64 92) = true := by decide
  by_cases h : c = 47
  · subst h
    simp [meanL, DataW.put, DataW.insert, DataW.atKey, Lit.sameKey]
  · have h' : ¬ (47 : Int) = c := fun e => h e.symm
    simp [meanL, DataW.put, DataW.insert, DataW.atKey, Lit.sameKey, h, h', h8, h9, h10, h12, h13, h34, h92]

set_option maxRecDepth 100000 in
set_option maxHeartbeats 1000000 in
theorem meanings_any (w : World) :
    Calls Tryz.prog 61 #[] w fun e w' => e = .returned (.map (some w.heap.size)) ∧ (∃ n D, w'.ownsMap Tryz.prog 5 (plainElem Tryz.prog 3) w.heap.size n D ∧ ∀ c : Int, D.atKey (.int .u8 c) .nil = meanD c) ∧ Below w.heap.size w w' := by
  have hmm := @run_makeMap Tryz.prog
  have o0 := World.ownsMap_made (H := Unit) w Tryz.prog 5 (plainElem Tryz.prog 3)
  obtain ⟨w1, r1, o1, g1⟩ := o0.update (key := .int .u8 47) (val := .int .i64 47) law5 Tryz.underlying85 (by decide) (keyOf_int_mk Tryz.underlying5 (by decide)) (plainElem_int Tryz.underlying3 (by decide))
  have b1 := (((Below.refl w.heap.size w).alloc (Nat.le_refl _) (.map #[] 0)).grown g1 (by simp) (fun k e => by cases e; exact Nat.le_refl _))
  have z1 := b1.size
  have z1' : w.heap.size + 1 ≤ w1.heap.size := by have := g1.size; simpa using this
  have B1 := Lib.hid b1
  have O1 := Lib.hid o1
  clear b1 o0 o1 g1
  go_enter Tryz.func61, Tryz.ntmps61
  go_wp2_with (first
    | (go_at_call 70; refine (letters_any _).mono ?_; rintro e w2 ⟨rfl, o2, b2⟩)
    | (at_range; refine wpList_range_own _ rfl _ 99 rfl 3 5 law3 Tryz.underlying99 _ _ 7 _ rfl o2 ?_; intro w3 hrg hg3 hs3))
  have O2 := Lib.hid o2
  have B2 := Lib.hid b2
  have z2 := b2.size
  have z3 := o2.lt
  clear o2 b2
  go_frame
  have o1w2 : w2.ownsMap Tryz.prog 5 (plainElem Tryz.prog 3) w.heap.size 1 ((DataW.map [] : DataW Unit).put (.int .u8 47) (.lit (.int .i64 47))) :=
    O1.out.kept (row := none) ⟨B2.out.os, B2.out.tape, B2.out.output, B2.out.size, fun k hk _ => B2.out.block k hk⟩ (by simp)
  have b02 : Below w.heap.size w w2 := B1.out.trans (B2.out.mono (by omega))
  go_loopw [2] (fun _ wr => ∃ (left : Lit → Bool) (cnt n : Nat) (D : DataW Unit), wr.ranges Tryz.prog 3 (plainElem Tryz.prog 5) w1.heap.size w2.heap.size 7 lettersD left cnt ∧ n + cnt ≤ 8 ∧
      wr.ownsMap Tryz.prog 5 (plainElem Tryz.prog 3) w.heap.size n D ∧ (∀ c : Int, D.atKey (.int .u8 c) .nil = meanL left c) ∧ Below w.heap.size w wr)
    (fun _ wr => wr.rangeLeft w1.heap.size w2.heap.size)
  case atStart =>
    refine ⟨_, _, _, _, hrg, by decide, o1w2.kept hg3 (by simp), ?_, b02.grown hg3 (by omega) (fun j hj => by cases hj)⟩
    exact meanL_start
  case round =>
    obtain ⟨left, cnt, n, D, hr, hn, ho, hD, hb⟩ := hrel
    go_wp2_with (first
      | (at_next; refine wpList_next_ranges_ii _ rfl _ rfl 3 5 .i64 .u8 law3 Tryz.underlying3 Tryz.underlying5 w1.heap.size w2.heap.size 7 _ _ _ rfl hr ?_ ?_)
      | go_in)
    · intro hc0 hl0
      go_wp2
      go_ret
      refine ⟨rfl, ⟨n, D, ho, fun c => ?_⟩, hb⟩
      rw [hD]
      unfold meanD
      congr 1
      funext z
      exact hl0 z
    · intro x c w4 cnt1 hwx hwc hlx hat hr1 hlt hg1 hs1 hen
      have ho1 := ho.kept hg1 (by simp; omega)
      have HD := Lib.hid hD
      clear hD
      go_wp2_with (first
        | (at_mapUpdate; refine wpList_mapUpdate_own _ rfl _ _ _ 85 rfl 5 3 law5 Tryz.underlying85 _ w.heap.size _ _ rfl ho1 (by unfold maxLen; omega) _ _ _ rfl rfl (keyOf_int_mk Tryz.underlying5 hwc) _ [] (plainElem_int Tryz.underlying3 hwx) ?_; intro w5 ho5 hg5; go_frame)
        | go_in)
      have hr5 := hr1.kept hg5 (fun e => by have := Option.some.inj e; omega) (fun e => by have := Option.some.inj e; omega)
      go_roundw
      case rel =>
        exact ⟨_, cnt1, _, _, hr5, by omega, ho5, meanL_step HD.out ho.isMap hat hlx,
          (hb.grown hg1 hb.size (fun j hj => by cases hj; omega)).grown hg5 (by have := hb.size; omega) (fun j hj => by cases hj; exact Nat.le_refl _)⟩
      case measure => rw [hr5.left_eq, hr.left_eq]; exact hlt
end Go.Proofs.YtgbagdfcdljleaaGreatDoor.Ru

namespace Go.Proofs.YtgbagdfcdljleaaGreatDoor.Ru
open Go.RowKit Go.Shelf Go.Maps
attribute [local go_sem] Oper.semAt_some

theorem bld_kept {T e : TypeId} {B b : Nat} {bs : List Value} {w w' : World} {row : Option Nat} (h : Lib.IsBuilderF T e B b bs w) (hg : w.grownBy w' row)
    (hr : ∀ r, row = some r → ∀ c fz, w.heap[r]? ≠ some (.cells c e fz) ∧ w.heap[r]? ≠ some (.cells c T fz)) : Lib.IsBuilderF T e B b bs w' := by
  have one : ∀ p, Lib.BuilderAtF T e B b p bs w → Lib.BuilderAtF T e B b p bs w' := by
    intro p h
    have hlt := h.lt
    obtain ⟨hB, v, hb, hown, hne⟩ := h
    refine ⟨hB, v, (hg.block b hlt ?_).trans hb, hown.kept hg ?_, hne⟩
    · intro e1
      exact (hr b e1.symm _ _).2 hb
    · cases hv : v.ownBlock with
      | none => exact .inl rfl
      | some g =>
        refine .inr ?_
        intro e1
        obtain ⟨c, fz, hc⟩ := Lib.ownsRowF_kind hown g hv
        exact (hr g e1.symm _ _).1 hc
  exact h.elim (fun x => .inl (one _ x)) (fun x => .inr (one _ x))
theorem grown_of_below {w w' : World} (h : Below w.heap.size w w') : w.grownBy w' none := ⟨h.os, h.tape, h.output, h.size, fun k hk _ => h.block k hk⟩
theorem bld_below {T e : TypeId} {B b : Nat} {bs : List Value} {w w' : World} (h : Lib.IsBuilderF T e B b bs w) (hb : Below w.heap.size w w') : Lib.IsBuilderF T e B b bs w' :=
  bld_kept h (grown_of_below hb) (fun _ e => by cases e)
theorem bld_box {T e t : TypeId} {B b N : Nat} {v u : Value} {bs : List Value} {w : World} (h : Lib.IsBuilderF T e B b bs w) (hN : Boxed w N t v) (h1 : t ≠ e) (h2 : t ≠ T) : Lib.IsBuilderF T e B b bs (w.setCell ⟨N, 0, none⟩ u) :=
  bld_kept h (grownBy_setCell' w N u) (fun r e1 c fz => by cases e1; rw [show w.heap[N]? = _ from hN]; exact ⟨(fun e2 => by cases e2; exact h1 rfl), (fun e2 => by cases e2; exact h2 rfl)⟩)
theorem bld_own {β : Type} {T e : TypeId} {B b : Nat} (f : β → List Value) : Own (fun s W => Lib.IsBuilderF T e B b (f s) W) := fun s X Y row hs hg hr =>
  bld_kept hs hg (fun r e1 c fz => by
    obtain ⟨o, ho, hc⟩ := hr r e1
    rw [ho]
    exact ⟨(fun e2 => by cases e2; cases hc), (fun e2 => by cases e2; cases hc)⟩)
theorem keepsOthers_of_kept {e : TypeId} {b : Nat} {w w' : World} (h : Lib.OthersKept e (some b) w w') (hz : w.heap.size ≤ w'.heap.size) (hb : ∃ c t fz, w.heap[b]? = some (.cells c t fz)) : KeepsOthers w w' :=
  ⟨hz, fun k o hk ho => h k o hk (fun e1 => by obtain ⟨c, t, fz, hc⟩ := hb; cases e1; rw [hk] at hc; cases hc; cases ho) (fun c fz e1 => by rw [e1] at ho; cases ho)⟩
theorem bld_cells {T e : TypeId} {B b : Nat} {bs : List Value} {w : World} (h : Lib.IsBuilderF T e B b bs w) : ∃ c t fz, w.heap[b]? = some (.cells c t fz) := by
  rcases h with ⟨_, v, hb, _⟩ | ⟨_, v, hb, _⟩ <;> exact ⟨_, _, _, hb⟩
theorem boxed_others {e t : TypeId} {b N : Nat} {v : Value} {w w' : World} (h : Lib.OthersKept e (some b) w w') (hN : Boxed w N t v) (ht : t ≠ e) (hne : N ≠ b) : Boxed w' N t v :=
  h N _ hN (fun e1 => by cases e1; exact hne rfl) (fun c fz e1 => by cases e1; exact ht rfl)
theorem map_others {e k : TypeId} {b bm n : Nat} {D : DataW Unit} {P : Program} {R : Value → Option (DataW Unit × List MemPlace)} {w w' : World} (h : Lib.OthersKept e (some b) w w') (hm : w.ownsMap P k R bm n D) (hb : ∃ c t fz, w.heap[b]? = some (.cells c t fz)) : w'.ownsMap P k R bm n D := by
  obtain ⟨es, clock, he, rest⟩ := hm
  exact ⟨es, clock, h bm _ he (fun e1 => by obtain ⟨c, t, fz, hc⟩ := hb; cases e1; rw [he] at hc; cases hc) (fun c fz e1 => by cases e1), rest⟩

/-- The letter of a rune's short escape; 0: it has none. -/
def shortN (r : Nat) : Nat := if r = 8 then 98 else if r = 9 then 116 else if r = 10 then 110 else if r = 12 then 102 else if r = 13 then 114 else if r = 34 then 34 else if r = 92 then 92 else 0
def hexd (n : Nat) : UInt8 := if n < 10 then (48 + n).toUInt8 else (87 + n).toUInt8
/-- How a rune is written. -/
def qRune (r : Nat) : List UInt8 := if shortN r ≠ 0 then [92, (shortN r).toUInt8] else if r < 32 then [92, 117, 48, 48, hexd (r / 16), hexd (r % 16)] else Lib.encodeRune r
/-- How a text is written. -/
def quoteL (l : List UInt8) : List UInt8 := 34 :: ((steps l).flatMap fun x => qRune x.2) ++ [34]

theorem look_letters {W : World} {b n : Nat} (h : W.ownsMap Tryz.prog 3 (plainElem Tryz.prog 5) b n lettersD) (r : Nat) (hr : r ≤ 1114111) :
    (Instr.lookup 99 (.map (some b)) (.int .i64 r) true).run Tryz.prog W = .ok (.tuple #[.int .u8 (shortN r), .bool (decide (shortN r ≠ 0))]) W := by
  have hat := lettersD_at r
  have hz : (zeroValue 5).run Tryz.prog W = .ok (.int .u8 0) W := by kernel_rfl
  have hkey : keyOf Tryz.prog 3 (.int .i64 r) = some (.int .i64 r) := keyOf_int_mk Tryz.underlying3 (WalkArith.wf_i64 (by omega))
  have hlk := look_ok h law3 Tryz.underlying99 Tryz.underlying5 hz hkey
  rw [hat] at hlk
  have hc : ∀ k : Nat, ((r : Int) = (k : Int)) = (r = k) := fun k => propext Int.ofNat_inj
  have h8 : ((r : Int) = 8) = (r = 8) := hc 8
  have h9 : ((r : Int) = 9) = (r = 9) := hc 9
  have h10 : ((r : Int) = 10) = (r = 10) := hc 10
  have h12 : ((r : Int) = 12) = (r = 12) := hc 12
  have h13 : ((r : Int) = 13) = (r = 13) := hc 13
  have h34 : ((r : Int) = 34) = (r = 34) := hc 34
  have h92 : ((r : Int) = 92) = (r = 92) := hc 92
  simp only [h8, h9, h10, h12, h13, h34, h92] at hlk
  unfold shortN
  repeat' split at hlk
  all_goals (rcases hlk with ⟨e, hrun⟩ | ⟨c, e, hrun⟩)
  all_goals first | (cases e; done) | (cases e; rw [hrun]; simp [*])

theorem hexIdx (k : Nat) (h : k < 16) : (⟨#[48, 49, 50, 51, 52, 53, 54, 55, 56, 57, 97, 98, 99, 100, 101, 102]⟩ : ByteArray)[k]'(by exact h) = hexd k := by
  match k, h with
  | 0, _ => rfl
  | 1, _ => rfl
  | 2, _ => rfl
  | 3, _ => rfl
  | 4, _ => rfl
  | 5, _ => rfl
  | 6, _ => rfl
  | 7, _ => rfl
  | 8, _ => rfl
  | 9, _ => rfl
  | 10, _ => rfl
  | 11, _ => rfl
  | 12, _ => rfl
  | 13, _ => rfl
  | 14, _ => rfl
  | 15, _ => rfl
  | n + 16, h => exact absurd h (by omega)
theorem and15 : ∀ X : Fin 32, bits .and .i64 ((X.val : Nat) : Int) 15 = ((X.val % 16 : Nat) : Int) := by decide
theorem quoteL_of {l : List UInt8} {xs : List (Stp l)} (h : xs.map (·.1) = steps l) : quoteL l = 34 :: (xs.flatMap fun x => qRune x.1.2) ++ [34] := by
  have e : (xs.map (·.1)).flatMap (fun x => qRune x.2) = xs.flatMap fun x => qRune x.1.2 := List.flatMap_map ..
  rw [h] at e
  unfold quoteL
  rw [e]

/-- What lies in memory between two rounds of Quote's loop: the builder (block N1), the box of the letters' map (N2), the map (M), the iterator's text (B). -/
def QI (w : World) (s : ByteArray) (N1 N2 M B : Nat) (cs : List Value) (W : World) : Prop :=
  (Lib.IsBuilderF 84 5 w.heap.size N1 cs W ∧ Boxed W N2 99 (.map (some M)) ∧ Boxed W B 9 (.string s)) ∧
    (W.ownsMap Tryz.prog 3 (plainElem Tryz.prog 5) M 7 lettersD ∧ Below w.heap.size w W)
theorem QI_own {β : Type} {w : World} {s : ByteArray} {N1 N2 M B z : Nat} (f : β → List Value) (hM : M < z) (hz : w.heap.size ≤ z) : OwnFrom z (fun x W => QI w s N1 N2 M B (f x) W) := by
  refine OwnFrom.and (Own.from (fun x A C row hs hg hr => ⟨bld_own (fun _ : Unit => f x) () A C row hs.1 hg hr, boxed_own _ _ (fun _ : Unit => _) () A C row hs.2.1 hg hr, boxed_own _ _ (fun _ : Unit => _) () A C row hs.2.2 hg hr⟩) _) (OwnFrom.and ?_ (ownFrom_below (Nat.le_refl _) hz))
  intro x A C row hs hg hr
  exact hs.kept hg (fun e => by have := (hr _ e.symm).1; omega)
/-- One write of the builder, between two rounds. -/
theorem QI_step {w : World} {s : ByteArray} {N1 N2 M B : Nat} {cs cs' : List Value} {W W4 : World} {p : Value} (h : QI w s N1 N2 M B cs W) (hp : p = .pointer (some ⟨N1, 0, none⟩)) (h2 : N2 ≠ N1) (hB : B ≠ N1)
    (bd : Lib.BuilderAtF 84 5 w.heap.size N1 p cs' W4) (hb : Below w.heap.size W W4) (hk : Lib.OthersKept 5 (some N1) W W4) :
    QI w s N1 N2 M B cs' W4 ∧ KeepsOthers W W4 ∧ KpB w.heap.size B W W4 := by
  subst hp
  have hB4 := boxed_others hk h.1.2.2 (by decide) hB
  exact ⟨⟨⟨.inr bd, boxed_others hk h.1.2.1 (by decide) h2, hB4⟩, map_others hk h.2.1 (bld_cells h.1.1), h.2.2.trans hb⟩, keepsOthers_of_kept hk hb.size (bld_cells h.1.1), hb, hB4.trans h.1.2.2.symm⟩
theorem shortN_lt (r : Nat) : shortN r < 256 := by
  unfold shortN
  repeat' split
  all_goals decide
theorem byteCells_append (a b : List UInt8) : Lib.byteCells (a ++ b) = Lib.byteCells a ++ Lib.byteCells b := by simp [Lib.byteCells]
theorem byteCells_length (a : List UInt8) : (Lib.byteCells a).length = a.length := by simp [Lib.byteCells]
theorem qRune_le (r : Nat) : (qRune r).length ≤ 6 := by
  unfold qRune
  split
  · simp
  · split
    · simp
    · have := Lib.runeCells_le r
      rw [Lib.runeCells_length] at this
      omega
theorem flat_le {α : Type} (f : α → List UInt8) (k : Nat) (h : ∀ x, (f x).length ≤ k) : ∀ l : List α, (l.flatMap f).length ≤ k * l.length
  | [] => by simp
  | x :: l => by
    have := flat_le f k h l
    have := h x
    simp only [List.flatMap_cons, List.length_append, List.length_cons, Nat.mul_add]
    omega

end Go.Proofs.YtgbagdfcdljleaaGreatDoor.Ru
