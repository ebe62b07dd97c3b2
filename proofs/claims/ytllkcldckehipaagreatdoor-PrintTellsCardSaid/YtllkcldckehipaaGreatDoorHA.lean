/-
  The iterator that runes.All hands back: whatever the loop's body is, it is given the places and the runes of the text, one behind the other, up to where it is no text. · Contracts of runes.Valid and runes.Count. · The two tables of runes' escapes, maps that the call makes: letters, meanings. · strings.Builder at this seat: copyCheck, WriteByte, WriteString, WriteRune of a builder that the call itself has made; what else lies in memory, the iterators among it, stands as it stood. (The guide's contracts of these four do not fit this translation: the last branch of copyCheck is refused here.) · The contract of runes.Quote.
-/
import Derived.RangeFuncNested
import Derived.RangeFuncBound
import Derived.RangeFuncCalls
import Derived.RangeFuncLeaves
import Derived.Shelf.Abstract
import Derived.Shelf.RegionOpen
import Derived.WalkKit
import Derived.OwnWalkIn
import Derived.TacticsInMore
import Derived.LoopNIn
import Derived.LoopIn
import Derived.Lib.Hide
import Derived.Test.YtllkcldckehipaaGreatDoorShelf
import Derived.Test.YtllkcldckehipaaGreatDoorGA
import Derived.Maps.OwnIn
import Derived.Maps.OwnOps
import Derived.Maps.RangeWalk
import Derived.Maps.Ext
import Derived.Maps.Views
import Derived.ProofKit
import Derived.OwnWalk
import Derived.Lib.FrozenHead2
import Derived.Lib.OthersKept
set_option linter.unusedVariables false
set_option linter.unusedSimpArgs false
namespace Go.Proofs.YtllkcldckehipaaGreatDoor.Ru
open Go.RowKit Go.Shelf
attribute [local go_sem] Oper.semAt_some

theorem tabs_below {n : Nat} {w w' : World} (h : Lib.Utf8Tabs 0 1 w) (hb : Below n w w') (hn : 2 ≤ n) : Lib.Utf8Tabs 0 1 w' :=
  ⟨fun c hc => (hb.cell (p := ⟨0, c, none⟩) (by simp; omega)).trans (h.1 c hc),
   fun i hi => ⟨(hb.cell (p := ⟨1, 2 * i, none⟩) (by simp; omega)).trans (h.2 i hi).1, (hb.cell (p := ⟨1, 2 * i + 1, none⟩) (by simp; omega)).trans (h.2 i hi).2⟩⟩

theorem dec_any (s : ByteArray) (p : Nat) (hp : p < s.size) (w : World) (hT : Lib.Utf8Tabs 0 1 w) :
    Calls Tryz.prog 119 #[.string (s.extract p s.size)] w fun e w' => e = .returned (.tuple #[.int .i32 (Lib.decodeL (s.data.toList.drop p)).1, .int .i64 (Lib.decodeL (s.data.toList.drop p)).2]) ∧ Below w.heap.size w w' := by
  have e : Lib.decodeGo (s.extract p s.size) = Lib.decodeL (s.data.toList.drop p) := by
    unfold Lib.decodeGo Lib.decodeL
    rw [if_neg (by rw [Lib.ext_size]; omega), ← Lib.ext_list]
  have := Tryz.utf8_DecodeRuneInString (s.extract p s.size) w hT
  rw [e] at this
  exact this

def encStp {l : List UInt8} (x : Stp l) : Array Value := #[.int .i64 x.1.1, .int .i64 x.1.2]

theorem all_in (n : Nat) (s : ByteArray) (w : World) :
    CallsIn Fence.wide n Tryz.prog 105 #[.string s] w fun e w' => e = .returned (.func (.func 118) #[] #[.pointer (some ⟨w.heap.size, 0, none⟩)]) ∧ w' = w.alloc (.cells #[.string s] 9) := by
  refine callsIn_of_wp Tryz.func105 rfl trivial ?_ rfl
  simp only [Tryz.ntmps105, List.size_toArray, List.length_cons, List.length_nil, Nat.reduceAdd, Nat.reduceSub, Array.replicate_succ, Array.replicate_zero, List.push_toArray, List.append_toArray, List.nil_append, List.cons_append]
  gi_wp2
  go_ret
  exact ⟨rfl, rfl⟩

/-- What a round keeps: all below m, and block B. -/
def KpB (m B : Nat) (W W' : World) : Prop := Below m W W' ∧ W'.heap[B]? = W.heap[B]?
theorem kpB_t {m B : Nat} {X Y Z : World} (h : KpB m B X Y) (k : KpB m B Y Z) : KpB m B X Z := ⟨h.1.trans k.1, k.2.trans h.2⟩
theorem kpB_refl (m B : Nat) (X : World) : KpB m B X X := ⟨Below.refl _ _, rfl⟩
theorem kpB_b {m B z : Nat} (hm : m ≤ z) (hB : B < z) (W : World) (l : Nat) (o o' : Obj) (hl : z ≤ l) (h1 : W.heap[l]? = some o) (h2 : o.isCells = false) (h3 : o.isWalk = false) : KpB m B W (W.putObj l o') :=
  ⟨(Below.refl m W).grown (grownBy_putObj' W l o') (Nat.le_of_lt (Nat.lt_of_le_of_lt hm (Nat.lt_of_le_of_lt hl (Array.getElem?_eq_some_iff.1 h1).1))) (fun k e => by cases e; omega),
   World.putObj_heap_other (by omega)⟩
theorem KpB.cell {m B : Nat} {X Y : World} (h : KpB m B X Y) : Y.cell? ⟨B, 0, none⟩ = X.cell? ⟨B, 0, none⟩ := World.cell?_of_block (a := ⟨B, 0, none⟩) h.2

set_option maxRecDepth 100000 in
set_option maxHeartbeats 1000000 in
theorem all_stops (n : Nat) (hn : 2 ≤ n) (s : ByteArray) (hs : s.size ≤ maxLen) (B m : Nat) (w : World) (hB : B < w.heap.size) (h2 : 2 ≤ m) (hm : m ≤ w.heap.size) (hc : w.cell? ⟨B, 0, none⟩ = some (.string s)) (hT : Lib.Utf8Tabs 0 1 w) :
    SeqStopsK Fence.wide n Tryz.prog 118 #[.pointer (some ⟨B, 0, none⟩)] (encStp (l := s.data.toList)) (KpB m B) (fun xs => xs.map (·.1) = steps s.data.toList) (fun pre => pre.map (·.1) <+: steps s.data.toList) (steps s.data.toList).length w := fun l J Jx W hW hJ hJx hY h0 => by
  unfold maxLen at hs
  have hs' : s.size ≤ 9223372036854775807 := hs
  clear hs
  refine callsIn_of_wp Tryz.func118 rfl trivial ?_ rfl
  simp only [Tryz.ntmps118, List.size_toArray, List.length_cons, List.length_nil, Nat.reduceAdd, Nat.reduceSub, Array.replicate_succ, Array.replicate_zero, List.push_toArray, List.append_toArray, List.nil_append, List.cons_append]
  have hcW : W.cell? ⟨B, 0, none⟩ = some (.string s) := (hW.cell (p := ⟨B, 0, none⟩) (by simp; omega)).trans hc
  have hTW := tabs_below hT hW (by omega)
  gi_wp2
  gi_loopw [3] (fun i wr => ∃ (p : Nat) (pre : List (Stp s.data.toList)), i = .int .i64 p ∧ p ≤ s.size ∧ pre.map (·.1) ++ stepsP p (s.data.toList.drop p) = steps s.data.toList ∧ J pre wr ∧ wr.cell? ⟨B, 0, none⟩ = some (.string s) ∧ Lib.Utf8Tabs 0 1 wr ∧ W.heap.size ≤ wr.heap.size)
    (fun i _ => s.size - (intOf i).toNat)
  case atStart =>
    exact ⟨0, [], rfl, Nat.zero_le _, by simp [steps], h0, hcW, hTW, Nat.le_refl _⟩
  case round =>
    obtain ⟨p, pre, rfl, hp, hpre, hJs, hcr, hTr, hsz⟩ := hrel
    by_cases hlt : p < s.size
    · have hne : s.data.toList.drop p ≠ [] := by
        intro e
        have := congrArg List.length e
        rw [List.length_drop, Array.length_toList] at this
        have : s.data.size = s.size := rfl
        simp at *; omega
      have hw1 := Lib.decodeL_width (s.data.toList.drop p)
      have hle := Lib.decodeL_le (s.data.toList.drop p) hne
      have hrn := Lib.decodeL_rune (s.data.toList.drop p)
      have hdl : (s.data.toList.drop p).length = s.size - p := by rw [List.length_drop, Array.length_toList]; rfl
      rw [hdl] at hle
      have hd := dec_any s p hlt wr hTr
      have hgood := stepsP_good p hne
      have hbad := stepsP_bad p (l := s.data.toList.drop p)
      cases hb : bad (s.data.toList.drop p) with
      | true =>
        have hb' : (Lib.decodeL (s.data.toList.drop p)).1 = 65533 ∧ (Lib.decodeL (s.data.toList.drop p)).2 = 1 := by simpa [bad] using hb
        have hend := hbad hb
        rw [hb'.1, hb'.2] at hd
        rw [hend, List.append_nil] at hpre
        have HD := Lib.hid hd
        have HP := Lib.hid hpre
        clear hgood hbad hb' hb hend hw1 hle hrn hd hpre hdl hne hY
        gi_wp2_with fail
        refine ⟨trivial, fun _ => by omega, ?_⟩
        refine (callsIn_wide.2 HD.out).mono ?_
        rintro e w' ⟨rfl, hbel⟩
        gi_wp2_with fail
        refine bodyPost_ret (results_none rfl _ _ _) rfl ?_
        exact ⟨⟨_, rfl⟩, .inl ⟨pre, HP.out, hJ _ _ _ none hJs ⟨hbel.os, hbel.tape, hbel.output, hbel.size, fun k hk _ => hbel.block k hk⟩ (fun _ e => by cases e)⟩⟩
      | false =>
        have hb' := bad_false hb
        have hst := hgood hb
        rw [List.drop_drop] at hst
        rw [hst] at hpre
        generalize hR : (Lib.decodeL (s.data.toList.drop p)).1 = R at *
        generalize hK : (Lib.decodeL (s.data.toList.drop p)).2 = K at *
        have hmem : (p, R) ∈ steps s.data.toList := by rw [← hpre]; simp
        have hlen : pre.length < (steps s.data.toList).length := by rw [← hpre]; simp
        have HD := Lib.hid hd
        have HP := Lib.hid hpre
        have HB := Lib.hid hb'
        clear hgood hbad hb' hb hst hd hpre hdl hne hR hK
        gi_wp2_with fail
        refine ⟨trivial, fun _ => by omega, ?_⟩
        refine (callsIn_wide.2 HD.out).mono ?_
        rintro e w1 ⟨rfl, hbel⟩
        have hJ1 : J pre w1 := hJ _ _ _ none hJs ⟨hbel.os, hbel.tape, hbel.output, hbel.size, fun k hk _ => hbel.block k hk⟩ (fun _ e => by cases e)
        have hc1 : w1.cell? ⟨B, 0, none⟩ = some (.string s) := (hbel.cell (p := ⟨B, 0, none⟩) (by have := hW.size; simp; omega)).trans hcr
        have hT1 := tabs_below hTr hbel (by have := hW.size; omega)
        obtain ⟨fn, tmps, assign, body, hy, hR⟩ := hY pre ⟨(p, R), hmem⟩ w1 hJ1 hlen
        dsimp only [encStp] at hy
        have hsz1 := hbel.size
        have hdec : (((R : Int) == 65533) = true ∧ ((K : Int) == 1) = false) ∨ ((R : Int) == 65533) = false := by
          by_cases hr3 : R = 65533
          · refine .inl ⟨by rw [hr3]; rfl, ?_⟩
            rw [beq_eq_false_iff_ne]
            intro e
            exact HB.out ⟨hr3, by omega⟩
          · refine .inr ?_
            rw [beq_eq_false_iff_ne]
            intro e
            exact hr3 (by omega)
        clear hY
        rcases hdec with ⟨hr4, hk4⟩ | hr4
        all_goals
          gi_wp2_with fail
          refine ⟨fun _ => by omega, ?_⟩
          refine hR.mono ?_
          rintro e W3 (⟨rfl, hJ3, hk3⟩ | ⟨rfl, hJx3⟩)
          · have hc3 : W3.cell? ⟨B, 0, none⟩ = some (.string s) := hk3.cell.trans hc1
            have hT3 := tabs_below hT1 hk3.1 h2
            have hz3 := hk3.1.size
            clear hy hR
            gi_wp2_with fail
            go_roundw
            case rel => exact ⟨p + K, pre ++ [⟨(p, R), hmem⟩], by go_num, by omega, by have := HP.out; simpa using this, hJ3, hc3, hT3, by omega⟩
            case measure => simp [intOf]; omega
          · clear hy hR
            gi_wp2_with fail
            refine bodyPost_ret (results_none rfl _ _ _) rfl ?_
            exact ⟨⟨_, rfl⟩, .inr ⟨pre ++ [⟨(p, R), hmem⟩], ⟨_, by have := HP.out; simpa using this⟩, hJx3⟩⟩
    · have hpe : p = s.size := by omega
      subst hpe
      have hd0 : s.data.toList.drop s.size = [] := List.drop_eq_nil_of_le (by rw [Array.length_toList]; exact Nat.le_refl _)
      rw [hd0, stepsP_nil, List.append_nil] at hpre
      have HP := Lib.hid hpre
      clear hpre hd0 hY
      gi_wp2
      go_end0
      exact ⟨⟨_, rfl⟩, .inl ⟨pre, HP.out, hJs⟩⟩
end Go.Proofs.YtllkcldckehipaaGreatDoor.Ru

namespace Go.Proofs.YtllkcldckehipaaGreatDoor.Ru
open Go.RowKit Go.Shelf
attribute [local go_sem] Oper.semAt_some

theorem valid_any (s : ByteArray) (w : World) (hs : s.size ≤ maxLen) (hT : Lib.Utf8Tabs 0 1 w) :
    Calls Tryz.prog 27 #[.string s] w fun e w' => e = .returned (.bool (Lib.validD s.data.toList)) ∧ Below w.heap.size w w' := by
  have hv := Lib.hid (Tryz.utf8_ValidString s w (by unfold maxLen at hs; omega) hT)
  clear hs
  go_enter Tryz.func27, Tryz.ntmps27
  go_wp2_with (go_at_call 43; refine hv.out.mono ?_; rintro e w' ⟨rfl, hb⟩)
  go_ret
  exact ⟨rfl, hb⟩

def countN (l : List UInt8) : Nat := if Lib.validD l then (steps l).length else 0

end Go.Proofs.YtllkcldckehipaaGreatDoor.Ru

namespace Go.Proofs.YtllkcldckehipaaGreatDoor.Ru
open Go.RowKit Go.Shelf Go.Maps

/-- 'v, ok := m[k]' at elements of an integer kind, as an equation on the run. -/
theorem look_ok {P : Program} {W : World} {k e t : TypeId} {b n : Nat} {D : DataW Unit} {q : IntKind} (h : W.ownsMap P k (plainElem P e) b n D) (K : Keyed P k) (ht : P.underlying t = some (.map k e)) (he : P.underlying e = some (.int q)) (hz : (zeroValue e).run P W = .ok (.int q 0) W)
    {key : Value} {kl : Lit} (hkey : keyOf P k key = some kl) :
    (D.atKey kl .nil = .nil ∧ (Instr.lookup t (.map (some b)) key true).run P W = .ok (.tuple #[.int q 0, .bool false]) W) ∨
    ∃ c, D.atKey kl .nil = .lit (.int q c) ∧ (Instr.lookup t (.map (some b)) key true).run P W = .ok (.tuple #[.int q c, .bool true]) W := by
  obtain ⟨es, clock, hb, F, _, rfl⟩ := h
  rcases Maps.fit_look true K ht hz hb F hkey with ⟨hrun, _, hat⟩ | ⟨e0, y, _, _, hrun, hRv, hat, _⟩
  · exact .inl ⟨hat .nil, hrun⟩
  · obtain ⟨c, hc, rfl, _⟩ := plainElem_int_inv he hRv
    rw [hc] at hrun
    exact .inr ⟨c, hat .nil, hrun⟩

theorem law3 : Keyed Tryz.prog 3 := int_keyed Tryz.underlying3
theorem law5 : Keyed Tryz.prog 5 := int_keyed Tryz.underlying5

/-- What letters holds, in the order of its keys. -/
def lettersD : DataW Unit := .map [(.int .i64 8, .lit (.int .u8 98)), (.int .i64 9, .lit (.int .u8 116)), (.int .i64 10, .lit (.int .u8 110)), (.int .i64 12, .lit (.int .u8 102)), (.int .i64 13, .lit (.int .u8 114)), (.int .i64 34, .lit (.int .u8 34)), (.int .i64 92, .lit (.int .u8 92))]
theorem lettersD_eq : (((((((DataW.map [] : DataW Unit).put (.int .i64 34) (.lit (.int .u8 34))).put (.int .i64 92) (.lit (.int .u8 92))).put (.int .i64 8) (.lit (.int .u8 98))).put (.int .i64 9) (.lit (.int .u8 116))).put (.int .i64 10) (.lit (.int .u8 110))).put (.int .i64 12) (.lit (.int .u8 102))).put (.int .i64 13) (.lit (.int .u8 114)) = lettersD := by
  simp [DataW.put, DataW.insert, Lit.before, Lit.sameKey, lettersD]

set_option maxRecDepth 100000 in
set_option maxHeartbeats 1000000 in
theorem letters_any (w : World) :
    Calls Tryz.prog 104 #[] w fun e w' => e = .returned (.map (some w.heap.size)) ∧ w'.ownsMap Tryz.prog 3 (plainElem Tryz.prog 5) w.heap.size 7 lettersD ∧ Below w.heap.size w w' := by
  have hmm := @run_makeMap Tryz.prog
  have o0 := World.ownsMap_made (H := Unit) w Tryz.prog 3 (plainElem Tryz.prog 5)
  obtain ⟨w1, r1, o1, g1⟩ := o0.update (key := .int .i64 34) (val := .int .u8 34) law3 Tryz.underlying115 (by decide) (keyOf_int_mk Tryz.underlying3 (by decide)) (plainElem_int Tryz.underlying5 (by decide))
  obtain ⟨w2, r2, o2, g2⟩ := o1.update (key := .int .i64 92) (val := .int .u8 92) law3 Tryz.underlying115 (by decide) (keyOf_int_mk Tryz.underlying3 (by decide)) (plainElem_int Tryz.underlying5 (by decide))
  obtain ⟨w3, r3, o3, g3⟩ := o2.update (key := .int .i64 8) (val := .int .u8 98) law3 Tryz.underlying115 (by decide) (keyOf_int_mk Tryz.underlying3 (by decide)) (plainElem_int Tryz.underlying5 (by decide))
  obtain ⟨w4, r4, o4, g4⟩ := o3.update (key := .int .i64 9) (val := .int .u8 116) law3 Tryz.underlying115 (by decide) (keyOf_int_mk Tryz.underlying3 (by decide)) (plainElem_int Tryz.underlying5 (by decide))
  obtain ⟨w5, r5, o5, g5⟩ := o4.update (key := .int .i64 10) (val := .int .u8 110) law3 Tryz.underlying115 (by decide) (keyOf_int_mk Tryz.underlying3 (by decide)) (plainElem_int Tryz.underlying5 (by decide))
  obtain ⟨w6, r6, o6, g6⟩ := o5.update (key := .int .i64 12) (val := .int .u8 102) law3 Tryz.underlying115 (by decide) (keyOf_int_mk Tryz.underlying3 (by decide)) (plainElem_int Tryz.underlying5 (by decide))
  obtain ⟨w7, r7, o7, g7⟩ := o6.update (key := .int .i64 13) (val := .int .u8 114) law3 Tryz.underlying115 (by decide) (keyOf_int_mk Tryz.underlying3 (by decide)) (plainElem_int Tryz.underlying5 (by decide))
  rw [lettersD_eq] at o7
  have b1 := (((Below.refl w.heap.size w).alloc (Nat.le_refl _) (.map #[] 0)).grown g1 (by simp) (fun k e => by cases e; exact Nat.le_refl _))
  have z1 := b1.size
  have b2 := b1.grown g2 z1 (fun k e => by cases e; exact Nat.le_refl _)
  have b3 := b2.grown g3 b2.size (fun k e => by cases e; exact Nat.le_refl _)
  have b4 := b3.grown g4 b3.size (fun k e => by cases e; exact Nat.le_refl _)
  have b5 := b4.grown g5 b4.size (fun k e => by cases e; exact Nat.le_refl _)
  have b6 := b5.grown g6 b5.size (fun k e => by cases e; exact Nat.le_refl _)
  have b7 := b6.grown g7 b6.size (fun k e => by cases e; exact Nat.le_refl _)
  have O7 := Lib.hid o7
  have B7 := Lib.hid b7
  clear o0 o1 o2 o3 o4 o5 o6 o7 g1 g2 g3 g4 g5 g6 g7 b1 b2 b3 b4 b5 b6 b7 z1
  go_enter Tryz.func104, Tryz.ntmps104
  go_wp2_with fail
  go_ret
  exact ⟨rfl, O7.out, B7.out⟩

/-- The rune that a letter behind a backslash stands for, of those that have been laid: all but the ones that are still to come. -/
def meanL (left : Lit → Bool) (c : Int) : DataW Unit :=
  if c = 47 then .lit (.int .i64 47)
  else if c = 98 ∧ left (.int .i64 8) = false then .lit (.int .i64 8)
  else if c = 116 ∧ left (.int .i64 9) = false then .lit (.int .i64 9)
  else if c = 110 ∧ left (.int .i64 10) = false then .lit (.int .i64 10)
  else if c = 102 ∧ left (.int .i64 12) = false then .lit (.int .i64 12)
  else if c = 114 ∧ left (.int .i64 13) = false then .lit (.int .i64 13)
  else if c = 34 ∧ left (.int .i64 34) = false then .lit (.int .i64 34)
  else if c = 92 ∧ left (.int .i64 92) = false then .lit (.int .i64 92)
  else .nil
/-- The rune that a letter behind a backslash stands for. -/
def meanD (c : Int) : DataW Unit := meanL (fun _ => false) c

theorem lettersD_at (x : Int) : lettersD.atKey (.int .i64 x) .nil = if x = 8 then .lit (.int .u8 98) else if x = 9 then .lit (.int .u8 116) else if x = 10 then .lit (.int .u8 110) else if x = 12 then .lit (.int .u8 102) else if x = 13 then .lit (.int .u8 114) else if x = 34 then .lit (.int .u8 34) else if x = 92 then .lit (.int .u8 92) else .nil := by
  have key : ∀ a : Int, Lit.sameKey (.int .i64 a) (.int .i64 x) = decide (x = a) := fun a => by simp [Lit.sameKey, eq_comm]
  simp only [lettersD, DataW.atKey, List.find?_cons, List.find?_nil, key]
  by_cases h1 : x = 8
  · simp [h1]
  by_cases h2 : x = 9
  · simp [h2]
  by_cases h3 : x = 10
  · simp [h3]
  by_cases h4 : x = 12
  · simp [h4]
  by_cases h5 : x = 13
  · simp [h5]
  by_cases h6 : x = 34
  · simp [h6]
  by_cases h7 : x = 92
  · simp [h7]
  simp [h1, h2, h3, h4, h5, h6, h7]

theorem meanL_step {left : Lit → Bool} {D : DataW Unit} (hD : ∀ c : Int, D.atKey (.int .u8 c) .nil = meanL left c) (hm : IsMap D) {x c : Int} (hat : ∀ zd, lettersD.atKey (.int .i64 x) zd = .lit (.int .u8 c)) (hl : left (.int .i64 x) = true) :
    ∀ c' : Int, (D.put (.int .u8 c) (.lit (.int .i64 x))).atKey (.int .u8 c') .nil = meanL (fun z => left z && !z.sameKey (.int .i64 x)) c' := by
  intro c'
  have h := hat .nil
  rw [lettersD_at] at h
  have key : ∀ a : Int, Lit.sameKey (.int .i64 a) (.int .i64 x) = decide (a = x) := fun a => by simp [Lit.sameKey]
  by_cases hc : c' = c
  · subst hc
    rw [atKey_put_same (k := .int .u8 c') hm trivial]
    unfold meanL
    simp only [key]
    repeat' split at h
    all_goals first | (cases h; done) | (have hce := h; simp at hce; subst_vars; simp)
  · rw [atKey_put_other (by intro e; cases e; exact hc rfl), hD]
    unfold meanL
    simp only [key]
    repeat' split at h
    all_goals first | (cases h; done) | (have hce := h; simp at hce; subst_vars; simp [hc])

theorem meanL_start (c : Int) : ((DataW.map [] : DataW Unit).put (.int .u8 47) (.lit (.int .i64 47))).atKey (.int .u8 c) .nil = meanL (Maps.has lettersD) c := by
  have h8 : Maps.has lettersD (.int .i64 8) = true := by decide
  have h9 : Maps.has lettersD (.int .i64 9) = true := by decide
  have h10 : Maps.has lettersD (.int .i64 10) = true := by decide
  have h12 : Maps.has lettersD (.int .i64 12) = true := by decide
  have h13 : Maps.has lettersD (.int .i64 13) = true := by decide
  have h34 : Maps.has lettersD (.int .i64 34) = true := by decide
  have h92 : Maps.has lettersD (.int .i64 92) = true := by decide
  by_cases h : c = 47
  · subst h
    simp [meanL, DataW.put, DataW.insert, DataW.atKey, Lit.sameKey]
  · have h' : ¬ (47 : Int) = c := fun e => h e.symm
    simp [meanL, DataW.put, DataW.insert, DataW.atKey, Lit.sameKey, h, h', h8, h9, h10, h12, h13, h34, h92]

end Go.Proofs.YtllkcldckehipaaGreatDoor.Ru

namespace Go.Proofs.YtllkcldckehipaaGreatDoor.Ru
open Go.RowKit Go.Shelf

theorem szB : (Tryz.prog.info? 44).map (·.size) = some 2 := Tryz.Builder_Extra_169.sizeBuilder
theorem infoByte : (Tryz.prog.info? 5).map (fun i => (i.zero, i.size, i.bytes)) = some (some (.int .u8 0), 1, 1) := by kernel_rfl

set_option maxHeartbeats 1000000 in
set_option maxRecDepth 100000 in
theorem copyCheck_fresh (b : Nat) (w : World) (h0 : w.cell? ⟨b, 0, none⟩ = some (.pointer none)) (hsh : w.shape? b = some (44, 2)) (hfz : w.frozen? ⟨b, 0, none⟩ = false) :
    Calls Tryz.prog 75 #[.pointer (some ⟨b, 0, none⟩)] w fun e w' => e = .returned (.tuple #[]) ∧ w' = w.setCell ⟨b, 0, none⟩ (.pointer (some ⟨b, 0, none⟩)) := by
  obtain ⟨j, hj, hjs⟩ := Option.map_eq_some_iff.1 szB
  go_enter Tryz.func75, Tryz.ntmps75
  go_wp2
  rw [Lib.run_to_unsafe w ⟨b, 0, none⟩ Tryz.underlying42 Tryz.underlying107 hj (by rw [hjs]; decide) hsh (Nat.zero_lt_succ 1)]
  simp only [Result.andThen]
  rw [Oper.upon_value]
  go_wp2
  rw [run_callFunc_extern Tryz.func93 (by kernel_rfl) (by kernel_rfl) (by kernel_rfl) (e := Extern.AbiNoEscape.same) (by kernel_rfl)]
  rw [Lib.run_noEscape]
  simp only [Result.andThen]
  rw [Oper.upon_value]
  go_wp2
  rw [Lib.run_from_unsafe w ⟨b, 0, none⟩ Tryz.underlying107 Tryz.underlying42 hj hsh Tryz.Builder_Extra_169.liesBuilder]
  simp only [Result.andThen]
  rw [Oper.upon_value]
  go_wp2
  go_end0
  exact ⟨rfl, rfl⟩

set_option maxHeartbeats 1000000 in
set_option maxRecDepth 100000 in
theorem copyCheck_used (b : Nat) (w : World) (h0 : w.cell? ⟨b, 0, none⟩ = some (.pointer (some ⟨b, 0, none⟩))) :
    Calls Tryz.prog 75 #[.pointer (some ⟨b, 0, none⟩)] w fun e w' => e = .returned (.tuple #[]) ∧ w' = w := by
  obtain ⟨j, hj, _⟩ := Option.map_eq_some_iff.1 szB
  go_enter Tryz.func75, Tryz.ntmps75
  go_wp2
  rw [Lib.run_neq_ptr_same w _ Tryz.underlying42 hj]
  go_wp2
  go_end0
  exact ⟨rfl, rfl⟩

theorem copyCheck_k (B b : Nat) (bs : List Value) (w : World) (h : Lib.IsBuilderF 44 5 B b bs w) :
    Calls Tryz.prog 75 #[.pointer (some ⟨b, 0, none⟩)] w fun e w' => e = .returned (.tuple #[]) ∧ (Lib.BuilderAtF 44 5 B b (.pointer (some ⟨b, 0, none⟩)) bs w' ∧ Below B w w' ∧ Lib.OthersKept 5 (some b) w w') := by
  rcases h with h | h
  · refine (copyCheck_fresh b w h.cell0 h.shape h.frozen0).mono ?_
    rintro e w' ⟨rfl, rfl⟩
    exact ⟨rfl, h.used _, (Below.refl B w).setCell (p := ⟨b, 0, none⟩) h.1 _, (Lib.OthersKept.refl _ _ w).setCell ⟨b, 0, none⟩ rfl _⟩
  · refine (copyCheck_used b w h.cell0).mono ?_
    rintro e w' ⟨rfl, rfl⟩
    exact ⟨rfl, h, Below.refl B _, Lib.OthersKept.refl _ _ _⟩

set_option maxHeartbeats 2000000 in
set_option maxRecDepth 100000 in
theorem writeByte_k (B b : Nat) (bs : List Value) (c : Int) (w : World) (h : Lib.IsBuilderF 44 5 B b bs w) (hlen : bs.length + 1 ≤ 140737488355328) (hBw : B ≤ w.heap.size) :
    Calls Tryz.prog 100 #[.pointer (some ⟨b, 0, none⟩), .int .u8 c] w fun e w' => e = .returned .nilIface ∧ (Lib.BuilderAtF 44 5 B b (.pointer (some ⟨b, 0, none⟩)) (bs ++ [.int .u8 c]) w' ∧ Below B w w' ∧ Lib.OthersKept 5 (some b) w w') := by
  obtain ⟨i0, hi, hz0, hz1, hz2⟩ := info_parts infoByte
  go_enter Tryz.func100, Tryz.ntmps100
  go_wp2_with (go_at_call 75; refine (copyCheck_k B b bs _ h).mono ?_)
  rintro e w1 ⟨rfl, h1, hb1, hk1⟩
  obtain ⟨hB, v, hbk, hown, hne⟩ := h1
  have c0 : w1.cell? ⟨b, 0, none⟩ = some (.pointer (some ⟨b, 0, none⟩)) := by rw [Lib.cell_of_heap hbk]; rfl
  have c1 : w1.cell? ⟨b, 1, none⟩ = some v := by rw [Lib.cell_of_heap hbk]; rfl
  go_wp2_with (at_builtin; refine wpList_append_ownF _ rfl _ _ 37 rfl B 5 i0 (.int .u8 0) 1 1 Tryz.underlying37 hi hz0 hz1 hz2 rfl (by decide) _ _ _ rfl (hown.alloc _) ⟨w1.heap.size, 0, none⟩ 1 1 [.int .u8 c] rfl rfl ?c1 ?c2 ?c3 ?c4 ?c5 ?_)
  case c1 =>
    intro j u hj
    match j, hj with
    | 0, hj => simp at hj; subst hj; simp [Addr.add]
  case c2 => intro u hu; simp at hu; subst hu; rfl
  case c3 => unfold maxLen; omega
  case c4 => omega
  case c5 => have := hb1.size; simp; omega
  intro v' w2 hown' hgrow _
  have hlt : b < w1.heap.size := by
    rcases Nat.lt_or_ge b w1.heap.size with h' | h'
    · exact h'
    · simp [Array.getElem?_eq_none h'] at hbk
  have hb2 : w2.heap[b]? = some (.cells #[.pointer (some ⟨b, 0, none⟩), v] 44 (0, 0)) := by
    rw [hgrow.block b (by simp; omega) (fun e => hne e.symm), Lib.alloc_old w1 _ b hlt]
    exact hbk
  have d0 : w2.cell? ⟨b, 0, none⟩ = some (.pointer (some ⟨b, 0, none⟩)) := by rw [Lib.cell_of_heap hb2]; rfl
  have d1 : w2.cell? ⟨b, 1, none⟩ = some v := by rw [Lib.cell_of_heap hb2]; rfl
  have f1 : w2.frozen? ⟨b, 1, none⟩ = false := Lib.frozen_of_heap hb2 1
  obtain ⟨g, cap, rfl⟩ : ∃ g cap, v' = .slice (some ⟨g, 0, none⟩) (bs.length + 1) cap := by
    rcases hown'.2 with ⟨_, h0⟩ | ⟨g, cap, cur, fz, hv, _⟩
    · omega
    · exact ⟨g, cap, hv⟩
  go_wp2
  go_ret
  refine ⟨rfl, ?_, ?_, ((hk1.alloc _).grown hgrow (Lib.ownsRowF_kind (hown.alloc _))).setCell ⟨b, 1, none⟩ rfl _⟩
  · exact Lib.BuilderAtF.put (T := 44) (e := 5) hB hb2 (bs' := bs ++ [.int .u8 c]) (by simpa using hown') (by decide)
  · exact ((hb1.alloc (by have := hb1.size; omega) _).grown hgrow (by have := hb1.size; simp; omega) (fun k hk => (hown.lt k hk).1)).setCell (p := ⟨b, 1, none⟩) hB _

set_option maxHeartbeats 2000000 in
set_option maxRecDepth 100000 in
theorem writeString_k (B b : Nat) (bs : List Value) (s : ByteArray) (w : World) (h : Lib.IsBuilderF 44 5 B b bs w) (hlen : bs.length + s.size ≤ 140737488355328) (hBw : B ≤ w.heap.size) :
    Calls Tryz.prog 56 #[.pointer (some ⟨b, 0, none⟩), .string s] w fun e w' => e = .returned (.tuple #[.int .i64 s.size, .nilIface]) ∧ (Lib.BuilderAtF 44 5 B b (.pointer (some ⟨b, 0, none⟩)) (bs ++ Lib.strCells s) w' ∧ Below B w w' ∧ Lib.OthersKept 5 (some b) w w') := by
  obtain ⟨i0, hi, hz0, hz1, hz2⟩ := info_parts infoByte
  go_enter Tryz.func56, Tryz.ntmps56
  go_wp2_with (go_at_call 75; refine (copyCheck_k B b bs _ h).mono ?_)
  rintro e w1 ⟨rfl, h1, hb1, hk1⟩
  obtain ⟨hB, v, hbk, hown, hne⟩ := h1
  have c0 : w1.cell? ⟨b, 0, none⟩ = some (.pointer (some ⟨b, 0, none⟩)) := by rw [Lib.cell_of_heap hbk]; rfl
  have c1 : w1.cell? ⟨b, 1, none⟩ = some v := by rw [Lib.cell_of_heap hbk]; rfl
  go_wp2_with (at_builtin; refine Lib.wpList_append_own_stringF _ rfl _ _ 37 9 rfl B 5 i0 Tryz.underlying37 Tryz.underlying9 hi hz0 hz1 hz2 _ _ _ rfl hown s rfl ?c3 ?c4 ?c5 ?_)
  case c3 => unfold maxLen; omega
  case c4 => omega
  case c5 => have := hb1.size; omega
  intro v' w2 hown' hgrow _
  have hlt : b < w1.heap.size := by
    rcases Nat.lt_or_ge b w1.heap.size with h' | h'
    · exact h'
    · simp [Array.getElem?_eq_none h'] at hbk
  have hb2 : w2.heap[b]? = some (.cells #[.pointer (some ⟨b, 0, none⟩), v] 44 (0, 0)) := by
    rw [hgrow.block b hlt (fun e => hne e.symm)]
    exact hbk
  have d0 : w2.cell? ⟨b, 0, none⟩ = some (.pointer (some ⟨b, 0, none⟩)) := by rw [Lib.cell_of_heap hb2]; rfl
  have d1 : w2.cell? ⟨b, 1, none⟩ = some v := by rw [Lib.cell_of_heap hb2]; rfl
  have f1 : w2.frozen? ⟨b, 1, none⟩ = false := Lib.frozen_of_heap hb2 1
  obtain ⟨ao, n', cap, rfl⟩ : ∃ ao n' cap, v' = .slice ao n' cap := by
    rcases hown'.2 with ⟨hv, _⟩ | ⟨g, cap, cur, fz, hv, _⟩
    · exact ⟨_, _, _, hv⟩
    · exact ⟨_, _, _, hv⟩
  go_wp2
  go_ret2
  refine ⟨rfl, ?_, ?_, (hk1.grown hgrow (Lib.ownsRowF_kind hown)).setCell ⟨b, 1, none⟩ rfl _⟩
  · exact Lib.BuilderAtF.put (T := 44) (e := 5) hB hb2 (bs' := bs ++ Lib.strCells s) (by simpa [Lib.strCells_length] using hown') (by decide)
  · exact (hb1.grown hgrow (by have := hb1.size; omega) (fun k hk => (hown.lt k hk).1)).setCell (p := ⟨b, 1, none⟩) hB _

set_option maxHeartbeats 4000000 in
set_option maxRecDepth 100000 in
theorem writeRune_k (B b : Nat) (bs : List Value) (r : Int) (hr0 : -2147483648 ≤ r) (hr1 : r ≤ 2147483647) (w : World) (h : Lib.IsBuilderF 44 5 B b bs w) (hlen : bs.length + 4 ≤ 140737488355328) (hBw : B ≤ w.heap.size) :
    Calls Tryz.prog 106 #[.pointer (some ⟨b, 0, none⟩), .int .i32 r] w fun e w' => e = .returned (.tuple #[.int .i64 (Lib.runeCells r).length, .nilIface]) ∧ (Lib.BuilderAtF 44 5 B b (.pointer (some ⟨b, 0, none⟩)) (bs ++ Lib.runeCells r) w' ∧ Below B w w' ∧ Lib.OthersKept 5 (some b) w w') := by
  have hk4 := Lib.runeCells_le r
  go_enter Tryz.func106, Tryz.ntmps106
  go_wp2_with (go_at_call 75; refine (copyCheck_k B b bs _ h).mono ?_)
  rintro e w1 ⟨rfl, h1, hb1, hk1⟩
  obtain ⟨hB, v, hbk, hown, hne⟩ := h1
  obtain ⟨ao, cap, rfl⟩ : ∃ ao cap, v = .slice ao bs.length cap := by
    rcases hown.2 with ⟨hv, h0⟩ | ⟨g, cap, cur, fz, hv, _⟩
    · exact ⟨none, 0, by rw [hv, h0]⟩
    · exact ⟨_, _, hv⟩
  have c0 : w1.cell? ⟨b, 0, none⟩ = some (.pointer (some ⟨b, 0, none⟩)) := by rw [Lib.cell_of_heap hbk]; rfl
  have c1 : w1.cell? ⟨b, 1, none⟩ = some (.slice ao bs.length cap) := by rw [Lib.cell_of_heap hbk]; rfl
  go_wp2_with (go_at_call 120; refine (Tryz.utf8_AppendRune_row B _ bs.length bs r hr0 hr1 _ hown hlen (by have := hb1.size; omega)).mono ?_)
  rintro e w2 ⟨v', rfl, hown', o, hgrow⟩
  have hlt : b < w1.heap.size := by
    rcases Nat.lt_or_ge b w1.heap.size with h' | h'
    · exact h'
    · simp [Array.getElem?_eq_none h'] at hbk
  have hb2 : w2.heap[b]? = some (.cells #[.pointer (some ⟨b, 0, none⟩), .slice ao bs.length cap] 44 (0, 0)) := by
    rw [hgrow.block b (by simp; omega) (fun e => hne e.symm), Lib.alloc_old w1 _ b hlt]
    exact hbk
  have d0 : w2.cell? ⟨b, 0, none⟩ = some (.pointer (some ⟨b, 0, none⟩)) := by rw [Lib.cell_of_heap hb2]; rfl
  have d1 : w2.cell? ⟨b, 1, none⟩ = some (.slice ao bs.length cap) := by rw [Lib.cell_of_heap hb2]; rfl
  have f1 : w2.frozen? ⟨b, 1, none⟩ = false := Lib.frozen_of_heap hb2 1
  obtain ⟨g, cap', rfl⟩ : ∃ g cap', v' = .slice (some ⟨g, 0, none⟩) (bs.length + (Lib.runeCells r).length) cap' := by
    rcases hown'.2 with ⟨_, h0⟩ | ⟨g, cap', cur, fz, hv, _⟩
    · omega
    · exact ⟨g, cap', hv⟩
  go_wp2
  go_ret2
  refine ⟨?_, ?_, ?_, ((hk1.alloc _).grown hgrow (Lib.ownsRowF_kind (hown.alloc _))).setCell ⟨b, 1, none⟩ rfl _⟩
  · have e : ((bs.length : Int) + ((Lib.runeCells r).length : Int) - (bs.length : Int)) = ((Lib.runeCells r).length : Int) := by omega
    simp [e]
  · exact Lib.BuilderAtF.put (T := 44) (e := 5) hB hb2 (bs' := bs ++ Lib.runeCells r) (by simpa using hown') (by decide)
  · exact ((hb1.alloc (by have := hb1.size; omega) _).grown hgrow (by have := hb1.size; simp; omega) (fun k hk => (hown.lt k hk).1)).setCell (p := ⟨b, 1, none⟩) hB _
end Go.Proofs.YtllkcldckehipaaGreatDoor.Ru

namespace Go.Proofs.YtllkcldckehipaaGreatDoor.Ru
open Go.RowKit Go.Shelf Go.Maps
attribute [local go_sem] Oper.semAt_some

theorem bld_kept {T e : TypeId} {B b : Nat} {bs : List Value} {w w' : World} {row : Option Nat} (h : Lib.IsBuilderF T e B b bs w) (hg : w.grownBy w' row)
    (hr : ∀ r, row = some r → ∀ c fz, w.heap[r]? ≠ some (.cells c e fz) ∧ w.heap[r]? ≠ some (.cells c T fz)) : Lib.IsBuilderF T e B b bs w' := by
  have one : ∀ p, Lib.BuilderAtF T e B b p bs w → Lib.BuilderAtF T e B b p bs w' := by
    intro p h
    have hlt := h.lt
    obtain ⟨hB, v, hb, hown, hne⟩ := h
    refine ⟨hB, v, (hg.block b hlt ?_).trans hb, hown.kept hg ?_, hne⟩
    · intro e1
      exact (hr b e1.symm _ _).2 hb
    · cases hv : v.ownBlock with
      | none => exact .inl rfl
      | some g =>
        refine .inr ?_
        intro e1
        obtain ⟨c, fz, hc⟩ := Lib.ownsRowF_kind hown g hv
        exact (hr g e1.symm _ _).1 hc
  exact h.elim (fun x => .inl (one _ x)) (fun x => .inr (one _ x))
theorem grown_of_below {w w' : World} (h : Below w.heap.size w w') : w.grownBy w' none := ⟨h.os, h.tape, h.output, h.size, fun k hk _ => h.block k hk⟩
theorem bld_below {T e : TypeId} {B b : Nat} {bs : List Value} {w w' : World} (h : Lib.IsBuilderF T e B b bs w) (hb : Below w.heap.size w w') : Lib.IsBuilderF T e B b bs w' :=
  bld_kept h (grown_of_below hb) (fun _ e => by cases e)
theorem bld_box {T e t : TypeId} {B b N : Nat} {v u : Value} {bs : List Value} {w : World} (h : Lib.IsBuilderF T e B b bs w) (hN : Boxed w N t v) (h1 : t ≠ e) (h2 : t ≠ T) : Lib.IsBuilderF T e B b bs (w.setCell ⟨N, 0, none⟩ u) :=
  bld_kept h (grownBy_setCell' w N u) (fun r e1 c fz => by cases e1; rw [show w.heap[N]? = _ from hN]; exact ⟨(fun e2 => by cases e2; exact h1 rfl), (fun e2 => by cases e2; exact h2 rfl)⟩)
theorem bld_own {β : Type} {T e : TypeId} {B b : Nat} (f : β → List Value) : Own (fun s W => Lib.IsBuilderF T e B b (f s) W) := fun s X Y row hs hg hr =>
  bld_kept hs hg (fun r e1 c fz => by
    obtain ⟨o, ho, hc⟩ := hr r e1
    rw [ho]
    exact ⟨(fun e2 => by cases e2; cases hc), (fun e2 => by cases e2; cases hc)⟩)
theorem keepsOthers_of_kept {e : TypeId} {b : Nat} {w w' : World} (h : Lib.OthersKept e (some b) w w') (hz : w.heap.size ≤ w'.heap.size) (hb : ∃ c t fz, w.heap[b]? = some (.cells c t fz)) : KeepsOthers w w' :=
  ⟨hz, fun k o hk ho => h k o hk (fun e1 => by obtain ⟨c, t, fz, hc⟩ := hb; cases e1; rw [hk] at hc; cases hc; cases ho) (fun c fz e1 => by rw [e1] at ho; cases ho)⟩
theorem bld_cells {T e : TypeId} {B b : Nat} {bs : List Value} {w : World} (h : Lib.IsBuilderF T e B b bs w) : ∃ c t fz, w.heap[b]? = some (.cells c t fz) := by
  rcases h with ⟨_, v, hb, _⟩ | ⟨_, v, hb, _⟩ <;> exact ⟨_, _, _, hb⟩
theorem boxed_others {e t : TypeId} {b N : Nat} {v : Value} {w w' : World} (h : Lib.OthersKept e (some b) w w') (hN : Boxed w N t v) (ht : t ≠ e) (hne : N ≠ b) : Boxed w' N t v :=
  h N _ hN (fun e1 => by cases e1; exact hne rfl) (fun c fz e1 => by cases e1; exact ht rfl)
theorem map_others {e k : TypeId} {b bm n : Nat} {D : DataW Unit} {P : Program} {R : Value → Option (DataW Unit × List MemPlace)} {w w' : World} (h : Lib.OthersKept e (some b) w w') (hm : w.ownsMap P k R bm n D) (hb : ∃ c t fz, w.heap[b]? = some (.cells c t fz)) : w'.ownsMap P k R bm n D := by
  obtain ⟨es, clock, he, rest⟩ := hm
  exact ⟨es, clock, h bm _ he (fun e1 => by obtain ⟨c, t, fz, hc⟩ := hb; cases e1; rw [he] at hc; cases hc) (fun c fz e1 => by cases e1), rest⟩

/-- The letter of a rune's short escape; 0: it has none. -/
def shortN (r : Nat) : Nat := if r = 8 then 98 else if r = 9 then 116 else if r = 10 then 110 else if r = 12 then 102 else if r = 13 then 114 else if r = 34 then 34 else if r = 92 then 92 else 0
def hexd (n : Nat) : UInt8 := if n < 10 then (48 + n).toUInt8 else (87 + n).toUInt8
/-- How a rune is written. -/
def qRune (r : Nat) : List UInt8 := if shortN r ≠ 0 then [92, (shortN r).toUInt8] else if r < 32 then [92, 117, 48, 48, hexd (r / 16), hexd (r % 16)] else Lib.encodeRune r
/-- How a text is written. -/
def quoteL (l : List UInt8) : List UInt8 := 34 :: ((steps l).flatMap fun x => qRune x.2) ++ [34]

theorem look_letters {W : World} {b n : Nat} (h : W.ownsMap Tryz.prog 3 (plainElem Tryz.prog 5) b n lettersD) (r : Nat) (hr : r ≤ 1114111) :
    (Instr.lookup 115 (.map (some b)) (.int .i64 r) true).run Tryz.prog W = .ok (.tuple #[.int .u8 (shortN r), .bool (decide (shortN r ≠ 0))]) W := by
  have hat := lettersD_at r
  have hz : (zeroValue 5).run Tryz.prog W = .ok (.int .u8 0) W := by kernel_rfl
  have hkey : keyOf Tryz.prog 3 (.int .i64 r) = some (.int .i64 r) := keyOf_int_mk Tryz.underlying3 (WalkArith.wf_i64 (by omega))
  have hlk := look_ok h law3 Tryz.underlying115 Tryz.underlying5 hz hkey
  rw [hat] at hlk
  have hc : ∀ k : Nat, ((r : Int) = (k : Int)) = (r = k) := fun k => propext Int.ofNat_inj
  have h8 : ((r : Int) = 8) = (r = 8) := hc 8
  have h9 : ((r : Int) = 9) = (r = 9) := hc 9
  have h10 : ((r : Int) = 10) = (r = 10) := hc 10
  have h12 : ((r : Int) = 12) = (r = 12) := hc 12
  have h13 : ((r : Int) = 13) = (r = 13) := hc 13
  have h34 : ((r : Int) = 34) = (r = 34) := hc 34
  have h92 : ((r : Int) = 92) = (r = 92) := hc 92
  simp only [h8, h9, h10, h12, h13, h34, h92] at hlk
  unfold shortN
  repeat' split at hlk
  all_goals (rcases hlk with ⟨e, hrun⟩ | ⟨c, e, hrun⟩)
  all_goals first | (cases e; done) | (cases e; rw [hrun]; simp [*])

theorem hexIdx (k : Nat) (h : k < 16) : (⟨#[48, 49, 50, 51, 52, 53, 54, 55, 56, 57, 97, 98, 99, 100, 101, 102]⟩ : ByteArray)[k]'(by exact h) = hexd k := by
  match k, h with
  | 0, _ => rfl
  | 1, _ => rfl
  | 2, _ => rfl
  | 3, _ => rfl
  | 4, _ => rfl
  | 5, _ => rfl
  | 6, _ => rfl
  | 7, _ => rfl
  | 8, _ => rfl
  | 9, _ => rfl
  | 10, _ => rfl
  | 11, _ => rfl
  | 12, _ => rfl
  | 13, _ => rfl
  | 14, _ => rfl
  | 15, _ => rfl
  | n + 16, h => exact absurd h (by omega)
theorem and15 : ∀ X : Fin 32, bits .and .i64 ((X.val : Nat) : Int) 15 = ((X.val % 16 : Nat) : Int) := by decide
theorem quoteL_of {l : List UInt8} {xs : List (Stp l)} (h : xs.map (·.1) = steps l) : quoteL l = 34 :: (xs.flatMap fun x => qRune x.1.2) ++ [34] := by
  have e : (xs.map (·.1)).flatMap (fun x => qRune x.2) = xs.flatMap fun x => qRune x.1.2 := List.flatMap_map ..
  rw [h] at e
  unfold quoteL
  rw [e]

/-- What lies in memory between two rounds of Quote's loop: the builder (block N1), the box of the letters' map (N2), the map (M), the iterator's text (B). -/
def QI (w : World) (s : ByteArray) (N1 N2 M B : Nat) (cs : List Value) (W : World) : Prop :=
  (Lib.IsBuilderF 44 5 w.heap.size N1 cs W ∧ Boxed W N2 115 (.map (some M)) ∧ Boxed W B 9 (.string s)) ∧
    (W.ownsMap Tryz.prog 3 (plainElem Tryz.prog 5) M 7 lettersD ∧ Below w.heap.size w W)
theorem QI_own {β : Type} {w : World} {s : ByteArray} {N1 N2 M B z : Nat} (f : β → List Value) (hM : M < z) (hz : w.heap.size ≤ z) : OwnFrom z (fun x W => QI w s N1 N2 M B (f x) W) := by
  refine OwnFrom.and (Own.from (fun x A C row hs hg hr => ⟨bld_own (fun _ : Unit => f x) () A C row hs.1 hg hr, boxed_own _ _ (fun _ : Unit => _) () A C row hs.2.1 hg hr, boxed_own _ _ (fun _ : Unit => _) () A C row hs.2.2 hg hr⟩) _) (OwnFrom.and ?_ (ownFrom_below (Nat.le_refl _) hz))
  intro x A C row hs hg hr
  exact hs.kept hg (fun e => by have := (hr _ e.symm).1; omega)
/-- One write of the builder, between two rounds. -/
theorem QI_step {w : World} {s : ByteArray} {N1 N2 M B : Nat} {cs cs' : List Value} {W W4 : World} {p : Value} (h : QI w s N1 N2 M B cs W) (hp : p = .pointer (some ⟨N1, 0, none⟩)) (h2 : N2 ≠ N1) (hB : B ≠ N1)
    (bd : Lib.BuilderAtF 44 5 w.heap.size N1 p cs' W4) (hb : Below w.heap.size W W4) (hk : Lib.OthersKept 5 (some N1) W W4) :
    QI w s N1 N2 M B cs' W4 ∧ KeepsOthers W W4 ∧ KpB w.heap.size B W W4 := by
  subst hp
  have hB4 := boxed_others hk h.1.2.2 (by decide) hB
  exact ⟨⟨⟨.inr bd, boxed_others hk h.1.2.1 (by decide) h2, hB4⟩, map_others hk h.2.1 (bld_cells h.1.1), h.2.2.trans hb⟩, keepsOthers_of_kept hk hb.size (bld_cells h.1.1), hb, hB4.trans h.1.2.2.symm⟩
theorem shortN_lt (r : Nat) : shortN r < 256 := by
  unfold shortN
  repeat' split
  all_goals decide
theorem byteCells_append (a b : List UInt8) : Lib.byteCells (a ++ b) = Lib.byteCells a ++ Lib.byteCells b := by simp [Lib.byteCells]
theorem byteCells_length (a : List UInt8) : (Lib.byteCells a).length = a.length := by simp [Lib.byteCells]
theorem qRune_le (r : Nat) : (qRune r).length ≤ 6 := by
  unfold qRune
  split
  · simp
  · split
    · simp
    · have := Lib.runeCells_le r
      rw [Lib.runeCells_length] at this
      omega
theorem flat_le {α : Type} (f : α → List UInt8) (k : Nat) (h : ∀ x, (f x).length ≤ k) : ∀ l : List α, (l.flatMap f).length ≤ k * l.length
  | [] => by simp
  | x :: l => by
    have := flat_le f k h l
    have := h x
    simp only [List.flatMap_cons, List.length_append, List.length_cons, Nat.mul_add]
    omega

set_option maxRecDepth 100000 in
set_option maxHeartbeats 1000000 in
theorem quote_no (s : ByteArray) (w : World) (hvd : Lib.validD s.data.toList = false) (hs : s.size ≤ maxLen) (hT : Lib.Utf8Tabs 0 1 w) :
    Calls Tryz.prog 99 #[.string s] w fun e w' => e = .returned (.tuple #[.string ⟨#[]⟩, .int .i64 10]) ∧ Below w.heap.size w w' := by
  have hv := valid_any s w hs hT
  rw [hvd] at hv
  have HV := Lib.hid hv
  clear hvd hs hv
  refine (callsIn_wide (n := 9)).1 ?_
  refine callsIn_of_wp_marks Tryz.func99 rfl trivial ?_ rfl
  simp only [Tryz.ntmps99, List.size_toArray, List.length_cons, List.length_nil, Nat.reduceAdd, Nat.reduceSub, Array.replicate_succ, Array.replicate_zero, List.push_toArray, List.append_toArray, List.nil_append, List.cons_append]
  gi_wp2_with fail
  refine ⟨trivial, ?_⟩
  refine (callsIn_wide.2 HV.out).mono ?_
  rintro e w1 ⟨rfl, hb1⟩
  gi_wp2_with fail
  exact ⟨_, by simp [results, Tryz.results99, go_sem], rfl, hb1⟩

set_option maxRecDepth 100000 in
set_option maxHeartbeats 1000000 in
theorem quote_yes (s : ByteArray) (w : World) (hvd : Lib.validD s.data.toList = true) (hs : s.size ≤ 4294967296) (h2 : 2 ≤ w.heap.size) (hT : Lib.Utf8Tabs 0 1 w) :
    Calls Tryz.prog 99 #[.string s] w fun e w' => e = .returned (.tuple #[.string ⟨(quoteL s.data.toList).toArray⟩, .int .i64 0]) ∧ Below w.heap.size w w' := by
  have hsM : s.size ≤ maxLen := by unfold maxLen; omega
  have hv := valid_any s w hsM hT
  rw [hvd] at hv
  have hsl := steps_length s.data.toList
  rw [show s.data.toList.length = s.size by rw [Array.length_toList]; rfl] at hsl
  have hS := Lib.hid hsM
  have HV := Lib.hid hv
  clear hsM hvd hv
  refine (callsIn_wide (n := 9)).1 ?_
  refine callsIn_of_wp_marks Tryz.func99 rfl trivial ?_ rfl
  simp only [Tryz.ntmps99, List.size_toArray, List.length_cons, List.length_nil, Nat.reduceAdd, Nat.reduceSub, Array.replicate_succ, Array.replicate_zero, List.push_toArray, List.append_toArray, List.nil_append, List.cons_append]
  gi_wp2_with fail
  refine ⟨trivial, ?_⟩
  refine (callsIn_wide.2 HV.out).mono ?_
  rintro e w1 ⟨rfl, hb1⟩
  have hsz1 := hb1.size
  gi_wp2_with fail
  refine ⟨trivial, ?_⟩
  refine (callsIn_wide.2 (letters_any _)).mono ?_
  rintro e w2 ⟨rfl, om, hb2⟩
  gi_wp2_with fail
  have z2 : w1.heap.size + 2 ≤ w2.heap.size := by
    have a1 := om.lt
    simp at a1
    omega
  have om' : w2.ownsMap Tryz.prog 3 (plainElem Tryz.prog 5) (w1.heap.size + 1) 7 lettersD := by simpa using om
  have bd1 : Lib.IsBuilderF 44 5 w.heap.size w1.heap.size [] (w1.alloc (.cells #[.pointer none, .slice none 0 0] 44)) :=
    .inl ⟨hsz1, _, World.alloc_heap_new _ _, World.ownsRowF_nil _ _ _ _, by simp [Value.ownBlock]⟩
  have bel2 : Below w.heap.size w w2 := (hb1.alloc (by omega) _).trans (hb2.mono (by simp; omega))
  have bd2 := bld_below (bld_below bd1 hb2) ((Below.refl _ w2).alloc (Nat.le_refl _) (.cells #[.map (some (w1.heap.size + 1))] 115))
  have bx2 := Boxed.new w2 115 (.map (some (w1.heap.size + 1)))
  have om2 := om'.alloc (.cells #[.map (some (w1.heap.size + 1))] 115)
  have bel3 := bel2.alloc (by omega) (.cells #[.map (some (w1.heap.size + 1))] 115)
  clear bd1 om om' bel2 hb2 HV
  refine ⟨trivial, ?_⟩
  refine (callsIn_wide.2 (writeByte_k w.heap.size w1.heap.size [] 34 _ bd2 (by simp) (by simp; omega))).mono ?_
  rintro e w3 ⟨rfl, bd3, hb3, hk3⟩
  have bx3 := boxed_others hk3 bx2 (by decide) (by omega)
  have om3 := map_others hk3 om2 (bld_cells bd2)
  have bel4 := bel3.trans hb3
  have z3 : w2.heap.size + 1 ≤ w3.heap.size := by have := hb3.size; simpa using this
  have bd3' : Lib.IsBuilderF 44 5 w.heap.size w1.heap.size (Lib.byteCells [34]) w3 := .inr bd3
  clear bd2 bd3 bx2 om2 bel3 hb3 hk3
  gi_wp2_with fail
  refine ⟨trivial, ?_⟩
  refine (all_in _ s _).mono ?_
  rintro e w' ⟨rfl, rfl⟩
  gi_wp2_with fail
  have bB := Boxed.new w3 9 (.string s)
  have hT3 := tabs_below hT bel4 h2
  refine wpIn_rangeFunc_ownG rfl (by omega) (gf := 118) (lb := #[.pointer (some ⟨w3.heap.size, 0, none⟩)]) rfl trivial (enters_of Tryz.func118 (by kernel_rfl) rfl)
    (all_stops 8 (by omega) s hS.out w3.heap.size w.heap.size _ ?cB h2 ?cm bB.cell ?cT) kpB_t (kpB_b ?d1 ?d2) (Below.refl _ _) (fun _ => rfl)
    (fun pre W => QI w s w1.heap.size w2.heap.size (w1.heap.size + 1) w3.heap.size (Lib.byteCells (34 :: pre.flatMap fun x => qRune x.1.2)) W)
    (fun _ _ _ => False) ?hI (fun _ _ _ _ _ hs _ _ => hs) ?h0
    (fun x => { tmps := #[.string s, undef, .string ⟨#[]⟩, .int .i64 0, .pointer (some ⟨w1.heap.size, 0, none⟩), .pointer (some ⟨w2.heap.size, 0, none⟩), undef, .int .i64 x.1.2, undef, undef, .string s, .bool true, .bool false, .map (some (w1.heap.size + 1)), .nilIface, .string s, .func (.func 118) #[] #[.pointer (some ⟨w3.heap.size, 0, none⟩)], .int .i64 x.1.1, .int .i64 x.1.2, undef, undef, undef, undef, undef, undef, undef, undef, undef, undef, undef, undef, undef, undef, undef, undef, undef, undef, undef, undef, undef, undef, undef, undef, undef, undef, undef, undef], defers := [] }) ?assign ?body ?done ?stop
  case cB => simp
  case cm => simp; omega
  case cT => exact tabs_below hT3 ((Below.refl w3.heap.size w3).alloc (Nat.le_refl _) _) (by omega)
  case d1 => simp; omega
  case d2 => simp
  case hI =>
    refine QI_own (fun pre : List (Stp s.data.toList) => Lib.byteCells (34 :: pre.flatMap fun x => qRune x.1.2)) ?_ ?_
    · rw [World.size_alloc]; omega
    · rw [World.size_alloc]; omega
  case h0 => exact ⟨⟨bld_below bd3' ((Below.refl _ w3).alloc (Nat.le_refl _) _), bx3.alloc _, bB⟩, om3.alloc _, bel4.alloc (by omega) _⟩
  case assign =>
    intro l x W K hK
    unfold encStp
    gi_wp2_with fail
    simpa using hK
  case body =>
    rintro l pre x W hI hlen
    have hr := (steps_mem x.2).2.1
    have hlk := look_letters hI.2.1 x.1.2 hr
    have hbx := hI.1.2.1.cell
    have hcl : (Lib.byteCells (34 :: pre.flatMap fun x => qRune x.1.2)).length ≤ 1 + 6 * pre.length := by
      rw [byteCells_length]
      have := flat_le (fun x : Stp s.data.toList => qRune x.1.2) 6 (fun x => qRune_le _) pre
      simp only [List.length_cons]
      omega
    have hfin : Lib.byteCells (34 :: (pre ++ [x]).flatMap fun x => qRune x.1.2) = Lib.byteCells (34 :: pre.flatMap fun x => qRune x.1.2) ++ Lib.byteCells (qRune x.1.2) := by
      rw [← byteCells_append]; simp
    have HF := Lib.hid hfin
    clear hfin
    have z5 := hI.2.2.size
    obtain ⟨r, hrr⟩ : ∃ r, x.1.2 = r := ⟨_, rfl⟩
    by_cases h1 : shortN x.1.2 ≠ 0
    · rw [decide_eq_true h1] at hlk
      have HQ := Lib.hid (show qRune x.1.2 = [92, (shortN x.1.2).toUInt8] by unfold qRune; rw [if_pos h1])
      clear hrr h1
      gi_wp2_with fail
      refine ⟨trivial, ?_⟩
      refine (CallsIn.inRound l (callsIn_wide.2 (writeByte_k w.heap.size w1.heap.size _ 92 _ hI.1.1 (by omega) (by omega)))).mono ?_
      rintro e w4 ⟨rfl, bd4, hb4, hk4⟩
      obtain ⟨hI4, ko4, kb4⟩ := QI_step hI rfl (by omega) (by omega) bd4 hb4 hk4
      gi_wp2_with fail
      refine ⟨trivial, ?_⟩
      refine (CallsIn.inRound l (callsIn_wide.2 (writeByte_k w.heap.size w1.heap.size _ _ _ hI4.1.1 (by simp; omega) (by have := hb4.size; omega)))).mono ?_
      rintro e w5 ⟨rfl, bd5, hb5, hk5⟩
      obtain ⟨hI5, ko5, kb5⟩ := QI_step hI4 rfl (by omega) (by omega) bd5 hb5 hk5
      gi_wp2_with fail
      refine ⟨(ko4.trans ko5).from _, kpB_t kb4 kb5, ?_⟩
      show QI _ _ _ _ _ _ (Lib.byteCells (34 :: (pre ++ [x]).flatMap fun x => qRune x.1.2)) w5
      rw [HF.out, HQ.out]
      have e3 : shortN x.1.2 < 256 := shortN_lt _
      simpa [Lib.byteCells, Nat.mod_eq_of_lt e3] using hI5
    have h1' : shortN x.1.2 = 0 := Decidable.not_not.1 h1
    rw [h1', decide_eq_false (by simp)] at hlk
    by_cases h32 : x.1.2 < 32
    · have HQ := Lib.hid (show qRune x.1.2 = [92, 117, 48, 48, hexd (x.1.2 / 16), hexd (x.1.2 % 16)] by unfold qRune; rw [if_neg h1, if_pos h32])
      clear h1 h1' hrr
      have hlt : (x.1.2 : Int) < 32 := by omega
      have hand := and15 ⟨x.1.2, h32⟩
      dsimp only at hand
      gi_wp2_with fail
      refine ⟨trivial, ?_⟩
      refine (CallsIn.inRound l (callsIn_wide.2 (writeString_k w.heap.size w1.heap.size _ _ _ hI.1.1 (by show _ + 4 ≤ _; omega) (by omega)))).mono ?_
      rintro e w4 ⟨rfl, bd4, hb4, hk4⟩
      obtain ⟨hI4, ko4, kb4⟩ := QI_step hI rfl (by omega) (by omega) bd4 hb4 hk4
      have z6 := hb4.size
      have e4 : (Lib.strCells ⟨#[92, 117, 48, 48]⟩).length = 4 := rfl
      have E4 := Lib.hid e4
      have hc4 : (Lib.byteCells (34 :: pre.flatMap fun x => qRune x.1.2) ++ Lib.strCells ⟨#[92, 117, 48, 48]⟩).length ≤ 5 + 6 * pre.length := by rw [List.length_append, e4]; omega
      clear e4
      gi_wp2_with fail
      refine ⟨trivial, ?_⟩
      refine (CallsIn.inRound l (callsIn_wide.2 (writeByte_k w.heap.size w1.heap.size _ _ _ hI4.1.1 (by omega) (by omega)))).mono ?_
      rintro e w5 ⟨rfl, bd5, hb5, hk5⟩
      obtain ⟨hI5, ko5, kb5⟩ := QI_step hI4 rfl (by omega) (by omega) bd5 hb5 hk5
      have z7 := hb5.size
      gi_wp2_with fail
      refine ⟨trivial, ?_⟩
      refine (CallsIn.inRound l (callsIn_wide.2 (writeByte_k w.heap.size w1.heap.size _ _ _ hI5.1.1 (by rw [List.length_append]; simp only [List.length_cons, List.length_nil]; omega) (by omega)))).mono ?_
      rintro e w6 ⟨rfl, bd6, hb6, hk6⟩
      obtain ⟨hI6, ko6, kb6⟩ := QI_step hI5 rfl (by omega) (by omega) bd6 hb6 hk6
      gi_wp2_with fail
      refine ⟨((ko4.trans ko5).trans ko6).from _, kpB_t (kpB_t kb4 kb5) kb6, ?_⟩
      show QI _ _ _ _ _ _ (Lib.byteCells (34 :: (pre ++ [x]).flatMap fun x => qRune x.1.2)) w6
      rw [HF.out, HQ.out]
      rw [hexIdx (x.1.2 / 16) (by omega), hexIdx (x.1.2 % 16) (by omega)] at hI6
      simpa [Lib.byteCells, Lib.strCells] using hI6
    · have HQ := Lib.hid (show qRune x.1.2 = Lib.encodeRune x.1.2 by unfold qRune; rw [if_neg h1, if_neg h32])
      clear h1 h1' hrr
      have hge : ¬ (x.1.2 : Int) < 32 := by omega
      gi_wp2_with fail
      refine ⟨trivial, ?_⟩
      refine (CallsIn.inRound l (callsIn_wide.2 (writeRune_k w.heap.size w1.heap.size _ _ (by omega) (by omega) _ hI.1.1 (by omega) (by omega)))).mono ?_
      rintro e w4 ⟨rfl, bd4, hb4, hk4⟩
      obtain ⟨hI4, ko4, kb4⟩ := QI_step hI rfl (by omega) (by omega) bd4 hb4 hk4
      gi_wp2_with fail
      refine ⟨ko4.from _, kb4, ?_⟩
      show QI _ _ _ _ _ _ (Lib.byteCells (34 :: (pre ++ [x]).flatMap fun x => qRune x.1.2)) w4
      rw [HF.out, HQ.out, Lib.byteCells_encodeRune]
      exact hI4
  case stop =>
    rintro D c pre W _ _ h _
    exact h.elim
  case done =>
    rintro D xs W hD hxs hI hK
    have hlx : xs.length = (steps s.data.toList).length := by rw [← hxs]; simp
    have hcl : (Lib.byteCells (34 :: xs.flatMap fun x => qRune x.1.2)).length ≤ 1 + 6 * xs.length := by
      rw [byteCells_length]
      have := flat_le (fun x : Stp s.data.toList => qRune x.1.2) 6 (fun x => qRune_le _) xs
      simp only [List.length_cons]
      omega
    have hq := quoteL_of hxs
    have HQ := Lib.hid hq
    have z5 := hI.2.2.size
    have hlt1 : w1.heap.size < W.heap.size := by
      obtain ⟨c, t, fz, hc⟩ := bld_cells hI.1.1
      exact (Array.getElem?_eq_some_iff.1 hc).1
    clear hq hxs
    gi_wp2_with fail
    refine ⟨trivial, ?_⟩
    refine (callsIn_wide.2 (writeByte_k w.heap.size w1.heap.size _ 34 _ hI.1.1 (by omega) (by omega))).mono ?_
    rintro e w4 ⟨rfl, bd4, hb4, hk4⟩
    obtain ⟨hI4, ko4, kb4⟩ := QI_step hI rfl (by omega) (by omega) bd4 hb4 hk4
    have hK4 := ko4.same D _ hK rfl
    have z6 := hb4.size
    have hcs : Lib.byteCells (34 :: xs.flatMap fun x => qRune x.1.2) ++ [Value.int .u8 34] = Lib.byteCells (quoteL s.data.toList) := by
      rw [HQ.out, byteCells_append]; rfl
    rw [hcs] at hI4
    clear hcs hcl hK
    gi_wp2_with fail
    refine ⟨trivial, ?_⟩
    refine (callsIn_wide.2 (Any.Builder_String_any_k Tryz.lays169 Tryz.Builder_Extra_169 w.heap.size w1.heap.size _ _ hI4.1.1 (by omega))).mono ?_
    rintro e w5 ⟨rfl, bd5, hb5, hk5⟩
    have ko5 := keepsOthers_of_kept hk5 hb5.size (bld_cells hI4.1.1)
    have hK5 := ko5.same D _ hK4 rfl
    gi_wp2_with fail
    refine ⟨by simp, .inl ⟨_, _, rfl, run_takeDeferred hK5, ?_⟩⟩
    exact ⟨_, by simp [results, Tryz.results99, go_sem], rfl, (hI4.2.2.trans hb5).trans (belowK_b (w := w) (Nat.le_refl _) w5 D _ _ (by simp at hD; omega) hK5 rfl rfl)⟩
end Go.Proofs.YtllkcldckehipaaGreatDoor.Ru
