/-
  The two tables of runes' escapes, maps that the call makes: letters, meanings.
-/
import Derived.Test.YtgbagdfcdljleaaDoorAll
import Derived.Maps.OwnIn
import Derived.Maps.OwnOps
import Derived.Maps.RangeWalk
import Derived.Maps.Ext
import Derived.Maps.Views
set_option linter.unusedVariables false
namespace Go.Proofs.YtgbagdfcdljleaaDoor.Ru
open Go.RowKit Go.Shelf Go.Maps

/-- 'v, ok := m[k]' at elements of an integer kind, as an equation on the run. -/
theorem look_ok {P : Program} {W : World} {k e t : TypeId} {b n : Nat} {D : DataW Unit} {q : IntKind} (h : W.ownsMap P k (plainElem P e) b n D) (K : Keyed P k) (ht : P.underlying t = some (.map k e)) (he : P.underlying e = some (.int q)) (hz : (zeroValue e).run P W = .ok (.int q 0) W)
    {key : Value} {kl : Lit} (hkey : keyOf P k key = some kl) :
    (D.atKey kl .nil = .nil ∧ (Instr.lookup t (.map (some b)) key true).run P W = .ok (.tuple #[.int q 0, .bool false]) W) ∨
    ∃ c, D.atKey kl .nil = .lit (.int q c) ∧ (Instr.lookup t (.map (some b)) key true).run P W = .ok (.tuple #[.int q c, .bool true]) W := by
  obtain ⟨es, clock, hb, F, _, rfl⟩ := h
  rcases Maps.fit_look true K ht hz hb F hkey with ⟨hrun, _, hat⟩ | ⟨e0, y, _, _, hrun, hRv, hat, _⟩
  · exact .inl ⟨hat .nil, hrun⟩
  · obtain ⟨c, hc, rfl, _⟩ := plainElem_int_inv he hRv
    rw [hc] at hrun
    exact .inr ⟨c, hat .nil, hrun⟩

theorem law3 : Keyed Tryd.prog 3 := int_keyed Tryd.underlying3
theorem law5 : Keyed Tryd.prog 5 := int_keyed Tryd.underlying5

/-- What letters holds, in the order of its keys. -/
def lettersD : DataW Unit := .map [(.int .i64 8, .lit (.int .u8 98)), (.int .i64 9, .lit (.int .u8 116)), (.int .i64 10, .lit (.int .u8 110)), (.int .i64 12, .lit (.int .u8 102)), (.int .i64 13, .lit (.int .u8 114)), (.int .i64 34, .lit (.int .u8 34)), (.int .i64 92, .lit (.int .u8 92))]
theorem lettersD_eq : (((((((DataW.map [] : DataW Unit).put (.int .i64 34) (.lit (.int .u8 34))).put (.int .i64 92) (.lit (.int .u8 92))).put (.int .i64 8) (.lit (.int .u8 98))).put (.int .i64 9) (.lit (.int .u8 116))).put (.int .i64 10) (.lit (.int .u8 110))).put (.int .i64 12) (.lit (.int .u8 102))).put (.int .i64 13) (.lit (.int .u8 114)) = lettersD := by
  simp [DataW.put, DataW.insert, Lit.before, Lit.sameKey, lettersD]

set_option maxRecDepth 100000 in
set_option maxHeartbeats 1000000 in
theorem letters_any (w : World) :
    Calls Tryd.prog 72 #[] w fun e w' => e = .returned (.map (some w.heap.size)) ∧ w'.ownsMap Tryd.prog 3 (plainElem Tryd.prog 5) w.heap.size 7 lettersD ∧ Below w.heap.size w w' := by
  have hmm := @run_makeMap Tryd.prog
  have o0 := World.ownsMap_made (H := Unit) w Tryd.prog 3 (plainElem Tryd.prog 5)
  obtain ⟨w1, r1, o1, g1⟩ := o0.update (key := .int .i64 34) (val := .int .u8 34) law3 Tryd.underlying104 (by decide) (keyOf_int_mk Tryd.underlying3 (by decide)) (plainElem_int Tryd.underlying5 (by decide))
  obtain ⟨w2, r2, o2, g2⟩ := o1.update (key := .int .i64 92) (val := .int .u8 92) law3 Tryd.underlying104 (by decide) (keyOf_int_mk Tryd.underlying3 (by decide)) (plainElem_int Tryd.underlying5 (by decide))
  obtain ⟨w3, r3, o3, g3⟩ := o2.update (key := .int .i64 8) (val := .int .u8 98) law3 Tryd.underlying104 (by decide) (keyOf_int_mk Tryd.underlying3 (by decide)) (plainElem_int Tryd.underlying5 (by decide))
  obtain ⟨w4, r4, o4, g4⟩ := o3.update (key := .int .i64 9) (val := .int .u8 116) law3 Tryd.underlying104 (by decide) (keyOf_int_mk Tryd.underlying3 (by decide)) (plainElem_int Tryd.underlying5 (by decide))
  obtain ⟨w5, r5, o5, g5⟩ := o4.update (key := .int .i64 10) (val := .int .u8 110) law3 Tryd.underlying104 (by decide) (keyOf_int_mk Tryd.underlying3 (by decide)) (plainElem_int Tryd.underlying5 (by decide))
  obtain ⟨w6, r6, o6, g6⟩ := o5.update (key := .int .i64 12) (val := .int .u8 102) law3 Tryd.underlying104 (by decide) (keyOf_int_mk Tryd.underlying3 (by decide)) (plainElem_int Tryd.underlying5 (by decide))
  obtain ⟨w7, r7, o7, g7⟩ := o6.update (key := .int .i64 13) (val := .int .u8 114) law3 Tryd.underlying104 (by decide) (keyOf_int_mk Tryd.underlying3 (by decide)) (plainElem_int Tryd.underlying5 (by decide))
  rw [lettersD_eq] at o7
  have b1 := (((Below.refl w.heap.size w).alloc (Nat.le_refl _) (.map #[] 0)).grown g1 (by simp) (fun k e => by cases e; exact Nat.le_refl _))
  have z1 := b1.size
  have b2 := b1.grown g2 z1 (fun k e => by cases e; exact Nat.le_refl _)
  have b3 := b2.grown g3 b2.size (fun k e => by cases e; exact Nat.le_refl _)
  have b4 := b3.grown g4 b3.size (fun k e => by cases e; exact Nat.le_refl _)
  have b5 := b4.grown g5 b4.size (fun k e => by cases e; exact Nat.le_refl _)
  have b6 := b5.grown g6 b5.size (fun k e => by cases e; exact Nat.le_refl _)
  have b7 := b6.grown g7 b6.size (fun k e => by cases e; exact Nat.le_refl _)
  have O7 := Lib.hid o7
  have B7 := Lib.hid b7
  clear o0 o1 o2 o3 o4 o5 o6 o7 g1 g2 g3 g4 g5 g6 g7 b1 b2 b3 b4 b5 b6 b7 z1
  go_enter Tryd.func72, Tryd.ntmps72
  go_wp2_with fail
  go_ret
  exact ⟨rfl, O7.out, B7.out⟩

/-- The rune that a letter behind a backslash stands for, of those that have been laid: all but the ones that are still to come. -/
def meanL (left : Lit → Bool) (c : Int) : DataW Unit :=
  if c = 47 then .lit (.int .i64 47)
  else if c = 98 ∧ left (.int .i64 8) = false then .lit (.int .i64 8)
  else if c = 116 ∧ left (.int .i64 9) = false then .lit (.int .i64 9)
  else if c = 110 ∧ left (.int .i64 10) = false then .lit (.int .i64 10)
  else if c = 102 ∧ left (.int .i64 12) = false then .lit (.int .i64 12)
  else if c = 114 ∧ left (.int .i64 13) = false then .lit (.int .i64 13)
  else if c = 34 ∧ left (.int .i64 34) = false then .lit (.int .i64 34)
  else if c = 92 ∧ left (.int .i64 92) = false then .lit (.int .i64 92)
  else .nil
/-- The rune that a letter behind a backslash stands for. -/
def meanD (c : Int) : DataW Unit := meanL (fun _ => false) c

theorem lettersD_at (x : Int) : lettersD.atKey (.int .i64 x) .nil = if x = 8 then .lit (.int .u8 98) else if x = 9 then .lit (.int .u8 116) else if x = 10 then .lit (.int .u8 110) else if x = 12 then .lit (.int .u8 102) else if x = 13 then .lit (.int .u8 114) else if x = 34 then .lit (.int .u8 34) else if x = 92 then .lit (.int .u8 92) else .nil := by
  have key : ∀ a : Int, Lit.sameKey (.int .i64 a) (.int .i64 x) = decide (x = a) := fun a => by simp [Lit.sameKey, eq_comm]
  simp only [lettersD, DataW.atKey, List.find?_cons, List.find?_nil, key]
  by_cases h1 : x = 8
  · simp [h1]
  by_cases h2 : x = 9
  · simp [h2]
  by_cases h3 : x = 10
  · simp [h3]
  by_cases h4 : x = 12
  · simp [h4]
  by_cases h5 : x = 13
  · simp [h5]
  by_cases h6 : x = 34
  · simp [h6]
  by_cases h7 : x = 92
  · simp [h7]
  simp [h1, h2, h3, h4, h5, h6, h7]

theorem meanL_step {left : Lit → Bool} {D : DataW Unit} (hD : ∀ c : Int, D.atKey (.int .u8 c) .nil = meanL left c) (hm : IsMap D) {x c : Int} (hat : ∀ zd, lettersD.atKey (.int .i64 x) zd = .lit (.int .u8 c)) (hl : left (.int .i64 x) = true) :
    ∀ c' : Int, (D.put (.int .u8 c) (.lit (.int .i64 x))).atKey (.int .u8 c') .nil = meanL (fun z => left z && !z.sameKey (.int .i64 x)) c' := by
  intro c'
  have h := hat .nil
  rw [lettersD_at] at h
  have key : ∀ a : Int, Lit.sameKey (.int .i64 a) (.int .i64 x) = decide (a = x) := fun a => by simp [Lit.sameKey]
  by_cases hc : c' = c
  · subst hc
    rw [atKey_put_same (k := .int .u8 c') hm trivial]
    unfold meanL
    simp only [key]
    repeat' split at h
    all_goals first | (cases h; done) | (have hce := h; simp at hce; subst_vars; simp)
  · rw [atKey_put_other (by intro e; cases e; exact hc rfl), hD]
    unfold meanL
    simp only [key]
    repeat' split at h
    all_goals first | (cases h; done) | (have hce := h; simp at hce; subst_vars; simp [hc])

theorem meanL_start (c : Int) : ((DataW.map [] : DataW Unit).put (.int .u8 47) (.lit (.int .i64 47))).atKey (.int .u8 c) .nil = meanL (Maps.has lettersD) c := by
  have h8 : Maps.has lettersD (.int .i64 8) = true := by decide
  have h9 : Maps.has lettersD (.int .i64 9) = true := by decide
  have h10 : Maps.has lettersD (.int .i64 10) = true := by decide
  have h12 : Maps.has lettersD (.int .i64 12) = true := by decide
  have h13 : Maps.has lettersD (.int .i64 13) = true := by decide
  have h34 : Maps.has lettersD (.int .i64 34) = true := by decide
  have h92 : Maps.has lettersD (.int .i64 92) = true := by decide
  by_cases h : c = 47
  · subst h
    simp [meanL, DataW.put, DataW.insert, DataW.atKey, Lit.sameKey]
  · have h' : ¬ (47 : Int) = c := fun e => h e.symm
    simp [meanL, DataW.put, DataW.insert, DataW.atKey, Lit.sameKey, h, h', h8, h9, h10, h12, h13, h34, h92]

set_option maxRecDepth 100000 in
set_option maxHeartbeats 1000000 in
theorem meanings_any (w : World) :
    Calls Tryd.prog 65 #[] w fun e w' => e = .returned (.map (some w.heap.size)) ∧ (∃ n D, w'.ownsMap Tryd.prog 5 (plainElem Tryd.prog 3) w.heap.size n D ∧ ∀ c : Int, D.atKey (.int .u8 c) .nil = meanD c) ∧ Below w.heap.size w w' := by
  have hmm := @run_makeMap Tryd.prog
  have o0 := World.ownsMap_made (H := Unit) w Tryd.prog 5 (plainElem Tryd.prog 3)
  obtain ⟨w1, r1, o1, g1⟩ := o0.update (key := .int .u8 47) (val := .int .i64 47) law5 Tryd.underlying92 (by decide) (keyOf_int_mk Tryd.underlying5 (by decide)) (plainElem_int Tryd.underlying3 (by decide))
  have b1 := (((Below.refl w.heap.size w).alloc (Nat.le_refl _) (.map #[] 0)).grown g1 (by simp) (fun k e => by cases e; exact Nat.le_refl _))
  have z1 := b1.size
  have z1' : w.heap.size + 1 ≤ w1.heap.size := by have := g1.size; simpa using this
  have B1 := Lib.hid b1
  have O1 := Lib.hid o1
  clear b1 o0 o1 g1
  go_enter Tryd.func65, Tryd.ntmps65
  go_wp2_with (first
    | (go_at_call 72; refine (letters_any _).mono ?_; rintro e w2 ⟨rfl, o2, b2⟩)
    | (at_range; refine wpList_range_own _ rfl _ 104 rfl 3 5 law3 Tryd.underlying104 _ _ 7 _ rfl o2 ?_; intro w3 hrg hg3 hs3))
  have O2 := Lib.hid o2
  have B2 := Lib.hid b2
  have z2 := b2.size
  have z3 := o2.lt
  clear o2 b2
  go_frame
  have o1w2 : w2.ownsMap Tryd.prog 5 (plainElem Tryd.prog 3) w.heap.size 1 ((DataW.map [] : DataW Unit).put (.int .u8 47) (.lit (.int .i64 47))) :=
    O1.out.kept (row := none) ⟨B2.out.os, B2.out.tape, B2.out.output, B2.out.size, fun k hk _ => B2.out.block k hk⟩ (by simp)
  have b02 : Below w.heap.size w w2 := B1.out.trans (B2.out.mono (by omega))
  go_loopw [2] (fun _ wr => ∃ (left : Lit → Bool) (cnt n : Nat) (D : DataW Unit), wr.ranges Tryd.prog 3 (plainElem Tryd.prog 5) w1.heap.size w2.heap.size 7 lettersD left cnt ∧ n + cnt ≤ 8 ∧
      wr.ownsMap Tryd.prog 5 (plainElem Tryd.prog 3) w.heap.size n D ∧ (∀ c : Int, D.atKey (.int .u8 c) .nil = meanL left c) ∧ Below w.heap.size w wr)
    (fun _ wr => wr.rangeLeft w1.heap.size w2.heap.size)
  case atStart =>
    refine ⟨_, _, _, _, hrg, by decide, o1w2.kept hg3 (by simp), ?_, b02.grown hg3 (by omega) (fun j hj => by cases hj)⟩
    exact meanL_start
  case round =>
    obtain ⟨left, cnt, n, D, hr, hn, ho, hD, hb⟩ := hrel
    go_wp2_with (first
      | (at_next; refine wpList_next_ranges_ii _ rfl _ rfl 3 5 .i64 .u8 law3 Tryd.underlying3 Tryd.underlying5 w1.heap.size w2.heap.size 7 _ _ _ rfl hr ?_ ?_)
      | go_in)
    · intro hc0 hl0
      go_wp2
      go_ret
      refine ⟨rfl, ⟨n, D, ho, fun c => ?_⟩, hb⟩
      rw [hD]
      unfold meanD
      congr 1
      funext z
      exact hl0 z
    · intro x c w4 cnt1 hwx hwc hlx hat hr1 hlt hg1 hs1 hen
      have ho1 := ho.kept hg1 (by simp; omega)
      have HD := Lib.hid hD
      clear hD
      go_wp2_with (first
        | (at_mapUpdate; refine wpList_mapUpdate_own _ rfl _ _ _ 92 rfl 5 3 law5 Tryd.underlying92 _ w.heap.size _ _ rfl ho1 (by unfold maxLen; omega) _ _ _ rfl rfl (keyOf_int_mk Tryd.underlying5 hwc) _ [] (plainElem_int Tryd.underlying3 hwx) ?_; intro w5 ho5 hg5; go_frame)
        | go_in)
      have hr5 := hr1.kept hg5 (fun e => by have := Option.some.inj e; omega) (fun e => by have := Option.some.inj e; omega)
      go_roundw
      case rel =>
        exact ⟨_, cnt1, _, _, hr5, by omega, ho5, meanL_step HD.out ho.isMap hat hlx,
          (hb.grown hg1 hb.size (fun j hj => by cases hj; omega)).grown hg5 (by have := hb.size; omega) (fun j hj => by cases hj; exact Nat.le_refl _)⟩
      case measure => rw [hr5.left_eq, hr.left_eq]; exact hlt
end Go.Proofs.YtgbagdfcdljleaaDoor.Ru
