/-
  The statement SubTells.
-/
import Derived.Test.YtjnoomefppncoaaDoorLz
import Derived.Test.YtjnoomefppncoaaDoorLj
set_option linter.unusedVariables false
namespace Go.Proofs.YtjnoomefppncoaaDoor
open Go.RowKit Go.Shelf

set_option maxRecDepth 100000 in
set_option maxHeartbeats 4000000 in
theorem rholes_any (s : ByteArray) (w : World) (hs : s.size ≤ 1000000) :
    Calls Tryd.prog 13 #[.string s] w fun e w' => e = .returned (.int .i64 (cntX (ansL s.data.toList).1)) ∧ Below w.heap.size w w' := by
  have HL := Lib.hid (rlexAny s w hs)
  have hlen := ans_len s.data.toList
  unfold LexC at HL
  generalize (ansL s.data.toList).2.1 = at1 at HL
  generalize (ansL s.data.toList).2.2 = e1 at HL
  generalize (ansL s.data.toList).1 = l at *
  clear hs
  go_enter Tryd.func13, Tryd.ntmps13
  go_wp2_with fail
  go_at_call 10
  refine HL.out.mono ?_
  rintro e w1 ⟨v, rfl, ⟨o, g, c, rfl, hc1, hc2, hc3, hc4⟩, hb1⟩
  have HC := Lib.hid hc4
  have HO := Lib.hid hc3
  have HB := Lib.hid hb1
  clear hc4 hc3 hb1 HL
  go_wp2_with fail
  go_loopw [6, 7] (fun nv iv wr => ∃ j : Nat, j ≤ l.length ∧ iv = .int .i64 j ∧ nv = .int .i64 (cntX (l.take j)) ∧ w1 = wr) (fun _ iv _ => l.length - (intOf iv).toNat)
  case atStart => exact ⟨0, Nat.zero_le _, rfl, rfl, rfl⟩
  case round =>
    obtain ⟨j, hj, rfl, rfl, rfl⟩ := hrel
    by_cases hlt : j < l.length
    · obtain rfl := HO.out (by omega)
      have d0 := (xr_six HC.out j hlt).1
      have hcs := cnt_succ l j hlt
      have hcl := cnt_le l j
      have hk' : ((l[j].k : Int) != 0) = !l[j].isT := by cases l[j] <;> rfl
      have hlti : (j : Int) < (l.length : Int) := by omega
      generalize l[j] = x at *
      generalize cntX (l.take j) = n at *
      have HCS := Lib.hid hcs
      clear hcs
      cases hT : x.isT with
      | true =>
        rw [hT] at hk'
        have HN : Hid (nt x = false) := Lib.hid (by unfold nt; rw [hT]; rfl)
        clear hT
        go_wp2_with fail
        go_roundw
        case rel => exact ⟨j + 1, by omega, by go_num, by rw [HCS.out, HN.out]; rfl, by trivial⟩
        case measure => simp [intOf]; omega
      | false =>
        rw [hT] at hk'
        have HN : Hid (nt x = true) := Lib.hid (by unfold nt; rw [hT]; rfl)
        clear hT
        go_wp2_with fail
        go_roundw
        case rel => exact ⟨j + 1, by omega, by go_num, by rw [HCS.out, HN.out]; go_num, by trivial⟩
        case measure => simp [intOf]; omega
    · obtain rfl : j = l.length := by omega
      have ht : l.take l.length = l := List.take_of_length_le (Nat.le_refl _)
      rw [ht]
      clear ht
      go_wp2_with fail
      go_ret
      exact ⟨rfl, HB.out⟩

set_option maxRecDepth 100000 in
set_option maxHeartbeats 8000000 in
theorem subTells_any (s : ByteArray) (w : World) (hE : Env w) (hs : s.size ≤ maxLen) : Calls Tryd.prog 3 #[.string s] w fun e w' => e = .returned (.bool true) ∧ Below w.heap.size w w' := by
  have HW : Hid (∀ W, Below w.heap.size w W → Calls Tryd.prog 8 #[] W fun e w' => e = .returned (.bool true) ∧ Below W.heap.size W w') := Lib.hid fun W hb => wakes_any W (hE.kb hb)
  by_cases hbig : 5000 < s.size
  · have hc : (5000 : Int) < (s.size : Int) := by omega
    clear hE hs
    go_enter Tryd.func3, Tryd.ntmps3
    go_wp2_with (go_at_call 8; refine (HW.out _ (Below.refl _ _)).mono ?_; rintro e w5 ⟨rfl, hb5⟩)
    go_ret
    exact ⟨rfl, hb5⟩
  have HL := lex_any s w hE (by omega)
  have HR := fun W => rlexAny s W (by omega)
  have HH : Hid (∀ W, Below w.heap.size w W → Calls Tryd.prog 12 #[.string s] W fun e w' => e = .returned (.int .i64 (cntX (ansL s.data.toList).1)) ∧ Below W.heap.size W w') := Lib.hid fun W hb => holes_any s W (hE.kb hb) (by omega)
  have HQ : Hid (∀ W, Calls Tryd.prog 13 #[.string s] W fun e w' => e = .returned (.int .i64 (cntX (ansL s.data.toList).1)) ∧ Below W.heap.size W w') := Lib.hid fun W => rholes_any s W (by omega)
  have HA : Hid (∀ W, Calls Tryd.prog 14 #[.string s] W fun e w' => e = .returned (.bool (attrB s.data.toList)) ∧ W = w') := Lib.hid fun W => pattr_any s W hs
  have HB : Hid (∀ W, Calls Tryd.prog 15 #[.string s] W fun e w' => e = .returned (.bool (attrB s.data.toList)) ∧ W = w') := Lib.hid fun W => rattr_any s W hs
  unfold LexC at HL HR
  generalize (ansL s.data.toList).2.1 = a1 at *
  generalize (ansL s.data.toList).2.2 = e1 at *
  generalize (ansL s.data.toList).1 = l at *
  generalize cntX l = n at *
  generalize attrB s.data.toList = r at *
  have HL1 := Lib.hid HL
  have HR1 := Lib.hid HR
  have hc : ¬ (5000 : Int) < (s.size : Int) := by omega
  clear HL HR hE hs hbig
  go_enter Tryd.func3, Tryd.ntmps3
  go_wp2_with fail
  go_at_call 9
  refine HL1.out.mono ?_
  rintro e w1 ⟨v1, rfl, hx1, hb1⟩
  have HX1 := Lib.hid hx1
  have HB1 := Lib.hid hb1
  clear hx1 hb1 HL1
  go_wp2_with fail
  go_at_call 10
  refine (HR1.out _).mono ?_
  rintro e w2 ⟨v2, rfl, hx2, hb2⟩
  have HB2 := Lib.hid (HB1.out.trans (hb2.mono HB1.out.size))
  have HS : Hid (Calls Tryd.prog 11 #[v1, v2] w2 fun e w' => e = .returned (.bool true) ∧ Below w2.heap.size w2 w') := Lib.hid (sameAll_any l v1 v2 w2 (HX1.out.below hb2) hx2)
  clear hx2 hb2 HX1 HB1 HR1
  go_wp2_with (first
    | (go_at_call 11; refine HS.out.mono ?_; rintro e w3 ⟨rfl, hb3⟩; have HB3 := Lib.hid (HB2.out.trans (hb3.mono HB2.out.size)))
    | (go_at_call 12; refine (HH.out _ HB3.out).mono ?_; rintro e w4 ⟨rfl, hb4⟩; have HB4 := Lib.hid (HB3.out.trans (hb4.mono HB3.out.size)))
    | (go_at_call 13; refine (HQ.out _).mono ?_; rintro e w5 ⟨rfl, hb5⟩; have HB5 := Lib.hid (HB4.out.trans (hb5.mono HB4.out.size)))
    | (go_at_call 14; refine (HA.out _).mono ?_; rintro e w6 ⟨rfl, rfl⟩)
    | (go_at_call 15; refine (HB.out _).mono ?_; rintro e w6 ⟨rfl, rfl⟩)
    | (go_at_call 8; refine (HW.out _ HB5.out).mono ?_; rintro e w7 ⟨rfl, hb7⟩))
  go_ret
  exact ⟨rfl, HB5.out.trans (hb7.mono HB5.out.size)⟩
end Go.Proofs.YtjnoomefppncoaaDoor
