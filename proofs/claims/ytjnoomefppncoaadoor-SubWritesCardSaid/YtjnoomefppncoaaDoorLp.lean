/-
  The statement SubJoin, walked.
-/
import Derived.Test.YtjnoomefppncoaaDoorLn
set_option linter.unusedVariables false
namespace Go.Proofs.YtjnoomefppncoaaDoor
open Go.RowKit Go.Shelf

theorem six_eq {x : X} {W : World} {b : Nat} (h : W.heap[b]? = some (.cells #[.int .i8 x.k, .string (bs x.t), .int .i64 0, .string (bs x.m), .string (bs x.a), .slice none 0 0] 36 (0, 0))) :
    W.cell? ⟨b, 0, none⟩ = some (.int .i8 x.k) ∧ W.cell? ⟨b, 1, none⟩ = some (.string (bs x.t)) ∧ W.cell? ⟨b, 2, none⟩ = some (.int .i64 0) ∧ W.cell? ⟨b, 3, none⟩ = some (.string (bs x.m)) ∧ W.cell? ⟨b, 4, none⟩ = some (.string (bs x.a)) ∧ W.cell? ⟨b, 5, none⟩ = some (.slice none 0 0) :=
  ⟨cell_of_row _ _ 0 _ _ (0, 0) h, cell_of_row _ _ 1 _ _ (0, 0) h, cell_of_row _ _ 2 _ _ (0, 0) h, cell_of_row _ _ 3 _ _ (0, 0) h, cell_of_row _ _ 4 _ _ (0, 0) h, cell_of_row _ _ 5 _ _ (0, 0) h⟩

/-- The law's early ways: one of the two texts is too long, or a $ ends the first one. -/
def early (s t : ByteArray) : Prop := 1000 < s.size ∨ 1000 < t.size ∨ s.data.toList.getLast? = some 36

set_option maxRecDepth 100000 in
set_option maxHeartbeats 8000000 in
theorem subJoin_early (s t : ByteArray) (w : World) (hE : Env w) (hs : s.size ≤ maxLen) (ht : t.size ≤ maxLen) (h : early s t) : Calls Tryd.prog 7 #[.string s, .string t] w fun e w' => e = .returned (.bool true) ∧ Below w.heap.size w w' := by
  have HW := Lib.hid (wakes_any w hE)
  unfold maxLen at hs ht
  clear hE
  by_cases h1 : 1000 < s.size
  · have hc : (1000 : Int) < (s.size : Int) := by omega
    clear h
    go_enter Tryd.func7, Tryd.ntmps7
    go_wp2_with (go_at_call 8; refine HW.out.mono ?_; rintro e w5 ⟨rfl, hb5⟩)
    go_ret
    exact ⟨rfl, hb5⟩
  by_cases h2 : 1000 < t.size
  · have hc : ¬ (1000 : Int) < (s.size : Int) := by omega
    have hc2 : (1000 : Int) < (t.size : Int) := by omega
    clear h
    go_enter Tryd.func7, Tryd.ntmps7
    go_wp2_with (go_at_call 8; refine HW.out.mono ?_; rintro e w5 ⟨rfl, hb5⟩)
    go_ret
    exact ⟨rfl, hb5⟩
  have h3 : s.data.toList.getLast? = some 36 := (h.resolve_left h1).resolve_left h2
  obtain ⟨n, hn⟩ : ∃ n, s.size = n + 1 := ⟨s.size - 1, by
    have : s.data.toList ≠ [] := fun e => by rw [e] at h3; cases h3
    have := List.length_pos_iff.2 this
    rw [toList_length] at this; omega⟩
  have h36 : s[n]'(by omega) = 36 := by
    rw [List.getLast?_eq_getElem?, toList_length, hn, Nat.add_sub_cancel, toList_getElem s n (by omega)] at h3
    exact Option.some.inj h3
  have hq : ((((s[n]'(by omega)).toNat : Nat) : Int) == 36) = true := by rw [h36]; rfl
  have hc : ¬ (1000 : Int) < (s.size : Int) := by omega
  have hc2 : ¬ (1000 : Int) < (t.size : Int) := by omega
  have hc3 : (0 : Int) < (s.size : Int) := by omega
  have hi1 : (0 : Int) ≤ (s.size : Int) - 1 := by omega
  have hi2 : (s.size : Int) - 1 < (s.size : Int) := by omega
  have hi3 : ((s.size : Int) - 1).toNat = n := by omega
  have hnl : n < s.size := by omega
  clear h h3 h36
  go_enter Tryd.func7, Tryd.ntmps7
  go_wp2_with (go_at_call 8; refine HW.out.mono ?_; rintro e w5 ⟨rfl, hb5⟩)
  go_ret
  exact ⟨rfl, hb5⟩

set_option maxRecDepth 100000 in
set_option maxHeartbeats 8000000 in
theorem subJoin_no (s t : ByteArray) (w : World) (hs : s.size ≤ 1000) (ht : t.size ≤ 1000) (hcase : s.size = 0 ∨ ∃ n, ∃ h : n < s.size, s.size = n + 1 ∧ ((((s[n]'h).toNat : Nat) : Int) == 36) = false)
    (HW : Hid (∀ W, Hid (Below w.heap.size w W) → Calls Tryd.prog 8 #[] W fun e w' => e = .returned (.bool true) ∧ Below W.heap.size W w'))
    (As At Ast : List X × Nat × Nat)
    (HS : Hid (Calls Tryd.prog 9 #[.string s] w fun e w' => ∃ v, e = .returned (.tuple #[v, .int .i64 As.2.1, .int .i64 As.2.2]) ∧ isXr w' As.1 v ∧ Below w.heap.size w w'))
    (HT : Hid (∀ W, Hid (Below w.heap.size w W) → Calls Tryd.prog 9 #[.string t] W fun e w' => ∃ v, e = .returned (.tuple #[v, .int .i64 At.2.1, .int .i64 At.2.2]) ∧ isXr w' At.1 v ∧ Below W.heap.size W w'))
    (HST : Hid (∀ W, Hid (Below w.heap.size w W) → Calls Tryd.prog 9 #[.string (s ++ t)] W fun e w' => ∃ v, e = .returned (.tuple #[v, .int .i64 Ast.2.1, .int .i64 Ast.2.2]) ∧ isXr w' Ast.1 v ∧ Below W.heap.size W w'))
    (hno : As.2.2 ≠ 0) :
    Calls Tryd.prog 7 #[.string s, .string t] w fun e w' => e = .returned (.bool true) ∧ Below w.heap.size w w' := by
  have hc1 : ¬ (1000 : Int) < (s.size : Int) := by omega
  have hc2 : ¬ (1000 : Int) < (t.size : Int) := by omega
  have hsum : s.size + t.size ≤ 9223372036854775807 := by omega
  obtain ⟨As1, as2, as3⟩ := As
  obtain ⟨At1, at2, at3⟩ := At
  obtain ⟨Ast1, st2, st3⟩ := Ast
  simp only at HS HT HST hno
  have hno0 : (((as3 : Nat) : Int) == 0) = false := intNe (b := 0) hno
  have hne : (((as3 : Nat) : Int) != 0) = true := by rw [bne, hno0]; rfl
  rcases hcase with h0 | ⟨n, hn, hn1, hq⟩
  all_goals first
    | (have hc3 : ¬ (0 : Int) < (s.size : Int) := by omega)
    | (have hc3 : (0 : Int) < (s.size : Int) := by omega
       have hi1 : (0 : Int) ≤ (s.size : Int) - 1 := by omega
       have hi2 : (s.size : Int) - 1 < (s.size : Int) := by omega
       have hi3 : ((s.size : Int) - 1).toNat = n := by omega)
  all_goals
    go_enter Tryd.func7, Tryd.ntmps7
    go_wp2_with fail
    go_at_call 9
    refine HS.out.mono ?_
    rintro e w1 ⟨v1, rfl, hx1, hb1⟩
    have HB1 := Lib.hid hb1
    have HX1 := Lib.hid hx1
    clear hb1 hx1
    go_wp2_with fail
    go_at_call 9
    refine (HT.out w1 HB1).mono ?_
    rintro e w2 ⟨v2, rfl, hx2, hb2⟩
    have HB2 := Lib.hid (HB1.out.trans (hb2.mono HB1.out.size))
    have HX1b := Lib.hid (HX1.out.below hb2)
    have HX2 := Lib.hid hx2
    clear hb2 hx2 HX1 HB1
    go_wp2_with fail
    go_at_call 9
    refine (HST.out w2 HB2).mono ?_
    rintro e w3 ⟨v3, rfl, hx3, hb3⟩
    have HB3 := Lib.hid (HB2.out.trans (hb3.mono HB2.out.size))
    have HX1 := Lib.hid (HX1b.out.below hb3)
    have HX2c := Lib.hid (HX2.out.below hb3)
    have HX3 := Lib.hid hx3
    clear hb3 hx3 HX1b HX2 HB2
    go_wp2_with (go_at_call 8; refine (HW.out _ HB3).mono ?_; rintro e w9 ⟨rfl, hb9⟩)
    go_ret
    exact ⟨rfl, HB3.out.trans (hb9.mono HB3.out.size)⟩

set_option maxRecDepth 100000 in
set_option maxHeartbeats 8000000 in
theorem subJoin_bad (s t : ByteArray) (w : World) (hs : s.size ≤ 1000) (ht : t.size ≤ 1000) (hcase : s.size = 0 ∨ ∃ n, ∃ h : n < s.size, s.size = n + 1 ∧ ((((s[n]'h).toNat : Nat) : Int) == 36) = false)
    (HW : Hid (∀ W, Hid (Below w.heap.size w W) → Calls Tryd.prog 8 #[] W fun e w' => e = .returned (.bool true) ∧ Below W.heap.size W w'))
    (l : List X) (r : Nat) (hr : r ≤ 1000) (At Ast : List X × Nat × Nat)
    (HS : Hid (Calls Tryd.prog 9 #[.string s] w fun e w' => ∃ v, e = .returned (.tuple #[v, .int .i64 0, .int .i64 0]) ∧ isXr w' l v ∧ Below w.heap.size w w'))
    (HT : Hid (∀ W, Hid (Below w.heap.size w W) → Calls Tryd.prog 9 #[.string t] W fun e w' => ∃ v, e = .returned (.tuple #[v, .int .i64 At.2.1, .int .i64 At.2.2]) ∧ isXr w' At.1 v ∧ Below W.heap.size W w'))
    (HST : Hid (∀ W, Hid (Below w.heap.size w W) → Calls Tryd.prog 9 #[.string (s ++ t)] W fun e w' => ∃ v, e = .returned (.tuple #[v, .int .i64 Ast.2.1, .int .i64 Ast.2.2]) ∧ isXr w' Ast.1 v ∧ Below W.heap.size W w'))
    (hbad : At = ([], 0, 10) ∨ (At = ([], r, 130) ∧ Ast = ([], r + s.size, 130))) :
    Calls Tryd.prog 7 #[.string s, .string t] w fun e w' => e = .returned (.bool true) ∧ Below w.heap.size w w' := by
  have hc1 : ¬ (1000 : Int) < (s.size : Int) := by omega
  have hc2 : ¬ (1000 : Int) < (t.size : Int) := by omega
  have hsum : s.size + t.size ≤ 9223372036854775807 := by omega
  obtain ⟨Ast1, st2, st3⟩ := Ast
  have hrs : ((r : Int) + (s.size : Int)) ≤ 9223372036854775807 := by omega
  rcases hbad with rfl | ⟨rfl, h2⟩
  · simp only at HT HST
    rcases hcase with h0 | ⟨n, hn, hn1, hq⟩
    all_goals first
      | (have hc3 : ¬ (0 : Int) < (s.size : Int) := by omega)
      | (have hc3 : (0 : Int) < (s.size : Int) := by omega
         have hi1 : (0 : Int) ≤ (s.size : Int) - 1 := by omega
         have hi2 : (s.size : Int) - 1 < (s.size : Int) := by omega
         have hi3 : ((s.size : Int) - 1).toNat = n := by omega)
    all_goals
      go_enter Tryd.func7, Tryd.ntmps7
      go_wp2_with fail
      go_at_call 9
      refine HS.out.mono ?_
      rintro e w1 ⟨v1, rfl, hx1, hb1⟩
      have HB1 := Lib.hid hb1
      have HX1 := Lib.hid hx1
      clear hb1 hx1
      go_wp2_with fail
      go_at_call 9
      refine (HT.out w1 HB1).mono ?_
      rintro e w2 ⟨v2, rfl, hx2, hb2⟩
      have HB2 := Lib.hid (HB1.out.trans (hb2.mono HB1.out.size))
      have HX1b := Lib.hid (HX1.out.below hb2)
      have HX2 := Lib.hid hx2
      clear hb2 hx2 HX1 HB1
      go_wp2_with fail
      go_at_call 9
      refine (HST.out w2 HB2).mono ?_
      rintro e w3 ⟨v3, rfl, hx3, hb3⟩
      have HB3 := Lib.hid (HB2.out.trans (hb3.mono HB2.out.size))
      have HX1 := Lib.hid (HX1b.out.below hb3)
      have HX2c := Lib.hid (HX2.out.below hb3)
      have HX3 := Lib.hid hx3
      clear hb3 hx3 HX1b HX2 HB2
      go_wp2_with (go_at_call 8; refine (HW.out _ HB3).mono ?_; rintro e w9 ⟨rfl, hb9⟩)
      go_ret
      exact ⟨rfl, HB3.out.trans (hb9.mono HB3.out.size)⟩
  · cases h2
    simp only at HT HST
    rcases hcase with h0 | ⟨n, hn, hn1, hq⟩
    all_goals first
      | (have hc3 : ¬ (0 : Int) < (s.size : Int) := by omega)
      | (have hc3 : (0 : Int) < (s.size : Int) := by omega
         have hi1 : (0 : Int) ≤ (s.size : Int) - 1 := by omega
         have hi2 : (s.size : Int) - 1 < (s.size : Int) := by omega
         have hi3 : ((s.size : Int) - 1).toNat = n := by omega)
    all_goals
      go_enter Tryd.func7, Tryd.ntmps7
      go_wp2_with fail
      go_at_call 9
      refine HS.out.mono ?_
      rintro e w1 ⟨v1, rfl, hx1, hb1⟩
      have HB1 := Lib.hid hb1
      have HX1 := Lib.hid hx1
      clear hb1 hx1
      go_wp2_with fail
      go_at_call 9
      refine (HT.out w1 HB1).mono ?_
      rintro e w2 ⟨v2, rfl, hx2, hb2⟩
      have HB2 := Lib.hid (HB1.out.trans (hb2.mono HB1.out.size))
      have HX1b := Lib.hid (HX1.out.below hb2)
      have HX2 := Lib.hid hx2
      clear hb2 hx2 HX1 HB1
      go_wp2_with fail
      go_at_call 9
      refine (HST.out w2 HB2).mono ?_
      rintro e w3 ⟨v3, rfl, hx3, hb3⟩
      have HB3 := Lib.hid (HB2.out.trans (hb3.mono HB2.out.size))
      have HX1 := Lib.hid (HX1b.out.below hb3)
      have HX2c := Lib.hid (HX2.out.below hb3)
      have HX3 := Lib.hid hx3
      clear hb3 hx3 HX1b HX2 HB2
      go_wp2_with (go_at_call 8; refine (HW.out _ HB3).mono ?_; rintro e w9 ⟨rfl, hb9⟩)
      go_ret
      exact ⟨rfl, HB3.out.trans (hb9.mono HB3.out.size)⟩
end Go.Proofs.YtjnoomefppncoaaDoor
