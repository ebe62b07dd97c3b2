/-
  The statement SubBack, walked.
-/
import Derived.Test.YtjnoomefppncoaaDoorMo
import Derived.Test.YtjnoomefppncoaaDoorLk
import Derived.Test.YtjnoomefppncoaaDoorLi
set_option linter.unusedVariables false
namespace Go.Proofs.YtjnoomefppncoaaDoor
open Go.RowKit Go.Shelf

/-- Lex of s told as parts, without a fault. -/
def LexG (xs : List X) (W : World) (e : Ending) (w' : World) : Prop := ∃ v, e = .returned (.tuple #[v, .int .i64 0, .int .i64 0]) ∧ isXr w' xs v ∧ Below W.heap.size W w'
def LexN (W : World) (e : Ending) (w' : World) : Prop := ∃ (v : Value) (a n : Int), e = .returned (.tuple #[v, .int .i64 a, .int .i64 n]) ∧ (n == 0) = false ∧ Below W.heap.size W w'
def RetC (r : Value) (W : World) (e : Ending) (w' : World) : Prop := e = .returned r ∧ Below W.heap.size W w'
/-- What Write and then Lex tell of the expressions. -/
def FirstH (l : List E) (v : Value) (w1 : World) : Prop :=
  (∃ (u : ByteArray) (n : Int), (n == 0) = false ∧ Calls Tryd.prog 17 #[v] w1 (RetC (.tuple #[.string u, .int .i64 n]) w1)) ∨
  (∃ u : ByteArray, ¬ (u.size : Int) ≤ 4096 ∧ Calls Tryd.prog 17 #[v] w1 (RetC (.tuple #[.string u, .int .i64 0]) w1)) ∨
  (∃ u : ByteArray, (u.size : Int) ≤ 4096 ∧ Calls Tryd.prog 17 #[v] w1 (RetC (.tuple #[.string u, .int .i64 0]) w1) ∧
    (∀ W, Hid (Below w1.heap.size w1 W) → Calls Tryd.prog 9 #[.string u] W (LexG (l.map toX) W)) ∧
    (∀ W v', Hid (Below w1.heap.size w1 W) → Hid (isXr W (l.map toX) v') → Calls Tryd.prog 11 #[v', v] W (RetC (.bool true) W)))
def SecondH (s : ByteArray) (w : World) : Prop :=
  (∀ W, Hid (Below w.heap.size w W) → Calls Tryd.prog 9 #[.string s] W (LexN W)) ∨
  (∃ xs : List X, (∀ W, Hid (Below w.heap.size w W) → Calls Tryd.prog 9 #[.string s] W (LexG xs W)) ∧
    (∀ W v, Hid (Below w.heap.size w W) → Hid (isXr W xs v) → Calls Tryd.prog 17 #[v] W (RetC (.tuple #[.string s, .int .i64 0]) W)) ∧
    (∀ W v v', Hid (isXr W xs v) → Hid (isXr W xs v') → Calls Tryd.prog 11 #[v, v'] W (RetC (.bool true) W)))

set_option maxRecDepth 100000 in
set_option maxHeartbeats 8000000 in
theorem subBack_core (l : List E) (v : Value) (s : ByteArray) (w : World) (hs : s.size ≤ 1500)
    (HG : Hid (Calls Tryd.prog 16 #[v] w (GreatR l w)))
    (HF : Hid (∀ w1, Hid (Below w.heap.size w w1) → (l.length ≤ 200 ∧ ∀ x ∈ l, smallE x) → FirstH l v w1))
    (HD : Hid (SecondH s w))
    (HW : Hid (∀ W, Hid (Below w.heap.size w W) → Calls Tryd.prog 8 #[] W fun e w' => e = .returned (.bool true) ∧ Below W.heap.size W w')) :
    Calls Tryd.prog 5 #[v, .string s] w fun e w' => e = .returned (.bool true) ∧ Below w.heap.size w w' := by
  have hc : ¬ (1500 : Int) < (s.size : Int) := by omega
  have hc4 : ¬ (4096 : Int) < (s.size : Int) := by omega
  clear hs
  go_enter Tryd.func5, Tryd.ntmps5
  go_wp2_with fail
  go_at_call 16
  refine HG.out.mono ?_
  rintro e w1 ⟨r, rfl, hr, hb1⟩
  have HB1 := Lib.hid hb1
  have HR := Lib.hid hr
  clear hb1 hr HG
  cases r with
  | true =>
    go_wp2_with (go_at_call 8; refine (HW.out _ HB1).mono ?_; rintro e w6 ⟨rfl, hb6⟩)
    go_ret
    exact ⟨rfl, HB1.out.trans (hb6.mono HB1.out.size)⟩
  | false =>
    have hF := HF.out w1 HB1 (HR.out rfl)
    clear HR HF
    rcases hF with ⟨u, n, hn, hw⟩ | ⟨u, hn, hw⟩ | ⟨u, hn, hw, hl, hsa⟩
    · have HWR := Lib.hid hw
      clear hw
      go_wp2_with fail
      go_at_call 17
      refine HWR.out.mono ?_
      rintro e w4 ⟨rfl, hb4⟩
      have HB4 := Lib.hid (HB1.out.trans (hb4.mono HB1.out.size))
      clear hb4 HWR
      go_wp2_with fail
      rcases HD.out with hbad | ⟨xs, hl, hw, hsa⟩
      · have HX := Lib.hid hbad
        clear hbad HD
        go_at_call 9
        refine (HX.out _ HB4).mono ?_
        rintro e w5 ⟨v5, a5, n5, rfl, hn5, hb5⟩
        have HB5 := Lib.hid (HB4.out.trans (hb5.mono HB4.out.size))
        clear hb5 HX HB4
        go_wp2_with (go_at_call 8; refine (HW.out _ HB5).mono ?_; rintro e w6 ⟨rfl, hb6⟩)
        go_ret
        exact ⟨rfl, HB5.out.trans (hb6.mono HB5.out.size)⟩
      · have HLX := Lib.hid hl
        have HWR := Lib.hid hw
        have HSA := Lib.hid hsa
        clear hl hw hsa HD
        go_at_call 9
        refine (HLX.out _ HB4).mono ?_
        rintro e w5 ⟨v5, rfl, hx5, hb5⟩
        have HX5 := Lib.hid hx5
        have HB5 := Lib.hid (HB4.out.trans (hb5.mono HB4.out.size))
        clear hb5 hx5 HB4
        go_wp2_with fail
        go_at_call 17
        refine (HWR.out _ _ HB5 HX5).mono ?_
        rintro e w6 ⟨rfl, hb6⟩
        have HX6 := Lib.hid (HX5.out.below hb6)
        have HB6 := Lib.hid (HB5.out.trans (hb6.mono HB5.out.size))
        clear hb6 HX5 HB5
        go_wp2_with fail
        go_at_call 9
        refine (HLX.out _ HB6).mono ?_
        rintro e w7 ⟨v7, rfl, hx7, hb7⟩
        have HX7 := Lib.hid hx7
        have HX6b := Lib.hid (HX6.out.below hb7)
        have HB7 := Lib.hid (HB6.out.trans (hb7.mono HB6.out.size))
        clear hb7 hx7 HX6 HB6 HLX HWR
        go_wp2_with fail
        go_at_call 11
        refine (HSA.out _ _ _ HX7 HX6b).mono ?_
        rintro e w8 ⟨rfl, hb8⟩
        have HB8 := Lib.hid (HB7.out.trans (hb8.mono HB7.out.size))
        clear hb8 HX7 HX6b HB7 HSA
        go_wp2_with (go_at_call 8; refine (HW.out _ HB8).mono ?_; rintro e w9 ⟨rfl, hb9⟩)
        go_ret
        exact ⟨rfl, HB8.out.trans (hb9.mono HB8.out.size)⟩
    · have HWR := Lib.hid hw
      clear hw
      go_wp2_with fail
      go_at_call 17
      refine HWR.out.mono ?_
      rintro e w4 ⟨rfl, hb4⟩
      have HB4 := Lib.hid (HB1.out.trans (hb4.mono HB1.out.size))
      clear hb4 HWR
      go_wp2_with fail
      rcases HD.out with hbad | ⟨xs, hl, hw, hsa⟩
      · have HX := Lib.hid hbad
        clear hbad HD
        go_at_call 9
        refine (HX.out _ HB4).mono ?_
        rintro e w5 ⟨v5, a5, n5, rfl, hn5, hb5⟩
        have HB5 := Lib.hid (HB4.out.trans (hb5.mono HB4.out.size))
        clear hb5 HX HB4
        go_wp2_with (go_at_call 8; refine (HW.out _ HB5).mono ?_; rintro e w6 ⟨rfl, hb6⟩)
        go_ret
        exact ⟨rfl, HB5.out.trans (hb6.mono HB5.out.size)⟩
      · have HLX := Lib.hid hl
        have HWR := Lib.hid hw
        have HSA := Lib.hid hsa
        clear hl hw hsa HD
        go_at_call 9
        refine (HLX.out _ HB4).mono ?_
        rintro e w5 ⟨v5, rfl, hx5, hb5⟩
        have HX5 := Lib.hid hx5
        have HB5 := Lib.hid (HB4.out.trans (hb5.mono HB4.out.size))
        clear hb5 hx5 HB4
        go_wp2_with fail
        go_at_call 17
        refine (HWR.out _ _ HB5 HX5).mono ?_
        rintro e w6 ⟨rfl, hb6⟩
        have HX6 := Lib.hid (HX5.out.below hb6)
        have HB6 := Lib.hid (HB5.out.trans (hb6.mono HB5.out.size))
        clear hb6 HX5 HB5
        go_wp2_with fail
        go_at_call 9
        refine (HLX.out _ HB6).mono ?_
        rintro e w7 ⟨v7, rfl, hx7, hb7⟩
        have HX7 := Lib.hid hx7
        have HX6b := Lib.hid (HX6.out.below hb7)
        have HB7 := Lib.hid (HB6.out.trans (hb7.mono HB6.out.size))
        clear hb7 hx7 HX6 HB6 HLX HWR
        go_wp2_with fail
        go_at_call 11
        refine (HSA.out _ _ _ HX7 HX6b).mono ?_
        rintro e w8 ⟨rfl, hb8⟩
        have HB8 := Lib.hid (HB7.out.trans (hb8.mono HB7.out.size))
        clear hb8 HX7 HX6b HB7 HSA
        go_wp2_with (go_at_call 8; refine (HW.out _ HB8).mono ?_; rintro e w9 ⟨rfl, hb9⟩)
        go_ret
        exact ⟨rfl, HB8.out.trans (hb9.mono HB8.out.size)⟩
    · have HWR := Lib.hid hw
      have HLX := Lib.hid hl
      have HSA := Lib.hid hsa
      clear hw hl hsa
      go_wp2_with fail
      go_at_call 17
      refine HWR.out.mono ?_
      rintro e w2 ⟨rfl, hb2⟩
      have HB2 := Lib.hid hb2
      clear hb2 HWR
      go_wp2_with fail
      go_at_call 9
      refine (HLX.out _ HB2).mono ?_
      rintro e w3 ⟨v3, rfl, hx3, hb3⟩
      have HX3 := Lib.hid hx3
      have HB3 := Lib.hid (HB2.out.trans (hb3.mono HB2.out.size))
      clear hx3 hb3 HB2 HLX
      go_wp2_with fail
      go_at_call 11
      refine (HSA.out _ _ HB3 HX3).mono ?_
      rintro e w4 ⟨rfl, hb4⟩
      have HB4 := Lib.hid (HB1.out.trans ((HB3.out.trans (hb4.mono HB3.out.size)).mono HB1.out.size))
      clear hb4 HB3 HX3 HSA
      go_wp2_with fail
      rcases HD.out with hbad | ⟨xs, hl, hw, hsa⟩
      · have HX := Lib.hid hbad
        clear hbad HD
        go_at_call 9
        refine (HX.out _ HB4).mono ?_
        rintro e w5 ⟨v5, a5, n5, rfl, hn5, hb5⟩
        have HB5 := Lib.hid (HB4.out.trans (hb5.mono HB4.out.size))
        clear hb5 HX HB4
        go_wp2_with (go_at_call 8; refine (HW.out _ HB5).mono ?_; rintro e w6 ⟨rfl, hb6⟩)
        go_ret
        exact ⟨rfl, HB5.out.trans (hb6.mono HB5.out.size)⟩
      · have HLX := Lib.hid hl
        have HWR := Lib.hid hw
        have HSA := Lib.hid hsa
        clear hl hw hsa HD
        go_at_call 9
        refine (HLX.out _ HB4).mono ?_
        rintro e w5 ⟨v5, rfl, hx5, hb5⟩
        have HX5 := Lib.hid hx5
        have HB5 := Lib.hid (HB4.out.trans (hb5.mono HB4.out.size))
        clear hb5 hx5 HB4
        go_wp2_with fail
        go_at_call 17
        refine (HWR.out _ _ HB5 HX5).mono ?_
        rintro e w6 ⟨rfl, hb6⟩
        have HX6 := Lib.hid (HX5.out.below hb6)
        have HB6 := Lib.hid (HB5.out.trans (hb6.mono HB5.out.size))
        clear hb6 HX5 HB5
        go_wp2_with fail
        go_at_call 9
        refine (HLX.out _ HB6).mono ?_
        rintro e w7 ⟨v7, rfl, hx7, hb7⟩
        have HX7 := Lib.hid hx7
        have HX6b := Lib.hid (HX6.out.below hb7)
        have HB7 := Lib.hid (HB6.out.trans (hb7.mono HB6.out.size))
        clear hb7 hx7 HX6 HB6 HLX HWR
        go_wp2_with fail
        go_at_call 11
        refine (HSA.out _ _ _ HX7 HX6b).mono ?_
        rintro e w8 ⟨rfl, hb8⟩
        have HB8 := Lib.hid (HB7.out.trans (hb8.mono HB7.out.size))
        clear hb8 HX7 HX6b HB7 HSA
        go_wp2_with (go_at_call 8; refine (HW.out _ HB8).mono ?_; rintro e w9 ⟨rfl, hb9⟩)
        go_ret
        exact ⟨rfl, HB8.out.trans (hb9.mono HB8.out.size)⟩
end Go.Proofs.YtjnoomefppncoaaDoor
