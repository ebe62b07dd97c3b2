/-
  FrameTells: the walk.
-/
import Derived.Test.YtjpkokmokdaddaaGo
set_option linter.unusedVariables false
namespace Go.Proofs.Ytjpkokmokdaddaa
open Go.RowKit Go.Shelf Go.Lib Go.Deep

set_option maxRecDepth 100000 in
set_option maxHeartbeats 4000000 in
theorem tells_walk (v : Value) (x : List UInt8) (n : Int) (w : World) (hx0 : rd w x v ∧ fit v) {p : Prop} (hp : p) : Calls Try.prog 3 #[v, .int .i64 n] w fun e w' => e = .returned (.bool true) ∧ Below w.heap.size w w' := by
  obtain ⟨hx, _⟩ := hx0
  obtain ⟨o, c, rfl, hc1, hc2⟩ := hx.form
  by_cases hlen : 2000 < x.length
  · have t1 : decide ((2000 : Int) < (x.length : Int)) = true := decide_eq_true (by omega)
    have t1' : decide (2000 < x.length) = true := decide_eq_true hlen
    clear hx hc1 hc2 hlen
    go_enter Try.func3, Try.ntmps3
    go_wp2_with (go_at_call 9; refine (wakes_hid w _ (Below.refl _ _)).mono ?_; rintro e w1 ⟨rfl, HB⟩)
    go_ret
    exact ⟨rfl, HB.out⟩
  · have t1 : decide ((2000 : Int) < (x.length : Int)) = false := decide_eq_false (by omega)
    have t1' : decide (2000 < x.length) = false := decide_eq_false hlen
    have HX := Lib.hid hx
    have HF1 := Lib.hid (pframe_any x _ w hx)
    have HF2 : Hid (∀ W, Below w.heap.size w W → Calls Try.prog 11 #[.slice o x.length c] W fun e w' => ∃ o c, e = .returned (.tuple #[.slice o (frB x).length c, .int .i64 (frE x)]) ∧ Hid (ow W.heap.size w' (.slice o (frB x).length c) (frB x) ∧ Below W.heap.size W w')) := Lib.hid fun W hW => rframe_any x _ W (hx.below hW)
    have HS1 : Hid (∀ W, Calls Try.prog 12 #[.int .i64 n] W fun e w' => e = .returned (.int .i64 (sizeF n)) ∧ W = w') := Lib.hid (psize_any n)
    have HS2 : Hid (∀ W, Calls Try.prog 13 #[.int .i64 n] W fun e w' => e = .returned (.int .i64 (sizeF n)) ∧ W = w') := Lib.hid (rsize_any n)
    generalize frB x = F at *
    generalize frE x = E at *
    generalize sizeF n = s at *
    clear hx hc1 hc2 hlen
    go_enter Try.func3, Try.ntmps3
    go_wp2_with (go_at_call 10; refine HF1.out.mono ?_)
    rintro e w1 ⟨o1, c1, rfl, hq1⟩
    have HB1 := Lib.hid hq1.out.2
    have HO1 := Lib.hid hq1.out.1.rd
    clear hq1 HF1
    go_wp2_with (go_at_call 11; refine (HF2.out w1 HB1.out).mono ?_)
    rintro e w2 ⟨o2, c2, rfl, hq2⟩
    have HB2 := Lib.hid (HB1.out.trans (hq2.out.2.mono HB1.out.size))
    have hcv1 := run_strF w2 _ _ _ _ (HO1.out.below hq2.out.2)
    have hcv2 := run_strF w2 _ _ _ _ hq2.out.1.rd
    clear hq2 HF2 HO1 HB1
    go_wp2_with first
      | (go_at_call 12; refine (HS1.out _).mono ?_; rintro e w0 ⟨rfl, rfl⟩)
      | (go_at_call 13; refine (HS2.out _).mono ?_; rintro e w0 ⟨rfl, rfl⟩)
      | (go_at_call 9; refine (wakes_hid w _ HB2.out).mono ?_; rintro e w1 ⟨rfl, HB⟩)
    go_ret
    exact ⟨rfl, HB.out⟩
end Go.Proofs.Ytjpkokmokdaddaa
