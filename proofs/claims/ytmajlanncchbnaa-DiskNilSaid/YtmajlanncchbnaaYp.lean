/-
  The statement on no disk: the call returns true and writes nothing that was there.
-/
import Derived.Test.YtmajlanncchbnaaYo
set_option linter.unusedVariables false
namespace Go.Proofs.Ytmajlanncchbnaa
open Go.RowKit Go.Shelf Go.Lib Go.Deep

def HoldC (p : Prop) : Prop := p
theorem holdC {p : Prop} (h : HoldC p) : p := h
set_option maxRecDepth 100000 in
set_option maxHeartbeats 4000000 in
theorem diskNil_walk (X : AC) (c1 : Value) (w : World) (hx : rd w X.b c1) :
    Calls Try.prog 4 #[.agg #[.int .i64 X.d, c1, .int .i64 X.n]] w fun e w' => e = .returned (.bool true) ∧ Below w.heap.size w w' := by
  have HW : Hid (∀ w1, Below w.heap.size w w1 → Calls Try.prog 8 #[] w1 fun e w' => e = .returned (.bool true) ∧ Hid (Below w.heap.size w w')) := Lib.hid fun w1 hb => (wakes_any w1).mono (by
    rintro e w' ⟨rfl, h⟩
    exact ⟨rfl, Lib.hid (hb.trans (h.mono hb.size))⟩)
  obtain ⟨o, a, c, rfl, h1, h2, _⟩ := id hx
  by_cases hl : 1048576 < X.b.length
  · have ht : decide ((1048576 : Int) < (X.b.length : Int)) = true := decide_eq_true (by omega)
    have ht2 : decide (1048576 < X.b.length) = true := decide_eq_true hl
    clear hx hl h1 h2
    go_enter Try.func4, Try.ntmps4
    go_wp2_with (go_at_call 8; refine (HW.out _ (by go_grown)).mono ?_)
    rintro e w2 ⟨rfl, hq⟩
    go_wp2_with fail
    go_ret
    exact ⟨rfl, hq.out⟩
  · have ht : decide ((1048576 : Int) < (X.b.length : Int)) = false := decide_eq_false (by omega)
    have ht2 : decide (1048576 < X.b.length) = false := decide_eq_false hl
    have HX := Lib.hid hx
    have hB : Below w.heap.size w (w.alloc (.cells #[.int .i64 X.d, .slice o X.b.length c, .int .i64 X.n] 31)) := (Below.refl _ _).alloc (Nat.le_refl _) _
    have hn : (w.alloc (.cells #[.int .i64 X.d, .slice o X.b.length c, .int .i64 X.n] 31)).heap[w.heap.size]? = some (.cells #[.int .i64 X.d, .slice o X.b.length c, .int .i64 X.n] 31 (0, 0)) := heap_alloc_new w _
    have hrd := hx.below hB
    clear hx hl h1 h2
    go_enter Try.func4, Try.ntmps4
    go_wp2_with (go_at_call 16; refine holdC ?_)
    generalize w.alloc (.cells #[.int .i64 X.d, .slice o X.b.length c, .int .i64 X.n] 31) = W1 at *
    have CELLS : Hid (∀ w2, Hid (Below W1.heap.size W1 w2) → w2.cell? ⟨w.heap.size, 0, none⟩ = some (.int .i64 X.d) ∧ w2.cell? ⟨w.heap.size, 1, none⟩ = some (.slice o X.b.length c) ∧ w2.cell? ⟨w.heap.size, 2, none⟩ = some (.int .i64 X.n)) := Lib.hid fun w2 hb => by
      have := (hb.out.block _ (Array.getElem?_eq_some_iff.1 hn).1).trans hn
      exact ⟨by simp [World.cell?, this], by simp [World.cell?, this], by simp [World.cell?, this]⟩
    have K : ∀ {f : Nat} {args : Array Value} {v : Value}, (∀ w2, rd w2 X.b (.slice o X.b.length c) → Calls Try.prog f args w2 fun e w' => e = .returned v ∧ Below w2.heap.size w2 w') → Hid (∀ w2, Hid (Below W1.heap.size W1 w2) → Calls Try.prog f args w2 fun e w' => e = .returned v ∧ Hid (Below W1.heap.size W1 w')) := fun hc => Lib.hid fun w2 hb => (hc w2 (hrd.below hb.out)).mono (by
      rintro e w' ⟨rfl, h⟩
      exact ⟨rfl, Lib.hid (hb.out.trans (h.mono hb.out.size))⟩)
    have Q : ∀ {f : Nat} {args : Array Value} {v : Value}, (∀ w2, Calls Try.prog f args w2 fun e w' => e = .returned v ∧ w2 = w') → Hid (∀ w2, Hid (Below W1.heap.size W1 w2) → Calls Try.prog f args w2 fun e w' => e = .returned v ∧ w2 = w') := fun hc => Lib.hid fun w2 hb => hc w2
    have C1 := K (fun w2 _ => bytes_nil w2)
    have C2 := K (fun w2 h => append_nil w2 h)
    have C3 := K (fun w2 h => swap_nil w2 h)
    have C4 := K (fun w2 _ => cut_nil X.n w2)
    have C5 := K (fun w2 _ => arm_nil X.n w2)
    have C6 := K (fun w2 _ => crash_nil w2)
    have C7 := Q up_nil
    have C8 := Q down_nil
    have C9 := Q len_nil
    have C10 := Q copy_nil
    have C11 := K (fun w2 _ => wakes_any w2)
    have HB := Lib.hid hB
    have k0 : Hid (Below W1.heap.size W1 W1) := Lib.hid (Below.refl _ _)
    clear K Q hrd hn hB HW HX
    unfold HoldC
    refine (C1.out _ k0).mono ?_
    rintro e w2 ⟨rfl, k1⟩
    obtain ⟨x0, x1, x2⟩ := CELLS.out _ k1
    go_wp2_with fail
    clear x0 x1 x2
    refine (C2.out _ k1).mono ?_
    rintro e w3 ⟨rfl, k2⟩
    obtain ⟨x0, x1, x2⟩ := CELLS.out _ k2
    go_wp2_with fail
    clear x0 x1 x2
    refine (C3.out _ k2).mono ?_
    rintro e w4 ⟨rfl, k3⟩
    obtain ⟨x0, x1, x2⟩ := CELLS.out _ k3
    go_wp2_with fail
    clear x0 x1 x2
    refine (C4.out _ k3).mono ?_
    rintro e w5 ⟨rfl, k4⟩
    obtain ⟨x0, x1, x2⟩ := CELLS.out _ k4
    go_wp2_with fail
    clear x0 x1 x2
    refine (C5.out _ k4).mono ?_
    rintro e w6 ⟨rfl, k5⟩
    obtain ⟨x0, x1, x2⟩ := CELLS.out _ k5
    go_wp2_with fail
    clear x0 x1 x2
    refine (C6.out _ k5).mono ?_
    rintro e w7 ⟨rfl, k6⟩
    obtain ⟨x0, x1, x2⟩ := CELLS.out _ k6
    go_wp2_with fail
    refine (C7.out _ k6).mono ?_
    rintro e w8 ⟨rfl, rfl⟩
    go_wp2_with fail
    refine (C8.out _ k6).mono ?_
    rintro e w9 ⟨rfl, rfl⟩
    go_wp2_with fail
    refine (C9.out _ k6).mono ?_
    rintro e w10 ⟨rfl, rfl⟩
    go_wp2_with fail
    refine (C10.out _ k6).mono ?_
    rintro e w11 ⟨rfl, rfl⟩
    go_wp2_with fail
    refine (C11.out _ k6).mono ?_
    rintro e w12 ⟨rfl, k12⟩
    go_wp2_with fail
    go_ret
    exact ⟨rfl, HB.out.trans (k12.out.mono HB.out.size)⟩
end Go.Proofs.Ytmajlanncchbnaa
