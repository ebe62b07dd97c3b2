/-
  The reference's SameAll at two rows that read as the same parts.
-/
import Derived.Test.YtjnoomefppncoaaDoorLh
set_option linter.unusedVariables false
namespace Go.Proofs.YtjnoomefppncoaaDoor
open Go.RowKit Go.Shelf

set_option maxRecDepth 100000 in
set_option maxHeartbeats 4000000 in
theorem sameNil_any (o o' : Option Addr) (c c' : Nat) (w : World) : Calls Tryd.prog 11 #[.slice o 0 c, .slice o' 0 c'] w fun e w' => e = .returned (.bool true) ∧ w = w' := by
  go_enter Tryd.func11, Tryd.ntmps11
  go_wp2_with fail
  go_loop [5] (fun i => i = .int .i64 0) (fun _ => 0)
  case atStart => rfl
  case round =>
    obtain rfl := hrel
    go_wp2_with fail
    go_ret
    exact ⟨rfl, rfl⟩
set_option maxRecDepth 100000 in
set_option maxHeartbeats 4000000 in
theorem same_any (k n : Int) (t m a : ByteArray) (o o' : Option Addr) (c c' : Nat) (w : World) : Calls Tryd.prog 24 #[.agg #[.int .i8 k, .string t, .int .i64 n, .string m, .string a, .slice o 0 c], .agg #[.int .i8 k, .string t, .int .i64 n, .string m, .string a, .slice o' 0 c']] w fun e w' => e = .returned (.bool true) ∧ Below w.heap.size w w' := by
  go_enter Tryd.func24, Tryd.ntmps24
  go_wp2_with (go_at_call 11; refine (sameNil_any _ _ _ _ _).mono ?_; rintro e w5 ⟨rfl, rfl⟩)
  go_ret
  exact ⟨rfl, ((Below.refl _ _).alloc (Nat.le_refl _) _).alloc (by simp) _⟩

set_option maxRecDepth 100000 in
set_option maxHeartbeats 4000000 in
theorem sameAll_any (l : List X) (v v' : Value) (w : World) (h : isXr w l v) (h' : isXr w l v') : Calls Tryd.prog 11 #[v, v'] w fun e w' => e = .returned (.bool true) ∧ Below w.heap.size w w' := by
  obtain ⟨o, g, c, rfl, hc1, hc2, hc3, hc4⟩ := h
  obtain ⟨o', g', c', rfl, hd1, hd2, hd3, hd4⟩ := h'
  have hll : l.length ≤ 9223372036854775807 := by unfold maxLen at hc2; omega
  have HC := Lib.hid (And.intro hc3 hc4)
  have HD := Lib.hid (And.intro hd3 hd4)
  clear hc3 hc4 hd3 hd4
  go_enter Tryd.func11, Tryd.ntmps11
  go_wp2_with fail
  go_loopw [5] (fun iv wr => ∃ j : Nat, j ≤ l.length ∧ iv = .int .i64 j ∧ Hid (Below w.heap.size w wr)) (fun iv _ => l.length - (intOf iv).toNat)
  case atStart => exact ⟨0, Nat.zero_le _, rfl, Lib.hid (Below.refl _ _)⟩
  case round =>
    obtain ⟨j, hj, rfl, hbr⟩ := hrel
    by_cases hlt : j < l.length
    · obtain rfl := HC.out.1 (by omega)
      obtain rfl := HD.out.1 (by omega)
      have lift : ∀ b q u, w.cell? ⟨b, q, none⟩ = some u → wr.cell? ⟨b, q, none⟩ = some u := fun b q u h => (hbr.out.cell (p := ⟨b, q, none⟩) (World.block_lt_of_cell? w _ h)).trans h
      obtain ⟨x0, x1, x2, x3, x4, x5⟩ := xr_six (fun i u hi => lift _ _ _ (HC.out.2 i u hi)) j hlt
      obtain ⟨y0, y1, y2, y3, y4, y5⟩ := xr_six (fun i u hi => lift _ _ _ (HD.out.2 i u hi)) j hlt
      have hlti : (j : Int) < (l.length : Int) := by omega
      clear lift
      generalize l[j] = x at *
      have hSA := fun W => same_any x.k 0 (bs x.t) (bs x.m) (bs x.a) none none 0 0 W
      have HSA := Lib.hid hSA
      clear hSA
      go_wp2_with fail
      go_region_with (go_at_call 24; refine (HSA.out _).mono ?_; rintro e w5 ⟨rfl, hb5⟩)
      all_goals
        go_wp2_with fail
        go_roundw
        case rel => exact ⟨j + 1, by omega, by go_num, Lib.hid (hbr.out.trans ((show Below wr.heap.size wr w5 from ⟨hb5.os, hb5.tape, hb5.output, hb5.size, hb5.block⟩).mono hbr.out.size))⟩
        case measure => simp [intOf]; omega
    · obtain rfl : j = l.length := by omega
      go_wp2_with fail
      go_ret
      exact ⟨rfl, hbr.out⟩
end Go.Proofs.YtjnoomefppncoaaDoor
