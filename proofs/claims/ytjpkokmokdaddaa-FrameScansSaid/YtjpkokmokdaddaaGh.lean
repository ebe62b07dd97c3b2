/-
  What the statements say of one byte.
-/
import Derived.Test.YtjpkokmokdaddaaGg
set_option linter.unusedVariables false
namespace Go.Proofs.Ytjpkokmokdaddaa
open Go.RowKit Go.Shelf Go.Lib Go.Deep

set_option maxRecDepth 100000 in
set_option maxHeartbeats 2000000 in
theorem wakes_any (w : World) : Calls Try.prog 9 #[] w fun e w' => e = .returned (.bool true) ∧ Hid (Below w.heap.size w w') := by
  have hb1 : Below w.heap.size w (w.alloc (.cells #[.int .u8 65] 5)) := (Below.refl _ _).alloc (Nat.le_refl _) _
  have hO := ow.new (base := w.heap.size) (W := w) [65] #[.int .u8 65] 1 (Nat.le_refl _) (Nat.le_refl _) (by unfold maxLen; omega) (by simp) rfl
  have hC := pframe_any [65] _ _ hO.rd
  have HC : Hid (Calls Try.prog 10 #[.slice (some ⟨w.heap.size, 0, none⟩) 1 1] (w.alloc (.cells #[.int .u8 65] 5)) fun e w' => ∃ o c, e = .returned (.tuple #[.slice o 5 c, .int .i64 0]) ∧ Hid (rd w' [0, 0, 0, 1, 65] (.slice o 5 c) ∧ Below w.heap.size w w')) := Lib.hid (hC.mono (by
    rintro e w' ⟨o, c, rfl, hQ⟩
    exact ⟨o, c, rfl, Lib.hid ⟨hQ.out.1.rd, hb1.trans (hQ.out.2.mono hb1.size)⟩⟩))
  have s1 : sizeF 1 = 5 := by decide
  have s0 : sizeF 0 = 0 := by decide
  clear hO hC hb1
  go_enter Try.func9, Try.ntmps9
  go_wp2_with (go_at_call 10; refine HC.out.mono ?_)
  rintro e w2 ⟨o, c, rfl, hq⟩
  have HB := Lib.hid hq.out.2
  have hcv := run_strF w2 _ o 5 c hq.out.1
  have P1 : Hid (∀ W, Calls Try.prog 12 #[.int .i64 1] W fun e w' => e = .returned (.int .i64 5) ∧ W = w') := Lib.hid fun W => psize_any 1 W
  have P0 : Hid (∀ W, Calls Try.prog 12 #[.int .i64 0] W fun e w' => e = .returned (.int .i64 0) ∧ W = w') := Lib.hid fun W => psize_any 0 W
  clear hq HC s1 s0
  go_wp2_with first
    | (go_at_call_of 12 (Value.int IntKind.i64 1); refine (P1.out _).mono ?_; rintro e w0 ⟨rfl, rfl⟩)
    | (go_at_call_of 12 (Value.int IntKind.i64 0); refine (P0.out _).mono ?_; rintro e w0 ⟨rfl, rfl⟩)
  go_ret
  exact ⟨rfl, HB⟩
theorem wakes_hid (w w1 : World) (hb : Below w.heap.size w w1) : Calls Try.prog 9 #[] w1 fun e w' => e = .returned (.bool true) ∧ Hid (Below w.heap.size w w') := (wakes_any w1).mono (by
  rintro e w' ⟨rfl, h⟩
  exact ⟨rfl, Lib.hid (hb.trans (h.out.mono hb.size))⟩)
end Go.Proofs.Ytjpkokmokdaddaa
