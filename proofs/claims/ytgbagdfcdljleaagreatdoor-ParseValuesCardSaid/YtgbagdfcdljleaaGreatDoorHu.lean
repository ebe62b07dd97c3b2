/-
  Parse's walk: the beginning of a value.
-/
import Derived.Test.YtgbagdfcdljleaaGreatDoorHt
set_option linter.unusedVariables false
set_option linter.unusedSimpArgs false
namespace Go.Proofs.YtgbagdfcdljleaaGreatDoor
open Go.RowKit Go.Maps

section
variable {W0 W W' : World} {b : Nat} {s : ByteArray} {d : Int} {k : Nat} {op : List Fm} {ov : Value} {ys : List Value} {B : Nat → Prop}
theorem wrap_id {z : Int} (h1 : -9223372036854775808 ≤ z) (h2 : z ≤ 9223372036854775807) : IntKind.i64.wrap z = z := by simp [IntKind.wrap, IntKind.bits, IntKind.signed]; omega
set_option maxRecDepth 100000 in
set_option maxHeartbeats 4000000 in
theorem begin_eof (h : PW W0 b s d k op ov ys B W) (hk : s.size ≤ k) (hd1 : -9223372036854775808 ≤ d) (hd2 : d + (op.length : Int) ≤ 9223372036854775807) (hs : s.size ≤ 200000) :
    Calls Tryz.prog 26 #[.pointer (some ⟨b, 0, none⟩)] W fun e W' => StepR W0 b s d ov B W (.error (s.size, 40)) e W' := by
  obtain ⟨m0, hm⟩ : ∃ m0, op.length = m0 := ⟨_, rfl⟩
  obtain ⟨o, ad, c, hov, -, -, -, -, -⟩ := Ow.own_form h.own
  subst hov
  rw [hm] at h hd2 ⊢
  have h1 := h.alloc (.cells #[.int .i8 0, .bool false, .int .i64 0, .string ⟨#[]⟩, .slice none 0 0, .slice none 0 0] 28)
  have c0 := h1.c0
  have c1 := h1.c1
  have c2 := h1.c2
  have c3 := h1.c3
  have H1 := Lib.hid h1
  have HH := Lib.hid h
  have OF := Lib.hid (h.off W.heap.size (Nat.le_refl _))
  have BX := Lib.hid (Bx.new W #[.int .i8 0, .bool false, .int .i64 0, .string ⟨#[]⟩, .slice none 0 0, .slice none 0 0] 28)
  have g0 : decide ((k : Int) < 0) = false := decide_eq_false (by omega)
  have HD := Lib.hid hm
  have g1 : decide ((s.size : Int) ≤ (k : Int)) = true := decide_eq_true (by omega)
  have g2 : decide (s.size ≤ k) = true := decide_eq_true hk
  clear h h1 hm hk
  go_enter Tryz.func26, Tryz.ntmps26
  go_wp2_with fail
  go_quiet (fail)
  go_wp2_with fail
  exact ⟨rfl, StepR.err rfl (H1.out.below (below_dN (Below.refl _ _) _)).kb⟩
set_option maxRecDepth 100000 in
set_option maxHeartbeats 4000000 in
theorem begin_deep (h : PW W0 b s d k op ov ys B W) (hk : k < s.size) (hdp : 24 < d + (op.length : Int)) (hd1 : -9223372036854775808 ≤ d) (hd2 : d + (op.length : Int) ≤ 9223372036854775807) (hs : s.size ≤ 200000) :
    Calls Tryz.prog 26 #[.pointer (some ⟨b, 0, none⟩)] W fun e W' => StepR W0 b s d ov B W (.error (k, 30)) e W' := by
  obtain ⟨m0, hm⟩ : ∃ m0, op.length = m0 := ⟨_, rfl⟩
  obtain ⟨o, ad, c, hov, -, -, -, -, -⟩ := Ow.own_form h.own
  subst hov
  rw [hm] at h hd2 hdp ⊢
  have h1 := h.alloc (.cells #[.int .i8 0, .bool false, .int .i64 0, .string ⟨#[]⟩, .slice none 0 0, .slice none 0 0] 28)
  have c0 := h1.c0
  have c1 := h1.c1
  have c2 := h1.c2
  have c3 := h1.c3
  have H1 := Lib.hid h1
  have HH := Lib.hid h
  have OF := Lib.hid (h.off W.heap.size (Nat.le_refl _))
  have BX := Lib.hid (Bx.new W #[.int .i8 0, .bool false, .int .i64 0, .string ⟨#[]⟩, .slice none 0 0, .slice none 0 0] 28)
  have g0 : decide ((k : Int) < 0) = false := decide_eq_false (by omega)
  have HD := Lib.hid hm
  have g1 : decide ((s.size : Int) ≤ (k : Int)) = false := decide_eq_false (by omega)
  have g2 : decide (s.size ≤ k) = false := decide_eq_false (by omega)
  have hw : IntKind.i64.wrap (d + (m0 : Int)) = d + (m0 : Int) := wrap_id (by omega) hd2
  clear h h1 hm hk
  go_enter Tryz.func26, Tryz.ntmps26
  go_wp2_with fail
  go_quiet (fail)
  go_wp2_with fail
  go_quiet (fail)
  go_wp2_with fail
  exact ⟨rfl, StepR.err rfl (H1.out.below (below_dN (Below.refl _ _) _)).kb⟩
end
end Go.Proofs.YtgbagdfcdljleaaGreatDoor
