/-
  The helper wakes.
-/
import Derived.Test.YtlamkadllbgamaaGreatDoorEd
set_option linter.unusedVariables false
set_option linter.unusedSimpArgs false
namespace Go.Proofs.YtlamkadllbgamaaGreatDoor
open Go.RowKit Go.Maps

theorem isVs_two {W : World} {b : Nat} {t : TypeId} (h : W.heap[b]? = some (.cells #[.int .i8 2, .bool false, .int .i64 1, .string ⟨#[]⟩, .slice none 0 0, .slice none 0 0, .int .i8 2, .bool false, .int .i64 2, .string ⟨#[]⟩, .slice none 0 0, .slice none 0 0] t (0, 0))) :
    isVs W [nV 1, nV 2] ⟨b, 0, none⟩ := by
  have h0 : (⟨#[]⟩ : ByteArray).size ≤ maxLen := small1 (by decide)
  unfold isVs
  refine ⟨⟨_, _, _, _, _, _, ?_, ?_, ?_, ?_, ?_, ?_, isV_leaf W 2 false 1 ⟨#[]⟩ (by omega) (by omega) h0⟩, ?_⟩
  iterate 6 (simp [World.cell?, Addr.add, h])
  unfold isVs
  refine ⟨⟨_, _, _, _, _, _, ?_, ?_, ?_, ?_, ?_, ?_, isV_leaf W 2 false 2 ⟨#[]⟩ (by omega) (by omega) h0⟩, ?_⟩
  iterate 6 (simp [World.cell?, Addr.add, h])
  unfold isVs
  trivial
theorem isP_B {W : World} {b : Nat} (h : isVs W [nV 1, nV 2] ⟨b, 0, none⟩) : isP W pB (.agg #[.string ⟨#[80]⟩, .bool true, .bool false, .int .i8 0, .bool false, .int .i64 0, .string ⟨#[]⟩, .slice none 0 0, .slice none 0 0, .slice (some ⟨b, 0, none⟩) 2 2]) :=
  ⟨_, _, _, _, _, _, _, _, _, _, _, _, ⟨b, 0, none⟩, rfl, isV_zero W, ⟨_, rfl, Nat.le_refl _, by unfold maxLen; omega, fun _ => rfl⟩, h, small1 (by decide)⟩
theorem first_A {W : World} {base : Nat} {v : Value} {xs : List Value} (ho : W.ownsRow base 35 8 v 1 xs) (hx : isGL W [valP [] pA] xs) : ∃ a c, v = .slice (some a) 1 c ∧ 1 ≤ c ∧ W.cell? ⟨a.block, a.off + 5, none⟩ = some (.string ⟨#[97]⟩) := by
  have hg := isGs_own (L := [valP [] pA]) ho hx
  obtain ⟨a, cc, ⟨oo, rfl, h1, h2, h3⟩, h4⟩ := hg
  obtain rfl := h3 (by simp)
  obtain ⟨k, b, n, s, o, m, c, o2, m2, c2, g0, g1, g2, g3, g4, g5, g6, g7, hgg⟩ := isGat_eight (h4 0 (by simp))
  obtain ⟨_, _, _, _, _, _, e1, hv, -⟩ := hgg
  simp only [Value.agg.injEq, Array.mk.injEq, List.cons.injEq, true_and, and_true] at e1
  obtain ⟨rfl, rfl, rfl, rfl, rfl, rfl⟩ := e1
  obtain ⟨_, _, _, e4, _, _⟩ := isV_all hv
  rw [Nat.zero_mul, show a.add 0 = a by unfold Addr.add; rw [if_pos rfl]] at g5
  refine ⟨a, cc, rfl, h1, ?_⟩
  rw [g5, ← e4]
  rfl
theorem three_heaps (U : World) (x y z : Obj) : ((((U.alloc x).alloc y).alloc z)).heap[U.heap.size]? = some x ∧ ((((U.alloc x).alloc y).alloc z)).heap[U.heap.size + 1]? = some y ∧ ((((U.alloc x).alloc y).alloc z)).heap[U.heap.size + 1 + 1]? = some z := by
  have e1 : (U.alloc x).heap.size = U.heap.size + 1 := by simp
  have e2 : ((U.alloc x).alloc y).heap.size = U.heap.size + 1 + 1 := by simp
  have n1 := World.alloc_heap_new U x
  have n2 := World.alloc_heap_new (U.alloc x) y
  have n3 := World.alloc_heap_new ((U.alloc x).alloc y) z
  rw [e1] at n2
  rw [e2] at n3
  have b2 : Below (U.alloc x).heap.size (U.alloc x) ((U.alloc x).alloc y) := kbA
  have b3 : Below ((U.alloc x).alloc y).heap.size ((U.alloc x).alloc y) (((U.alloc x).alloc y).alloc z) := kbA
  exact ⟨(b3.block _ (by omega)).trans ((b2.block _ (by omega)).trans n1), (b3.block _ (by omega)).trans n2, n3⟩
set_option maxRecDepth 100000 in
set_option maxHeartbeats 8000000 in
theorem wakes14_any (w : World) (hE : Env w) : Calls Tryz.prog 6 #[] w fun e w' => e = .returned (.bool true) ∧ Below w.heap.size w w' := by
  have K1 : KB w (w.alloc (.cells #[.int .i8 3, .bool false, .int .i64 0, .string ⟨#[97]⟩, .slice none 0 0, .slice none 0 0] 33)) := kbA
  have K2 : KB w ((w.alloc (.cells #[.int .i8 3, .bool false, .int .i64 0, .string ⟨#[97]⟩, .slice none 0 0, .slice none 0 0] 33)).alloc (.cells #[.string ⟨#[80]⟩, .bool false, .bool true, .int .i8 3, .bool false, .int .i64 0, .string ⟨#[97]⟩, .slice none 0 0, .slice none 0 0, .slice none 0 0] 37)) := by unfold KB; go_grown
  have hn2 := World.alloc_heap_new (w.alloc (.cells #[.int .i8 3, .bool false, .int .i64 0, .string ⟨#[97]⟩, .slice none 0 0, .slice none 0 0] 33)) (.cells #[.string ⟨#[80]⟩, .bool false, .bool true, .int .i8 3, .bool false, .int .i64 0, .string ⟨#[97]⟩, .slice none 0 0, .slice none 0 0, .slice none 0 0] 37)
  rw [World.size_alloc] at hn2
  have HB1 := Lib.hid (Bind_any [pA] [] _ (.slice none 0 0) _ (hE.kb K2) fine_A ⟨by simp, fun g hg => by cases hg⟩ (isPs_box hn2 (isP_A _)) (isGs_none _))
  have HE := Lib.hid hE
  have HK2 := Lib.hid K2
  clear K1 K2 hn2 hE
  go_enter Tryz.func6, Tryz.ntmps6
  go_wp2_with fail
  refine HB1.out.mono ?_
  rintro e w5 ⟨h1, -, hb5⟩
  obtain ⟨v5, xs, rfl, ho5, hx5⟩ := h1 (by rw [bind_A])
  obtain ⟨a5, c5, rfl, hc5, hq5⟩ := first_A ho5 hx5
  have hc5m : c5 ≤ maxLen := by
    obtain ⟨_, _, _, e1, h2, h3, _⟩ := own_form ho5
    simp only [Value.slice.injEq] at e1
    obtain ⟨_, _, rfl⟩ := e1
    exact h3
  have HK5 := Lib.hid (HK2.out.trans (hb5.mono HK2.out.size))
  have HQ5 := Lib.hid hq5
  unfold maxLen at hc5m
  clear h1 hb5 ho5 hx5 hq5 HB1
  have L1 : KB w5 (((w5.alloc (.cells #[.int .i8 2, .bool false, .int .i64 1, .string ⟨#[]⟩, .slice none 0 0, .slice none 0 0, .int .i8 2, .bool false, .int .i64 2, .string ⟨#[]⟩, .slice none 0 0, .slice none 0 0] 33)).alloc (.cells #[.string ⟨#[80]⟩, .bool true, .bool false, .int .i8 0, .bool false, .int .i64 0, .string ⟨#[]⟩, .slice none 0 0, .slice none 0 0, .slice (some ⟨w5.heap.size, 0, none⟩) 2 2] 37)).alloc (.cells #[.string ⟨#[80]⟩, .bool false, .int .i8 2, .bool false, .int .i64 3, .string ⟨#[]⟩, .slice none 0 0, .slice none 0 0] 35)) := by unfold KB; go_grown
  have h3 := three_heaps w5 (.cells #[.int .i8 2, .bool false, .int .i64 1, .string ⟨#[]⟩, .slice none 0 0, .slice none 0 0, .int .i8 2, .bool false, .int .i64 2, .string ⟨#[]⟩, .slice none 0 0, .slice none 0 0] 33) (.cells #[.string ⟨#[80]⟩, .bool true, .bool false, .int .i8 0, .bool false, .int .i64 0, .string ⟨#[]⟩, .slice none 0 0, .slice none 0 0, .slice (some ⟨w5.heap.size, 0, none⟩) 2 2] 37) (.cells #[.string ⟨#[80]⟩, .bool false, .int .i8 2, .bool false, .int .i64 3, .string ⟨#[]⟩, .slice none 0 0, .slice none 0 0] 35)
  have HB2 := Lib.hid (Bind_any [pB] [gC] _ _ _ (HE.out.kb (HK5.out.trans (L1.mono HK5.out.size))) fine_B fine_C (isPs_box h3.2.1 (isP_B (isVs_two h3.1))) (isGs_box (small1 (show (⟨#[80]⟩ : ByteArray).size ≤ 100 by decide)) h3.2.2 (isV_leaf _ 2 false 3 ⟨#[]⟩ (by omega) (by omega) (small1 (by decide)))))
  have HL1 := Lib.hid L1
  clear L1 h3
  go_wp2_with fail
  refine HB2.out.mono ?_
  rintro e w7 ⟨-, h2, hb7⟩
  have h2' := h2 (by rw [show bindF [pB] [gC] = (sP, 140) from bind_B]; decide)
  rw [show bindF [pB] [gC] = (sP, 140) from bind_B] at h2'
  have h2x : e = .returned (.tuple #[.slice none 0 0, .string ⟨#[80]⟩, .int .i64 140]) := h2'
  obtain rfl := h2x
  clear h2'
  have HK7 := Lib.hid (HK5.out.trans ((HL1.out.trans (hb7.mono HL1.out.size)).mono HK5.out.size))
  have hq7 := cell_below (HL1.out.trans (hb7.mono HL1.out.size)) _ _ HQ5.out
  have z1 : ((⟨#[97]⟩ : ByteArray).toList == (⟨#[97]⟩ : ByteArray).toList) = true := beq_self_eq_true _
  have z2 : ((⟨#[80]⟩ : ByteArray).toList == (⟨#[80]⟩ : ByteArray).toList) = true := beq_self_eq_true _
  clear h2 hb7
  go_wp2_with fail
  go_ret
  exact ⟨rfl, HK7.out⟩
end Go.Proofs.YtlamkadllbgamaaGreatDoor
