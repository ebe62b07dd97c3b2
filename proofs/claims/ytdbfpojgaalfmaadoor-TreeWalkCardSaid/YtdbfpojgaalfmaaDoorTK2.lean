/-
  The contract of the reference's Check.
-/
import Derived.Test.YtdbfpojgaalfmaaDoorTK
set_option linter.unusedVariables false
namespace Go.Proofs.YtdbfpojgaalfmaaDoor
open Go.RowKit

/-- What is wrong with a value; 0: it may be. -/
noncomputable def checkV (x : V) : Int := if 24 < depthV x then 30 else if wrongV x ≠ 0 then wrongV x else if 4096 < countV x then 3 else 0
set_option maxRecDepth 100000 in
set_option maxHeartbeats 4000000 in
theorem check_any (x : V) (v : Value) (w : World) (hx : sizeV x ≤ 1000000) (h : isV w x v) :
    Calls Tryd.prog 18 #[v] w fun e w' => e = .returned (.int .i64 (checkV x)) ∧ Below w.heap.size w w' := by
  have hC : checkV x = if deepB x 24 = true then 30 else if wrongV x ≠ 0 then wrongV x else if 4096 < countV x then 3 else 0 := by
    unfold checkV deepB
    by_cases h : 24 < depthV x
    · rw [if_pos h, if_pos (decide_eq_true h)]
    · rw [decide_eq_false h, if_neg h, if_neg (by simp : ¬ (false = true))]
  have hcle : countV x ≤ 1000000 := Nat.le_trans (count_le_size x) hx
  obtain ⟨y, hy⟩ : ∃ y, checkV x = y := ⟨_, rfl⟩
  rw [hy] at hC ⊢
  clear hy
  have h00 := h
  obtain ⟨k, b, n, s, l, ks⟩ := x
  unfold isV at h
  obtain ⟨lv, kv, rfl, _, _, _, ⟨a, cap, ⟨o, rfl, _⟩, _⟩, ⟨a2, cap2, ⟨o2, rfl, _⟩, _⟩⟩ := h
  have P1 : Hid (∀ w1, KB (w.alloc (.cells #[.int .i8 k, .bool b, .int .i64 n, .string s, .slice o l.length cap, .slice o2 ks.length cap2] 26)) w1 → Calls Tryd.prog 46 #[.agg #[.int .i8 k, .bool b, .int .i64 n, .string s, .slice o l.length cap, .slice o2 ks.length cap2], .int .i64 24] w1 fun e w' => e = .returned (.bool (deepB (.mk k b n s l ks) 24)) ∧ KB (w.alloc (.cells #[.int .i8 k, .bool b, .int .i64 n, .string s, .slice o l.length cap, .slice o2 ks.length cap2] 26)) w') := Lib.hid fun w1 hK => Calls.kb hK (deeper_any 24 _ _ w1 (by decide) (isV_below hK (isV_below kbA h00)))
  have P2 : Hid (∀ w1, KB (w.alloc (.cells #[.int .i8 k, .bool b, .int .i64 n, .string s, .slice o l.length cap, .slice o2 ks.length cap2] 26)) w1 → Calls Tryd.prog 47 #[.agg #[.int .i8 k, .bool b, .int .i64 n, .string s, .slice o l.length cap, .slice o2 ks.length cap2]] w1 fun e w' => e = .returned (.int .i64 (wrongV (.mk k b n s l ks))) ∧ KB (w.alloc (.cells #[.int .i8 k, .bool b, .int .i64 n, .string s, .slice o l.length cap, .slice o2 ks.length cap2] 26)) w') := Lib.hid fun w1 hK => Calls.kb hK (wrong_any 1000000 _ _ w1 hx (by decide) (isV_below hK (isV_below kbA h00)))
  have P3 : Hid (∀ w1, KB (w.alloc (.cells #[.int .i8 k, .bool b, .int .i64 n, .string s, .slice o l.length cap, .slice o2 ks.length cap2] 26)) w1 → Calls Tryd.prog 22 #[.agg #[.int .i8 k, .bool b, .int .i64 n, .string s, .slice o l.length cap, .slice o2 ks.length cap2]] w1 fun e w' => e = .returned (.int .i64 (countV (.mk k b n s l ks))) ∧ KB (w.alloc (.cells #[.int .i8 k, .bool b, .int .i64 n, .string s, .slice o l.length cap, .slice o2 ks.length cap2] 26)) w') := Lib.hid fun w1 hK => Calls.kb hK (count_any 1000000 _ _ w1 hx (by decide) (isV_below hK (isV_below kbA h00)))
  have HB0 : Hid (KB w (w.alloc (.cells #[.int .i8 k, .bool b, .int .i64 n, .string s, .slice o l.length cap, .slice o2 ks.length cap2] 26))) := Lib.hid kbA
  have HC : Hid (∀ w1, KB (w.alloc (.cells #[.int .i8 k, .bool b, .int .i64 n, .string s, .slice o l.length cap, .slice o2 ks.length cap2] 26)) w1 → w1.cell? ⟨w.heap.size, 0, none⟩ = some (.int .i8 k) ∧ w1.cell? ⟨w.heap.size, 1, none⟩ = some (.bool b) ∧ w1.cell? ⟨w.heap.size, 2, none⟩ = some (.int .i64 n) ∧ w1.cell? ⟨w.heap.size, 3, none⟩ = some (.string s) ∧ w1.cell? ⟨w.heap.size, 4, none⟩ = some (.slice o l.length cap) ∧ w1.cell? ⟨w.heap.size, 5, none⟩ = some (.slice o2 ks.length cap2)) := Lib.hid fun w1 hK =>
    ⟨cell_below hK _ _ (by simp), cell_below hK _ _ (by simp), cell_below hK _ _ (by simp), cell_below hK _ _ (by simp), cell_below hK _ _ (by simp), cell_below hK _ _ (by simp)⟩
  clear h00 hx
  generalize V.mk k b n s l ks = x at *
  obtain ⟨D, hD⟩ : ∃ D, deepB x 24 = D := ⟨_, rfl⟩
  obtain ⟨E, hE⟩ : ∃ E, wrongV x = E := ⟨_, rfl⟩
  obtain ⟨C, hCC⟩ : ∃ C, countV x = C := ⟨_, rfl⟩
  rw [hD] at hC P1
  rw [hE] at hC P2
  rw [hCC] at hC P3 hcle
  clear hD hE hCC
  cases D with
  | true =>
    have HY : Hid (y = 30) := Lib.hid (hC.trans (if_pos rfl))
    clear hC
    go_enter Tryd.func18, Tryd.ntmps18
    go_wp2_with fail
    generalize hW1 : w.alloc (.cells #[.int .i8 k, .bool b, .int .i64 n, .string s, .slice o l.length cap, .slice o2 ks.length cap2] 26) = W1 at *
    clear hW1
    refine (P1.out W1 (Below.refl _ _)).mono ?_
    rintro e w5 ⟨rfl, hb5⟩
    go_wp2_with fail
    go_ret
    exact ⟨by rw [HY.out]; rfl, HB0.out.trans (hb5.mono HB0.out.size)⟩
  | false =>
    rw [if_neg (by simp)] at hC
    by_cases hE0 : E ≠ 0
    · have HY : Hid (y = E) := Lib.hid (hC.trans (if_pos hE0))
      have z1 : (E == 0) = false := beqI hE0
      have z2 : (E != 0) = true := bne_iff_ne.2 hE0
      clear hC hE0
      go_enter Tryd.func18, Tryd.ntmps18
      go_wp2_with fail
      generalize hW1 : w.alloc (.cells #[.int .i8 k, .bool b, .int .i64 n, .string s, .slice o l.length cap, .slice o2 ks.length cap2] 26) = W1 at *
      clear hW1
      refine (P1.out W1 (Below.refl _ _)).mono ?_
      rintro e w5 ⟨rfl, hb5⟩
      obtain ⟨m0, m1, m2, m3, m4, m5⟩ := HC.out w5 hb5
      go_wp2_with (go_at_call 47; (refine (P2.out _ hb5).mono ?_); rintro e w6 ⟨rfl, hb6⟩)
      go_ret
      exact ⟨by rw [HY.out]; rfl, HB0.out.trans (hb6.mono HB0.out.size)⟩
    · obtain rfl : E = 0 := Decidable.not_not.1 hE0
      rw [if_neg hE0] at hC
      have HY : Hid (y = if 4096 < C then 3 else 0) := Lib.hid hC
      clear hC hE0
      by_cases hc : 4096 < C
      · have c1 : decide ((4096 : Int) < (C : Int)) = true := decide_eq_true (by omega)
        have HZ : Hid (y = 3) := Lib.hid (HY.out.trans (if_pos hc))
        clear hc
        go_enter Tryd.func18, Tryd.ntmps18
        go_wp2_with fail
        generalize hW1 : w.alloc (.cells #[.int .i8 k, .bool b, .int .i64 n, .string s, .slice o l.length cap, .slice o2 ks.length cap2] 26) = W1 at *
        clear hW1
        refine (P1.out W1 (Below.refl _ _)).mono ?_
        rintro e w5 ⟨rfl, hb5⟩
        obtain ⟨m0, m1, m2, m3, m4, m5⟩ := HC.out w5 hb5
        go_wp2_with (first | (go_at_call 47; (refine (P2.out _ hb5).mono ?_); rintro e w6 ⟨rfl, hb6⟩; obtain ⟨p0, p1, p2, p3, p4, p5⟩ := HC.out w6 hb6) | (go_at_call 22; (refine (P3.out _ hb6).mono ?_); rintro e w7 ⟨rfl, hb7⟩))
        go_ret
        exact ⟨by rw [HZ.out]; rfl, HB0.out.trans (hb7.mono HB0.out.size)⟩
      · have c1 : decide ((4096 : Int) < (C : Int)) = false := decide_eq_false (by omega)
        have HZ : Hid (y = 0) := Lib.hid (HY.out.trans (if_neg hc))
        clear hc
        go_enter Tryd.func18, Tryd.ntmps18
        go_wp2_with fail
        generalize hW1 : w.alloc (.cells #[.int .i8 k, .bool b, .int .i64 n, .string s, .slice o l.length cap, .slice o2 ks.length cap2] 26) = W1 at *
        clear hW1
        refine (P1.out W1 (Below.refl _ _)).mono ?_
        rintro e w5 ⟨rfl, hb5⟩
        obtain ⟨m0, m1, m2, m3, m4, m5⟩ := HC.out w5 hb5
        go_wp2_with (first | (go_at_call 47; (refine (P2.out _ hb5).mono ?_); rintro e w6 ⟨rfl, hb6⟩; obtain ⟨p0, p1, p2, p3, p4, p5⟩ := HC.out w6 hb6) | (go_at_call 22; (refine (P3.out _ hb6).mono ?_); rintro e w7 ⟨rfl, hb7⟩))
        go_ret
        exact ⟨by rw [HZ.out]; rfl, HB0.out.trans (hb7.mono HB0.out.size)⟩
end Go.Proofs.YtdbfpojgaalfmaaDoor
