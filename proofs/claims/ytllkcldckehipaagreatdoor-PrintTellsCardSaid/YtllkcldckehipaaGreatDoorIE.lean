/-
  PrintTells, walked.
-/
import Derived.Test.YtllkcldckehipaaGreatDoorID
import Derived.Test.YtllkcldckehipaaGreatDoorHE
import Derived.Test.YtllkcldckehipaaGreatDoorHG
import Derived.Test.YtllkcldckehipaaGreatDoorHK
set_option linter.unusedVariables false
set_option linter.unusedSimpArgs false
namespace Go.Proofs.YtllkcldckehipaaGreatDoor
open Go.RowKit Go.Shelf

set_option maxRecDepth 100000 in
set_option maxHeartbeats 32000000 in
theorem tellsLaw_walk (x : V) (v : Value) (s0 : ByteArray) (w : World) (h : isV w x v) (S1 S2 : ByteArray) (E1 E2 : Int) (gx wd : Bool) (q : Nat) (hq : q ≤ 40000)
    (WK : Hid (∀ w1, KB w w1 → Calls Tryz.prog 7 #[] w1 fun e w' => e = .returned (.bool true) ∧ Below w1.heap.size w1 w'))
    (GX : Hid (∀ w1, KB w w1 → Calls Tryz.prog 6 #[v] w1 fun e w' => e = .returned (.bool gx) ∧ Below w1.heap.size w1 w'))
    (P1 : Hid (gx = false → ∀ w1, KB w w1 → Calls Tryz.prog 8 #[v] w1 fun e w' => e = .returned (.tuple #[.string S1, .int .i64 E1]) ∧ Below w1.heap.size w1 w'))
    (P2 : Hid (gx = false → ∀ w1, KB w w1 → Calls Tryz.prog 9 #[v] w1 fun e w' => e = .returned (.tuple #[.string S1, .int .i64 E1]) ∧ Below w1.heap.size w1 w'))
    (P3 : Hid (gx = false → ∀ w1, KB w w1 → Calls Tryz.prog 10 #[v] w1 fun e w' => e = .returned (.tuple #[.string S2, .int .i64 E2]) ∧ Below w1.heap.size w1 w'))
    (P4 : Hid (gx = false → ∀ w1, KB w w1 → Calls Tryz.prog 11 #[v] w1 fun e w' => e = .returned (.tuple #[.string S2, .int .i64 E2]) ∧ Below w1.heap.size w1 w'))
    (P5 : Hid (gx = false → ∀ w1, KB w w1 → Calls Tryz.prog 12 #[v] w1 fun e w' => e = .returned (.int .i64 q) ∧ Below w1.heap.size w1 w'))
    (P6 : Hid (gx = false → ∀ w1, KB w w1 → Calls Tryz.prog 13 #[v] w1 fun e w' => e = .returned (.int .i64 q) ∧ Below w1.heap.size w1 w'))
    (P7 : Hid (s0.size ≤ 1000 → ∀ w1, KB w w1 → Calls Tryz.prog 14 #[.string s0] w1 fun e w' => e = .returned (.bool wd) ∧ Below w1.heap.size w1 w'))
    (P8 : Hid (s0.size ≤ 1000 → ∀ w1, KB w w1 → Calls Tryz.prog 15 #[.string s0] w1 fun e w' => e = .returned (.bool wd) ∧ Below w1.heap.size w1 w')) :
    Calls Tryz.prog 3 #[v, .string s0] w fun e w' => e = .returned (.bool true) ∧ Below w.heap.size w w' := by
  obtain ⟨k, b, n, s, o, m, c, o2, m2, c2, rfl⟩ := isV_six h
  obtain ⟨W1, hW1⟩ : ∃ W1, w.alloc (.cells #[.int .i8 k, .bool b, .int .i64 n, .string s, .slice o m c, .slice o2 m2 c2] 26) = W1 := ⟨_, rfl⟩
  have hb1 : KB w W1 := by rw [← hW1]; exact kbA
  have hn1 : W1.heap[w.heap.size]? = some (.cells #[.int .i8 k, .bool b, .int .i64 n, .string s, .slice o m c, .slice o2 m2 c2] 26 (0, 0)) := by rw [← hW1]; exact World.alloc_heap_new _ _
  have HC : Hid (∀ w1, KB W1 w1 → w1.cell? ⟨w.heap.size, 0, none⟩ = some (.int .i8 k) ∧ w1.cell? ⟨w.heap.size, 1, none⟩ = some (.bool b) ∧ w1.cell? ⟨w.heap.size, 2, none⟩ = some (.int .i64 n) ∧ w1.cell? ⟨w.heap.size, 3, none⟩ = some (.string s) ∧ w1.cell? ⟨w.heap.size, 4, none⟩ = some (.slice o m c) ∧ w1.cell? ⟨w.heap.size, 5, none⟩ = some (.slice o2 m2 c2)) := Lib.hid fun w1 hk =>
    six_cells ((Below.block hk _ (Array.getElem?_eq_some_iff.1 hn1).1).trans hn1)
  have HB1 := Lib.hid hb1
  obtain ⟨r0, r1, r2, r3, r4, r5⟩ := HC.out W1 (Below.refl _ _)
  have z1 : (S1.toList == S1.toList) = true := by simp
  have z2 : (S2.toList == S2.toList) = true := by simp
  have z3 : (E1 == E1) = true := by simp
  have z4 : (E2 == E2) = true := by simp
  have z5 : ((q : Int) == (q : Int)) = true := by simp
  have z6 : (wd == wd) = true := by simp
  clear h hn1 hb1
  cases gx with
  | true =>
    clear P1 P2 P3 P4 P5 P6 P7 P8
    go_enter Tryz.func3, Tryz.ntmps3
    go_wp2_with fail
    try rw [hW1]
    clear hW1
    refine (GX.out W1 HB1.out).mono ?_
    rintro e w3 ⟨rfl, hb3⟩
    have hk3 : KB W1 w3 := hb3
    clear hb3 r0 r1 r2 r3 r4 r5
    obtain ⟨r0, r1, r2, r3, r4, r5⟩ := HC.out w3 hk3
    go_wp2_with fail
    refine (WK.out _ (HB1.out.trans (Below.mono hk3 HB1.out.size))).mono ?_
    rintro e w9 ⟨rfl, hb9⟩
    have hk9 : KB W1 w9 := Below.trans hk3 (hb9.mono hk3.size)
    clear hb9 r0 r1 r2 r3 r4 r5
    obtain ⟨r0, r1, r2, r3, r4, r5⟩ := HC.out w9 hk9
    go_wp2_with fail
    go_ret
    exact ⟨rfl, HB1.out.trans (Below.mono hk9 HB1.out.size)⟩
  | false =>
    have Q1 := Lib.hid (P1.out rfl)
    have Q2 := Lib.hid (P2.out rfl)
    have Q3 := Lib.hid (P3.out rfl)
    have Q4 := Lib.hid (P4.out rfl)
    have Q5 := Lib.hid (P5.out rfl)
    have Q6 := Lib.hid (P6.out rfl)
    clear P1 P2 P3 P4 P5 P6
    by_cases hs : 1000 < s0.size
    · have d1 : decide ((1000 : Int) < (s0.size : Int)) = true := decide_eq_true (by omega)
      clear P7 P8 Q1 Q2 Q3 Q4 Q5 Q6
      go_enter Tryz.func3, Tryz.ntmps3
      go_wp2_with fail
      try rw [hW1]
      clear hW1
      refine (GX.out W1 HB1.out).mono ?_
      rintro e w3 ⟨rfl, hb3⟩
      have hk3 : KB W1 w3 := hb3
      clear hb3 r0 r1 r2 r3 r4 r5
      obtain ⟨r0, r1, r2, r3, r4, r5⟩ := HC.out w3 hk3
      go_wp2_with fail
      refine (WK.out _ (HB1.out.trans (Below.mono hk3 HB1.out.size))).mono ?_
      rintro e w9 ⟨rfl, hb9⟩
      have hk9 : KB W1 w9 := Below.trans hk3 (hb9.mono hk3.size)
      clear hb9 r0 r1 r2 r3 r4 r5
      obtain ⟨r0, r1, r2, r3, r4, r5⟩ := HC.out w9 hk9
      go_wp2_with fail
      go_ret
      exact ⟨rfl, HB1.out.trans (Below.mono hk9 HB1.out.size)⟩
    · have d1 : decide ((1000 : Int) < (s0.size : Int)) = false := decide_eq_false (by omega)
      have Q7 := Lib.hid (P7.out (by omega))
      have Q8 := Lib.hid (P8.out (by omega))
      clear P7 P8
      go_enter Tryz.func3, Tryz.ntmps3
      go_wp2_with fail
      try rw [hW1]
      clear hW1
      refine (GX.out W1 HB1.out).mono ?_
      rintro e w3 ⟨rfl, hb3⟩
      have hk3 : KB W1 w3 := hb3
      clear hb3 r0 r1 r2 r3 r4 r5
      obtain ⟨r0, r1, r2, r3, r4, r5⟩ := HC.out w3 hk3
      go_wp2_with fail
      refine (Q1.out _ (HB1.out.trans (Below.mono hk3 HB1.out.size))).mono ?_
      rintro e w4 ⟨rfl, hb4⟩
      have hk4 : KB W1 w4 := Below.trans hk3 (hb4.mono hk3.size)
      clear hb4 r0 r1 r2 r3 r4 r5
      obtain ⟨r0, r1, r2, r3, r4, r5⟩ := HC.out w4 hk4
      go_wp2_with fail
      refine (Q2.out _ (HB1.out.trans (Below.mono hk4 HB1.out.size))).mono ?_
      rintro e w5 ⟨rfl, hb5⟩
      have hk5 : KB W1 w5 := Below.trans hk4 (hb5.mono hk4.size)
      clear hb5 r0 r1 r2 r3 r4 r5
      obtain ⟨r0, r1, r2, r3, r4, r5⟩ := HC.out w5 hk5
      go_wp2_with fail
      refine (Q3.out _ (HB1.out.trans (Below.mono hk5 HB1.out.size))).mono ?_
      rintro e w6 ⟨rfl, hb6⟩
      have hk6 : KB W1 w6 := Below.trans hk5 (hb6.mono hk5.size)
      clear hb6 r0 r1 r2 r3 r4 r5
      obtain ⟨r0, r1, r2, r3, r4, r5⟩ := HC.out w6 hk6
      go_wp2_with fail
      refine (Q4.out _ (HB1.out.trans (Below.mono hk6 HB1.out.size))).mono ?_
      rintro e w7 ⟨rfl, hb7⟩
      have hk7 : KB W1 w7 := Below.trans hk6 (hb7.mono hk6.size)
      clear hb7 r0 r1 r2 r3 r4 r5
      obtain ⟨r0, r1, r2, r3, r4, r5⟩ := HC.out w7 hk7
      go_upto_region 7 with fail
      have hk8 : KB W1 w7.drew := Below.drew hk7
      refine Rn.region_any (by kernel_rfl) ?_
      refine Rn.any_seg 0 18 (by kernel_rfl) rfl ?_
      simp only [List.take_succ_cons, List.take_zero, List.drop_succ_cons, List.drop_zero]
      repeat (refine Rn.ws_one (fun KK hKK => ?_); go_simp; refine hKK _ ?_; clear hKK KK)
      refine Rn.ws_nil ?_
      intro K0 hK0
      go_simp
      try (refine .inl ?_)
      try go_simp
      refine hK0 _ _ ?_
      clear hK0 K0
      refine AnyL.of (g := 17) rfl ?_
      refine anyL_two (g := 16) 19 21 (by kernel_rfl) rfl rfl (fun K hK => ?_) (fun K hK => ?_)
      · go_simp
        first
          | (refine .inl ?_; try go_simp; refine hK _ _ ?_; clear hK K)
          | (refine hK _ _ ?_; clear hK K)
        refine anyL_two (g := 15) 20 21 (by kernel_rfl) rfl rfl (fun K hK => ?_) (fun K hK => ?_)
        · go_simp
          refine .inl ((Q5.out _ (HB1.out.trans (Below.mono hk8 HB1.out.size))).mono ?_)
          rintro e w10 ⟨rfl, hb10⟩
          have hk10 : KB W1 w10 := Below.trans hk8 (hb10.mono (Below.size hk8))
          clear hb10 r0 r1 r2 r3 r4 r5
          obtain ⟨r0, r1, r2, r3, r4, r5⟩ := HC.out w10 hk10
          try go_simp
          refine hK _ _ ?_
          clear hK K
          refine anyL_one (g := 14) 21 (by kernel_rfl) rfl (fun K hK => ?_)
          go_simp
          first
            | (refine .inl ?_; try go_simp; refine hK _ _ ?_; clear hK K)
            | (refine hK _ _ ?_; clear hK K)
          refine anyL_one (g := 13) 22 (by kernel_rfl) rfl (fun K hK => ?_)
          go_simp
          refine .inl ((Q6.out _ (HB1.out.trans (Below.mono hk10 HB1.out.size))).mono ?_)
          rintro e w11 ⟨rfl, hb11⟩
          have hk11 : KB W1 w11 := Below.trans hk10 (hb11.mono (Below.size hk10))
          clear hb11 r0 r1 r2 r3 r4 r5
          obtain ⟨r0, r1, r2, r3, r4, r5⟩ := HC.out w11 hk11
          try go_simp
          refine hK _ _ ?_
          clear hK K
          refine anyL_one (g := 12) 23 (by kernel_rfl) rfl (fun K hK => ?_)
          go_simp
          first
            | (refine .inl ?_; try go_simp; refine hK _ _ ?_; clear hK K)
            | (refine hK _ _ ?_; clear hK K)
          refine anyL_one (g := 11) 24 (by kernel_rfl) rfl (fun K hK => ?_)
          go_simp
          first
            | (refine .inl ?_; try go_simp; refine hK _ _ ?_; clear hK K)
            | (refine hK _ _ ?_; clear hK K)
          refine anyL_one (g := 10) 25 (by kernel_rfl) rfl (fun K hK => ?_)
          go_simp
          first
            | (refine .inl ?_; try go_simp; refine hK _ _ ?_; clear hK K)
            | (refine hK _ _ ?_; clear hK K)
          refine anyL_two (g := 9) 26 28 (by kernel_rfl) rfl rfl (fun K hK => ?_) (fun K hK => ?_)
          · go_simp
            first
              | (refine .inl ?_; try go_simp; refine hK _ _ ?_; clear hK K)
              | (refine hK _ _ ?_; clear hK K)
            refine anyL_two (g := 8) 27 28 (by kernel_rfl) rfl rfl (fun K hK => ?_) (fun K hK => ?_)
            · go_simp
              refine .inl ((Q7.out _ (HB1.out.trans (Below.mono hk11 HB1.out.size))).mono ?_)
              rintro e w12 ⟨rfl, hb12⟩
              have hk12 : KB W1 w12 := Below.trans hk11 (hb12.mono (Below.size hk11))
              clear hb12 r0 r1 r2 r3 r4 r5
              obtain ⟨r0, r1, r2, r3, r4, r5⟩ := HC.out w12 hk12
              try go_simp
              refine hK _ _ ?_
              clear hK K
              refine anyL_one (g := 7) 28 (by kernel_rfl) rfl (fun K hK => ?_)
              go_simp
              first
                | (refine .inl ?_; try go_simp; refine hK _ _ ?_; clear hK K)
                | (refine hK _ _ ?_; clear hK K)
              refine anyL_one (g := 6) 29 (by kernel_rfl) rfl (fun K hK => ?_)
              go_simp
              refine .inl ((Q8.out _ (HB1.out.trans (Below.mono hk12 HB1.out.size))).mono ?_)
              rintro e w13 ⟨rfl, hb13⟩
              have hk13 : KB W1 w13 := Below.trans hk12 (hb13.mono (Below.size hk12))
              clear hb13 r0 r1 r2 r3 r4 r5
              obtain ⟨r0, r1, r2, r3, r4, r5⟩ := HC.out w13 hk13
              try go_simp
              refine hK _ _ ?_
              clear hK K
              refine anyL_one (g := 5) 30 (by kernel_rfl) rfl (fun K hK => ?_)
              go_simp
              first
                | (refine .inl ?_; try go_simp; refine hK _ _ ?_; clear hK K)
                | (refine hK _ _ ?_; clear hK K)
              refine anyL_one (g := 4) 31 (by kernel_rfl) rfl (fun K hK => ?_)
              go_simp
              first
                | (refine .inl ?_; try go_simp; refine hK _ _ ?_; clear hK K)
                | (refine hK _ _ ?_; clear hK K)
              refine anyL_one (g := 3) 32 (by kernel_rfl) rfl (fun K hK => ?_)
              go_simp
              first
                | (refine .inl ?_; try go_simp; refine hK _ _ ?_; clear hK K)
                | (refine hK _ _ ?_; clear hK K)
              refine anyL_one (g := 2) 33 (by kernel_rfl) rfl (fun K hK => ?_)
              go_simp
              refine .inl ((WK.out _ (HB1.out.trans (Below.mono hk13 HB1.out.size))).mono ?_)
              rintro e w14 ⟨rfl, hb14⟩
              have hk14 : KB W1 w14 := Below.trans hk13 (hb14.mono (Below.size hk13))
              clear hb14 r0 r1 r2 r3 r4 r5
              obtain ⟨r0, r1, r2, r3, r4, r5⟩ := HC.out w14 hk14
              try go_simp
              refine hK _ _ ?_
              clear hK K
              refine anyL_one (g := 1) 34 (by kernel_rfl) rfl (fun K hK => ?_)
              go_simp
              first
                | (refine .inl ?_; try go_simp; refine hK _ _ ?_; clear hK K)
                | (refine hK _ _ ?_; clear hK K)
              refine anyL_one (g := 0) 35 (by kernel_rfl) rfl (fun K hK => ?_)
              go_simp
              first
                | (refine .inl ?_; try go_simp; refine hK _ _ ?_; clear hK K)
                | (refine hK _ _ ?_; clear hK K)
              refine anyL_done (by kernel_rfl) ?_
              go_wp2_with fail
              go_ret
              exact ⟨rfl, HB1.out.trans (Below.mono hk14 HB1.out.size)⟩
            · go_simp
              first
                | (refine .inl ?_; try go_simp; refine hK _ _ ?_; clear hK K)
                | (refine hK _ _ ?_; clear hK K)
              refine anyL_one (g := 7) 27 (by kernel_rfl) rfl (fun K hK => ?_)
              go_simp
              refine .inl ((Q7.out _ (HB1.out.trans (Below.mono hk11 HB1.out.size))).mono ?_)
              rintro e w12 ⟨rfl, hb12⟩
              have hk12 : KB W1 w12 := Below.trans hk11 (hb12.mono (Below.size hk11))
              clear hb12 r0 r1 r2 r3 r4 r5
              obtain ⟨r0, r1, r2, r3, r4, r5⟩ := HC.out w12 hk12
              try go_simp
              refine hK _ _ ?_
              clear hK K
              refine anyL_one (g := 6) 29 (by kernel_rfl) rfl (fun K hK => ?_)
              go_simp
              refine .inl ((Q8.out _ (HB1.out.trans (Below.mono hk12 HB1.out.size))).mono ?_)
              rintro e w13 ⟨rfl, hb13⟩
              have hk13 : KB W1 w13 := Below.trans hk12 (hb13.mono (Below.size hk12))
              clear hb13 r0 r1 r2 r3 r4 r5
              obtain ⟨r0, r1, r2, r3, r4, r5⟩ := HC.out w13 hk13
              try go_simp
              refine hK _ _ ?_
              clear hK K
              refine anyL_one (g := 5) 30 (by kernel_rfl) rfl (fun K hK => ?_)
              go_simp
              first
                | (refine .inl ?_; try go_simp; refine hK _ _ ?_; clear hK K)
                | (refine hK _ _ ?_; clear hK K)
              refine anyL_one (g := 4) 31 (by kernel_rfl) rfl (fun K hK => ?_)
              go_simp
              first
                | (refine .inl ?_; try go_simp; refine hK _ _ ?_; clear hK K)
                | (refine hK _ _ ?_; clear hK K)
              refine anyL_one (g := 3) 32 (by kernel_rfl) rfl (fun K hK => ?_)
              go_simp
              first
                | (refine .inl ?_; try go_simp; refine hK _ _ ?_; clear hK K)
                | (refine hK _ _ ?_; clear hK K)
              refine anyL_one (g := 2) 33 (by kernel_rfl) rfl (fun K hK => ?_)
              go_simp
              refine .inl ((WK.out _ (HB1.out.trans (Below.mono hk13 HB1.out.size))).mono ?_)
              rintro e w14 ⟨rfl, hb14⟩
              have hk14 : KB W1 w14 := Below.trans hk13 (hb14.mono (Below.size hk13))
              clear hb14 r0 r1 r2 r3 r4 r5
              obtain ⟨r0, r1, r2, r3, r4, r5⟩ := HC.out w14 hk14
              try go_simp
              refine hK _ _ ?_
              clear hK K
              refine anyL_one (g := 1) 34 (by kernel_rfl) rfl (fun K hK => ?_)
              go_simp
              first
                | (refine .inl ?_; try go_simp; refine hK _ _ ?_; clear hK K)
                | (refine hK _ _ ?_; clear hK K)
              refine anyL_one (g := 0) 35 (by kernel_rfl) rfl (fun K hK => ?_)
              go_simp
              first
                | (refine .inl ?_; try go_simp; refine hK _ _ ?_; clear hK K)
                | (refine hK _ _ ?_; clear hK K)
              refine anyL_done (by kernel_rfl) ?_
              go_wp2_with fail
              go_ret
              exact ⟨rfl, HB1.out.trans (Below.mono hk14 HB1.out.size)⟩
          · go_simp
            first
              | (refine .inl ?_; try go_simp; refine hK _ _ ?_; clear hK K)
              | (refine hK _ _ ?_; clear hK K)
            refine anyL_one (g := 8) 26 (by kernel_rfl) rfl (fun K hK => ?_)
            go_simp
            first
              | (refine .inl ?_; try go_simp; refine hK _ _ ?_; clear hK K)
              | (refine hK _ _ ?_; clear hK K)
            refine anyL_one (g := 7) 27 (by kernel_rfl) rfl (fun K hK => ?_)
            go_simp
            refine .inl ((Q7.out _ (HB1.out.trans (Below.mono hk11 HB1.out.size))).mono ?_)
            rintro e w12 ⟨rfl, hb12⟩
            have hk12 : KB W1 w12 := Below.trans hk11 (hb12.mono (Below.size hk11))
            clear hb12 r0 r1 r2 r3 r4 r5
            obtain ⟨r0, r1, r2, r3, r4, r5⟩ := HC.out w12 hk12
            try go_simp
            refine hK _ _ ?_
            clear hK K
            refine anyL_one (g := 6) 29 (by kernel_rfl) rfl (fun K hK => ?_)
            go_simp
            refine .inl ((Q8.out _ (HB1.out.trans (Below.mono hk12 HB1.out.size))).mono ?_)
            rintro e w13 ⟨rfl, hb13⟩
            have hk13 : KB W1 w13 := Below.trans hk12 (hb13.mono (Below.size hk12))
            clear hb13 r0 r1 r2 r3 r4 r5
            obtain ⟨r0, r1, r2, r3, r4, r5⟩ := HC.out w13 hk13
            try go_simp
            refine hK _ _ ?_
            clear hK K
            refine anyL_one (g := 5) 30 (by kernel_rfl) rfl (fun K hK => ?_)
            go_simp
            first
              | (refine .inl ?_; try go_simp; refine hK _ _ ?_; clear hK K)
              | (refine hK _ _ ?_; clear hK K)
            refine anyL_one (g := 4) 31 (by kernel_rfl) rfl (fun K hK => ?_)
            go_simp
            first
              | (refine .inl ?_; try go_simp; refine hK _ _ ?_; clear hK K)
              | (refine hK _ _ ?_; clear hK K)
            refine anyL_one (g := 3) 32 (by kernel_rfl) rfl (fun K hK => ?_)
            go_simp
            first
              | (refine .inl ?_; try go_simp; refine hK _ _ ?_; clear hK K)
              | (refine hK _ _ ?_; clear hK K)
            refine anyL_one (g := 2) 33 (by kernel_rfl) rfl (fun K hK => ?_)
            go_simp
            refine .inl ((WK.out _ (HB1.out.trans (Below.mono hk13 HB1.out.size))).mono ?_)
            rintro e w14 ⟨rfl, hb14⟩
            have hk14 : KB W1 w14 := Below.trans hk13 (hb14.mono (Below.size hk13))
            clear hb14 r0 r1 r2 r3 r4 r5
            obtain ⟨r0, r1, r2, r3, r4, r5⟩ := HC.out w14 hk14
            try go_simp
            refine hK _ _ ?_
            clear hK K
            refine anyL_one (g := 1) 34 (by kernel_rfl) rfl (fun K hK => ?_)
            go_simp
            first
              | (refine .inl ?_; try go_simp; refine hK _ _ ?_; clear hK K)
              | (refine hK _ _ ?_; clear hK K)
            refine anyL_one (g := 0) 35 (by kernel_rfl) rfl (fun K hK => ?_)
            go_simp
            first
              | (refine .inl ?_; try go_simp; refine hK _ _ ?_; clear hK K)
              | (refine hK _ _ ?_; clear hK K)
            refine anyL_done (by kernel_rfl) ?_
            go_wp2_with fail
            go_ret
            exact ⟨rfl, HB1.out.trans (Below.mono hk14 HB1.out.size)⟩
        · go_simp
          first
            | (refine .inl ?_; try go_simp; refine hK _ _ ?_; clear hK K)
            | (refine hK _ _ ?_; clear hK K)
          refine anyL_one (g := 14) 20 (by kernel_rfl) rfl (fun K hK => ?_)
          go_simp
          refine .inl ((Q5.out _ (HB1.out.trans (Below.mono hk8 HB1.out.size))).mono ?_)
          rintro e w10 ⟨rfl, hb10⟩
          have hk10 : KB W1 w10 := Below.trans hk8 (hb10.mono (Below.size hk8))
          clear hb10 r0 r1 r2 r3 r4 r5
          obtain ⟨r0, r1, r2, r3, r4, r5⟩ := HC.out w10 hk10
          try go_simp
          refine hK _ _ ?_
          clear hK K
          refine anyL_one (g := 13) 22 (by kernel_rfl) rfl (fun K hK => ?_)
          go_simp
          refine .inl ((Q6.out _ (HB1.out.trans (Below.mono hk10 HB1.out.size))).mono ?_)
          rintro e w11 ⟨rfl, hb11⟩
          have hk11 : KB W1 w11 := Below.trans hk10 (hb11.mono (Below.size hk10))
          clear hb11 r0 r1 r2 r3 r4 r5
          obtain ⟨r0, r1, r2, r3, r4, r5⟩ := HC.out w11 hk11
          try go_simp
          refine hK _ _ ?_
          clear hK K
          refine anyL_one (g := 12) 23 (by kernel_rfl) rfl (fun K hK => ?_)
          go_simp
          first
            | (refine .inl ?_; try go_simp; refine hK _ _ ?_; clear hK K)
            | (refine hK _ _ ?_; clear hK K)
          refine anyL_one (g := 11) 24 (by kernel_rfl) rfl (fun K hK => ?_)
          go_simp
          first
            | (refine .inl ?_; try go_simp; refine hK _ _ ?_; clear hK K)
            | (refine hK _ _ ?_; clear hK K)
          refine anyL_one (g := 10) 25 (by kernel_rfl) rfl (fun K hK => ?_)
          go_simp
          first
            | (refine .inl ?_; try go_simp; refine hK _ _ ?_; clear hK K)
            | (refine hK _ _ ?_; clear hK K)
          refine anyL_two (g := 9) 26 28 (by kernel_rfl) rfl rfl (fun K hK => ?_) (fun K hK => ?_)
          · go_simp
            first
              | (refine .inl ?_; try go_simp; refine hK _ _ ?_; clear hK K)
              | (refine hK _ _ ?_; clear hK K)
            refine anyL_two (g := 8) 27 28 (by kernel_rfl) rfl rfl (fun K hK => ?_) (fun K hK => ?_)
            · go_simp
              refine .inl ((Q7.out _ (HB1.out.trans (Below.mono hk11 HB1.out.size))).mono ?_)
              rintro e w12 ⟨rfl, hb12⟩
              have hk12 : KB W1 w12 := Below.trans hk11 (hb12.mono (Below.size hk11))
              clear hb12 r0 r1 r2 r3 r4 r5
              obtain ⟨r0, r1, r2, r3, r4, r5⟩ := HC.out w12 hk12
              try go_simp
              refine hK _ _ ?_
              clear hK K
              refine anyL_one (g := 7) 28 (by kernel_rfl) rfl (fun K hK => ?_)
              go_simp
              first
                | (refine .inl ?_; try go_simp; refine hK _ _ ?_; clear hK K)
                | (refine hK _ _ ?_; clear hK K)
              refine anyL_one (g := 6) 29 (by kernel_rfl) rfl (fun K hK => ?_)
              go_simp
              refine .inl ((Q8.out _ (HB1.out.trans (Below.mono hk12 HB1.out.size))).mono ?_)
              rintro e w13 ⟨rfl, hb13⟩
              have hk13 : KB W1 w13 := Below.trans hk12 (hb13.mono (Below.size hk12))
              clear hb13 r0 r1 r2 r3 r4 r5
              obtain ⟨r0, r1, r2, r3, r4, r5⟩ := HC.out w13 hk13
              try go_simp
              refine hK _ _ ?_
              clear hK K
              refine anyL_one (g := 5) 30 (by kernel_rfl) rfl (fun K hK => ?_)
              go_simp
              first
                | (refine .inl ?_; try go_simp; refine hK _ _ ?_; clear hK K)
                | (refine hK _ _ ?_; clear hK K)
              refine anyL_one (g := 4) 31 (by kernel_rfl) rfl (fun K hK => ?_)
              go_simp
              first
                | (refine .inl ?_; try go_simp; refine hK _ _ ?_; clear hK K)
                | (refine hK _ _ ?_; clear hK K)
              refine anyL_one (g := 3) 32 (by kernel_rfl) rfl (fun K hK => ?_)
              go_simp
              first
                | (refine .inl ?_; try go_simp; refine hK _ _ ?_; clear hK K)
                | (refine hK _ _ ?_; clear hK K)
              refine anyL_one (g := 2) 33 (by kernel_rfl) rfl (fun K hK => ?_)
              go_simp
              refine .inl ((WK.out _ (HB1.out.trans (Below.mono hk13 HB1.out.size))).mono ?_)
              rintro e w14 ⟨rfl, hb14⟩
              have hk14 : KB W1 w14 := Below.trans hk13 (hb14.mono (Below.size hk13))
              clear hb14 r0 r1 r2 r3 r4 r5
              obtain ⟨r0, r1, r2, r3, r4, r5⟩ := HC.out w14 hk14
              try go_simp
              refine hK _ _ ?_
              clear hK K
              refine anyL_one (g := 1) 34 (by kernel_rfl) rfl (fun K hK => ?_)
              go_simp
              first
                | (refine .inl ?_; try go_simp; refine hK _ _ ?_; clear hK K)
                | (refine hK _ _ ?_; clear hK K)
              refine anyL_one (g := 0) 35 (by kernel_rfl) rfl (fun K hK => ?_)
              go_simp
              first
                | (refine .inl ?_; try go_simp; refine hK _ _ ?_; clear hK K)
                | (refine hK _ _ ?_; clear hK K)
              refine anyL_done (by kernel_rfl) ?_
              go_wp2_with fail
              go_ret
              exact ⟨rfl, HB1.out.trans (Below.mono hk14 HB1.out.size)⟩
            · go_simp
              first
                | (refine .inl ?_; try go_simp; refine hK _ _ ?_; clear hK K)
                | (refine hK _ _ ?_; clear hK K)
              refine anyL_one (g := 7) 27 (by kernel_rfl) rfl (fun K hK => ?_)
              go_simp
              refine .inl ((Q7.out _ (HB1.out.trans (Below.mono hk11 HB1.out.size))).mono ?_)
              rintro e w12 ⟨rfl, hb12⟩
              have hk12 : KB W1 w12 := Below.trans hk11 (hb12.mono (Below.size hk11))
              clear hb12 r0 r1 r2 r3 r4 r5
              obtain ⟨r0, r1, r2, r3, r4, r5⟩ := HC.out w12 hk12
              try go_simp
              refine hK _ _ ?_
              clear hK K
              refine anyL_one (g := 6) 29 (by kernel_rfl) rfl (fun K hK => ?_)
              go_simp
              refine .inl ((Q8.out _ (HB1.out.trans (Below.mono hk12 HB1.out.size))).mono ?_)
              rintro e w13 ⟨rfl, hb13⟩
              have hk13 : KB W1 w13 := Below.trans hk12 (hb13.mono (Below.size hk12))
              clear hb13 r0 r1 r2 r3 r4 r5
              obtain ⟨r0, r1, r2, r3, r4, r5⟩ := HC.out w13 hk13
              try go_simp
              refine hK _ _ ?_
              clear hK K
              refine anyL_one (g := 5) 30 (by kernel_rfl) rfl (fun K hK => ?_)
              go_simp
              first
                | (refine .inl ?_; try go_simp; refine hK _ _ ?_; clear hK K)
                | (refine hK _ _ ?_; clear hK K)
              refine anyL_one (g := 4) 31 (by kernel_rfl) rfl (fun K hK => ?_)
              go_simp
              first
                | (refine .inl ?_; try go_simp; refine hK _ _ ?_; clear hK K)
                | (refine hK _ _ ?_; clear hK K)
              refine anyL_one (g := 3) 32 (by kernel_rfl) rfl (fun K hK => ?_)
              go_simp
              first
                | (refine .inl ?_; try go_simp; refine hK _ _ ?_; clear hK K)
                | (refine hK _ _ ?_; clear hK K)
              refine anyL_one (g := 2) 33 (by kernel_rfl) rfl (fun K hK => ?_)
              go_simp
              refine .inl ((WK.out _ (HB1.out.trans (Below.mono hk13 HB1.out.size))).mono ?_)
              rintro e w14 ⟨rfl, hb14⟩
              have hk14 : KB W1 w14 := Below.trans hk13 (hb14.mono (Below.size hk13))
              clear hb14 r0 r1 r2 r3 r4 r5
              obtain ⟨r0, r1, r2, r3, r4, r5⟩ := HC.out w14 hk14
              try go_simp
              refine hK _ _ ?_
              clear hK K
              refine anyL_one (g := 1) 34 (by kernel_rfl) rfl (fun K hK => ?_)
              go_simp
              first
                | (refine .inl ?_; try go_simp; refine hK _ _ ?_; clear hK K)
                | (refine hK _ _ ?_; clear hK K)
              refine anyL_one (g := 0) 35 (by kernel_rfl) rfl (fun K hK => ?_)
              go_simp
              first
                | (refine .inl ?_; try go_simp; refine hK _ _ ?_; clear hK K)
                | (refine hK _ _ ?_; clear hK K)
              refine anyL_done (by kernel_rfl) ?_
              go_wp2_with fail
              go_ret
              exact ⟨rfl, HB1.out.trans (Below.mono hk14 HB1.out.size)⟩
          · go_simp
            first
              | (refine .inl ?_; try go_simp; refine hK _ _ ?_; clear hK K)
              | (refine hK _ _ ?_; clear hK K)
            refine anyL_one (g := 8) 26 (by kernel_rfl) rfl (fun K hK => ?_)
            go_simp
            first
              | (refine .inl ?_; try go_simp; refine hK _ _ ?_; clear hK K)
              | (refine hK _ _ ?_; clear hK K)
            refine anyL_one (g := 7) 27 (by kernel_rfl) rfl (fun K hK => ?_)
            go_simp
            refine .inl ((Q7.out _ (HB1.out.trans (Below.mono hk11 HB1.out.size))).mono ?_)
            rintro e w12 ⟨rfl, hb12⟩
            have hk12 : KB W1 w12 := Below.trans hk11 (hb12.mono (Below.size hk11))
            clear hb12 r0 r1 r2 r3 r4 r5
            obtain ⟨r0, r1, r2, r3, r4, r5⟩ := HC.out w12 hk12
            try go_simp
            refine hK _ _ ?_
            clear hK K
            refine anyL_one (g := 6) 29 (by kernel_rfl) rfl (fun K hK => ?_)
            go_simp
            refine .inl ((Q8.out _ (HB1.out.trans (Below.mono hk12 HB1.out.size))).mono ?_)
            rintro e w13 ⟨rfl, hb13⟩
            have hk13 : KB W1 w13 := Below.trans hk12 (hb13.mono (Below.size hk12))
            clear hb13 r0 r1 r2 r3 r4 r5
            obtain ⟨r0, r1, r2, r3, r4, r5⟩ := HC.out w13 hk13
            try go_simp
            refine hK _ _ ?_
            clear hK K
            refine anyL_one (g := 5) 30 (by kernel_rfl) rfl (fun K hK => ?_)
            go_simp
            first
              | (refine .inl ?_; try go_simp; refine hK _ _ ?_; clear hK K)
              | (refine hK _ _ ?_; clear hK K)
            refine anyL_one (g := 4) 31 (by kernel_rfl) rfl (fun K hK => ?_)
            go_simp
            first
              | (refine .inl ?_; try go_simp; refine hK _ _ ?_; clear hK K)
              | (refine hK _ _ ?_; clear hK K)
            refine anyL_one (g := 3) 32 (by kernel_rfl) rfl (fun K hK => ?_)
            go_simp
            first
              | (refine .inl ?_; try go_simp; refine hK _ _ ?_; clear hK K)
              | (refine hK _ _ ?_; clear hK K)
            refine anyL_one (g := 2) 33 (by kernel_rfl) rfl (fun K hK => ?_)
            go_simp
            refine .inl ((WK.out _ (HB1.out.trans (Below.mono hk13 HB1.out.size))).mono ?_)
            rintro e w14 ⟨rfl, hb14⟩
            have hk14 : KB W1 w14 := Below.trans hk13 (hb14.mono (Below.size hk13))
            clear hb14 r0 r1 r2 r3 r4 r5
            obtain ⟨r0, r1, r2, r3, r4, r5⟩ := HC.out w14 hk14
            try go_simp
            refine hK _ _ ?_
            clear hK K
            refine anyL_one (g := 1) 34 (by kernel_rfl) rfl (fun K hK => ?_)
            go_simp
            first
              | (refine .inl ?_; try go_simp; refine hK _ _ ?_; clear hK K)
              | (refine hK _ _ ?_; clear hK K)
            refine anyL_one (g := 0) 35 (by kernel_rfl) rfl (fun K hK => ?_)
            go_simp
            first
              | (refine .inl ?_; try go_simp; refine hK _ _ ?_; clear hK K)
              | (refine hK _ _ ?_; clear hK K)
            refine anyL_done (by kernel_rfl) ?_
            go_wp2_with fail
            go_ret
            exact ⟨rfl, HB1.out.trans (Below.mono hk14 HB1.out.size)⟩
      · go_simp
        first
          | (refine .inl ?_; try go_simp; refine hK _ _ ?_; clear hK K)
          | (refine hK _ _ ?_; clear hK K)
        refine anyL_one (g := 15) 19 (by kernel_rfl) rfl (fun K hK => ?_)
        go_simp
        first
          | (refine .inl ?_; try go_simp; refine hK _ _ ?_; clear hK K)
          | (refine hK _ _ ?_; clear hK K)
        refine anyL_one (g := 14) 20 (by kernel_rfl) rfl (fun K hK => ?_)
        go_simp
        refine .inl ((Q5.out _ (HB1.out.trans (Below.mono hk8 HB1.out.size))).mono ?_)
        rintro e w10 ⟨rfl, hb10⟩
        have hk10 : KB W1 w10 := Below.trans hk8 (hb10.mono (Below.size hk8))
        clear hb10 r0 r1 r2 r3 r4 r5
        obtain ⟨r0, r1, r2, r3, r4, r5⟩ := HC.out w10 hk10
        try go_simp
        refine hK _ _ ?_
        clear hK K
        refine anyL_one (g := 13) 22 (by kernel_rfl) rfl (fun K hK => ?_)
        go_simp
        refine .inl ((Q6.out _ (HB1.out.trans (Below.mono hk10 HB1.out.size))).mono ?_)
        rintro e w11 ⟨rfl, hb11⟩
        have hk11 : KB W1 w11 := Below.trans hk10 (hb11.mono (Below.size hk10))
        clear hb11 r0 r1 r2 r3 r4 r5
        obtain ⟨r0, r1, r2, r3, r4, r5⟩ := HC.out w11 hk11
        try go_simp
        refine hK _ _ ?_
        clear hK K
        refine anyL_one (g := 12) 23 (by kernel_rfl) rfl (fun K hK => ?_)
        go_simp
        first
          | (refine .inl ?_; try go_simp; refine hK _ _ ?_; clear hK K)
          | (refine hK _ _ ?_; clear hK K)
        refine anyL_one (g := 11) 24 (by kernel_rfl) rfl (fun K hK => ?_)
        go_simp
        first
          | (refine .inl ?_; try go_simp; refine hK _ _ ?_; clear hK K)
          | (refine hK _ _ ?_; clear hK K)
        refine anyL_one (g := 10) 25 (by kernel_rfl) rfl (fun K hK => ?_)
        go_simp
        first
          | (refine .inl ?_; try go_simp; refine hK _ _ ?_; clear hK K)
          | (refine hK _ _ ?_; clear hK K)
        refine anyL_two (g := 9) 26 28 (by kernel_rfl) rfl rfl (fun K hK => ?_) (fun K hK => ?_)
        · go_simp
          first
            | (refine .inl ?_; try go_simp; refine hK _ _ ?_; clear hK K)
            | (refine hK _ _ ?_; clear hK K)
          refine anyL_two (g := 8) 27 28 (by kernel_rfl) rfl rfl (fun K hK => ?_) (fun K hK => ?_)
          · go_simp
            refine .inl ((Q7.out _ (HB1.out.trans (Below.mono hk11 HB1.out.size))).mono ?_)
            rintro e w12 ⟨rfl, hb12⟩
            have hk12 : KB W1 w12 := Below.trans hk11 (hb12.mono (Below.size hk11))
            clear hb12 r0 r1 r2 r3 r4 r5
            obtain ⟨r0, r1, r2, r3, r4, r5⟩ := HC.out w12 hk12
            try go_simp
            refine hK _ _ ?_
            clear hK K
            refine anyL_one (g := 7) 28 (by kernel_rfl) rfl (fun K hK => ?_)
            go_simp
            first
              | (refine .inl ?_; try go_simp; refine hK _ _ ?_; clear hK K)
              | (refine hK _ _ ?_; clear hK K)
            refine anyL_one (g := 6) 29 (by kernel_rfl) rfl (fun K hK => ?_)
            go_simp
            refine .inl ((Q8.out _ (HB1.out.trans (Below.mono hk12 HB1.out.size))).mono ?_)
            rintro e w13 ⟨rfl, hb13⟩
            have hk13 : KB W1 w13 := Below.trans hk12 (hb13.mono (Below.size hk12))
            clear hb13 r0 r1 r2 r3 r4 r5
            obtain ⟨r0, r1, r2, r3, r4, r5⟩ := HC.out w13 hk13
            try go_simp
            refine hK _ _ ?_
            clear hK K
            refine anyL_one (g := 5) 30 (by kernel_rfl) rfl (fun K hK => ?_)
            go_simp
            first
              | (refine .inl ?_; try go_simp; refine hK _ _ ?_; clear hK K)
              | (refine hK _ _ ?_; clear hK K)
            refine anyL_one (g := 4) 31 (by kernel_rfl) rfl (fun K hK => ?_)
            go_simp
            first
              | (refine .inl ?_; try go_simp; refine hK _ _ ?_; clear hK K)
              | (refine hK _ _ ?_; clear hK K)
            refine anyL_one (g := 3) 32 (by kernel_rfl) rfl (fun K hK => ?_)
            go_simp
            first
              | (refine .inl ?_; try go_simp; refine hK _ _ ?_; clear hK K)
              | (refine hK _ _ ?_; clear hK K)
            refine anyL_one (g := 2) 33 (by kernel_rfl) rfl (fun K hK => ?_)
            go_simp
            refine .inl ((WK.out _ (HB1.out.trans (Below.mono hk13 HB1.out.size))).mono ?_)
            rintro e w14 ⟨rfl, hb14⟩
            have hk14 : KB W1 w14 := Below.trans hk13 (hb14.mono (Below.size hk13))
            clear hb14 r0 r1 r2 r3 r4 r5
            obtain ⟨r0, r1, r2, r3, r4, r5⟩ := HC.out w14 hk14
            try go_simp
            refine hK _ _ ?_
            clear hK K
            refine anyL_one (g := 1) 34 (by kernel_rfl) rfl (fun K hK => ?_)
            go_simp
            first
              | (refine .inl ?_; try go_simp; refine hK _ _ ?_; clear hK K)
              | (refine hK _ _ ?_; clear hK K)
            refine anyL_one (g := 0) 35 (by kernel_rfl) rfl (fun K hK => ?_)
            go_simp
            first
              | (refine .inl ?_; try go_simp; refine hK _ _ ?_; clear hK K)
              | (refine hK _ _ ?_; clear hK K)
            refine anyL_done (by kernel_rfl) ?_
            go_wp2_with fail
            go_ret
            exact ⟨rfl, HB1.out.trans (Below.mono hk14 HB1.out.size)⟩
          · go_simp
            first
              | (refine .inl ?_; try go_simp; refine hK _ _ ?_; clear hK K)
              | (refine hK _ _ ?_; clear hK K)
            refine anyL_one (g := 7) 27 (by kernel_rfl) rfl (fun K hK => ?_)
            go_simp
            refine .inl ((Q7.out _ (HB1.out.trans (Below.mono hk11 HB1.out.size))).mono ?_)
            rintro e w12 ⟨rfl, hb12⟩
            have hk12 : KB W1 w12 := Below.trans hk11 (hb12.mono (Below.size hk11))
            clear hb12 r0 r1 r2 r3 r4 r5
            obtain ⟨r0, r1, r2, r3, r4, r5⟩ := HC.out w12 hk12
            try go_simp
            refine hK _ _ ?_
            clear hK K
            refine anyL_one (g := 6) 29 (by kernel_rfl) rfl (fun K hK => ?_)
            go_simp
            refine .inl ((Q8.out _ (HB1.out.trans (Below.mono hk12 HB1.out.size))).mono ?_)
            rintro e w13 ⟨rfl, hb13⟩
            have hk13 : KB W1 w13 := Below.trans hk12 (hb13.mono (Below.size hk12))
            clear hb13 r0 r1 r2 r3 r4 r5
            obtain ⟨r0, r1, r2, r3, r4, r5⟩ := HC.out w13 hk13
            try go_simp
            refine hK _ _ ?_
            clear hK K
            refine anyL_one (g := 5) 30 (by kernel_rfl) rfl (fun K hK => ?_)
            go_simp
            first
              | (refine .inl ?_; try go_simp; refine hK _ _ ?_; clear hK K)
              | (refine hK _ _ ?_; clear hK K)
            refine anyL_one (g := 4) 31 (by kernel_rfl) rfl (fun K hK => ?_)
            go_simp
            first
              | (refine .inl ?_; try go_simp; refine hK _ _ ?_; clear hK K)
              | (refine hK _ _ ?_; clear hK K)
            refine anyL_one (g := 3) 32 (by kernel_rfl) rfl (fun K hK => ?_)
            go_simp
            first
              | (refine .inl ?_; try go_simp; refine hK _ _ ?_; clear hK K)
              | (refine hK _ _ ?_; clear hK K)
            refine anyL_one (g := 2) 33 (by kernel_rfl) rfl (fun K hK => ?_)
            go_simp
            refine .inl ((WK.out _ (HB1.out.trans (Below.mono hk13 HB1.out.size))).mono ?_)
            rintro e w14 ⟨rfl, hb14⟩
            have hk14 : KB W1 w14 := Below.trans hk13 (hb14.mono (Below.size hk13))
            clear hb14 r0 r1 r2 r3 r4 r5
            obtain ⟨r0, r1, r2, r3, r4, r5⟩ := HC.out w14 hk14
            try go_simp
            refine hK _ _ ?_
            clear hK K
            refine anyL_one (g := 1) 34 (by kernel_rfl) rfl (fun K hK => ?_)
            go_simp
            first
              | (refine .inl ?_; try go_simp; refine hK _ _ ?_; clear hK K)
              | (refine hK _ _ ?_; clear hK K)
            refine anyL_one (g := 0) 35 (by kernel_rfl) rfl (fun K hK => ?_)
            go_simp
            first
              | (refine .inl ?_; try go_simp; refine hK _ _ ?_; clear hK K)
              | (refine hK _ _ ?_; clear hK K)
            refine anyL_done (by kernel_rfl) ?_
            go_wp2_with fail
            go_ret
            exact ⟨rfl, HB1.out.trans (Below.mono hk14 HB1.out.size)⟩
        · go_simp
          first
            | (refine .inl ?_; try go_simp; refine hK _ _ ?_; clear hK K)
            | (refine hK _ _ ?_; clear hK K)
          refine anyL_one (g := 8) 26 (by kernel_rfl) rfl (fun K hK => ?_)
          go_simp
          first
            | (refine .inl ?_; try go_simp; refine hK _ _ ?_; clear hK K)
            | (refine hK _ _ ?_; clear hK K)
          refine anyL_one (g := 7) 27 (by kernel_rfl) rfl (fun K hK => ?_)
          go_simp
          refine .inl ((Q7.out _ (HB1.out.trans (Below.mono hk11 HB1.out.size))).mono ?_)
          rintro e w12 ⟨rfl, hb12⟩
          have hk12 : KB W1 w12 := Below.trans hk11 (hb12.mono (Below.size hk11))
          clear hb12 r0 r1 r2 r3 r4 r5
          obtain ⟨r0, r1, r2, r3, r4, r5⟩ := HC.out w12 hk12
          try go_simp
          refine hK _ _ ?_
          clear hK K
          refine anyL_one (g := 6) 29 (by kernel_rfl) rfl (fun K hK => ?_)
          go_simp
          refine .inl ((Q8.out _ (HB1.out.trans (Below.mono hk12 HB1.out.size))).mono ?_)
          rintro e w13 ⟨rfl, hb13⟩
          have hk13 : KB W1 w13 := Below.trans hk12 (hb13.mono (Below.size hk12))
          clear hb13 r0 r1 r2 r3 r4 r5
          obtain ⟨r0, r1, r2, r3, r4, r5⟩ := HC.out w13 hk13
          try go_simp
          refine hK _ _ ?_
          clear hK K
          refine anyL_one (g := 5) 30 (by kernel_rfl) rfl (fun K hK => ?_)
          go_simp
          first
            | (refine .inl ?_; try go_simp; refine hK _ _ ?_; clear hK K)
            | (refine hK _ _ ?_; clear hK K)
          refine anyL_one (g := 4) 31 (by kernel_rfl) rfl (fun K hK => ?_)
          go_simp
          first
            | (refine .inl ?_; try go_simp; refine hK _ _ ?_; clear hK K)
            | (refine hK _ _ ?_; clear hK K)
          refine anyL_one (g := 3) 32 (by kernel_rfl) rfl (fun K hK => ?_)
          go_simp
          first
            | (refine .inl ?_; try go_simp; refine hK _ _ ?_; clear hK K)
            | (refine hK _ _ ?_; clear hK K)
          refine anyL_one (g := 2) 33 (by kernel_rfl) rfl (fun K hK => ?_)
          go_simp
          refine .inl ((WK.out _ (HB1.out.trans (Below.mono hk13 HB1.out.size))).mono ?_)
          rintro e w14 ⟨rfl, hb14⟩
          have hk14 : KB W1 w14 := Below.trans hk13 (hb14.mono (Below.size hk13))
          clear hb14 r0 r1 r2 r3 r4 r5
          obtain ⟨r0, r1, r2, r3, r4, r5⟩ := HC.out w14 hk14
          try go_simp
          refine hK _ _ ?_
          clear hK K
          refine anyL_one (g := 1) 34 (by kernel_rfl) rfl (fun K hK => ?_)
          go_simp
          first
            | (refine .inl ?_; try go_simp; refine hK _ _ ?_; clear hK K)
            | (refine hK _ _ ?_; clear hK K)
          refine anyL_one (g := 0) 35 (by kernel_rfl) rfl (fun K hK => ?_)
          go_simp
          first
            | (refine .inl ?_; try go_simp; refine hK _ _ ?_; clear hK K)
            | (refine hK _ _ ?_; clear hK K)
          refine anyL_done (by kernel_rfl) ?_
          go_wp2_with fail
          go_ret
          exact ⟨rfl, HB1.out.trans (Below.mono hk14 HB1.out.size)⟩
/-- The statement. -/
theorem printTells_any (v : Value) (x : V) (s : ByteArray) (w : World) (hE : Env w) (h : isV w x v) :
    Calls Tryz.prog 3 #[v, .string s] w fun e w' => e = .returned (.bool true) ∧ Below w.heap.size w w' := by
  have hsz : greatB x = false → sizeV x ≤ 20000 := fun hg => by have := (great_no hg).1; omega
  have hsz2 : greatB x = false → sizeV x ≤ 1000000 := fun hg => by have := (great_no hg).1; omega
  have hl := outS_len (C := [58]) (I := I0) x
  exact tellsLaw_walk x v s w h (tx (outS [58] I0 x)) (tx (outS [58, 32] I2 x)) (outE [58] I0 x) (outE [58, 32] I2 x) (greatB x) (wordB s) (outS [58] I0 x).length (by omega)
    (Lib.hid fun w1 hK => wakes5_any w1 (hE.kb hK)) (Lib.hid fun w1 hK => great_any x v w1 (isV_below hK h))
    (Lib.hid fun hg w1 hK => print_any x v w1 (hE.kb hK) (hsz2 hg) (great_fine hg) (isV_below hK h))
    (Lib.hid fun hg w1 hK => rprintT_any x v w1 (hsz hg) (isV_below hK h))
    (Lib.hid fun hg w1 hK => broad_any x v w1 (hE.kb hK) (hsz2 hg) (great_fine hg) (isV_below hK h))
    (Lib.hid fun hg w1 hK => rbroadT_any x v w1 (hsz hg) (isV_below hK h))
    (Lib.hid fun hg w1 hK => plen_any x v w1 (hE.kb hK) (hsz2 hg) (great_fine hg) (isV_below hK h))
    (Lib.hid fun hg w1 hK => rlenT_any x v w1 (hsz hg) (isV_below hK h))
    (Lib.hid fun hs w1 hK => pword_any s w1 (hE.kb hK) (by omega))
    (Lib.hid fun hs w1 hK => rword_any s w1 (by omega))
end Go.Proofs.YtllkcldckehipaaGreatDoor
