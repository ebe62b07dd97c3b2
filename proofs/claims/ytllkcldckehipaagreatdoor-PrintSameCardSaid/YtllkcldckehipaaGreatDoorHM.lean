/-
  Two values print alike just if they are equal: the walk, over what its callees answer. · Two values print alike just if they are equal.
-/
import Derived.Test.YtllkcldckehipaaGreatDoorGB
import Derived.Test.YtllkcldckehipaaGreatDoorGE
import Derived.Test.YtllkcldckehipaaGreatDoorHF
import Derived.Test.YtllkcldckehipaaGreatDoorHK
import Derived.Test.YtllkcldckehipaaGreatDoorHG
import Derived.Test.YtllkcldckehipaaGreatDoorHE
import Derived.Test.YtllkcldckehipaaGreatDoorGI
set_option linter.unusedVariables false
set_option linter.unusedSimpArgs false
namespace Go.Proofs.YtllkcldckehipaaGreatDoor
open Go.RowKit
set_option maxRecDepth 100000 in
set_option maxHeartbeats 8000000 in
theorem sameLaw_walk (x y : V) (v u : Value) (w : World) (h : isV w x v) (h' : isV w y u) (S1 S2 S3 S4 : ByteArray) (E1 E2 E3 E4 : Int) (r gx gy : Bool)
    (WK : Hid (∀ w1, KB w w1 → Calls Tryz.prog 7 #[] w1 fun e w' => e = .returned (.bool true) ∧ Below w1.heap.size w1 w'))
    (GX : Hid (∀ w1, KB w w1 → Calls Tryz.prog 6 #[v] w1 fun e w' => e = .returned (.bool gx) ∧ Below w1.heap.size w1 w'))
    (GY : Hid (∀ w1, KB w w1 → Calls Tryz.prog 6 #[u] w1 fun e w' => e = .returned (.bool gy) ∧ Below w1.heap.size w1 w'))
    (P1 : Hid (gx = false → ∀ w1, KB w w1 → Calls Tryz.prog 8 #[v] w1 fun e w' => e = .returned (.tuple #[.string S1, .int .i64 E1]) ∧ Below w1.heap.size w1 w'))
    (P2 : Hid (gy = false → ∀ w1, KB w w1 → Calls Tryz.prog 8 #[u] w1 fun e w' => e = .returned (.tuple #[.string S2, .int .i64 E2]) ∧ Below w1.heap.size w1 w'))
    (P3 : Hid (gx = false → ∀ w1, KB w w1 → Calls Tryz.prog 10 #[v] w1 fun e w' => e = .returned (.tuple #[.string S3, .int .i64 E3]) ∧ Below w1.heap.size w1 w'))
    (P4 : Hid (gy = false → ∀ w1, KB w w1 → Calls Tryz.prog 10 #[u] w1 fun e w' => e = .returned (.tuple #[.string S4, .int .i64 E4]) ∧ Below w1.heap.size w1 w'))
    (EQ : Hid (gx = false → gy = false → ∀ w1, KB w w1 → Calls Tryz.prog 16 #[v, u] w1 fun e w' => e = .returned (.bool r) ∧ Below w1.heap.size w1 w'))
    (Q1 : Hid (E1 = 0 → E2 = 0 → (S1.toList == S2.toList) = r)) (Q2 : Hid (E3 = 0 → E4 = 0 → (S3.toList == S4.toList) = r)) :
    Calls Tryz.prog 4 #[v, u] w fun e w' => e = .returned (.bool true) ∧ Below w.heap.size w w' := by
  obtain ⟨k, b, n, s, o, m, c, o2, m2, c2, rfl⟩ := isV_six h
  obtain ⟨k', b', n', s', o', m', c', o2', m2', c2', rfl⟩ := isV_six h'
  obtain ⟨W2, hW2⟩ : ∃ W2, (w.alloc (.cells #[.int .i8 k, .bool b, .int .i64 n, .string s, .slice o m c, .slice o2 m2 c2] 26)).alloc (.cells #[.int .i8 k', .bool b', .int .i64 n', .string s', .slice o' m' c', .slice o2' m2' c2'] 26) = W2 := ⟨_, rfl⟩
  have hb2 : KB w W2 := by rw [← hW2]; unfold KB; go_grown
  have hn1 : W2.heap[w.heap.size]? = some (.cells #[.int .i8 k, .bool b, .int .i64 n, .string s, .slice o m c, .slice o2 m2 c2] 26 (0, 0)) := by
    rw [← hW2]
    exact (Below.heap_alloc (w.alloc (.cells #[.int .i8 k, .bool b, .int .i64 n, .string s, .slice o m c, .slice o2 m2 c2] 26)) (.cells #[.int .i8 k', .bool b', .int .i64 n', .string s', .slice o' m' c', .slice o2' m2' c2'] 26) w.heap.size (by simp)).trans (World.alloc_heap_new w _)
  have hn2 : W2.heap[w.heap.size + 1]? = some (.cells #[.int .i8 k', .bool b', .int .i64 n', .string s', .slice o' m' c', .slice o2' m2' c2'] 26 (0, 0)) := by
    rw [← hW2]
    have := World.alloc_heap_new (w.alloc (.cells #[.int .i8 k, .bool b, .int .i64 n, .string s, .slice o m c, .slice o2 m2 c2] 26)) (.cells #[.int .i8 k', .bool b', .int .i64 n', .string s', .slice o' m' c', .slice o2' m2' c2'] 26)
    rw [World.size_alloc] at this
    exact this
  have hs2 : w.heap.size + 2 = W2.heap.size := by rw [← hW2]; simp
  have HC : Hid (∀ w1, KB W2 w1 → (w1.cell? ⟨w.heap.size, 0, none⟩ = some (.int .i8 k) ∧ w1.cell? ⟨w.heap.size, 1, none⟩ = some (.bool b) ∧ w1.cell? ⟨w.heap.size, 2, none⟩ = some (.int .i64 n) ∧ w1.cell? ⟨w.heap.size, 3, none⟩ = some (.string s) ∧ w1.cell? ⟨w.heap.size, 4, none⟩ = some (.slice o m c) ∧ w1.cell? ⟨w.heap.size, 5, none⟩ = some (.slice o2 m2 c2)) ∧ (w1.cell? ⟨w.heap.size + 1, 0, none⟩ = some (.int .i8 k') ∧ w1.cell? ⟨w.heap.size + 1, 1, none⟩ = some (.bool b') ∧ w1.cell? ⟨w.heap.size + 1, 2, none⟩ = some (.int .i64 n') ∧ w1.cell? ⟨w.heap.size + 1, 3, none⟩ = some (.string s') ∧ w1.cell? ⟨w.heap.size + 1, 4, none⟩ = some (.slice o' m' c') ∧ w1.cell? ⟨w.heap.size + 1, 5, none⟩ = some (.slice o2' m2' c2'))) := Lib.hid fun w1 hk =>
    ⟨six_cells ((Below.block hk _ (by omega)).trans hn1), six_cells ((Below.block hk _ (by omega)).trans hn2)⟩
  have HB2 := Lib.hid hb2
  have HK0 := Lib.hid (show KB W2 W2 from Below.refl _ _)
  obtain ⟨⟨a0, a1, a2, a3, a4, a5⟩, ⟨d0, d1, d2, d3, d4, d5⟩⟩ := HC.out W2 HK0.out
  clear h h' hn1 hn2 hs2 hb2
  cases gx with
  | true =>
    clear P1 P2 P3 P4 EQ Q1 Q2 GY
    go_enter Tryz.func4, Tryz.ntmps4
    go_wp2_with fail
    try rw [hW2]
    clear hW2
    refine (GX.out _ (HB2.out.trans (Below.mono HK0.out HB2.out.size))).mono ?_
    rintro e w3 ⟨rfl, hb3⟩
    have HK3 := Lib.hid (show KB W2 w3 from HK0.out.trans (hb3.mono HK0.out.size))
    clear hb3 a0 a1 a2 a3 a4 a5 d0 d1 d2 d3 d4 d5
    obtain ⟨⟨a0, a1, a2, a3, a4, a5⟩, ⟨d0, d1, d2, d3, d4, d5⟩⟩ := HC.out w3 HK3.out
    go_wp2_with fail
    refine (WK.out _ (HB2.out.trans (Below.mono HK3.out HB2.out.size))).mono ?_
    rintro e w9 ⟨rfl, hb9⟩
    have HK9 := Lib.hid (show KB W2 w9 from HK3.out.trans (hb9.mono HK3.out.size))
    clear hb9 a0 a1 a2 a3 a4 a5 d0 d1 d2 d3 d4 d5
    go_wp2_with fail
    go_ret
    exact ⟨rfl, HB2.out.trans (Below.mono HK9.out HB2.out.size)⟩
  | false =>
    have PA := Lib.hid (P1.out rfl)
    have PC := Lib.hid (P3.out rfl)
    have EA := Lib.hid (EQ.out rfl)
    clear P1 P3 EQ
    cases gy with
    | true =>
      clear PA P2 PC P4 EA Q1 Q2
      go_enter Tryz.func4, Tryz.ntmps4
      go_wp2_with fail
      try rw [hW2]
      clear hW2
      refine (GX.out _ (HB2.out.trans (Below.mono HK0.out HB2.out.size))).mono ?_
      rintro e w3 ⟨rfl, hb3⟩
      have HK3 := Lib.hid (show KB W2 w3 from HK0.out.trans (hb3.mono HK0.out.size))
      clear hb3 a0 a1 a2 a3 a4 a5 d0 d1 d2 d3 d4 d5
      obtain ⟨⟨a0, a1, a2, a3, a4, a5⟩, ⟨d0, d1, d2, d3, d4, d5⟩⟩ := HC.out w3 HK3.out
      go_wp2_with fail
      refine (GY.out _ (HB2.out.trans (Below.mono HK3.out HB2.out.size))).mono ?_
      rintro e w4 ⟨rfl, hb4⟩
      have HK4 := Lib.hid (show KB W2 w4 from HK3.out.trans (hb4.mono HK3.out.size))
      clear hb4 a0 a1 a2 a3 a4 a5 d0 d1 d2 d3 d4 d5
      obtain ⟨⟨a0, a1, a2, a3, a4, a5⟩, ⟨d0, d1, d2, d3, d4, d5⟩⟩ := HC.out w4 HK4.out
      go_wp2_with fail
      refine (WK.out _ (HB2.out.trans (Below.mono HK4.out HB2.out.size))).mono ?_
      rintro e w9 ⟨rfl, hb9⟩
      have HK9 := Lib.hid (show KB W2 w9 from HK4.out.trans (hb9.mono HK4.out.size))
      clear hb9 a0 a1 a2 a3 a4 a5 d0 d1 d2 d3 d4 d5
      go_wp2_with fail
      go_ret
      exact ⟨rfl, HB2.out.trans (Below.mono HK9.out HB2.out.size)⟩
    | false =>
      have PB := Lib.hid (P2.out rfl)
      have PD := Lib.hid (P4.out rfl)
      have EB := Lib.hid (EA.out rfl)
      clear P2 P4 EA
      obtain ⟨q1, hq1⟩ : ∃ q, (S1.toList == S2.toList) = q := ⟨_, rfl⟩
      obtain ⟨q2, hq2⟩ : ∃ q, (S3.toList == S4.toList) = q := ⟨_, rfl⟩
      obtain ⟨z1, hz1⟩ : ∃ q, (E1 == 0) = q := ⟨_, rfl⟩
      obtain ⟨z2, hz2⟩ : ∃ q, (E2 == 0) = q := ⟨_, rfl⟩
      obtain ⟨z3, hz3⟩ : ∃ q, (E3 == 0) = q := ⟨_, rfl⟩
      obtain ⟨z4, hz4⟩ : ∃ q, (E4 == 0) = q := ⟨_, rfl⟩
      have m1 : (E1 != 0) = !z1 := by rw [← hz1]; rfl
      have m2 : (E2 != 0) = !z2 := by rw [← hz2]; rfl
      have m3 : (E3 != 0) = !z3 := by rw [← hz3]; rfl
      have m4 : (E4 != 0) = !z4 := by rw [← hz4]; rfl
      have HQ1 : Hid (z1 = true → z2 = true → q1 = r) := Lib.hid fun g1 g2 => by rw [← hq1]; exact Q1.out (by simpa [g1] using hz1) (by simpa [g2] using hz2)
      have HQ2 : Hid (z3 = true → z4 = true → q2 = r) := Lib.hid fun g1 g2 => by rw [← hq2]; exact Q2.out (by simpa [g1] using hz3) (by simpa [g2] using hz4)
      clear Q1 Q2
      go_enter Tryz.func4, Tryz.ntmps4
      go_wp2_with fail
      try rw [hW2]
      clear hW2
      refine (GX.out _ (HB2.out.trans (Below.mono HK0.out HB2.out.size))).mono ?_
      rintro e w3 ⟨rfl, hb3⟩
      have HK3 := Lib.hid (show KB W2 w3 from HK0.out.trans (hb3.mono HK0.out.size))
      clear hb3 a0 a1 a2 a3 a4 a5 d0 d1 d2 d3 d4 d5
      obtain ⟨⟨a0, a1, a2, a3, a4, a5⟩, ⟨d0, d1, d2, d3, d4, d5⟩⟩ := HC.out w3 HK3.out
      go_wp2_with fail
      refine (GY.out _ (HB2.out.trans (Below.mono HK3.out HB2.out.size))).mono ?_
      rintro e w4 ⟨rfl, hb4⟩
      have HK4 := Lib.hid (show KB W2 w4 from HK3.out.trans (hb4.mono HK3.out.size))
      clear hb4 a0 a1 a2 a3 a4 a5 d0 d1 d2 d3 d4 d5
      obtain ⟨⟨a0, a1, a2, a3, a4, a5⟩, ⟨d0, d1, d2, d3, d4, d5⟩⟩ := HC.out w4 HK4.out
      go_wp2_with fail
      refine (PA.out _ (HB2.out.trans (Below.mono HK4.out HB2.out.size))).mono ?_
      rintro e w5 ⟨rfl, hb5⟩
      have HK5 := Lib.hid (show KB W2 w5 from HK4.out.trans (hb5.mono HK4.out.size))
      clear hb5 a0 a1 a2 a3 a4 a5 d0 d1 d2 d3 d4 d5
      obtain ⟨⟨a0, a1, a2, a3, a4, a5⟩, ⟨d0, d1, d2, d3, d4, d5⟩⟩ := HC.out w5 HK5.out
      go_wp2_with fail
      refine (PB.out _ (HB2.out.trans (Below.mono HK5.out HB2.out.size))).mono ?_
      rintro e w6 ⟨rfl, hb6⟩
      have HK6 := Lib.hid (show KB W2 w6 from HK5.out.trans (hb6.mono HK5.out.size))
      clear hb6 a0 a1 a2 a3 a4 a5 d0 d1 d2 d3 d4 d5
      obtain ⟨⟨a0, a1, a2, a3, a4, a5⟩, ⟨d0, d1, d2, d3, d4, d5⟩⟩ := HC.out w6 HK6.out
      go_wp2_with fail
      refine (PC.out _ (HB2.out.trans (Below.mono HK6.out HB2.out.size))).mono ?_
      rintro e w7 ⟨rfl, hb7⟩
      have HK7 := Lib.hid (show KB W2 w7 from HK6.out.trans (hb7.mono HK6.out.size))
      clear hb7 a0 a1 a2 a3 a4 a5 d0 d1 d2 d3 d4 d5
      obtain ⟨⟨a0, a1, a2, a3, a4, a5⟩, ⟨d0, d1, d2, d3, d4, d5⟩⟩ := HC.out w7 HK7.out
      go_wp2_with fail
      refine (PD.out _ (HB2.out.trans (Below.mono HK7.out HB2.out.size))).mono ?_
      rintro e w8 ⟨rfl, hb8⟩
      have HK8 := Lib.hid (show KB W2 w8 from HK7.out.trans (hb8.mono HK7.out.size))
      clear hb8 a0 a1 a2 a3 a4 a5 d0 d1 d2 d3 d4 d5
      obtain ⟨⟨a0, a1, a2, a3, a4, a5⟩, ⟨d0, d1, d2, d3, d4, d5⟩⟩ := HC.out w8 HK8.out
      go_wp2_with fail
      refine (EB.out _ (HB2.out.trans (Below.mono HK8.out HB2.out.size))).mono ?_
      rintro e w10 ⟨rfl, hb10⟩
      have HK10 := Lib.hid (show KB W2 w10 from HK8.out.trans (hb10.mono HK8.out.size))
      clear hb10 a0 a1 a2 a3 a4 a5 d0 d1 d2 d3 d4 d5
      have hA : z1 = false ∨ (z1 = true ∧ z2 = false) ∨ (z1 = true ∧ z2 = true ∧ q1 = r) := by
        cases z1
        · exact .inl rfl
        · cases z2
          · exact .inr (.inl ⟨rfl, rfl⟩)
          · exact .inr (.inr ⟨rfl, rfl, HQ1.out rfl rfl⟩)
      have hB : z3 = false ∨ (z3 = true ∧ z4 = false) ∨ (z3 = true ∧ z4 = true ∧ q2 = r) := by
        cases z3
        · exact .inl rfl
        · cases z4
          · exact .inr (.inl ⟨rfl, rfl⟩)
          · exact .inr (.inr ⟨rfl, rfl, HQ2.out rfl rfl⟩)
      clear HQ1 HQ2
      cases r <;> rcases hA with rfl | ⟨rfl, rfl⟩ | ⟨rfl, rfl, rfl⟩ <;> rcases hB with rfl | ⟨rfl, rfl⟩ | ⟨rfl, rfl, rfl⟩
      all_goals
        simp only [Bool.not_true, Bool.not_false] at *
        go_wp2_with fail
        refine (WK.out _ (HB2.out.trans (Below.mono HK10.out HB2.out.size))).mono ?_
        rintro e w9 ⟨rfl, hb9⟩
        have HK9 := Lib.hid (show KB W2 w9 from HK10.out.trans (hb9.mono HK10.out.size))
        clear hb9
        go_wp2_with fail
        go_ret
        exact ⟨rfl, HB2.out.trans (Below.mono HK9.out HB2.out.size)⟩
end Go.Proofs.YtllkcldckehipaaGreatDoor

namespace Go.Proofs.YtllkcldckehipaaGreatDoor
open Go.RowKit

theorem lineI0 : lineI I0 := fun _ => .inl rfl
theorem lineI2 : lineI I2 := fun _ => .inr ⟨_, rfl⟩
theorem check_of_p {x : V} (h : pcheckV x = 0) : checkV x = 0 := by
  obtain ⟨h1, h2, h3⟩ := pcheck_zero h
  unfold checkV
  rw [if_neg (by omega), if_neg (by rw [h1]; simp), if_neg (by omega)]
/-- Two printed texts are the same just if the values are equal. -/
theorem out_same {C : List UInt8} {I : Nat → List UInt8} (hI : lineI I) {x y : V} (h1 : outE C I x = 0) (h2 : outE C I y = 0) :
    ((⟨(outS C I x).toArray⟩ : ByteArray).toList == (⟨(outS C I y).toArray⟩ : ByteArray).toList) = eqR x y := by
  obtain ⟨p1, _, e1⟩ := outE_yes h1
  obtain ⟨p2, _, e2⟩ := outE_yes h2
  have s1 := (sort_wrong (sort_p x) (pcheck_zero p1).1).1
  have s2 := (sort_wrong (sort_p y) (pcheck_zero p2).1).1
  unfold eqR
  rw [decide_eq_true (check_of_p p1), decide_eq_true (check_of_p p2), Bool.true_and, Bool.true_and, e1, e2, ByteArray.toList_eq, ByteArray.toList_eq]
  by_cases hc : cmpV (psortV x) (psortV y) = 0
  · have := cmp_zero _ _ (okw_of_wrong _ s1) (okw_of_wrong _ s2) hc
    unfold outT
    rw [this, cmp_self]
    simp
  · have z1 : (cmpV (psortV x) (psortV y) == 0) = false := beq_eq_false_iff_ne.2 hc
    rw [z1]
    refine beq_eq_false_iff_ne.2 fun e => hc ?_
    have e3 : outT C I x = outT C I y := by simpa using e
    rw [ft_one hI s1 s2 e3]
    exact cmp_self _
/-- The statement. -/
theorem printSame_any (v : Value) (x : V) (u : Value) (y : V) (w : World) (hE : Env w) (h : isV w x v) (h' : isV w y u) :
    Calls Tryz.prog 4 #[v, u] w fun e w' => e = .returned (.bool true) ∧ Below w.heap.size w w' := by
  have hsz : ∀ {x : V}, greatB x = false → sizeV x ≤ 1000000 := fun hg => by have := (great_no hg).1; omega
  refine sameLaw_walk x y v u w h h' ⟨(outS [58] I0 x).toArray⟩ ⟨(outS [58] I0 y).toArray⟩ ⟨(outS [58, 32] I2 x).toArray⟩ ⟨(outS [58, 32] I2 y).toArray⟩ (outE [58] I0 x) (outE [58] I0 y) (outE [58, 32] I2 x) (outE [58, 32] I2 y) (eqR x y) (greatB x) (greatB y)
    (Lib.hid fun w1 hK => wakes5_any w1 (hE.kb hK)) (Lib.hid fun w1 hK => great_any x v w1 (isV_below hK h)) (Lib.hid fun w1 hK => great_any y u w1 (isV_below hK h'))
    (Lib.hid fun hg w1 hK => print_any x v w1 (hE.kb hK) (hsz hg) (great_fine hg) (isV_below hK h))
    (Lib.hid fun hg w1 hK => print_any y u w1 (hE.kb hK) (hsz hg) (great_fine hg) (isV_below hK h'))
    (Lib.hid fun hg w1 hK => broad_any x v w1 (hE.kb hK) (hsz hg) (great_fine hg) (isV_below hK h))
    (Lib.hid fun hg w1 hK => broad_any y u w1 (hE.kb hK) (hsz hg) (great_fine hg) (isV_below hK h'))
    (Lib.hid fun hg hg' w1 hK => rEqual_all (hsz hg) (hsz hg') v u w1 (isV_below hK h) (isV_below hK h'))
    (Lib.hid fun h1 h2 => out_same lineI0 h1 h2) (Lib.hid fun h1 h2 => out_same lineI2 h1 h2)
end Go.Proofs.YtllkcldckehipaaGreatDoor
