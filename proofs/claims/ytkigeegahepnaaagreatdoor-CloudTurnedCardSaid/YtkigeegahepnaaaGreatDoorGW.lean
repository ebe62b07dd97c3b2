/-
  What may not be submitted. · Which calls may not be submitted: the walk; wrong.
-/
import Derived.Test.YtkigeegahepnaaaGreatDoorGT
import Derived.Test.YtkigeegahepnaaaGreatDoorGK
import Derived.Test.YtkigeegahepnaaaGreatDoorShelfC
import Derived.Deep.RegionWith
import Derived.Deep.Cut
import Derived.Deep.CutBlock
import Derived.Deep.CutRange
import Derived.Deep.DeepCutAuto
set_option linter.unusedVariables false
set_option linter.unusedSimpArgs false
namespace Go.Proofs.YtkigeegahepnaaaGreatDoor
open Go.RowKit Go.Maps Go.ChangeMaps Go.WideMaps Go.Lib

set_option maxHeartbeats 1000000 in
theorem mn2_any (g : G) (v : Value) (w : World) (h : isG w g v) : Calls Tryz.prog 67 #[v] w fun e w' => e = .returned (.bool g.unk) ∧ Below w.heap.size w w' := by
  obtain ⟨k, b, n, s, o, m, c, o2, m2, c2, rfl, hv⟩ := isG_eight h
  have HB0 : Hid (KB w (w.alloc (.cells #[.string g.nm, .bool g.unk, .int .i8 k, .bool b, .int .i64 n, .string s, .slice o m c, .slice o2 m2 c2] 99))) := Lib.hid kbA
  clear h hv
  go_enter Tryz.func67, Tryz.ntmps67
  go_wp2_with fail
  go_ret
  exact ⟨rfl, HB0.out⟩

set_option maxRecDepth 100000 in
set_option maxHeartbeats 4000000 in
/-- slices.IndexFunc of the properties: is there one that is unknown? -/
theorem idxM_any (L : List G) (v : Value) (w : World) (hl : L.length ≤ 1000000) (h : isGs w L v) :
    Calls Tryz.prog 88 #[v, .func (.func 67) #[] #[]] w fun e w' => (∃ i : Int, e = .returned (.int .i64 i) ∧ decide (0 ≤ i) = L.any (·.unk)) ∧ Below w.heap.size w w' := by
  obtain ⟨a, cap, ⟨o, rfl, hc1, hc2, ho⟩, hgs⟩ := h
  unfold maxLen at hc2
  have HK := Lib.hid hgs
  obtain ⟨r, hr⟩ : ∃ r, L.any (·.unk) = r := ⟨_, rfl⟩
  rw [hr]
  have HR := Lib.hid hr
  have ef : ∀ args w, (callFunc 67 args).run Tryz.prog w = .ok (.enter 67 args) w := enters_of Tryz.func67 (by kernel_rfl) rfl
  clear hgs hr
  go_enter Tryz.func88, Tryz.ntmps88
  go_wp2_with fail
  go_loopw [8] (fun i wr => ∃ (j : Nat), j ≤ L.length ∧ i = .int .i64 j ∧ Hid ((L.take j).any (·.unk) = false) ∧ Hid (Below w.heap.size w wr)) (fun i _ => L.length - (intOf i).toNat)
  case atStart => exact ⟨0, by omega, rfl, Lib.hid rfl, Lib.hid (Below.refl _ _)⟩
  case round =>
    obtain ⟨j, hj, rfl, hA, hB⟩ := hrel
    by_cases hlt : j < L.length
    · obtain rfl := ho (by omega)
      obtain ⟨k, b1, n, s, o1, m, c, o2, m2, c2, q0, q1, q2, q3, q4, q5, q6, q7, hg⟩ := isGat_eight (isGat_below hB.out (HK.out j hlt))
      have HN := Lib.hid (mn2_any L[j] _ wr hg)
      clear hg
      cases hv : L[j].unk with
      | true =>
        have hr2 : r = true := by
          rw [← HR.out, List.any_eq_true]
          exact ⟨L[j], List.getElem_mem hlt, hv⟩
        have HR2 := Lib.hid hr2
        rw [hv] at HN q1
        clear hr2 hv
        generalize L[j] = g at *
        go_wp2_with (go_at_fn 67; refine HN.out.mono ?_; rintro e w5 ⟨rfl, hb5⟩)
        go_ret
        exact ⟨⟨_, rfl, by rw [HR2.out, decide_eq_true]; omega⟩, hB.out.trans (hb5.mono hB.out.size)⟩
      | false =>
        have HA : Hid ((L.take (j + 1)).any (·.unk) = false) := Lib.hid (by rw [List.take_succ_eq_append_getElem hlt, List.any_append, hA.out]; simp [hv])
        rw [hv] at HN q1
        clear hv
        generalize L[j] = g at *
        go_wp2_with (go_at_fn 67; refine HN.out.mono ?_; rintro e w5 ⟨rfl, hb5⟩)
        go_roundw
        case rel => exact ⟨j + 1, by omega, by go_num, HA, Lib.hid (hB.out.trans (hb5.mono hB.out.size))⟩
        case measure => simp [intOf]; omega
    · obtain rfl : j = L.length := by omega
      have HRES : Hid (r = false) := Lib.hid (by
        have := hA.out
        rw [List.take_of_length_le (Nat.le_refl _)] at this
        rw [← HR.out, this])
      go_wp2_with fail
      go_ret
      exact ⟨⟨_, rfl, by rw [HRES.out]; rfl⟩, hB.out⟩

set_option maxHeartbeats 1000000 in
theorem contM_any (L : List G) (v : Value) (w : World) (hl : L.length ≤ 1000000) (h : isGs w L v) :
    Calls Tryz.prog 66 #[v, .func (.func 67) #[] #[]] w fun e w' => e = .returned (.bool (L.any (·.unk))) ∧ Below w.heap.size w w' := by
  have HI := Lib.hid (idxM_any L v w hl h)
  obtain ⟨a, cap, ⟨o, rfl, hc1, hc2, ho⟩, hgs⟩ := h
  generalize (L.any (·.unk)) = r at *
  clear hgs
  go_enter Tryz.func66, Tryz.ntmps66
  go_wp2_with (go_at_call 88; refine HI.out.mono ?_; rintro e w5 ⟨⟨i, rfl, hi⟩, hb5⟩)
  go_ret
  exact ⟨ret_bool (by rw [← hi]), hb5⟩


set_option maxHeartbeats 1000000 in
/-- Is the call's kind among these? -/
theorem is_any (ks : List Int) (kd : Int) (g B c : Nat) (w : World) (hk : ks.length ≤ 100) (h : ∀ j (hj : j < ks.length), w.cell? ⟨g, j, none⟩ = some (.int .i8 ks[j])) (hb : w.cell? ⟨B, 1, none⟩ = some (.int .i8 kd)) :
    Calls Tryz.prog 64 #[.slice (some ⟨g, 0, none⟩) ks.length c, .pointer (some ⟨B, 0, none⟩)] w fun e w' => e = .returned (.bool (ks.any fun y => kd == y)) ∧ w' = w := by
  have HC := Tryz.slices_Contains (Value.int .i8) (fun x y => x == y) (EqlAt.int _ _ .i8) g 0 ks.length c ks kd w (Nat.le_refl _) (by omega) (fun j hj => by
    rw [Nat.zero_add, h j hj, List.getElem!_eq_getElem?_getD, List.getElem?_eq_getElem hj]; rfl)
  rw [List.take_length] at HC
  have HC := Lib.hid HC
  generalize (ks.any fun y => kd == y) = r at *
  clear h
  generalize ks.length = n at *
  go_enter Tryz.func64, Tryz.ntmps64
  go_wp2_with (go_at_call 65; refine HC.out.mono ?_; rintro e w5 ⟨rfl, rfl⟩)
  go_ret
  exact ⟨rfl, rfl⟩

theorem ba_size {s : ByteArray} (h : s ≠ ⟨#[]⟩) : (s.toList == ([] : List UInt8)) = false := by
  rw [beq_eq_false_iff_ne]
  intro e
  apply h
  rw [ByteArray.toList_eq] at e
  ext1
  rw [← Array.toArray_toList (xs := s.data), e]
end Go.Proofs.YtkigeegahepnaaaGreatDoor

namespace Go.Proofs.YtkigeegahepnaaaGreatDoor
open Go.RowKit Go.Maps Go.ChangeMaps Go.WideMaps Go.Lib Go.Deep

set_option maxRecDepth 100000 in
set_option maxHeartbeats 4000000 in
theorem mayNot_any (x : Cl) (v : Value) (w : World) (hl : x.ps.length ≤ 1000000) (h : isX w x v) :
    Calls Tryz.prog 49 #[v] w fun e w' => e = .returned (.bool (mayNotB x)) ∧ Below w.heap.size w w' := by
  obtain ⟨o, cap, rfl, hg, -⟩ := isX_form h
  have hA1 : KB w (w.alloc (bxX x o cap)) := kbA
  have HM : Hid (∀ w1, KB w w1 → Calls Tryz.prog 66 #[.slice o x.ps.length cap, .func (.func 67) #[] #[]] w1 fun e w' => e = .returned (.bool (x.ps.any (·.unk))) ∧ Below w1.heap.size w1 w') := Lib.hid fun w1 hK => contM_any x.ps _ w1 hl (isGs_below hK hg)
  have I3 : Hid (∀ (w1 : World) (g : Nat), w1.cell? ⟨g, 0, none⟩ = some (.int .i8 0) → w1.cell? ⟨g, 1, none⟩ = some (.int .i8 1) → w1.cell? ⟨g, 2, none⟩ = some (.int .i8 2) → w1.cell? ⟨w.heap.size, 1, none⟩ = some (.int .i8 x.kd) → Calls Tryz.prog 64 #[.slice (some ⟨g, 0, none⟩) 3 3, .pointer (some ⟨w.heap.size, 0, none⟩)] w1 fun e w' => e = .returned (.bool (decide (0 ≤ x.kd) && decide (x.kd ≤ 2))) ∧ w' = w1) := Lib.hid fun w1 g h0 h1 h2 hb => by
    have := is_any [0, 1, 2] x.kd g w.heap.size 3 w1 (by decide) (fun j hj => by
      match j, hj with
      | 0, _ => exact h0
      | 1, _ => exact h1
      | 2, _ => exact h2) hb
    refine this.mono fun e w' ⟨he, hw⟩ => ⟨?_, hw⟩
    rw [he]
    have : ([0, 1, 2].any fun y => x.kd == y) = (decide (0 ≤ x.kd) && decide (x.kd ≤ 2)) := by
      rw [Bool.eq_iff_iff]
      simp
      omega
    rw [this]
  have IK : Hid (∀ (q : Int) (w1 : World) (g : Nat), w1.cell? ⟨g, 0, none⟩ = some (.int .i8 q) → w1.cell? ⟨w.heap.size, 1, none⟩ = some (.int .i8 x.kd) → Calls Tryz.prog 64 #[.slice (some ⟨g, 0, none⟩) 1 1, .pointer (some ⟨w.heap.size, 0, none⟩)] w1 fun e w' => e = .returned (.bool (decide (x.kd = q))) ∧ w' = w1) := Lib.hid fun q w1 g h0 hb => by
    have := is_any [q] x.kd g w.heap.size 1 w1 (by simp) (fun j hj => by
      obtain rfl : j = 0 := by simpa using hj
      exact h0) hb
    refine this.mono fun e w' ⟨he, hw⟩ => ⟨?_, hw⟩
    rw [he]
    have : ([q].any fun y => x.kd == y) = decide (x.kd = q) := by
      rw [Bool.eq_iff_iff]
      simp
    rw [this]
  have HA1 := Lib.hid hA1
  have hph : (x.ph.toList == ([] : List UInt8)) = decide (x.ph = ⟨#[]⟩) := by
    by_cases e : x.ph = ⟨#[]⟩
    · rw [e, decide_eq_true rfl, ByteArray.toList_eq]; rfl
    · rw [decide_eq_false e, ba_size e]
  have hty : (x.ty.toList == ([] : List UInt8)) = decide (x.ty = ⟨#[]⟩) := by
    by_cases e : x.ty = ⟨#[]⟩
    · rw [e, decide_eq_true rfl, ByteArray.toList_eq]; rfl
    · rw [decide_eq_false e, ba_size e]
  have hln : decide ((0 : Int) < (x.ps.length : Int)) = decide (0 < x.ps.length) := decide_eq_decide.2 (by omega)
  have I0 := Lib.hid (IK.out 0)
  have I1 := Lib.hid (IK.out 1)
  have I2 := Lib.hid (IK.out 2)
  unfold mayNotB
  clear hA1 hg h IK
  obtain ⟨bt, hbt⟩ : ∃ b, decide (x.tok < 1) = b := ⟨_, rfl⟩
  generalize (decide (0 ≤ x.kd) && decide (x.kd ≤ 2)) = b3 at *
  generalize decide (x.kd = 0) = b0 at *
  generalize decide (x.kd = 1) = b1 at *
  generalize decide (x.kd = 2) = b2 at *
  generalize decide (x.ph = ⟨#[]⟩) = bp at *
  generalize decide (x.ty = ⟨#[]⟩) = by' at *
  generalize decide (0 < x.ps.length) = bl at *
  generalize (x.ps.any (·.unk)) = r at *
  rw [hbt]
  cases bt with
  | true =>
    go_enter Tryz.func49, Tryz.ntmps49
    go_wp2_with fail
    go_ret
    exact ⟨rfl, HA1.out⟩
  | false =>
    cases b3 with
    | false =>
      go_enter Tryz.func49, Tryz.ntmps49
      go_wp2_with fail
      refine (I3.out _ _ (by simp) (by simp) (by simp) (by simp)).mono ?_
      rintro e w5 ⟨rfl, rfl⟩
      go_wp2_with fail
      go_ret
      exact ⟨rfl, by go_grown⟩
    | true =>
      go_enter Tryz.func49, Tryz.ntmps49
      go_wp2_with fail
      refine (I3.out _ _ (by simp) (by simp) (by simp) (by simp)).mono ?_
      rintro e w5 ⟨rfl, rfl⟩
      have HB5 : Hid (KB w ((w.alloc (bxX x o cap)).alloc (.cells #[.int .i8 0, .int .i8 1, .int .i8 2] 29))) := Lib.hid (by unfold KB; go_grown)
      have c1 : ((w.alloc (bxX x o cap)).alloc (.cells #[.int .i8 0, .int .i8 1, .int .i8 2] 29)).cell? ⟨w.heap.size, 1, none⟩ = some (.int .i8 x.kd) := by simp
      have c2 : ((w.alloc (bxX x o cap)).alloc (.cells #[.int .i8 0, .int .i8 1, .int .i8 2] 29)).cell? ⟨w.heap.size, 2, none⟩ = some (.string x.ph) := by simp
      have c3 : ((w.alloc (bxX x o cap)).alloc (.cells #[.int .i8 0, .int .i8 1, .int .i8 2] 29)).cell? ⟨w.heap.size, 3, none⟩ = some (.string x.ty) := by simp
      have c4 : ((w.alloc (bxX x o cap)).alloc (.cells #[.int .i8 0, .int .i8 1, .int .i8 2] 29)).cell? ⟨w.heap.size, 4, none⟩ = some (.slice o x.ps.length cap) := by simp
      generalize ((w.alloc (bxX x o cap)).alloc (.cells #[.int .i8 0, .int .i8 1, .int .i8 2] 29)) = W2 at *
      have c1a := cell_below (kbA (w := W2) (o := .cells #[.int .i8 0] 29)) _ _ c1
      have c2a := cell_below (kbA (w := W2) (o := .cells #[.int .i8 0] 29)) _ _ c2
      have c3a := cell_below (kbA (w := W2) (o := .cells #[.int .i8 0] 29)) _ _ c3
      have c4a := cell_below (kbA (w := W2) (o := .cells #[.int .i8 0] 29)) _ _ c4
      have HB3 : Hid (KB w (W2.alloc (.cells #[.int .i8 0] 29)).drew) := Lib.hid ((HB5.out.trans ((kbA (w := W2) (o := .cells #[.int .i8 0] 29)).mono HB5.out.size)).drew)
      have D : Hid (∀ W3 : World, W3 = (W2.alloc (.cells #[.int .i8 0] 29)).drew → W3.cell? ⟨w.heap.size, 1, none⟩ = some (.int .i8 x.kd) ∧ W3.cell? ⟨w.heap.size, 3, none⟩ = some (.string x.ty) ∧ W3.cell? ⟨w.heap.size, 4, none⟩ = some (.slice o x.ps.length cap)) := Lib.hid fun W3 h => by subst h; exact ⟨c1a, c3a, c4a⟩
      go_upto_region 4 with fail
      go_cut [15] (fun s15 wx => s15 = .bool (b0 != bp) ∧ wx = (W2.alloc (.cells #[.int .i8 0] 29)).drew)
      case first =>
        go_region_with (refine (I0.out _ _ (by simp) (by first | exact c1a | simp [c1a])).mono ?_; rintro e w7 ⟨rfl, rfl⟩)
        all_goals
          go_wp2_with fail
          go_meet
          exact ⟨by cases b0 <;> cases bp <;> rfl, rfl⟩
      case rest =>
        obtain ⟨rfl, hW3⟩ := hcut
        obtain ⟨d1, d3, d4⟩ := D.out _ hW3
        rw [← hW3] at HB3
        clear hW3 D c1 c2 c3 c4 c1a c2a c3a c4a HB5
        cases b0 with
        | true =>
          cases bp with
          | true =>
            cases b2 with
            | true =>
              cases bl with
              | true =>
                have hlp : 0 < x.ps.length := by have := of_decide_eq_true hln; omega
                have hln2 : decide (0 < x.ps.length) = true := decide_eq_true hlp
                clear hlp
                go_wp2_with fail
                refine (I2.out _ _ (by simp) (cell_below (kbA (w := wc)) _ _ d1)).mono ?_
                rintro e w8 ⟨rfl, rfl⟩
                have d4a := cell_below (kbA (w := wc) (o := .cells #[.int .i8 2] 29)) _ _ d4
                go_wp2_with fail
                go_ret
                exact ⟨rfl, HB3.out.trans ((kbA (w := wc)).mono HB3.out.size)⟩
              | false =>
                have hn0 : x.ps.length = 0 := by simpa using hln
                rw [hn0] at HM d4 hln
                cases b1 with
                | true =>
                  cases by' with
                  | true =>
                    go_wp2_with fail
                    refine (I2.out _ _ (by simp) (cell_below (kbA (w := wc)) _ _ d1)).mono ?_
                    rintro e w8 ⟨rfl, rfl⟩
                    have d4a := cell_below (kbA (w := wc) (o := .cells #[.int .i8 2] 29)) _ _ d4
                    go_wp2_with fail
                    have d1a := cell_below (kbA (w := wc) (o := .cells #[.int .i8 2] 29)) _ _ d1
                    refine (I1.out _ _ (by simp) (cell_below (kbA (w := (wc.alloc (.cells #[.int .i8 2] 29)))) _ _ d1a)).mono ?_
                    rintro e w9 ⟨rfl, rfl⟩
                    have d3b := cell_below (kbA (w := (wc.alloc (.cells #[.int .i8 2] 29))) (o := .cells #[.int .i8 1] 29)) _ _ (cell_below (kbA (w := wc) (o := .cells #[.int .i8 2] 29)) _ _ d3)
                    have d4b := cell_below (kbA (w := (wc.alloc (.cells #[.int .i8 2] 29))) (o := .cells #[.int .i8 1] 29)) _ _ (cell_below (kbA (w := wc) (o := .cells #[.int .i8 2] 29)) _ _ d4)
                    have HB9 : Hid (KB w ((wc.alloc (.cells #[.int .i8 2] 29)).alloc (.cells #[.int .i8 1] 29))) := Lib.hid ((HB3.out.trans ((kbA (w := wc)).mono HB3.out.size)).trans ((kbA (w := (wc.alloc (.cells #[.int .i8 2] 29)))).mono (HB3.out.trans ((kbA (w := wc)).mono HB3.out.size)).size))
                    go_wp2_with fail
                    go_ret
                    exact ⟨rfl, HB9.out⟩
                  | false =>
                    go_wp2_with fail
                    refine (I2.out _ _ (by simp) (cell_below (kbA (w := wc)) _ _ d1)).mono ?_
                    rintro e w8 ⟨rfl, rfl⟩
                    have d4a := cell_below (kbA (w := wc) (o := .cells #[.int .i8 2] 29)) _ _ d4
                    go_wp2_with fail
                    have d1a := cell_below (kbA (w := wc) (o := .cells #[.int .i8 2] 29)) _ _ d1
                    refine (I1.out _ _ (by simp) (cell_below (kbA (w := (wc.alloc (.cells #[.int .i8 2] 29)))) _ _ d1a)).mono ?_
                    rintro e w9 ⟨rfl, rfl⟩
                    have d3b := cell_below (kbA (w := (wc.alloc (.cells #[.int .i8 2] 29))) (o := .cells #[.int .i8 1] 29)) _ _ (cell_below (kbA (w := wc) (o := .cells #[.int .i8 2] 29)) _ _ d3)
                    have d4b := cell_below (kbA (w := (wc.alloc (.cells #[.int .i8 2] 29))) (o := .cells #[.int .i8 1] 29)) _ _ (cell_below (kbA (w := wc) (o := .cells #[.int .i8 2] 29)) _ _ d4)
                    have HB9 : Hid (KB w ((wc.alloc (.cells #[.int .i8 2] 29)).alloc (.cells #[.int .i8 1] 29))) := Lib.hid ((HB3.out.trans ((kbA (w := wc)).mono HB3.out.size)).trans ((kbA (w := (wc.alloc (.cells #[.int .i8 2] 29)))).mono (HB3.out.trans ((kbA (w := wc)).mono HB3.out.size)).size))
                    go_wp2_with fail
                    refine (HM.out _ HB9.out).mono ?_
                    rintro e w10 ⟨rfl, hb10⟩
                    go_wp2_with fail
                    go_ret
                    exact ⟨by simp, HB9.out.trans (hb10.mono HB9.out.size)⟩
                | false =>
                  go_wp2_with fail
                  refine (I2.out _ _ (by simp) (cell_below (kbA (w := wc)) _ _ d1)).mono ?_
                  rintro e w8 ⟨rfl, rfl⟩
                  have d4a := cell_below (kbA (w := wc) (o := .cells #[.int .i8 2] 29)) _ _ d4
                  go_wp2_with fail
                  have d1a := cell_below (kbA (w := wc) (o := .cells #[.int .i8 2] 29)) _ _ d1
                  refine (I1.out _ _ (by simp) (cell_below (kbA (w := (wc.alloc (.cells #[.int .i8 2] 29)))) _ _ d1a)).mono ?_
                  rintro e w9 ⟨rfl, rfl⟩
                  have d3b := cell_below (kbA (w := (wc.alloc (.cells #[.int .i8 2] 29))) (o := .cells #[.int .i8 1] 29)) _ _ (cell_below (kbA (w := wc) (o := .cells #[.int .i8 2] 29)) _ _ d3)
                  have d4b := cell_below (kbA (w := (wc.alloc (.cells #[.int .i8 2] 29))) (o := .cells #[.int .i8 1] 29)) _ _ (cell_below (kbA (w := wc) (o := .cells #[.int .i8 2] 29)) _ _ d4)
                  have HB9 : Hid (KB w ((wc.alloc (.cells #[.int .i8 2] 29)).alloc (.cells #[.int .i8 1] 29))) := Lib.hid ((HB3.out.trans ((kbA (w := wc)).mono HB3.out.size)).trans ((kbA (w := (wc.alloc (.cells #[.int .i8 2] 29)))).mono (HB3.out.trans ((kbA (w := wc)).mono HB3.out.size)).size))
                  go_wp2_with fail
                  refine (HM.out _ HB9.out).mono ?_
                  rintro e w10 ⟨rfl, hb10⟩
                  go_wp2_with fail
                  go_ret
                  exact ⟨by simp, HB9.out.trans (hb10.mono HB9.out.size)⟩
            | false =>
              clear hln
              cases b1 with
              | true =>
                cases by' with
                | true =>
                  go_wp2_with fail
                  refine (I2.out _ _ (by simp) (cell_below (kbA (w := wc)) _ _ d1)).mono ?_
                  rintro e w8 ⟨rfl, rfl⟩
                  go_wp2_with fail
                  have d1a := cell_below (kbA (w := wc) (o := .cells #[.int .i8 2] 29)) _ _ d1
                  refine (I1.out _ _ (by simp) (cell_below (kbA (w := (wc.alloc (.cells #[.int .i8 2] 29)))) _ _ d1a)).mono ?_
                  rintro e w9 ⟨rfl, rfl⟩
                  have d3b := cell_below (kbA (w := (wc.alloc (.cells #[.int .i8 2] 29))) (o := .cells #[.int .i8 1] 29)) _ _ (cell_below (kbA (w := wc) (o := .cells #[.int .i8 2] 29)) _ _ d3)
                  have d4b := cell_below (kbA (w := (wc.alloc (.cells #[.int .i8 2] 29))) (o := .cells #[.int .i8 1] 29)) _ _ (cell_below (kbA (w := wc) (o := .cells #[.int .i8 2] 29)) _ _ d4)
                  have HB9 : Hid (KB w ((wc.alloc (.cells #[.int .i8 2] 29)).alloc (.cells #[.int .i8 1] 29))) := Lib.hid ((HB3.out.trans ((kbA (w := wc)).mono HB3.out.size)).trans ((kbA (w := (wc.alloc (.cells #[.int .i8 2] 29)))).mono (HB3.out.trans ((kbA (w := wc)).mono HB3.out.size)).size))
                  go_wp2_with fail
                  go_ret
                  exact ⟨rfl, HB9.out⟩
                | false =>
                  go_wp2_with fail
                  refine (I2.out _ _ (by simp) (cell_below (kbA (w := wc)) _ _ d1)).mono ?_
                  rintro e w8 ⟨rfl, rfl⟩
                  go_wp2_with fail
                  have d1a := cell_below (kbA (w := wc) (o := .cells #[.int .i8 2] 29)) _ _ d1
                  refine (I1.out _ _ (by simp) (cell_below (kbA (w := (wc.alloc (.cells #[.int .i8 2] 29)))) _ _ d1a)).mono ?_
                  rintro e w9 ⟨rfl, rfl⟩
                  have d3b := cell_below (kbA (w := (wc.alloc (.cells #[.int .i8 2] 29))) (o := .cells #[.int .i8 1] 29)) _ _ (cell_below (kbA (w := wc) (o := .cells #[.int .i8 2] 29)) _ _ d3)
                  have d4b := cell_below (kbA (w := (wc.alloc (.cells #[.int .i8 2] 29))) (o := .cells #[.int .i8 1] 29)) _ _ (cell_below (kbA (w := wc) (o := .cells #[.int .i8 2] 29)) _ _ d4)
                  have HB9 : Hid (KB w ((wc.alloc (.cells #[.int .i8 2] 29)).alloc (.cells #[.int .i8 1] 29))) := Lib.hid ((HB3.out.trans ((kbA (w := wc)).mono HB3.out.size)).trans ((kbA (w := (wc.alloc (.cells #[.int .i8 2] 29)))).mono (HB3.out.trans ((kbA (w := wc)).mono HB3.out.size)).size))
                  go_wp2_with fail
                  refine (HM.out _ HB9.out).mono ?_
                  rintro e w10 ⟨rfl, hb10⟩
                  go_wp2_with fail
                  go_ret
                  exact ⟨by simp, HB9.out.trans (hb10.mono HB9.out.size)⟩
              | false =>
                go_wp2_with fail
                refine (I2.out _ _ (by simp) (cell_below (kbA (w := wc)) _ _ d1)).mono ?_
                rintro e w8 ⟨rfl, rfl⟩
                go_wp2_with fail
                have d1a := cell_below (kbA (w := wc) (o := .cells #[.int .i8 2] 29)) _ _ d1
                refine (I1.out _ _ (by simp) (cell_below (kbA (w := (wc.alloc (.cells #[.int .i8 2] 29)))) _ _ d1a)).mono ?_
                rintro e w9 ⟨rfl, rfl⟩
                have d3b := cell_below (kbA (w := (wc.alloc (.cells #[.int .i8 2] 29))) (o := .cells #[.int .i8 1] 29)) _ _ (cell_below (kbA (w := wc) (o := .cells #[.int .i8 2] 29)) _ _ d3)
                have d4b := cell_below (kbA (w := (wc.alloc (.cells #[.int .i8 2] 29))) (o := .cells #[.int .i8 1] 29)) _ _ (cell_below (kbA (w := wc) (o := .cells #[.int .i8 2] 29)) _ _ d4)
                have HB9 : Hid (KB w ((wc.alloc (.cells #[.int .i8 2] 29)).alloc (.cells #[.int .i8 1] 29))) := Lib.hid ((HB3.out.trans ((kbA (w := wc)).mono HB3.out.size)).trans ((kbA (w := (wc.alloc (.cells #[.int .i8 2] 29)))).mono (HB3.out.trans ((kbA (w := wc)).mono HB3.out.size)).size))
                go_wp2_with fail
                refine (HM.out _ HB9.out).mono ?_
                rintro e w10 ⟨rfl, hb10⟩
                go_wp2_with fail
                go_ret
                exact ⟨by simp, HB9.out.trans (hb10.mono HB9.out.size)⟩
          | false =>
            go_wp2_with fail
            go_ret
            exact ⟨rfl, HB3.out⟩
        | false =>
          cases bp with
          | true =>
            go_wp2_with fail
            go_ret
            exact ⟨rfl, HB3.out⟩
          | false =>
            cases b2 with
            | true =>
              cases bl with
              | true =>
                have hlp : 0 < x.ps.length := by have := of_decide_eq_true hln; omega
                have hln2 : decide (0 < x.ps.length) = true := decide_eq_true hlp
                clear hlp
                go_wp2_with fail
                refine (I2.out _ _ (by simp) (cell_below (kbA (w := wc)) _ _ d1)).mono ?_
                rintro e w8 ⟨rfl, rfl⟩
                have d4a := cell_below (kbA (w := wc) (o := .cells #[.int .i8 2] 29)) _ _ d4
                go_wp2_with fail
                go_ret
                exact ⟨rfl, HB3.out.trans ((kbA (w := wc)).mono HB3.out.size)⟩
              | false =>
                have hn0 : x.ps.length = 0 := by simpa using hln
                rw [hn0] at HM d4 hln
                cases b1 with
                | true =>
                  cases by' with
                  | true =>
                    go_wp2_with fail
                    refine (I2.out _ _ (by simp) (cell_below (kbA (w := wc)) _ _ d1)).mono ?_
                    rintro e w8 ⟨rfl, rfl⟩
                    have d4a := cell_below (kbA (w := wc) (o := .cells #[.int .i8 2] 29)) _ _ d4
                    go_wp2_with fail
                    have d1a := cell_below (kbA (w := wc) (o := .cells #[.int .i8 2] 29)) _ _ d1
                    refine (I1.out _ _ (by simp) (cell_below (kbA (w := (wc.alloc (.cells #[.int .i8 2] 29)))) _ _ d1a)).mono ?_
                    rintro e w9 ⟨rfl, rfl⟩
                    have d3b := cell_below (kbA (w := (wc.alloc (.cells #[.int .i8 2] 29))) (o := .cells #[.int .i8 1] 29)) _ _ (cell_below (kbA (w := wc) (o := .cells #[.int .i8 2] 29)) _ _ d3)
                    have d4b := cell_below (kbA (w := (wc.alloc (.cells #[.int .i8 2] 29))) (o := .cells #[.int .i8 1] 29)) _ _ (cell_below (kbA (w := wc) (o := .cells #[.int .i8 2] 29)) _ _ d4)
                    have HB9 : Hid (KB w ((wc.alloc (.cells #[.int .i8 2] 29)).alloc (.cells #[.int .i8 1] 29))) := Lib.hid ((HB3.out.trans ((kbA (w := wc)).mono HB3.out.size)).trans ((kbA (w := (wc.alloc (.cells #[.int .i8 2] 29)))).mono (HB3.out.trans ((kbA (w := wc)).mono HB3.out.size)).size))
                    go_wp2_with fail
                    go_ret
                    exact ⟨rfl, HB9.out⟩
                  | false =>
                    go_wp2_with fail
                    refine (I2.out _ _ (by simp) (cell_below (kbA (w := wc)) _ _ d1)).mono ?_
                    rintro e w8 ⟨rfl, rfl⟩
                    have d4a := cell_below (kbA (w := wc) (o := .cells #[.int .i8 2] 29)) _ _ d4
                    go_wp2_with fail
                    have d1a := cell_below (kbA (w := wc) (o := .cells #[.int .i8 2] 29)) _ _ d1
                    refine (I1.out _ _ (by simp) (cell_below (kbA (w := (wc.alloc (.cells #[.int .i8 2] 29)))) _ _ d1a)).mono ?_
                    rintro e w9 ⟨rfl, rfl⟩
                    have d3b := cell_below (kbA (w := (wc.alloc (.cells #[.int .i8 2] 29))) (o := .cells #[.int .i8 1] 29)) _ _ (cell_below (kbA (w := wc) (o := .cells #[.int .i8 2] 29)) _ _ d3)
                    have d4b := cell_below (kbA (w := (wc.alloc (.cells #[.int .i8 2] 29))) (o := .cells #[.int .i8 1] 29)) _ _ (cell_below (kbA (w := wc) (o := .cells #[.int .i8 2] 29)) _ _ d4)
                    have HB9 : Hid (KB w ((wc.alloc (.cells #[.int .i8 2] 29)).alloc (.cells #[.int .i8 1] 29))) := Lib.hid ((HB3.out.trans ((kbA (w := wc)).mono HB3.out.size)).trans ((kbA (w := (wc.alloc (.cells #[.int .i8 2] 29)))).mono (HB3.out.trans ((kbA (w := wc)).mono HB3.out.size)).size))
                    go_wp2_with fail
                    refine (HM.out _ HB9.out).mono ?_
                    rintro e w10 ⟨rfl, hb10⟩
                    go_wp2_with fail
                    go_ret
                    exact ⟨by simp, HB9.out.trans (hb10.mono HB9.out.size)⟩
                | false =>
                  go_wp2_with fail
                  refine (I2.out _ _ (by simp) (cell_below (kbA (w := wc)) _ _ d1)).mono ?_
                  rintro e w8 ⟨rfl, rfl⟩
                  have d4a := cell_below (kbA (w := wc) (o := .cells #[.int .i8 2] 29)) _ _ d4
                  go_wp2_with fail
                  have d1a := cell_below (kbA (w := wc) (o := .cells #[.int .i8 2] 29)) _ _ d1
                  refine (I1.out _ _ (by simp) (cell_below (kbA (w := (wc.alloc (.cells #[.int .i8 2] 29)))) _ _ d1a)).mono ?_
                  rintro e w9 ⟨rfl, rfl⟩
                  have d3b := cell_below (kbA (w := (wc.alloc (.cells #[.int .i8 2] 29))) (o := .cells #[.int .i8 1] 29)) _ _ (cell_below (kbA (w := wc) (o := .cells #[.int .i8 2] 29)) _ _ d3)
                  have d4b := cell_below (kbA (w := (wc.alloc (.cells #[.int .i8 2] 29))) (o := .cells #[.int .i8 1] 29)) _ _ (cell_below (kbA (w := wc) (o := .cells #[.int .i8 2] 29)) _ _ d4)
                  have HB9 : Hid (KB w ((wc.alloc (.cells #[.int .i8 2] 29)).alloc (.cells #[.int .i8 1] 29))) := Lib.hid ((HB3.out.trans ((kbA (w := wc)).mono HB3.out.size)).trans ((kbA (w := (wc.alloc (.cells #[.int .i8 2] 29)))).mono (HB3.out.trans ((kbA (w := wc)).mono HB3.out.size)).size))
                  go_wp2_with fail
                  refine (HM.out _ HB9.out).mono ?_
                  rintro e w10 ⟨rfl, hb10⟩
                  go_wp2_with fail
                  go_ret
                  exact ⟨by simp, HB9.out.trans (hb10.mono HB9.out.size)⟩
            | false =>
              clear hln
              cases b1 with
              | true =>
                cases by' with
                | true =>
                  go_wp2_with fail
                  refine (I2.out _ _ (by simp) (cell_below (kbA (w := wc)) _ _ d1)).mono ?_
                  rintro e w8 ⟨rfl, rfl⟩
                  go_wp2_with fail
                  have d1a := cell_below (kbA (w := wc) (o := .cells #[.int .i8 2] 29)) _ _ d1
                  refine (I1.out _ _ (by simp) (cell_below (kbA (w := (wc.alloc (.cells #[.int .i8 2] 29)))) _ _ d1a)).mono ?_
                  rintro e w9 ⟨rfl, rfl⟩
                  have d3b := cell_below (kbA (w := (wc.alloc (.cells #[.int .i8 2] 29))) (o := .cells #[.int .i8 1] 29)) _ _ (cell_below (kbA (w := wc) (o := .cells #[.int .i8 2] 29)) _ _ d3)
                  have d4b := cell_below (kbA (w := (wc.alloc (.cells #[.int .i8 2] 29))) (o := .cells #[.int .i8 1] 29)) _ _ (cell_below (kbA (w := wc) (o := .cells #[.int .i8 2] 29)) _ _ d4)
                  have HB9 : Hid (KB w ((wc.alloc (.cells #[.int .i8 2] 29)).alloc (.cells #[.int .i8 1] 29))) := Lib.hid ((HB3.out.trans ((kbA (w := wc)).mono HB3.out.size)).trans ((kbA (w := (wc.alloc (.cells #[.int .i8 2] 29)))).mono (HB3.out.trans ((kbA (w := wc)).mono HB3.out.size)).size))
                  go_wp2_with fail
                  go_ret
                  exact ⟨rfl, HB9.out⟩
                | false =>
                  go_wp2_with fail
                  refine (I2.out _ _ (by simp) (cell_below (kbA (w := wc)) _ _ d1)).mono ?_
                  rintro e w8 ⟨rfl, rfl⟩
                  go_wp2_with fail
                  have d1a := cell_below (kbA (w := wc) (o := .cells #[.int .i8 2] 29)) _ _ d1
                  refine (I1.out _ _ (by simp) (cell_below (kbA (w := (wc.alloc (.cells #[.int .i8 2] 29)))) _ _ d1a)).mono ?_
                  rintro e w9 ⟨rfl, rfl⟩
                  have d3b := cell_below (kbA (w := (wc.alloc (.cells #[.int .i8 2] 29))) (o := .cells #[.int .i8 1] 29)) _ _ (cell_below (kbA (w := wc) (o := .cells #[.int .i8 2] 29)) _ _ d3)
                  have d4b := cell_below (kbA (w := (wc.alloc (.cells #[.int .i8 2] 29))) (o := .cells #[.int .i8 1] 29)) _ _ (cell_below (kbA (w := wc) (o := .cells #[.int .i8 2] 29)) _ _ d4)
                  have HB9 : Hid (KB w ((wc.alloc (.cells #[.int .i8 2] 29)).alloc (.cells #[.int .i8 1] 29))) := Lib.hid ((HB3.out.trans ((kbA (w := wc)).mono HB3.out.size)).trans ((kbA (w := (wc.alloc (.cells #[.int .i8 2] 29)))).mono (HB3.out.trans ((kbA (w := wc)).mono HB3.out.size)).size))
                  go_wp2_with fail
                  refine (HM.out _ HB9.out).mono ?_
                  rintro e w10 ⟨rfl, hb10⟩
                  go_wp2_with fail
                  go_ret
                  exact ⟨by simp, HB9.out.trans (hb10.mono HB9.out.size)⟩
              | false =>
                go_wp2_with fail
                refine (I2.out _ _ (by simp) (cell_below (kbA (w := wc)) _ _ d1)).mono ?_
                rintro e w8 ⟨rfl, rfl⟩
                go_wp2_with fail
                have d1a := cell_below (kbA (w := wc) (o := .cells #[.int .i8 2] 29)) _ _ d1
                refine (I1.out _ _ (by simp) (cell_below (kbA (w := (wc.alloc (.cells #[.int .i8 2] 29)))) _ _ d1a)).mono ?_
                rintro e w9 ⟨rfl, rfl⟩
                have d3b := cell_below (kbA (w := (wc.alloc (.cells #[.int .i8 2] 29))) (o := .cells #[.int .i8 1] 29)) _ _ (cell_below (kbA (w := wc) (o := .cells #[.int .i8 2] 29)) _ _ d3)
                have d4b := cell_below (kbA (w := (wc.alloc (.cells #[.int .i8 2] 29))) (o := .cells #[.int .i8 1] 29)) _ _ (cell_below (kbA (w := wc) (o := .cells #[.int .i8 2] 29)) _ _ d4)
                have HB9 : Hid (KB w ((wc.alloc (.cells #[.int .i8 2] 29)).alloc (.cells #[.int .i8 1] 29))) := Lib.hid ((HB3.out.trans ((kbA (w := wc)).mono HB3.out.size)).trans ((kbA (w := (wc.alloc (.cells #[.int .i8 2] 29)))).mono (HB3.out.trans ((kbA (w := wc)).mono HB3.out.size)).size))
                go_wp2_with fail
                refine (HM.out _ HB9.out).mono ?_
                rintro e w10 ⟨rfl, hb10⟩
                go_wp2_with fail
                go_ret
                exact ⟨by simp, HB9.out.trans (hb10.mono HB9.out.size)⟩
end Go.Proofs.YtkigeegahepnaaaGreatDoor
