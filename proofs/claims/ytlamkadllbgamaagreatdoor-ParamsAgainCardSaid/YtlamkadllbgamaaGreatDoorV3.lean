/-
  The store's copy of a value, walked.
-/
import Derived.Test.YtlamkadllbgamaaGreatDoorGL
import Derived.Deep.RegionWith
set_option linter.unusedVariables false
set_option linter.unusedSimpArgs false
namespace Go.Proofs.YtlamkadllbgamaaGreatDoor
open Go.RowKit Go.Shelf

theorem infoSl : (Tryz.prog.info? 30).map (fun i => (i.zero, i.size, i.bytes)) = some (some (.slice none 0 0), 1, 24) := by kernel_rfl
theorem fine_keys {x : V} (h : fineV x) : x.keys.length ≤ 3000 := h x (by obtain ⟨k, b, n, s, l, ks⟩ := x; rw [walkV]; exact List.mem_cons_self)
theorem size_list {x : V} (h : sizeV x ≤ 1000000) : x.list.length ≤ 1000000 := by
  obtain ⟨k, b, n, s, l, ks⟩ := x
  have := sizeVs_len l
  unfold sizeV at h
  show l.length ≤ 1000000
  omega

set_option maxRecDepth 100000 in
set_option maxHeartbeats 8000000 in
theorem copiedV_any (x : V) (v : Value) (w : World) (P : Nat → Prop) (hM : sizeV x ≤ 1000000) (hF : fineV x) (hP : ∀ q, w.heap.size ≤ q → P q) (h : isVa w (fun q => P q ∧ q < w.heap.size) x v) :
    Calls Tryz.prog 44 #[v] w fun e w' => ∃ v', e = .returned v' ∧ isVa w' P x v' ∧ Below w.heap.size w w' := by
  obtain ⟨k, b, n, s, o, m, c, o2, m2, c2, rfl⟩ := isV_six (isV_of_a _ _ h)
  have HS := Lib.hid (CS.start hM hF hP h)
  obtain ⟨i0, hi, hz0, hz1, hz2⟩ := info_parts infoSl
  clear h
  go_enter Tryz.func44, Tryz.ntmps44
  go_wp2_with fail
  generalize ((((w.alloc (.cells #[.int .i8 k, .bool b, .int .i64 n, .string s, .slice o m c, .slice o2 m2 c2] 33)).alloc (.cells #[.int .i8 0, .bool false, .int .i64 0, .string ⟨#[]⟩, .slice none 0 0, .slice none 0 0] 33)).alloc (.cells #[.int .i8 k, .bool b, .int .i64 n, .string s, .slice o m c, .slice o2 m2 c2] 33)).alloc (.cells #[.slice (some ⟨w.heap.size + 1 + 1, 0, none⟩) 1 1] 30)) = W4 at *
  go_loopg [4, 5] 3000000 (fun g lv nv wr => ∃ (kk nn lb cc : Nat) (xs : List Value), lv = .slice (some ⟨lb, 0, none⟩) kk cc ∧ nv = .int .i64 nn ∧ kk ≤ nn + 1 ∧ nn ≤ 2100000 ∧ g = 3000000 - nn ∧ Hid (CS P w x lb cc kk xs wr))
  case atStart => exact ⟨1, 0, _, 1, _, rfl, rfl, by omega, by omega, by omega, HS⟩
  case round =>
    obtain ⟨kk, nn, lb, cc, xs, rfl, rfl, hk1, hn1, rfl, hC⟩ := hrel
    rcases kk with _ | kk
    · obtain ⟨k9, n9, b9, s9, o9, m9, c9, o8, m8, c8, x1, x2, x3, x4, x5, x6, ⟨g0, g1, g2, g3, g4, g5⟩, ⟨⟨_, t1⟩, t1', t1''⟩, ⟨⟨_, t2⟩, t2', t2''⟩, ⟨⟨_, t3⟩, t3', t3''⟩, ⟨⟨_, t4⟩, t4', t4''⟩, ⟨⟨_, t5⟩, t5', t5''⟩, ⟨⟨_, t6⟩, t6', t6''⟩, HD⟩ := hC.out.ends
      clear hC HS
      go_wp2_with fail
      obtain ⟨⟨d0, d1, d2, d3, d4, d5⟩, hx, hb⟩ := HD.out
      refine bodyPost_ret (v := .agg #[.int .i8 k9, .bool b9, .int .i64 n9, .string s9, .slice o9 m9 c9, .slice o8 m8 c8]) (by simp [results, Tryz.results44, go_sem, d0, d1, d2, d3, d4, d5]) rfl ?_
      exact ⟨_, rfl, hx, hb⟩
    · obtain ⟨u, hu1, hu2, hu3, hu4⟩ := hC.out.pop
      obtain ⟨g, mm, cr, l0, f0, rfl, hm1, hm2, hm3, hm4, hl0, hr1, hr2, hrp, hr3, hr4, hr5⟩ := hu3
      have hcc : kk + 1 ≤ cc := by
        obtain ⟨_, ad, c', e, h1, h2, _⟩ := own_form hC.out.own
        simp only [Value.slice.injEq, true_and] at e
        omega
      have hccm : cc ≤ maxLen := by
        obtain ⟨_, ad, c', e, h1, h2, _⟩ := own_form hC.out.own
        simp only [Value.slice.injEq, true_and] at e
        omega
      unfold maxLen at hccm hm4
      have HC4 := Lib.hid hu4
      have HR := Lib.hid (show RowOK P (w.heap.size + 1) lb wr (.slice (some ⟨g, 0, none⟩) mm cr) from ⟨g, mm, cr, l0, f0, rfl, hm1, hm2, hm3, by unfold maxLen; omega, hl0, hr1, hr2, hrp, hr3, hr4, hr5⟩)
      have y1 : ((kk + 1 : Nat) : Int) = (kk : Int) + 1 := by omega
      have y2 : IntKind.i64.wrap ((kk : Int) + 1 - 1) = (kk : Int) := by rw [show (kk : Int) + 1 - 1 = kk by omega]; exact IntWalk.i64_in _ (by omega)
      clear hC HS hu1 hr1 hr2 hr5 hu4
      go_wp2_with fail
      go_loopw [4, 5, 29] (fun lv nv iv wi => ∃ (j k1 n1 lb1 c1 : Nat) (xs1 : List Value), lv = .slice (some ⟨lb1, 0, none⟩) k1 c1 ∧ nv = .int .i64 n1 ∧ iv = .int .i64 j ∧ j ≤ mm ∧ nn + j ≤ n1 ∧ k1 ≤ n1 ∧ n1 ≤ 2100000 ∧ Hid (CS P w x lb1 c1 k1 xs1 wi) ∧ Hid (RowOK P (w.heap.size + 1) lb1 wi (.slice (some ⟨g, 0, none⟩) mm cr))) (fun _ _ iv _ => mm - (intOf iv).toNat)
      case atStart => exact ⟨0, kk, nn, lb, cc, _, rfl, rfl, rfl, by omega, by omega, by omega, by omega, HC4, HR⟩
      case round =>
        obtain ⟨j, k1, n1, lb1, c1, xs1, rfl, rfl, rfl, hj, hn2, hk2, hn3, hC, hR⟩ := hrel
        clear HC4 HR
        by_cases hlt : j < mm
        · obtain ⟨g', m', c', l1, f1, e1, hm5, hm6, hm7, hm8, hl1, hq1, hq2, hqp, hq3, hq4, hq5⟩ := hR.out
          simp only [Value.slice.injEq, Option.some.injEq, Addr.mk.injEq, and_true] at e1
          obtain ⟨rfl, rfl, rfl⟩ := e1
          obtain ⟨k', b', n', s', o1, m1, p1, o3, m3, p3, e0, e1, e2, e3, e4, e5, hxe⟩ := isVas_sl l1 _ j (by omega) hq1
          rw [add0'] at e0 e1 e2 e3 e4 e5
          obtain ⟨_, _, hss, _⟩ := isV_parts (isV_of_a _ _ hxe)
          obtain ⟨_, _, _, _, hmm1, hkk1⟩ := isV_all (isV_of_a _ _ hxe)
          have hzl := hq5 _ (List.getElem_mem (show j < l1.length by omega))
          have hm1 : m1 ≤ 1000000 := by rw [hmm1]; exact size_list hzl.1
          have hm3 : m3 ≤ 3000 := by
            obtain ⟨a9, cap9, ⟨o9, e9, _⟩, _⟩ := hkk1
            simp only [Value.slice.injEq] at e9
            have := fine_keys hzl.2
            omega
          by_cases hbig : 1048576 < n1
          · have z : decide ((1048576 : Int) < (n1 : Int)) = true := decide_eq_true (by omega)
            have HE := (hC.out.below (kbA (o := .cells #[.int .i8 k', .bool b', .int .i64 n', .string s', .slice o1 m1 p1, .slice o3 m3 p3] 33))).ends
            obtain ⟨k9, n9, b9, s9, o9, m9, c9, o8, m8, c8, x1, x2, x3, x4, x5, x6, ⟨g0, g1, g2, g3, g4, g5⟩, ⟨⟨_, t1⟩, t1', t1''⟩, ⟨⟨_, t2⟩, t2', t2''⟩, ⟨⟨_, t3⟩, t3', t3''⟩, ⟨⟨_, t4⟩, t4', t4''⟩, ⟨⟨_, t5⟩, t5', t5''⟩, ⟨⟨_, t6⟩, t6', t6''⟩, HD⟩ := HE
            clear hC hR hxe hmm1 hkk1 hq1 hq2 hq5
            go_wp2_with fail
            obtain ⟨⟨d0, d1, d2, d3, d4, d5⟩, hx, hb⟩ := HD.out
            refine bodyPost_ret (v := .agg #[.int .i8 k9, .bool b9, .int .i64 n9, .string s9, .slice o9 m9 c9, .slice o8 m8 c8]) (by simp [results, Tryz.results44, go_sem, d0, d1, d2, d3, d4, d5]) rfl ?_
            exact ⟨_, rfl, hx, hb⟩
          · have z : decide ((1048576 : Int) < (n1 : Int)) = false := decide_eq_false (by omega)
            have hCw := hC.out.below (kbA (o := .cells #[.int .i8 k', .bool b', .int .i64 n', .string s', .slice o1 m1 p1, .slice o3 m3 p3] 33))
            have hRw := hR.out.below (kbA (o := .cells #[.int .i8 k', .bool b', .int .i64 n', .string s', .slice o1 m1 p1, .slice o3 m3 p3] 33))
            have hbx := World.alloc_heap_new wr (.cells #[.int .i8 k', .bool b', .int .i64 n', .string s', .slice o1 m1 p1, .slice o3 m3 p3] 33)
            have hxw := isVa_keep (fun a c _ hc => cell_below (kbA (o := .cells #[.int .i8 k', .bool b', .int .i64 n', .string s', .slice o1 m1 p1, .slice o3 m3 p3] 33)) _ _ hc) _ _ hxe
            have hsz : (wr.alloc (.cells #[.int .i8 k', .bool b', .int .i64 n', .string s', .slice o1 m1 p1, .slice o3 m3 p3] 33)).heap.size = wr.heap.size + 1 := by simp
            have hgl : g < wr.heap.size := hq2.lt
            have hlbl := hC.out.lb2
            have hq2w := rowIs_grown hq2 (grown_bel (kbA (o := .cells #[.int .i8 k', .bool b', .int .i64 n', .string s', .slice o1 m1 p1, .slice o3 m3 p3] 33))) (by simp)
            have e4w := cell_below (kbA (o := .cells #[.int .i8 k', .bool b', .int .i64 n', .string s', .slice o1 m1 p1, .slice o3 m3 p3] 33)) _ _ e4
            have e5w := cell_below (kbA (o := .cells #[.int .i8 k', .bool b', .int .i64 n', .string s', .slice o1 m1 p1, .slice o3 m3 p3] 33)) _ _ e5
            have HZ := Lib.hid hzl
            have HQW := Lib.hid hq2w
            have HSZ := Lib.hid hsz
            have HFR : Hid (w.heap.size + 1 < g ∧ g ≠ lb1 ∧ P g) := Lib.hid ⟨hq3, hq4, hqp⟩
            have v1 : IntKind.i64.wrap (1 + (m1 : Int)) = 1 + (m1 : Int) := IntWalk.i64_in _ (by omega)
            have v2 : IntKind.i64.wrap (1 + (m1 : Int) + (m3 : Int)) = 1 + (m1 : Int) + (m3 : Int) := IntWalk.i64_in _ (by omega)
            have v3 : IntKind.i64.wrap ((n1 : Int) + (1 + (m1 : Int) + (m3 : Int))) = ((n1 + 1 + m1 + m3 : Nat) : Int) := by rw [IntWalk.i64_in _ (by omega)]; omega
            clear hC hR hxe hmm1 hkk1 hq1 hq2 hq5 hzl hq2w
            go_wp2_with fail
            generalize hW2 : wr.alloc (.cells #[.int .i8 k', .bool b', .int .i64 n', .string s', .slice o1 m1 p1, .slice o3 m3 p3] 33) = W2 at *
            clear hW2
            have CL : Hid (∀ w1, KB W2 w1 → Calls Tryz.prog 61 #[.slice o1 m1 p1] w1 fun e w' => (∃ ol g cap, e = .returned (.slice ol m1 cap) ∧ Cln w' w1.heap.size 33 6 o1 m1 ol g cap) ∧ Below w1.heap.size w1 w') := Lib.hid fun w1 hK => clnL hxw hm1 w1 hK
            have CK : Hid (∀ w1, KB W2 w1 → Calls Tryz.prog 62 #[.slice o3 m3 p3] w1 fun e w' => (∃ ol g cap, e = .returned (.slice ol m3 cap) ∧ Cln w' w1.heap.size 9 1 o3 m3 ol g cap) ∧ Below w1.heap.size w1 w') := Lib.hid fun w1 hK => clnK hxw (by omega) w1 hK
            have HXW := Lib.hid hxw
            have HE45 := Lib.hid (And.intro e4w e5w)
            have HCW := Lib.hid hCw
            have HRW := Lib.hid hRw
            have HBX := Lib.hid hbx
            obtain ⟨r0, r1, r2, r3, r4, r5⟩ := six_cells hbx
            clear hxw hCw hRw hbx r0 r1 r2 r3 hsz e4w e5w
            go_region_with (first
              | (go_at_call 61; refine (CL.out _ ?_).mono ?_; exact drewB1 _ _; rintro e w3 ⟨⟨ol, gL, capL, rfl, hcl⟩, hb3⟩; have r5 := cell_below hb3 _ _ (show W2.drew.cell? ⟨wr.heap.size, 5, none⟩ = _ from r5))
              | (go_at_call 62; refine (CK.out _ ?_).mono ?_; exact below_drew_of hb3; rintro e w4 ⟨⟨okk, gK, capK, rfl, hck⟩, hb4⟩; have hq4 := rowIs_grown (rowIs_grown HQW.out (grown_bel (below_drew_of hb3)) (by simp)) (grown_bel hb4) (by simp); obtain ⟨y1, y2, f2, ⟨⟨_, q1⟩, q1', q1''⟩, ⟨⟨_, q2⟩, q2', q2''⟩, hr2, hg2, hoff, hc4, hc5⟩ := row_set hq4 (j * 6 + 4) (j * 6 + 5) (by omega) (by omega) (.slice ol m1 capL) (.slice okk m3 capK)))
            all_goals
              have hb34 := (below_drew_of hb3).trans (hb4.mono (below_drew_of hb3).size)
              have hcl4 := hcl.below hb4 (fun h0 => by
                obtain ⟨a, ea, hl, _⟩ := (slot_lt HXW.out).2.1 h0
                exact ⟨a, ea, Nat.lt_of_lt_of_le hl (below_drew_of hb3).size⟩)
              obtain ⟨hC2, hR2, hN2⟩ := CS.step HCW.out HRW.out HXW.out hm1 HZ.out HE45.out.1 HE45.out.2 HFR.out hb34 (below_drew_of hb3).size hcl4 hck hq4 hr2 hg2 hoff (hc4 (by omega)) hc5
              have b4 := (six_cells ((hb34.block _ (by have := HSZ.out; omega)).trans HBX.out)).2.2.2.2.1
              rw [← hoff _ (fun e => by have := (Addr.mk.injEq _ _ _ _ _ _).mp e; omega) (fun e => by have := (Addr.mk.injEq _ _ _ _ _ _).mp e; omega)] at b4
              have d4 := hc4 (by omega)
              have HC2 := Lib.hid hC2
              have HR2 := Lib.hid hR2
              have HN2 := Lib.hid hN2
              clear hb34 hcl4 hC2 hR2 hN2 hcl hck hb3 hb4 hq4 hr2 hg2 hoff hc4 hc5 q1 q1' q1'' q2 q2' q2'' CL CK r4 r5
              by_cases hm0 : 0 < m1
              · have z0 : decide ((0 : Int) < (m1 : Int)) = true := decide_eq_true (by omega)
                obtain ⟨rfl, hRn⟩ := HN2.out hm0
                have HC3 := Lib.hid (HC2.out.below (kbA (o := .cells #[.slice (some ⟨gL, 0, none⟩) m1 capL] 30)))
                have HR3 := Lib.hid (HR2.out.below (kbA (o := .cells #[.slice (some ⟨gL, 0, none⟩) m1 capL] 30)))
                have HRn := Lib.hid (hRn.below (kbA (o := .cells #[.slice (some ⟨gL, 0, none⟩) m1 capL] 30)))
                clear HC2 HR2 hRn HN2
                have hnews : ∀ q u, [Value.slice (some ⟨gL, 0, none⟩) m1 capL][q]? = some u → (y2.alloc (.cells #[.slice (some ⟨gL, 0, none⟩) m1 capL] 30)).cell? ((⟨y2.heap.size, 0, none⟩ : Addr).add q) = some u := fun q u hq => by
                  rcases q with _ | q
                  · obtain rfl := Option.some.inj hq
                    simp [Addr.add]
                  · simp at hq
                have hone : ∀ u ∈ [Value.slice (some ⟨gL, 0, none⟩) m1 capL], u.oneCell' = true := fun u hu => by rw [List.mem_singleton.1 hu]; rfl
                have HNE := Lib.hid hnews
                have HON := Lib.hid hone
                have hb9 : w.heap.size + 3 ≤ (y2.alloc (.cells #[.slice (some ⟨gL, 0, none⟩) m1 capL] 30)).heap.size := by have := HC3.out.lb1; have := HC3.out.lb2; omega
                have HB9 := Lib.hid hb9
                clear hnews hone hb9
                go_wp2_with (at_builtin; refine wpList_append_row_at rfl _ _ 84 rfl (w.heap.size + 3) 30 i0 _ 1 24 Tryz.underlying84 hi hz0 hz1 hz2 rfl (by decide) _ k1 xs1 rfl HC3.out.own (some ⟨y2.heap.size, 0, none⟩) ⟨y2.heap.size, 0, none⟩ 1 1 [.slice (some ⟨gL, 0, none⟩) m1 capL] rfl (fun _ => rfl) rfl HNE.out HON.out (by unfold maxLen; omega) (by omega) HB9.out ?_)
                intro o' c' w8 hown' hgrow hat
                obtain ⟨lb', rfl⟩ : ∃ lb', o' = some ⟨lb', 0, none⟩ := by
                  rcases hown'.2 with ⟨e, _⟩ | ⟨gg, cp, cu, e, _⟩
                  · cases e
                  · simp only [Value.slice.injEq] at e
                    exact ⟨gg, e.1⟩
                have HLB : Hid (lb' = lb1 ∨ lb' = (y2.alloc (.cells #[.slice (some ⟨gL, 0, none⟩) m1 capL] 30)).heap.size) := Lib.hid (by
                  rcases hat with e | e
                  · exact .inl (Option.some.inj e)
                  · exact .inr (by rw [World.size_alloc]; exact Option.some.inj e))
                have HC8 := Lib.hid (HC3.out.push HRn.out hgrow HLB.out hown')
                have HR8 := Lib.hid (HR3.out.grown hgrow HLB.out)
                clear HC3 HR3 HRn hown' hgrow hat HLB
                go_wp2_with fail
                go_roundw
                case rel => exact ⟨j + 1, k1 + 1, n1 + 1 + m1 + m3, lb', c', _, rfl, congrArg (Value.int .i64) (by omega), congrArg (Value.int .i64) (by omega), by omega, by omega, by omega, by omega, HC8, HR8⟩
                case measure => simp [intOf]; omega
              · obtain rfl : m1 = 0 := by omega
                have z0 : decide ((0 : Int) < ((0 : Nat) : Int)) = false := decide_eq_false (by omega)
                clear HN2
                go_wp2_with fail
                go_roundw
                case rel => exact ⟨j + 1, k1, n1 + 1 + 0 + m3, lb1, c1, xs1, rfl, congrArg (Value.int .i64) (by omega), congrArg (Value.int .i64) (by omega), by omega, by omega, by omega, by omega, HC2, HR2⟩
                case measure => simp [intOf]; omega
        · obtain rfl : j = mm := by omega
          go_wp2_with fail
          go_roundg (3000000 - n1)
          case measure => omega
          case rel => exact ⟨k1, n1, lb1, c1, xs1, rfl, rfl, by omega, by omega, rfl, hC⟩
end Go.Proofs.YtlamkadllbgamaaGreatDoor
