/-
  The contract of the reference's compare: the order of two trees.
-/
import Derived.Test.YtdckldfekepopaaGreatDoorZG
set_option linter.unusedVariables false
set_option linter.unusedSimpArgs false
namespace Go.Proofs.YtdckldfekepopaaGreatDoor.Cq
open Go.RowKit

set_option maxRecDepth 100000 in
set_option maxHeartbeats 16000000 in
theorem compare_any : ∀ (N : Nat) (x y : V) (v v' : Value) (w : World), sizeV x ≤ N → okV x → okV y → isV w x v → isV w y v' →
    Calls Tryz.prog 72 #[v, v'] w fun e w' => e = .returned (.int .i64 (cmpV x y)) ∧ Below w.heap.size w w'
  | 0, x, y, v, v', w, hN, _, _, h, h' => absurd (sizeV_pos x) (by omega)
  | N + 1, x, y, v, v', w, hN, hok, hok', h, h' => by
    obtain ⟨k, b, n, s, l, ks⟩ := x
    obtain ⟨k', b', n', s', l', ks'⟩ := y
    unfold isV at h h'
    obtain ⟨lv, kv, rfl, hk, hn, hs, ⟨a, cap, ⟨o, rfl, hc1, hc2, ho⟩, hvs⟩, ⟨a2, cap2, ⟨o2, rfl, hc3, hc4, ho2⟩, hks⟩⟩ := h
    obtain ⟨lv, kv, rfl, hk', hn', hs', ⟨a', cap', ⟨o', rfl, hc1', hc2', ho'⟩, hvs'⟩, ⟨a2', cap2', ⟨o2', rfl, hc3', hc4', ho2'⟩, hks'⟩⟩ := h'
    unfold maxLen at hs hc2 hc4 hs' hc2' hc4'
    clear hk hn hk' hn'
    have hsz : sizeV (.mk k b n s l ks) = 1 + s.size + keysS ks + sizeVs l := by rw [sizeV]
    have hSL : sizeVs l ≤ N := by omega
    clear hsz hN
    by_cases q1 : k ≠ k'
    · have f2 : (k != k') = true := bne_iff_ne.2 q1
      cases hc : decide (k < k') with
      | true =>
        have HN : Hid (cmpV (.mk k b n s l ks) (.mk k' b' n' s' l' ks') = -1) := Lib.hid (by rw [cmpV_mk, if_pos q1, hc]; rfl)
        clear q1 hvs hvs' hks hks' ho ho' ho2 ho2' hok hok'
        go_enter Tryz.func72, Tryz.ntmps72
        go_wp2_with fail
        go_ret
        exact ⟨by rw [HN.out]; rfl, KB.two⟩
      | false =>
        have HN : Hid (cmpV (.mk k b n s l ks) (.mk k' b' n' s' l' ks') = 1) := Lib.hid (by rw [cmpV_mk, if_pos q1, hc]; rfl)
        clear q1 hvs hvs' hks hks' ho ho' ho2 ho2' hok hok'
        go_enter Tryz.func72, Tryz.ntmps72
        go_wp2_with fail
        go_ret
        exact ⟨by rw [HN.out]; rfl, KB.two⟩
    obtain rfl : k = k' := Decidable.not_not.1 q1
    by_cases q2 : b ≠ b'
    · cases b' with
      | true =>
        obtain rfl : b = false := by cases b <;> simp_all
        have HN : Hid (cmpV (.mk k false n s l ks) (.mk k true n' s' l' ks') = -1) := Lib.hid (by rw [cmpV_mk, if_neg q1, if_pos q2]; rfl)
        clear q1 q2 hvs hvs' hks hks' ho ho' ho2 ho2' hok hok'
        go_enter Tryz.func72, Tryz.ntmps72
        go_wp2_with fail
        go_ret
        exact ⟨by rw [HN.out]; rfl, KB.two⟩
      | false =>
        obtain rfl : b = true := by cases b <;> simp_all
        have HN : Hid (cmpV (.mk k true n s l ks) (.mk k false n' s' l' ks') = 1) := Lib.hid (by rw [cmpV_mk, if_neg q1, if_pos q2]; rfl)
        clear q1 q2 hvs hvs' hks hks' ho ho' ho2 ho2' hok hok'
        go_enter Tryz.func72, Tryz.ntmps72
        go_wp2_with fail
        go_ret
        exact ⟨by rw [HN.out]; rfl, KB.two⟩
    obtain rfl : b = b' := Decidable.not_not.1 q2
    by_cases q3 : n ≠ n'
    · have f2 : (n != n') = true := bne_iff_ne.2 q3
      cases hc : decide (n < n') with
      | true =>
        have HN : Hid (cmpV (.mk k b n s l ks) (.mk k b n' s' l' ks') = -1) := Lib.hid (by rw [cmpV_mk, if_neg q1, if_neg q2, if_pos q3, hc]; rfl)
        clear q1 q2 q3 hvs hvs' hks hks' ho ho' ho2 ho2' hok hok'
        go_enter Tryz.func72, Tryz.ntmps72
        go_wp2_with fail
        go_ret
        exact ⟨by rw [HN.out]; rfl, KB.two⟩
      | false =>
        have HN : Hid (cmpV (.mk k b n s l ks) (.mk k b n' s' l' ks') = 1) := Lib.hid (by rw [cmpV_mk, if_neg q1, if_neg q2, if_pos q3, hc]; rfl)
        clear q1 q2 q3 hvs hvs' hks hks' ho ho' ho2 ho2' hok hok'
        go_enter Tryz.func72, Tryz.ntmps72
        go_wp2_with fail
        go_ret
        exact ⟨by rw [HN.out]; rfl, KB.two⟩
    obtain rfl : n = n' := Decidable.not_not.1 q3
    by_cases q4 : s ≠ s'
    · have f1 := beq_toList q4
      cases hc : bl s s' with
      | true =>
        have HN : Hid (cmpV (.mk k b n s l ks) (.mk k b n s' l' ks') = -1) := Lib.hid (by rw [cmpV_mk, if_neg q1, if_neg q2, if_neg q3, if_pos q4, hc]; rfl)
        have hc' : Op.bytesLess s.toList s'.toList = true := hc
        clear q1 q2 q3 q4 hc hvs hvs' hks hks' ho ho' ho2 ho2' hok hok'
        go_enter Tryz.func72, Tryz.ntmps72
        go_wp2_with fail
        go_ret
        exact ⟨by rw [HN.out]; rfl, KB.two⟩
      | false =>
        have HN : Hid (cmpV (.mk k b n s l ks) (.mk k b n s' l' ks') = 1) := Lib.hid (by rw [cmpV_mk, if_neg q1, if_neg q2, if_neg q3, if_pos q4, hc]; rfl)
        have hc' : Op.bytesLess s.toList s'.toList = false := hc
        clear q1 q2 q3 q4 hc hvs hvs' hks hks' ho ho' ho2 ho2' hok hok'
        go_enter Tryz.func72, Tryz.ntmps72
        go_wp2_with fail
        go_ret
        exact ⟨by rw [HN.out]; rfl, KB.two⟩
    obtain rfl : s = s' := Classical.not_not.1 q4
    have HC : Hid (cmpV (.mk k b n s l ks) (.mk k b n s l' ks') = cmpVs k l ks l' ks') := Lib.hid (by rw [cmpV_mk, if_neg q1, if_neg q2, if_neg q3, if_neg q4])
    unfold okV at hok hok'
    obtain ⟨hkl, hos⟩ := hok
    obtain ⟨hkl', hos'⟩ := hok'
    have HKL := Lib.hid hkl
    have HKL' := Lib.hid hkl'
    have HOS := Lib.hid hos
    have HOS' := Lib.hid hos'
    have HB0 : Hid (KB w ((w.alloc (.cells #[.int .i8 k, .bool b, .int .i64 n, .string s, .slice o l.length cap, .slice o2 ks.length cap2] 64)).alloc (.cells #[.int .i8 k, .bool b, .int .i64 n, .string s, .slice o' l'.length cap', .slice o2' ks'.length cap2'] 64))) := Lib.hid KB.two
    have HD : Hid (∀ w1, KB ((w.alloc (.cells #[.int .i8 k, .bool b, .int .i64 n, .string s, .slice o l.length cap, .slice o2 ks.length cap2] 64)).alloc (.cells #[.int .i8 k, .bool b, .int .i64 n, .string s, .slice o' l'.length cap', .slice o2' ks'.length cap2'] 64)) w1 → (w1.cell? ⟨w.heap.size, 0, none⟩ = some (.int .i8 k) ∧ w1.cell? ⟨w.heap.size, 4, none⟩ = some (.slice o l.length cap) ∧ w1.cell? ⟨w.heap.size, 5, none⟩ = some (.slice o2 ks.length cap2)) ∧ w1.cell? ⟨w.heap.size + 1, 4, none⟩ = some (.slice o' l'.length cap') ∧ w1.cell? ⟨w.heap.size + 1, 5, none⟩ = some (.slice o2' ks'.length cap2')) := Lib.hid fun w1 hK =>
      ⟨⟨cell_below hK _ _ (by simp), cell_below hK _ _ (by simp), cell_below hK _ _ (by simp)⟩, cell_below hK _ _ (by simp), cell_below hK _ _ (by simp)⟩
    have HK := Lib.hid hks
    have HK' := Lib.hid hks'
    have HV := Lib.hid hvs
    have HV' := Lib.hid hvs'
    clear q1 q2 q3 q4 hks hks' hvs hvs' hkl hkl' hos hos'
    go_enter Tryz.func72, Tryz.ntmps72
    go_wp2_with fail
    generalize hW1 : (w.alloc (.cells #[.int .i8 k, .bool b, .int .i64 n, .string s, .slice o l.length cap, .slice o2 ks.length cap2] 64)).alloc (.cells #[.int .i8 k, .bool b, .int .i64 n, .string s, .slice o' l'.length cap', .slice o2' ks'.length cap2'] 64) = W1 at *
    clear hW1
    go_loopw [5] (fun i wr => ∃ j : Nat, j ≤ l.length ∧ j ≤ l'.length ∧ i = .int .i64 j ∧ Hid (cmpVs k l ks l' ks' = cmpVs k (l.drop j) (ks.drop j) (l'.drop j) (ks'.drop j)) ∧ KB W1 wr) (fun i _ => l.length - (intOf i).toNat)
    case atStart => exact ⟨0, by omega, by omega, rfl, Lib.hid (by simp), Below.refl _ _⟩
    case round =>
      obtain ⟨j, hj, hj', rfl, hye, hB⟩ := hrel
      obtain ⟨⟨b0, b4, b5⟩, b4', b5'⟩ := HD.out wr hB
      have hKw : KB w wr := HB0.out.trans (hB.mono HB0.out.size)
      have HBB := Lib.hid hB
      by_cases hlt : j < l.length
      · by_cases hlt' : j < l'.length
        · have hat := cmpVs_at k l l' ks ks' j hlt hlt'
          rw [← hye.out] at hat
          obtain rfl := ho (by omega)
          obtain rfl := ho' (by omega)
          obtain ⟨c0, c1, c2, c3, c4, c5, g0, g1, g2, g3, g4, g5, hx5⟩ := isVs_at l a j hlt HV.out
          obtain ⟨d0, d1, d2, d3, d4, d5, k0, k1, k2, k3, k4, k5, hy5⟩ := isVs_at l' a' j hlt' HV'.out
          have g0 := cell_below hKw _ _ g0
          have g1 := cell_below hKw _ _ g1
          have g2 := cell_below hKw _ _ g2
          have g3 := cell_below hKw _ _ g3
          have g4 := cell_below hKw _ _ g4
          have g5 := cell_below hKw _ _ g5
          have k0 := cell_below hKw _ _ k0
          have k1 := cell_below hKw _ _ k1
          have k2 := cell_below hKw _ _ k2
          have k3 := cell_below hKw _ _ k3
          have k4 := cell_below hKw _ _ k4
          have k5 := cell_below hKw _ _ k5
          have i0 : (0 : Int) ≤ (j : Int) := by omega
          have i1 : (j : Int) < (l.length : Int) := by omega
          have i2 : (j : Int) < (l'.length : Int) := by omega
          have HI : Hid (∀ w1, KB W1 w1 → Calls Tryz.prog 72 #[.agg #[c0, c1, c2, c3, c4, c5], .agg #[d0, d1, d2, d3, d4, d5]] w1 fun e w' => e = .returned (.int .i64 (cmpV l[j] l'[j])) ∧ KB W1 w') := Lib.hid fun w1 hK => Calls.kb hK (compare_any N l[j] l'[j] _ _ w1 (by have := sizeVs_get l j hlt; omega) (okVs_get l j hlt HOS.out) (okVs_get l' j hlt' HOS'.out) (isV_below hK (isV_below HB0.out hx5)) (isV_below hK (isV_below HB0.out hy5)))
          by_cases h5 : k = 5
          · have z5 : (k == 5) = true := by rw [beq_iff_eq]; exact h5
            have e1 := HKL.out h5
            have e2 := HKL'.out h5
            have hk1 : j < ks.length := by omega
            have hk2 : j < ks'.length := by omega
            have m1 := cell_below hKw _ _ (HK.out j hk1).1
            have m2 := cell_below hKw _ _ (HK'.out j hk2).1
            obtain rfl := ho2 (by omega)
            obtain rfl := ho2' (by omega)
            have i3 : (j : Int) < (ks.length : Int) := by omega
            have i4 : (j : Int) < (ks'.length : Int) := by omega
            have q1 : ks.getD j E0 = ks[j] := by rw [List.getD, List.getElem?_eq_getElem hk1]; rfl
            have q2 : ks'.getD j E0 = ks'[j] := by rw [List.getD, List.getElem?_eq_getElem hk2]; rfl
            rw [q1, q2] at hat
            clear q1 q2 e1 e2
            by_cases hK : ks[j] = ks'[j]
            · rw [if_neg (fun e => e.2 hK)] at hat
              have HNX : Hid (cmpV l[j] l'[j] = 0 → cmpVs k l ks l' ks' = cmpVs k (l.drop (j + 1)) (ks.drop (j + 1)) (l'.drop (j + 1)) (ks'.drop (j + 1))) := Lib.hid (fun hz => by rw [hat, if_neg (fun hc => hc hz)])
              have HNF : Hid (cmpV l[j] l'[j] ≠ 0 → cmpV (.mk k b n s l ks) (.mk k b n s l' ks') = cmpV l[j] l'[j]) := Lib.hid (fun hz => by rw [HC.out, hat, if_pos hz])
              rw [← hK] at m2
              generalize ks[j] = K at *
              clear hK hat hye hB hKw hx5 hy5 h5 hk1 hk2
              go_wp2_with fail
              go_quiet (fail)
              rename_i nq
              have hKq : KB W1 (wr.drewN nq) := HBB.out.trans (drewB _ _ _)
              obtain ⟨⟨e0, e4, e5⟩, e4', e5'⟩ := HD.out _ hKq
              have HKQ := Lib.hid hKq
              have g0 : (wr.drewN nq).cell? (a.add (j * 6)) = some c0 := g0
              have g1 : (wr.drewN nq).cell? ⟨(a.add (j * 6)).block, (a.add (j * 6)).off + 1, none⟩ = some c1 := g1
              have g2 : (wr.drewN nq).cell? ⟨(a.add (j * 6)).block, (a.add (j * 6)).off + 2, none⟩ = some c2 := g2
              have g3 : (wr.drewN nq).cell? ⟨(a.add (j * 6)).block, (a.add (j * 6)).off + 3, none⟩ = some c3 := g3
              have g4 : (wr.drewN nq).cell? ⟨(a.add (j * 6)).block, (a.add (j * 6)).off + 4, none⟩ = some c4 := g4
              have g5 : (wr.drewN nq).cell? ⟨(a.add (j * 6)).block, (a.add (j * 6)).off + 5, none⟩ = some c5 := g5
              have k0 : (wr.drewN nq).cell? (a'.add (j * 6)) = some d0 := k0
              have k1 : (wr.drewN nq).cell? ⟨(a'.add (j * 6)).block, (a'.add (j * 6)).off + 1, none⟩ = some d1 := k1
              have k2 : (wr.drewN nq).cell? ⟨(a'.add (j * 6)).block, (a'.add (j * 6)).off + 2, none⟩ = some d2 := k2
              have k3 : (wr.drewN nq).cell? ⟨(a'.add (j * 6)).block, (a'.add (j * 6)).off + 3, none⟩ = some d3 := k3
              have k4 : (wr.drewN nq).cell? ⟨(a'.add (j * 6)).block, (a'.add (j * 6)).off + 4, none⟩ = some d4 := k4
              have k5 : (wr.drewN nq).cell? ⟨(a'.add (j * 6)).block, (a'.add (j * 6)).off + 5, none⟩ = some d5 := k5
              generalize wr.drewN nq = w2 at *
              clear hKq
              go_wp2_with fail
              go_still_tail 10, (by kernel_rfl)
              by_cases hz : cmpV l[j] l'[j] = 0
              · rw [hz] at HI
                have HN := Lib.hid (HNX.out hz)
                clear hz HNX HNF
                go_wp2_with (go_at_call 72; (refine (HI.out _ (HKQ.out.trans (drewB1 _ _))).mono ?_); rintro e w5 ⟨rfl, hb5⟩)
                go_roundw
                case rel => exact ⟨j + 1, by omega, by omega, by go_num, HN, hb5⟩
                case measure => simp [intOf]; omega
              · have HG := Lib.hid (HNF.out hz)
                obtain ⟨z, hzz⟩ : ∃ z, cmpV l[j] l'[j] = z := ⟨_, rfl⟩
                rw [hzz] at HI HG hz
                have z1 : (z == 0) = false := beqI hz
                have z2 : (z != 0) = true := bne_iff_ne.2 hz
                clear hz HNX HNF hzz
                go_wp2_with (go_at_call 72; (refine (HI.out _ (HKQ.out.trans (drewB1 _ _))).mono ?_); rintro e w5 ⟨rfl, hb5⟩)
                go_ret
                exact ⟨by rw [HG.out]; rfl, HB0.out.trans (hb5.mono HB0.out.size)⟩
            · rw [if_pos ⟨h5, hK⟩] at hat
              have HF : Hid (cmpV (.mk k b n s l ks) (.mk k b n s l' ks') = ltI (bl ks[j] ks'[j])) := Lib.hid (HC.out.trans hat)
              have f1 := beq_toList hK
              generalize ks[j] = K at *
              generalize ks'[j] = K' at *
              clear hK hat hye hB hKw hx5 hy5 h5 hk1 hk2 HI
              cases hc : bl K K' with
              | true =>
                rw [hc] at HF
                have hc' : Op.bytesLess K.toList K'.toList = true := hc
                clear hc
                go_wp2_with fail
                go_quiet (fail)
                go_wp2_with fail
                go_quiet (fail)
                go_wp2_with fail
                go_ret
                exact ⟨by rw [HF.out]; rfl, HB0.out.trans ((HBB.out.trans ((drewB _ _ _).trans (drewB _ _ _))).mono HB0.out.size)⟩
              | false =>
                rw [hc] at HF
                have hc' : Op.bytesLess K.toList K'.toList = false := hc
                clear hc
                go_wp2_with fail
                go_quiet (fail)
                go_wp2_with fail
                go_quiet (fail)
                go_wp2_with fail
                go_ret
                exact ⟨by rw [HF.out]; rfl, HB0.out.trans ((HBB.out.trans ((drewB _ _ _).trans (drewB _ _ _))).mono HB0.out.size)⟩
          · have z5 : (k == 5) = false := beqI h5
            rw [if_neg (fun e => h5 e.1)] at hat
            have HNX : Hid (cmpV l[j] l'[j] = 0 → cmpVs k l ks l' ks' = cmpVs k (l.drop (j + 1)) (ks.drop (j + 1)) (l'.drop (j + 1)) (ks'.drop (j + 1))) := Lib.hid (fun hz => by rw [hat, if_neg (fun hc => hc hz)])
            have HNF : Hid (cmpV l[j] l'[j] ≠ 0 → cmpV (.mk k b n s l ks) (.mk k b n s l' ks') = cmpV l[j] l'[j]) := Lib.hid (fun hz => by rw [HC.out, hat, if_pos hz])
            clear hat hye hB hKw hx5 hy5 h5 ho2 ho2'
            go_wp2_with fail
            go_quiet (fail)
            rename_i nq
            have hKq : KB W1 (wr.drewN nq) := HBB.out.trans (drewB _ _ _)
            obtain ⟨⟨e0, e4, e5⟩, e4', e5'⟩ := HD.out _ hKq
            have HKQ := Lib.hid hKq
            have g0 : (wr.drewN nq).cell? (a.add (j * 6)) = some c0 := g0
            have g1 : (wr.drewN nq).cell? ⟨(a.add (j * 6)).block, (a.add (j * 6)).off + 1, none⟩ = some c1 := g1
            have g2 : (wr.drewN nq).cell? ⟨(a.add (j * 6)).block, (a.add (j * 6)).off + 2, none⟩ = some c2 := g2
            have g3 : (wr.drewN nq).cell? ⟨(a.add (j * 6)).block, (a.add (j * 6)).off + 3, none⟩ = some c3 := g3
            have g4 : (wr.drewN nq).cell? ⟨(a.add (j * 6)).block, (a.add (j * 6)).off + 4, none⟩ = some c4 := g4
            have g5 : (wr.drewN nq).cell? ⟨(a.add (j * 6)).block, (a.add (j * 6)).off + 5, none⟩ = some c5 := g5
            have k0 : (wr.drewN nq).cell? (a'.add (j * 6)) = some d0 := k0
            have k1 : (wr.drewN nq).cell? ⟨(a'.add (j * 6)).block, (a'.add (j * 6)).off + 1, none⟩ = some d1 := k1
            have k2 : (wr.drewN nq).cell? ⟨(a'.add (j * 6)).block, (a'.add (j * 6)).off + 2, none⟩ = some d2 := k2
            have k3 : (wr.drewN nq).cell? ⟨(a'.add (j * 6)).block, (a'.add (j * 6)).off + 3, none⟩ = some d3 := k3
            have k4 : (wr.drewN nq).cell? ⟨(a'.add (j * 6)).block, (a'.add (j * 6)).off + 4, none⟩ = some d4 := k4
            have k5 : (wr.drewN nq).cell? ⟨(a'.add (j * 6)).block, (a'.add (j * 6)).off + 5, none⟩ = some d5 := k5
            generalize wr.drewN nq = w2 at *
            clear hKq
            go_wp2_with fail
            go_still_tail 10, (by kernel_rfl)
            by_cases hz : cmpV l[j] l'[j] = 0
            · rw [hz] at HI
              have HN := Lib.hid (HNX.out hz)
              clear hz HNX HNF
              go_wp2_with (go_at_call 72; (refine (HI.out _ (HKQ.out.trans (drewB1 _ _))).mono ?_); rintro e w5 ⟨rfl, hb5⟩)
              go_roundw
              case rel => exact ⟨j + 1, by omega, by omega, by go_num, HN, hb5⟩
              case measure => simp [intOf]; omega
            · have HG := Lib.hid (HNF.out hz)
              obtain ⟨z, hzz⟩ : ∃ z, cmpV l[j] l'[j] = z := ⟨_, rfl⟩
              rw [hzz] at HI HG hz
              have z1 : (z == 0) = false := beqI hz
              have z2 : (z != 0) = true := bne_iff_ne.2 hz
              clear hz HNX HNF hzz
              go_wp2_with (go_at_call 72; (refine (HI.out _ (HKQ.out.trans (drewB1 _ _))).mono ?_); rintro e w5 ⟨rfl, hb5⟩)
              go_ret
              exact ⟨by rw [HG.out]; rfl, HB0.out.trans (hb5.mono HB0.out.size)⟩
        · have HF : Hid (cmpV (.mk k b n s l ks) (.mk k b n s l' ks') = 1) := Lib.hid (by rw [HC.out, hye.out]; exact cmpVs_end2 k l l' ks ks' j hlt (by omega))
          have z1 : ((l.length : Int) == (l'.length : Int)) = false := beqI (by omega)
          have z2 : ((l.length : Int) != (l'.length : Int)) = true := bne_iff_ne.2 (by omega)
          have z3 : decide ((l.length : Int) < (l'.length : Int)) = false := decide_eq_false (by omega)
          clear hye hB hKw
          go_wp2_with fail
          go_ret
          exact ⟨by rw [HF.out]; rfl, HB0.out.trans (HBB.out.mono HB0.out.size)⟩
      · have hend := cmpVs_end1 k l l' ks ks' j (by omega)
        rw [← hye.out, ← HC.out] at hend
        by_cases hle : l'.length ≤ j
        · rw [if_pos hle] at hend
          have HF := Lib.hid hend
          have z0 : l.length = l'.length := by omega
          have z1 : ((l.length : Int) == (l'.length : Int)) = true := by rw [beq_iff_eq]; omega
          have z2 : ((l.length : Int) != (l'.length : Int)) = false := by rw [z0]; simp
          clear hye hB hKw hend z0
          go_wp2_with fail
          go_ret
          exact ⟨by rw [HF.out]; rfl, HB0.out.trans (HBB.out.mono HB0.out.size)⟩
        · rw [if_neg hle] at hend
          have HF := Lib.hid hend
          have z1 : ((l.length : Int) == (l'.length : Int)) = false := beqI (by omega)
          have z2 : ((l.length : Int) != (l'.length : Int)) = true := bne_iff_ne.2 (by omega)
          have z3 : decide ((l.length : Int) < (l'.length : Int)) = true := decide_eq_true (by omega)
          clear hye hB hKw hend
          go_wp2_with fail
          go_ret
          exact ⟨by rw [HF.out]; rfl, HB0.out.trans (HBB.out.mono HB0.out.size)⟩
end Go.Proofs.YtdckldfekepopaaGreatDoor.Cq
