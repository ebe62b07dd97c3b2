/-
  The reference's sorted, of any value that may be. · The contract of the reference's compare: the order of two trees. · A region that draws its order, by hand: what is done, one or two that may come next. · The reference's Equal, of any two values.
-/
import Derived.Test.YtllkcldckehipaaGreatDoorHJ
import Derived.Test.YtllkcldckehipaaGreatDoorGD
import Derived.Test.YtllkcldckehipaaGreatDoorGL
set_option linter.unusedVariables false
set_option linter.unusedSimpArgs false
namespace Go.Proofs.YtllkcldckehipaaGreatDoor
open Go.RowKit Go.Shelf

theorem rsorted_aux : ∀ (N : Nat) (x : V), sizeV x ≤ N → N ≤ 1000000 → wrongV x = 0 → ∀ (v : Value) (w : World), isV w x v → SortC x v w
  | 0, x, h, _, _ => absurd (sizeV_pos x) (by omega)
  | N + 1, .mk k b n s l ks, hN, hM, hw => fun v w h => by
    obtain ⟨hp, hn, hv, ha, hd, hl⟩ := own_of_wrong hw
    have ho := once_of_wrong hw
    have hsz : sizeV (.mk k b n s l ks) = 1 + s.size + keysS ks + sizeVs l := by rw [sizeV]
    have hll : l.length ≤ 1000000 := by have := sizeVs_len l; omega
    have IH : Hid (∀ i (hi : i < l.length) u w1, KB w w1 → isV w1 l[i] u → SortC l[i] u w1) := Lib.hid fun i hi u w1 _ hu => rsorted_aux N l[i] (by have := sizeVs_get l i hi; omega) (by omega) (wrongVs_mem l hl _ (List.getElem_mem hi)) u w1 hu
    by_cases h5 : k = 5
    · subst h5
      exact rsorted5 b n s l ks (hp.2.2.2.2.2.1 rfl) v w h hll IH (Lib.hid hd) ho
    · have hk0 : ks = [] := List.eq_nil_of_length_eq_zero (hp.2.2.2.2.2.2 h5)
      subst hk0
      have hk4 : k = 4 ∨ l = [] := by
        by_cases hl0 : l = []
        · exact .inr hl0
        · exact .inl ((hp.2.2.2.2.1 hl0).resolve_right h5)
      exact rsorted4 k b n s l hk4 v w h hll IH ho
/-- Of any value that may be. -/
theorem rsorted_any (x : V) (hM : sizeV x ≤ 1000000) (hw : wrongV x = 0) (v : Value) (w : World) (h : isV w x v) :
    Calls Tryz.prog 30 #[v] w fun e w' => ∃ v', e = .returned v' ∧ isVa w' (fun q => w.heap.size ≤ q) (psortV x) v' ∧ Below w.heap.size w w' :=
  rsorted_aux _ x (Nat.le_refl _) hM hw v w h
end Go.Proofs.YtllkcldckehipaaGreatDoor

namespace Go.Proofs.YtllkcldckehipaaGreatDoor.Cq
open Go.RowKit

set_option maxRecDepth 100000 in
set_option maxHeartbeats 16000000 in
theorem compare_any : ∀ (N : Nat) (x y : V) (v v' : Value) (w : World), sizeV x ≤ N → okV x → okV y → isV w x v → isV w y v' →
    Calls Tryz.prog 29 #[v, v'] w fun e w' => e = .returned (.int .i64 (cmpV x y)) ∧ Below w.heap.size w w'
  | 0, x, y, v, v', w, hN, _, _, h, h' => absurd (sizeV_pos x) (by omega)
  | N + 1, x, y, v, v', w, hN, hok, hok', h, h' => by
    obtain ⟨k, b, n, s, l, ks⟩ := x
    obtain ⟨k', b', n', s', l', ks'⟩ := y
    unfold isV at h h'
    obtain ⟨lv, kv, rfl, hk, hn, hs, ⟨a, cap, ⟨o, rfl, hc1, hc2, ho⟩, hvs⟩, ⟨a2, cap2, ⟨o2, rfl, hc3, hc4, ho2⟩, hks⟩⟩ := h
    obtain ⟨lv, kv, rfl, hk', hn', hs', ⟨a', cap', ⟨o', rfl, hc1', hc2', ho'⟩, hvs'⟩, ⟨a2', cap2', ⟨o2', rfl, hc3', hc4', ho2'⟩, hks'⟩⟩ := h'
    unfold maxLen at hs hc2 hc4 hs' hc2' hc4'
    clear hk hn hk' hn'
    have hsz : sizeV (.mk k b n s l ks) = 1 + s.size + keysS ks + sizeVs l := by rw [sizeV]
    have hSL : sizeVs l ≤ N := by omega
    clear hsz hN
    by_cases q1 : k ≠ k'
    · have f2 : (k != k') = true := bne_iff_ne.2 q1
      cases hc : decide (k < k') with
      | true =>
        have HN : Hid (cmpV (.mk k b n s l ks) (.mk k' b' n' s' l' ks') = -1) := Lib.hid (by rw [cmpV_mk, if_pos q1, hc]; rfl)
        clear q1 hvs hvs' hks hks' ho ho' ho2 ho2' hok hok'
        go_enter Tryz.func29, Tryz.ntmps29
        go_wp2_with fail
        go_ret
        exact ⟨by rw [HN.out]; rfl, KB.two⟩
      | false =>
        have HN : Hid (cmpV (.mk k b n s l ks) (.mk k' b' n' s' l' ks') = 1) := Lib.hid (by rw [cmpV_mk, if_pos q1, hc]; rfl)
        clear q1 hvs hvs' hks hks' ho ho' ho2 ho2' hok hok'
        go_enter Tryz.func29, Tryz.ntmps29
        go_wp2_with fail
        go_ret
        exact ⟨by rw [HN.out]; rfl, KB.two⟩
    obtain rfl : k = k' := Decidable.not_not.1 q1
    by_cases q2 : b ≠ b'
    · cases b' with
      | true =>
        obtain rfl : b = false := by cases b <;> simp_all
        have HN : Hid (cmpV (.mk k false n s l ks) (.mk k true n' s' l' ks') = -1) := Lib.hid (by rw [cmpV_mk, if_neg q1, if_pos q2]; rfl)
        clear q1 q2 hvs hvs' hks hks' ho ho' ho2 ho2' hok hok'
        go_enter Tryz.func29, Tryz.ntmps29
        go_wp2_with fail
        go_ret
        exact ⟨by rw [HN.out]; rfl, KB.two⟩
      | false =>
        obtain rfl : b = true := by cases b <;> simp_all
        have HN : Hid (cmpV (.mk k true n s l ks) (.mk k false n' s' l' ks') = 1) := Lib.hid (by rw [cmpV_mk, if_neg q1, if_pos q2]; rfl)
        clear q1 q2 hvs hvs' hks hks' ho ho' ho2 ho2' hok hok'
        go_enter Tryz.func29, Tryz.ntmps29
        go_wp2_with fail
        go_ret
        exact ⟨by rw [HN.out]; rfl, KB.two⟩
    obtain rfl : b = b' := Decidable.not_not.1 q2
    by_cases q3 : n ≠ n'
    · have f2 : (n != n') = true := bne_iff_ne.2 q3
      cases hc : decide (n < n') with
      | true =>
        have HN : Hid (cmpV (.mk k b n s l ks) (.mk k b n' s' l' ks') = -1) := Lib.hid (by rw [cmpV_mk, if_neg q1, if_neg q2, if_pos q3, hc]; rfl)
        clear q1 q2 q3 hvs hvs' hks hks' ho ho' ho2 ho2' hok hok'
        go_enter Tryz.func29, Tryz.ntmps29
        go_wp2_with fail
        go_ret
        exact ⟨by rw [HN.out]; rfl, KB.two⟩
      | false =>
        have HN : Hid (cmpV (.mk k b n s l ks) (.mk k b n' s' l' ks') = 1) := Lib.hid (by rw [cmpV_mk, if_neg q1, if_neg q2, if_pos q3, hc]; rfl)
        clear q1 q2 q3 hvs hvs' hks hks' ho ho' ho2 ho2' hok hok'
        go_enter Tryz.func29, Tryz.ntmps29
        go_wp2_with fail
        go_ret
        exact ⟨by rw [HN.out]; rfl, KB.two⟩
    obtain rfl : n = n' := Decidable.not_not.1 q3
    by_cases q4 : s ≠ s'
    · have f1 := beq_toList q4
      cases hc : bl s s' with
      | true =>
        have HN : Hid (cmpV (.mk k b n s l ks) (.mk k b n s' l' ks') = -1) := Lib.hid (by rw [cmpV_mk, if_neg q1, if_neg q2, if_neg q3, if_pos q4, hc]; rfl)
        have hc' : Op.bytesLess s.toList s'.toList = true := hc
        clear q1 q2 q3 q4 hc hvs hvs' hks hks' ho ho' ho2 ho2' hok hok'
        go_enter Tryz.func29, Tryz.ntmps29
        go_wp2_with fail
        go_ret
        exact ⟨by rw [HN.out]; rfl, KB.two⟩
      | false =>
        have HN : Hid (cmpV (.mk k b n s l ks) (.mk k b n s' l' ks') = 1) := Lib.hid (by rw [cmpV_mk, if_neg q1, if_neg q2, if_neg q3, if_pos q4, hc]; rfl)
        have hc' : Op.bytesLess s.toList s'.toList = false := hc
        clear q1 q2 q3 q4 hc hvs hvs' hks hks' ho ho' ho2 ho2' hok hok'
        go_enter Tryz.func29, Tryz.ntmps29
        go_wp2_with fail
        go_ret
        exact ⟨by rw [HN.out]; rfl, KB.two⟩
    obtain rfl : s = s' := Classical.not_not.1 q4
    have HC : Hid (cmpV (.mk k b n s l ks) (.mk k b n s l' ks') = cmpVs k l ks l' ks') := Lib.hid (by rw [cmpV_mk, if_neg q1, if_neg q2, if_neg q3, if_neg q4])
    unfold okV at hok hok'
    obtain ⟨hkl, hos⟩ := hok
    obtain ⟨hkl', hos'⟩ := hok'
    have HKL := Lib.hid hkl
    have HKL' := Lib.hid hkl'
    have HOS := Lib.hid hos
    have HOS' := Lib.hid hos'
    have HB0 : Hid (KB w ((w.alloc (.cells #[.int .i8 k, .bool b, .int .i64 n, .string s, .slice o l.length cap, .slice o2 ks.length cap2] 26)).alloc (.cells #[.int .i8 k, .bool b, .int .i64 n, .string s, .slice o' l'.length cap', .slice o2' ks'.length cap2'] 26))) := Lib.hid KB.two
    have HD : Hid (∀ w1, KB ((w.alloc (.cells #[.int .i8 k, .bool b, .int .i64 n, .string s, .slice o l.length cap, .slice o2 ks.length cap2] 26)).alloc (.cells #[.int .i8 k, .bool b, .int .i64 n, .string s, .slice o' l'.length cap', .slice o2' ks'.length cap2'] 26)) w1 → (w1.cell? ⟨w.heap.size, 0, none⟩ = some (.int .i8 k) ∧ w1.cell? ⟨w.heap.size, 4, none⟩ = some (.slice o l.length cap) ∧ w1.cell? ⟨w.heap.size, 5, none⟩ = some (.slice o2 ks.length cap2)) ∧ w1.cell? ⟨w.heap.size + 1, 4, none⟩ = some (.slice o' l'.length cap') ∧ w1.cell? ⟨w.heap.size + 1, 5, none⟩ = some (.slice o2' ks'.length cap2')) := Lib.hid fun w1 hK =>
      ⟨⟨cell_below hK _ _ (by simp), cell_below hK _ _ (by simp), cell_below hK _ _ (by simp)⟩, cell_below hK _ _ (by simp), cell_below hK _ _ (by simp)⟩
    have HK := Lib.hid hks
    have HK' := Lib.hid hks'
    have HV := Lib.hid hvs
    have HV' := Lib.hid hvs'
    clear q1 q2 q3 q4 hks hks' hvs hvs' hkl hkl' hos hos'
    go_enter Tryz.func29, Tryz.ntmps29
    go_wp2_with fail
    generalize hW1 : (w.alloc (.cells #[.int .i8 k, .bool b, .int .i64 n, .string s, .slice o l.length cap, .slice o2 ks.length cap2] 26)).alloc (.cells #[.int .i8 k, .bool b, .int .i64 n, .string s, .slice o' l'.length cap', .slice o2' ks'.length cap2'] 26) = W1 at *
    clear hW1
    go_loopw [5] (fun i wr => ∃ j : Nat, j ≤ l.length ∧ j ≤ l'.length ∧ i = .int .i64 j ∧ Hid (cmpVs k l ks l' ks' = cmpVs k (l.drop j) (ks.drop j) (l'.drop j) (ks'.drop j)) ∧ KB W1 wr) (fun i _ => l.length - (intOf i).toNat)
    case atStart => exact ⟨0, by omega, by omega, rfl, Lib.hid (by simp), Below.refl _ _⟩
    case round =>
      obtain ⟨j, hj, hj', rfl, hye, hB⟩ := hrel
      obtain ⟨⟨b0, b4, b5⟩, b4', b5'⟩ := HD.out wr hB
      have hKw : KB w wr := HB0.out.trans (hB.mono HB0.out.size)
      have HBB := Lib.hid hB
      by_cases hlt : j < l.length
      · by_cases hlt' : j < l'.length
        · have hat := cmpVs_at k l l' ks ks' j hlt hlt'
          rw [← hye.out] at hat
          obtain rfl := ho (by omega)
          obtain rfl := ho' (by omega)
          obtain ⟨c0, c1, c2, c3, c4, c5, g0, g1, g2, g3, g4, g5, hx5⟩ := isVs_at l a j hlt HV.out
          obtain ⟨d0, d1, d2, d3, d4, d5, k0, k1, k2, k3, k4, k5, hy5⟩ := isVs_at l' a' j hlt' HV'.out
          have g0 := cell_below hKw _ _ g0
          have g1 := cell_below hKw _ _ g1
          have g2 := cell_below hKw _ _ g2
          have g3 := cell_below hKw _ _ g3
          have g4 := cell_below hKw _ _ g4
          have g5 := cell_below hKw _ _ g5
          have k0 := cell_below hKw _ _ k0
          have k1 := cell_below hKw _ _ k1
          have k2 := cell_below hKw _ _ k2
          have k3 := cell_below hKw _ _ k3
          have k4 := cell_below hKw _ _ k4
          have k5 := cell_below hKw _ _ k5
          have i0 : (0 : Int) ≤ (j : Int) := by omega
          have i1 : (j : Int) < (l.length : Int) := by omega
          have i2 : (j : Int) < (l'.length : Int) := by omega
          have HI : Hid (∀ w1, KB W1 w1 → Calls Tryz.prog 29 #[.agg #[c0, c1, c2, c3, c4, c5], .agg #[d0, d1, d2, d3, d4, d5]] w1 fun e w' => e = .returned (.int .i64 (cmpV l[j] l'[j])) ∧ KB W1 w') := Lib.hid fun w1 hK => Calls.kb hK (compare_any N l[j] l'[j] _ _ w1 (by have := sizeVs_get l j hlt; omega) (okVs_get l j hlt HOS.out) (okVs_get l' j hlt' HOS'.out) (isV_below hK (isV_below HB0.out hx5)) (isV_below hK (isV_below HB0.out hy5)))
          by_cases h5 : k = 5
          · have z5 : (k == 5) = true := by rw [beq_iff_eq]; exact h5
            have e1 := HKL.out h5
            have e2 := HKL'.out h5
            have hk1 : j < ks.length := by omega
            have hk2 : j < ks'.length := by omega
            have m1 := cell_below hKw _ _ (HK.out j hk1).1
            have m2 := cell_below hKw _ _ (HK'.out j hk2).1
            obtain rfl := ho2 (by omega)
            obtain rfl := ho2' (by omega)
            have i3 : (j : Int) < (ks.length : Int) := by omega
            have i4 : (j : Int) < (ks'.length : Int) := by omega
            have q1 : ks.getD j E0 = ks[j] := by rw [List.getD, List.getElem?_eq_getElem hk1]; rfl
            have q2 : ks'.getD j E0 = ks'[j] := by rw [List.getD, List.getElem?_eq_getElem hk2]; rfl
            rw [q1, q2] at hat
            clear q1 q2 e1 e2
            by_cases hK : ks[j] = ks'[j]
            · rw [if_neg (fun e => e.2 hK)] at hat
              have HNX : Hid (cmpV l[j] l'[j] = 0 → cmpVs k l ks l' ks' = cmpVs k (l.drop (j + 1)) (ks.drop (j + 1)) (l'.drop (j + 1)) (ks'.drop (j + 1))) := Lib.hid (fun hz => by rw [hat, if_neg (fun hc => hc hz)])
              have HNF : Hid (cmpV l[j] l'[j] ≠ 0 → cmpV (.mk k b n s l ks) (.mk k b n s l' ks') = cmpV l[j] l'[j]) := Lib.hid (fun hz => by rw [HC.out, hat, if_pos hz])
              rw [← hK] at m2
              generalize ks[j] = K at *
              clear hK hat hye hB hKw hx5 hy5 h5 hk1 hk2
              go_wp2_with fail
              go_quiet (fail)
              rename_i nq
              have hKq : KB W1 (wr.drewN nq) := HBB.out.trans (drewB _ _ _)
              obtain ⟨⟨e0, e4, e5⟩, e4', e5'⟩ := HD.out _ hKq
              have HKQ := Lib.hid hKq
              have g0 : (wr.drewN nq).cell? (a.add (j * 6)) = some c0 := g0
              have g1 : (wr.drewN nq).cell? ⟨(a.add (j * 6)).block, (a.add (j * 6)).off + 1, none⟩ = some c1 := g1
              have g2 : (wr.drewN nq).cell? ⟨(a.add (j * 6)).block, (a.add (j * 6)).off + 2, none⟩ = some c2 := g2
              have g3 : (wr.drewN nq).cell? ⟨(a.add (j * 6)).block, (a.add (j * 6)).off + 3, none⟩ = some c3 := g3
              have g4 : (wr.drewN nq).cell? ⟨(a.add (j * 6)).block, (a.add (j * 6)).off + 4, none⟩ = some c4 := g4
              have g5 : (wr.drewN nq).cell? ⟨(a.add (j * 6)).block, (a.add (j * 6)).off + 5, none⟩ = some c5 := g5
              have k0 : (wr.drewN nq).cell? (a'.add (j * 6)) = some d0 := k0
              have k1 : (wr.drewN nq).cell? ⟨(a'.add (j * 6)).block, (a'.add (j * 6)).off + 1, none⟩ = some d1 := k1
              have k2 : (wr.drewN nq).cell? ⟨(a'.add (j * 6)).block, (a'.add (j * 6)).off + 2, none⟩ = some d2 := k2
              have k3 : (wr.drewN nq).cell? ⟨(a'.add (j * 6)).block, (a'.add (j * 6)).off + 3, none⟩ = some d3 := k3
              have k4 : (wr.drewN nq).cell? ⟨(a'.add (j * 6)).block, (a'.add (j * 6)).off + 4, none⟩ = some d4 := k4
              have k5 : (wr.drewN nq).cell? ⟨(a'.add (j * 6)).block, (a'.add (j * 6)).off + 5, none⟩ = some d5 := k5
              generalize wr.drewN nq = w2 at *
              clear hKq
              go_wp2_with fail
              go_still_tail 10, (by kernel_rfl)
              by_cases hz : cmpV l[j] l'[j] = 0
              · rw [hz] at HI
                have HN := Lib.hid (HNX.out hz)
                clear hz HNX HNF
                go_wp2_with (go_at_call 29; (refine (HI.out _ (HKQ.out.trans (drewB1 _ _))).mono ?_); rintro e w5 ⟨rfl, hb5⟩)
                go_roundw
                case rel => exact ⟨j + 1, by omega, by omega, by go_num, HN, hb5⟩
                case measure => simp [intOf]; omega
              · have HG := Lib.hid (HNF.out hz)
                obtain ⟨z, hzz⟩ : ∃ z, cmpV l[j] l'[j] = z := ⟨_, rfl⟩
                rw [hzz] at HI HG hz
                have z1 : (z == 0) = false := beqI hz
                have z2 : (z != 0) = true := bne_iff_ne.2 hz
                clear hz HNX HNF hzz
                go_wp2_with (go_at_call 29; (refine (HI.out _ (HKQ.out.trans (drewB1 _ _))).mono ?_); rintro e w5 ⟨rfl, hb5⟩)
                go_ret
                exact ⟨by rw [HG.out]; rfl, HB0.out.trans (hb5.mono HB0.out.size)⟩
            · rw [if_pos ⟨h5, hK⟩] at hat
              have HF : Hid (cmpV (.mk k b n s l ks) (.mk k b n s l' ks') = ltI (bl ks[j] ks'[j])) := Lib.hid (HC.out.trans hat)
              have f1 := beq_toList hK
              generalize ks[j] = K at *
              generalize ks'[j] = K' at *
              clear hK hat hye hB hKw hx5 hy5 h5 hk1 hk2 HI
              cases hc : bl K K' with
              | true =>
                rw [hc] at HF
                have hc' : Op.bytesLess K.toList K'.toList = true := hc
                clear hc
                go_wp2_with fail
                go_quiet (fail)
                go_wp2_with fail
                go_quiet (fail)
                go_wp2_with fail
                go_ret
                exact ⟨by rw [HF.out]; rfl, HB0.out.trans ((HBB.out.trans ((drewB _ _ _).trans (drewB _ _ _))).mono HB0.out.size)⟩
              | false =>
                rw [hc] at HF
                have hc' : Op.bytesLess K.toList K'.toList = false := hc
                clear hc
                go_wp2_with fail
                go_quiet (fail)
                go_wp2_with fail
                go_quiet (fail)
                go_wp2_with fail
                go_ret
                exact ⟨by rw [HF.out]; rfl, HB0.out.trans ((HBB.out.trans ((drewB _ _ _).trans (drewB _ _ _))).mono HB0.out.size)⟩
          · have z5 : (k == 5) = false := beqI h5
            rw [if_neg (fun e => h5 e.1)] at hat
            have HNX : Hid (cmpV l[j] l'[j] = 0 → cmpVs k l ks l' ks' = cmpVs k (l.drop (j + 1)) (ks.drop (j + 1)) (l'.drop (j + 1)) (ks'.drop (j + 1))) := Lib.hid (fun hz => by rw [hat, if_neg (fun hc => hc hz)])
            have HNF : Hid (cmpV l[j] l'[j] ≠ 0 → cmpV (.mk k b n s l ks) (.mk k b n s l' ks') = cmpV l[j] l'[j]) := Lib.hid (fun hz => by rw [HC.out, hat, if_pos hz])
            clear hat hye hB hKw hx5 hy5 h5 ho2 ho2'
            go_wp2_with fail
            go_quiet (fail)
            rename_i nq
            have hKq : KB W1 (wr.drewN nq) := HBB.out.trans (drewB _ _ _)
            obtain ⟨⟨e0, e4, e5⟩, e4', e5'⟩ := HD.out _ hKq
            have HKQ := Lib.hid hKq
            have g0 : (wr.drewN nq).cell? (a.add (j * 6)) = some c0 := g0
            have g1 : (wr.drewN nq).cell? ⟨(a.add (j * 6)).block, (a.add (j * 6)).off + 1, none⟩ = some c1 := g1
            have g2 : (wr.drewN nq).cell? ⟨(a.add (j * 6)).block, (a.add (j * 6)).off + 2, none⟩ = some c2 := g2
            have g3 : (wr.drewN nq).cell? ⟨(a.add (j * 6)).block, (a.add (j * 6)).off + 3, none⟩ = some c3 := g3
            have g4 : (wr.drewN nq).cell? ⟨(a.add (j * 6)).block, (a.add (j * 6)).off + 4, none⟩ = some c4 := g4
            have g5 : (wr.drewN nq).cell? ⟨(a.add (j * 6)).block, (a.add (j * 6)).off + 5, none⟩ = some c5 := g5
            have k0 : (wr.drewN nq).cell? (a'.add (j * 6)) = some d0 := k0
            have k1 : (wr.drewN nq).cell? ⟨(a'.add (j * 6)).block, (a'.add (j * 6)).off + 1, none⟩ = some d1 := k1
            have k2 : (wr.drewN nq).cell? ⟨(a'.add (j * 6)).block, (a'.add (j * 6)).off + 2, none⟩ = some d2 := k2
            have k3 : (wr.drewN nq).cell? ⟨(a'.add (j * 6)).block, (a'.add (j * 6)).off + 3, none⟩ = some d3 := k3
            have k4 : (wr.drewN nq).cell? ⟨(a'.add (j * 6)).block, (a'.add (j * 6)).off + 4, none⟩ = some d4 := k4
            have k5 : (wr.drewN nq).cell? ⟨(a'.add (j * 6)).block, (a'.add (j * 6)).off + 5, none⟩ = some d5 := k5
            generalize wr.drewN nq = w2 at *
            clear hKq
            go_wp2_with fail
            go_still_tail 10, (by kernel_rfl)
            by_cases hz : cmpV l[j] l'[j] = 0
            · rw [hz] at HI
              have HN := Lib.hid (HNX.out hz)
              clear hz HNX HNF
              go_wp2_with (go_at_call 29; (refine (HI.out _ (HKQ.out.trans (drewB1 _ _))).mono ?_); rintro e w5 ⟨rfl, hb5⟩)
              go_roundw
              case rel => exact ⟨j + 1, by omega, by omega, by go_num, HN, hb5⟩
              case measure => simp [intOf]; omega
            · have HG := Lib.hid (HNF.out hz)
              obtain ⟨z, hzz⟩ : ∃ z, cmpV l[j] l'[j] = z := ⟨_, rfl⟩
              rw [hzz] at HI HG hz
              have z1 : (z == 0) = false := beqI hz
              have z2 : (z != 0) = true := bne_iff_ne.2 hz
              clear hz HNX HNF hzz
              go_wp2_with (go_at_call 29; (refine (HI.out _ (HKQ.out.trans (drewB1 _ _))).mono ?_); rintro e w5 ⟨rfl, hb5⟩)
              go_ret
              exact ⟨by rw [HG.out]; rfl, HB0.out.trans (hb5.mono HB0.out.size)⟩
        · have HF : Hid (cmpV (.mk k b n s l ks) (.mk k b n s l' ks') = 1) := Lib.hid (by rw [HC.out, hye.out]; exact cmpVs_end2 k l l' ks ks' j hlt (by omega))
          have z1 : ((l.length : Int) == (l'.length : Int)) = false := beqI (by omega)
          have z2 : ((l.length : Int) != (l'.length : Int)) = true := bne_iff_ne.2 (by omega)
          have z3 : decide ((l.length : Int) < (l'.length : Int)) = false := decide_eq_false (by omega)
          clear hye hB hKw
          go_wp2_with fail
          go_ret
          exact ⟨by rw [HF.out]; rfl, HB0.out.trans (HBB.out.mono HB0.out.size)⟩
      · have hend := cmpVs_end1 k l l' ks ks' j (by omega)
        rw [← hye.out, ← HC.out] at hend
        by_cases hle : l'.length ≤ j
        · rw [if_pos hle] at hend
          have HF := Lib.hid hend
          have z0 : l.length = l'.length := by omega
          have z1 : ((l.length : Int) == (l'.length : Int)) = true := by rw [beq_iff_eq]; omega
          have z2 : ((l.length : Int) != (l'.length : Int)) = false := by rw [z0]; simp
          clear hye hB hKw hend z0
          go_wp2_with fail
          go_ret
          exact ⟨by rw [HF.out]; rfl, HB0.out.trans (HBB.out.mono HB0.out.size)⟩
        · rw [if_neg hle] at hend
          have HF := Lib.hid hend
          have z1 : ((l.length : Int) == (l'.length : Int)) = false := beqI (by omega)
          have z2 : ((l.length : Int) != (l'.length : Int)) = true := bne_iff_ne.2 (by omega)
          have z3 : decide ((l.length : Int) < (l'.length : Int)) = true := decide_eq_true (by omega)
          clear hye hB hKw hend
          go_wp2_with fail
          go_ret
          exact ⟨by rw [HF.out]; rfl, HB0.out.trans (HBB.out.mono HB0.out.size)⟩
end Go.Proofs.YtllkcldckehipaaGreatDoor.Cq

namespace Go.Proofs.YtllkcldckehipaaGreatDoor
open Go

section
variable {P : Program} {ops : Array Oper} {md : Region.Mode} {Q : Exit → Act → World → Prop}
/-- Some operations of a region are done. -/
structure AnyL (P : Program) (md : Region.Mode) (ops : Array Oper) (Q : Exit → Act → World → Prop) (g : Nat) (l : Array Bool) (a : Act) (w : World) : Prop where
  out : wpAny P md ops Q g l a w
theorem AnyL.of {k g : Nat} {a : Act} {w : World} (hg : ops.size - k = g) (h : AnyL P md ops Q g (Rn.upTo ops.size k) a w) : Rn.AnyFrom P md ops Q k a w := ⟨by rw [hg]; exact h.out⟩
theorem anyL_op {g n : Nat} {l : Array Bool} {o : Oper} {a : Act} {w : World} (ho : ops[n]? = some o) (h : ∀ K : Act → World → Prop, (∀ a2 w2, AnyL P md ops Q g (l.setIfInBounds n true) a2 w2 → K a2 w2) → if Region.wanted o (yielded ops a.tmps) then o.wp P a w K Q ∨ (o.asks P a w ∧ LetsOut Q) else K (a.put o.dst undef) w) :
    wpOp P ops Q n (wpAny P md ops Q g (l.setIfInBounds n true)) a w := by
  unfold wpOp
  simp only [ho]
  exact h _ (fun a2 w2 h => h.out)
theorem anyL_one {g : Nat} (n : Nat) {l : Array Bool} {o : Oper} {a : Act} {w : World} (hr : Region.ready md ops l = [n]) (ho : ops[n]? = some o) (h : ∀ K : Act → World → Prop, (∀ a2 w2, AnyL P md ops Q g (l.setIfInBounds n true) a2 w2 → K a2 w2) → if Region.wanted o (yielded ops a.tmps) then o.wp P a w K Q ∨ (o.asks P a w ∧ LetsOut Q) else K (a.put o.dst undef) w) :
    AnyL P md ops Q (g + 1) l a w := by
  refine ⟨⟨fun h0 => (by rw [hr] at h0; cases h0), fun i hi => ?_⟩⟩
  rw [hr] at hi
  obtain rfl : i = n := by simpa using hi
  exact anyL_op ho h
theorem anyL_two {g : Nat} (n m : Nat) {l : Array Bool} {o o' : Oper} {a : Act} {w : World} (hr : Region.ready md ops l = [n, m]) (ho : ops[n]? = some o) (ho' : ops[m]? = some o') (h : ∀ K : Act → World → Prop, (∀ a2 w2, AnyL P md ops Q g (l.setIfInBounds n true) a2 w2 → K a2 w2) → if Region.wanted o (yielded ops a.tmps) then o.wp P a w K Q ∨ (o.asks P a w ∧ LetsOut Q) else K (a.put o.dst undef) w)
    (h' : ∀ K : Act → World → Prop, (∀ a2 w2, AnyL P md ops Q g (l.setIfInBounds m true) a2 w2 → K a2 w2) → if Region.wanted o' (yielded ops a.tmps) then o'.wp P a w K Q ∨ (o'.asks P a w ∧ LetsOut Q) else K (a.put o'.dst undef) w) :
    AnyL P md ops Q (g + 1) l a w := by
  refine ⟨⟨fun h0 => (by rw [hr] at h0; cases h0), fun i hi => ?_⟩⟩
  rw [hr] at hi
  rcases List.mem_cons.1 hi with rfl | hi
  · exact anyL_op ho h
  · obtain rfl : i = m := by simpa using hi
    exact anyL_op ho' h'
theorem anyL_done {l : Array Bool} {a : Act} {w : World} (hr : Region.ready md ops l = []) (h : Q .normal a w) : AnyL P md ops Q 0 l a w := ⟨⟨hr, h⟩⟩
end
end Go.Proofs.YtllkcldckehipaaGreatDoor

namespace Go.Proofs.YtllkcldckehipaaGreatDoor
open Go.RowKit Go.Deep

theorem okVs_of : ∀ (l : List V), (∀ i (h : i < l.length), okV l[i]) → okVs l
  | [], _ => by unfold okVs; trivial
  | x :: t, h => by
    unfold okVs
    exact ⟨h 0 (by simp), okVs_of t (fun i hi => h (i + 1) (by simp; omega))⟩
/-- What is sorted has as many keys as parts. -/
theorem sort_okV {x y : V} (h : SortR x y) : okV y := by
  induction h with
  | mk k b n s l ks l' ks' ps ho hl hs hk ih =>
    unfold okV
    refine ⟨fun h5 => ?_, okVs_of _ ih⟩
    rw [hk, if_pos h5, List.length_map, hl]
theorem wrong_of_check {x : V} (h : checkV x = 0) : wrongV x = 0 := by
  unfold checkV at h
  by_cases h1 : 24 < depthV x
  · rw [if_pos h1] at h; omega
  · rw [if_neg h1] at h
    by_cases h2 : wrongV x = 0
    · exact h2
    · rw [if_pos h2] at h; exact h
noncomputable def eqR (x y : V) : Bool := decide (checkV x = 0) && (decide (checkV y = 0) && (cmpV (psortV x) (psortV y) == 0))
set_option maxRecDepth 100000 in
set_option maxHeartbeats 8000000 in
theorem rEqual_no1 {x y : V} (hcx : checkV x ≠ 0) (hM : sizeV x ≤ 1000000) (hM' : sizeV y ≤ 1000000) (v u : Value) (w : World) (h : isV w x v) (h' : isV w y u) :
    Calls Tryz.prog 16 #[v, u] w fun e w' => e = .returned (.bool (false)) ∧ Below w.heap.size w w' := by
  obtain ⟨k, b, n, s, o, m, c, o2, m2, c2, rfl⟩ := isV_six h
  obtain ⟨k', b', n', s', o', m', c', o2', m2', c2', rfl⟩ := isV_six h'
  obtain ⟨W2, hW2⟩ : ∃ W2, (w.alloc (.cells #[.int .i8 k, .bool b, .int .i64 n, .string s, .slice o m c, .slice o2 m2 c2] 26)).alloc (.cells #[.int .i8 k', .bool b', .int .i64 n', .string s', .slice o' m' c', .slice o2' m2' c2'] 26) = W2 := ⟨_, rfl⟩
  have hb2 : KB w W2 := by rw [← hW2]; unfold KB; go_grown
  have hn1 : W2.heap[w.heap.size]? = some (.cells #[.int .i8 k, .bool b, .int .i64 n, .string s, .slice o m c, .slice o2 m2 c2] 26 (0, 0)) := by
    rw [← hW2]
    exact (Below.heap_alloc (w.alloc (.cells #[.int .i8 k, .bool b, .int .i64 n, .string s, .slice o m c, .slice o2 m2 c2] 26)) (.cells #[.int .i8 k', .bool b', .int .i64 n', .string s', .slice o' m' c', .slice o2' m2' c2'] 26) w.heap.size (by simp)).trans (World.alloc_heap_new w _)
  have hn2 : W2.heap[w.heap.size + 1]? = some (.cells #[.int .i8 k', .bool b', .int .i64 n', .string s', .slice o' m' c', .slice o2' m2' c2'] 26 (0, 0)) := by
    rw [← hW2]
    have := World.alloc_heap_new (w.alloc (.cells #[.int .i8 k, .bool b, .int .i64 n, .string s, .slice o m c, .slice o2 m2 c2] 26)) (.cells #[.int .i8 k', .bool b', .int .i64 n', .string s', .slice o' m' c', .slice o2' m2' c2'] 26)
    rw [World.size_alloc] at this
    exact this
  have hs2 : w.heap.size + 2 = W2.heap.size := by rw [← hW2]; simp
  obtain ⟨c1, hc1⟩ : ∃ c1, checkV x = c1 := ⟨_, rfl⟩
  have g1 : ¬ c1 = 0 := by rw [← hc1]; exact hcx
  have g2 : (c1 == 0) = false := by simpa using g1
  have g3 : decide (c1 = 0) = false := decide_eq_false g1
  have H1 : Hid (∀ w1, KB W2 w1 → Calls Tryz.prog 21 #[.agg #[.int .i8 k, .bool b, .int .i64 n, .string s, .slice o m c, .slice o2 m2 c2]] w1 fun e w' => e = .returned (.int .i64 c1) ∧ KB W2 w') := Lib.hid fun w1 hk => by
    rw [← hc1]
    have := Calls.kb hk (check_any x _ w1 hM (isV_below (hb2.trans (Below.mono hk hb2.size)) h))
    exact this
  have HC : Hid (∀ w1, KB W2 w1 → (w1.cell? ⟨w.heap.size, 0, none⟩ = some (.int .i8 k) ∧ w1.cell? ⟨w.heap.size, 1, none⟩ = some (.bool b) ∧ w1.cell? ⟨w.heap.size, 2, none⟩ = some (.int .i64 n) ∧ w1.cell? ⟨w.heap.size, 3, none⟩ = some (.string s) ∧ w1.cell? ⟨w.heap.size, 4, none⟩ = some (.slice o m c) ∧ w1.cell? ⟨w.heap.size, 5, none⟩ = some (.slice o2 m2 c2)) ∧ (w1.cell? ⟨w.heap.size + 1, 0, none⟩ = some (.int .i8 k') ∧ w1.cell? ⟨w.heap.size + 1, 1, none⟩ = some (.bool b') ∧ w1.cell? ⟨w.heap.size + 1, 2, none⟩ = some (.int .i64 n') ∧ w1.cell? ⟨w.heap.size + 1, 3, none⟩ = some (.string s') ∧ w1.cell? ⟨w.heap.size + 1, 4, none⟩ = some (.slice o' m' c') ∧ w1.cell? ⟨w.heap.size + 1, 5, none⟩ = some (.slice o2' m2' c2'))) := Lib.hid fun w1 hk =>
    ⟨six_cells ((Below.block hk _ (by omega)).trans hn1), six_cells ((Below.block hk _ (by omega)).trans hn2)⟩
  have HB2 := Lib.hid hb2
  obtain ⟨⟨a0, a1, a2, a3, a4, a5⟩, ⟨d0, d1, d2, d3, d4, d5⟩⟩ := HC.out W2 (Below.refl _ _)
  have hk0 : KB W2 W2 := Below.refl _ _
  have HK0 := Lib.hid hk0
  clear h h' hcx hc1 hn1 hn2 hs2 hb2 hM hM' hk0
  go_enter Tryz.func16, Tryz.ntmps16
  go_wp2_with fail
  try rw [hW2]
  clear hW2
  refine Rn.region_any (by kernel_rfl) ?_
  refine Rn.any_seg 0 1 (by kernel_rfl) rfl ?_
  simp only [List.take_succ_cons, List.take_zero, List.drop_succ_cons, List.drop_zero]
  repeat (refine Rn.ws_one (fun KK hKK => ?_); go_simp; refine hKK _ ?_; clear hKK KK)
  refine Rn.ws_nil ?_
  intro K0 hK0
  go_simp
  refine .inl ((H1.out _ (drewB1 _ _)).mono ?_)
  rintro e w3 ⟨rfl, hk3⟩
  clear a0 a1 a2 a3 a4 a5 d0 d1 d2 d3 d4 d5
  obtain ⟨⟨a0, a1, a2, a3, a4, a5⟩, ⟨d0, d1, d2, d3, d4, d5⟩⟩ := HC.out _ hk3
  try go_simp
  refine hK0 _ _ ?_
  clear hK0 K0
  refine Rn.any_seg 2 5 (by kernel_rfl) rfl ?_
  simp only [List.take_succ_cons, List.take_zero, List.drop_succ_cons, List.drop_zero]
  repeat (refine Rn.ws_one (fun KK hKK => ?_); go_simp; refine hKK _ ?_; clear hKK KK)
  refine Rn.ws_nil ?_
  intro K0 hK0
  go_simp
  try go_simp
  refine hK0 _ _ ?_
  clear hK0 K0
  refine AnyL.of (g := 11) rfl ?_
  refine anyL_one (g := 10) 6 (by kernel_rfl) rfl (fun K hK => ?_)
  go_simp
  first
    | (refine .inl ?_; try go_simp; refine hK _ _ ?_; clear hK K)
    | (refine hK _ _ ?_; clear hK K)
  refine anyL_one (g := 9) 7 (by kernel_rfl) rfl (fun K hK => ?_)
  go_simp
  first
    | (refine .inl ?_; try go_simp; refine hK _ _ ?_; clear hK K)
    | (refine hK _ _ ?_; clear hK K)
  refine anyL_one (g := 8) 8 (by kernel_rfl) rfl (fun K hK => ?_)
  go_simp
  first
    | (refine .inl ?_; try go_simp; refine hK _ _ ?_; clear hK K)
    | (refine hK _ _ ?_; clear hK K)
  refine anyL_two (g := 7) 9 11 (by kernel_rfl) rfl rfl (fun K hK => ?_) (fun K hK => ?_)
  · go_simp
    first
      | (refine .inl ?_; try go_simp; refine hK _ _ ?_; clear hK K)
      | (refine hK _ _ ?_; clear hK K)
    refine anyL_two (g := 6) 10 11 (by kernel_rfl) rfl rfl (fun K hK => ?_) (fun K hK => ?_)
    · go_simp
      first
        | (refine .inl ?_; try go_simp; refine hK _ _ ?_; clear hK K)
        | (refine hK _ _ ?_; clear hK K)
      refine anyL_one (g := 5) 11 (by kernel_rfl) rfl (fun K hK => ?_)
      go_simp
      first
        | (refine .inl ?_; try go_simp; refine hK _ _ ?_; clear hK K)
        | (refine hK _ _ ?_; clear hK K)
      refine anyL_one (g := 4) 12 (by kernel_rfl) rfl (fun K hK => ?_)
      go_simp
      first
        | (refine .inl ?_; try go_simp; refine hK _ _ ?_; clear hK K)
        | (refine hK _ _ ?_; clear hK K)
      refine anyL_one (g := 3) 13 (by kernel_rfl) rfl (fun K hK => ?_)
      go_simp
      first
        | (refine .inl ?_; try go_simp; refine hK _ _ ?_; clear hK K)
        | (refine hK _ _ ?_; clear hK K)
      refine anyL_one (g := 2) 14 (by kernel_rfl) rfl (fun K hK => ?_)
      go_simp
      first
        | (refine .inl ?_; try go_simp; refine hK _ _ ?_; clear hK K)
        | (refine hK _ _ ?_; clear hK K)
      refine anyL_one (g := 1) 15 (by kernel_rfl) rfl (fun K hK => ?_)
      go_simp
      first
        | (refine .inl ?_; try go_simp; refine hK _ _ ?_; clear hK K)
        | (refine hK _ _ ?_; clear hK K)
      refine anyL_one (g := 0) 16 (by kernel_rfl) rfl (fun K hK => ?_)
      go_simp
      first
        | (refine .inl ?_; try go_simp; refine hK _ _ ?_; clear hK K)
        | (refine hK _ _ ?_; clear hK K)
      refine anyL_done (by kernel_rfl) ?_
      go_wp2_with fail
      go_ret
      exact ⟨rfl, HB2.out.trans (Below.mono hk3 HB2.out.size)⟩
    · go_simp
      first
        | (refine .inl ?_; try go_simp; refine hK _ _ ?_; clear hK K)
        | (refine hK _ _ ?_; clear hK K)
      refine anyL_one (g := 5) 10 (by kernel_rfl) rfl (fun K hK => ?_)
      go_simp
      first
        | (refine .inl ?_; try go_simp; refine hK _ _ ?_; clear hK K)
        | (refine hK _ _ ?_; clear hK K)
      refine anyL_one (g := 4) 12 (by kernel_rfl) rfl (fun K hK => ?_)
      go_simp
      first
        | (refine .inl ?_; try go_simp; refine hK _ _ ?_; clear hK K)
        | (refine hK _ _ ?_; clear hK K)
      refine anyL_one (g := 3) 13 (by kernel_rfl) rfl (fun K hK => ?_)
      go_simp
      first
        | (refine .inl ?_; try go_simp; refine hK _ _ ?_; clear hK K)
        | (refine hK _ _ ?_; clear hK K)
      refine anyL_one (g := 2) 14 (by kernel_rfl) rfl (fun K hK => ?_)
      go_simp
      first
        | (refine .inl ?_; try go_simp; refine hK _ _ ?_; clear hK K)
        | (refine hK _ _ ?_; clear hK K)
      refine anyL_one (g := 1) 15 (by kernel_rfl) rfl (fun K hK => ?_)
      go_simp
      first
        | (refine .inl ?_; try go_simp; refine hK _ _ ?_; clear hK K)
        | (refine hK _ _ ?_; clear hK K)
      refine anyL_one (g := 0) 16 (by kernel_rfl) rfl (fun K hK => ?_)
      go_simp
      first
        | (refine .inl ?_; try go_simp; refine hK _ _ ?_; clear hK K)
        | (refine hK _ _ ?_; clear hK K)
      refine anyL_done (by kernel_rfl) ?_
      go_wp2_with fail
      go_ret
      exact ⟨rfl, HB2.out.trans (Below.mono hk3 HB2.out.size)⟩
  · go_simp
    first
      | (refine .inl ?_; try go_simp; refine hK _ _ ?_; clear hK K)
      | (refine hK _ _ ?_; clear hK K)
    refine anyL_one (g := 6) 9 (by kernel_rfl) rfl (fun K hK => ?_)
    go_simp
    first
      | (refine .inl ?_; try go_simp; refine hK _ _ ?_; clear hK K)
      | (refine hK _ _ ?_; clear hK K)
    refine anyL_one (g := 5) 10 (by kernel_rfl) rfl (fun K hK => ?_)
    go_simp
    first
      | (refine .inl ?_; try go_simp; refine hK _ _ ?_; clear hK K)
      | (refine hK _ _ ?_; clear hK K)
    refine anyL_one (g := 4) 12 (by kernel_rfl) rfl (fun K hK => ?_)
    go_simp
    first
      | (refine .inl ?_; try go_simp; refine hK _ _ ?_; clear hK K)
      | (refine hK _ _ ?_; clear hK K)
    refine anyL_one (g := 3) 13 (by kernel_rfl) rfl (fun K hK => ?_)
    go_simp
    first
      | (refine .inl ?_; try go_simp; refine hK _ _ ?_; clear hK K)
      | (refine hK _ _ ?_; clear hK K)
    refine anyL_one (g := 2) 14 (by kernel_rfl) rfl (fun K hK => ?_)
    go_simp
    first
      | (refine .inl ?_; try go_simp; refine hK _ _ ?_; clear hK K)
      | (refine hK _ _ ?_; clear hK K)
    refine anyL_one (g := 1) 15 (by kernel_rfl) rfl (fun K hK => ?_)
    go_simp
    first
      | (refine .inl ?_; try go_simp; refine hK _ _ ?_; clear hK K)
      | (refine hK _ _ ?_; clear hK K)
    refine anyL_one (g := 0) 16 (by kernel_rfl) rfl (fun K hK => ?_)
    go_simp
    first
      | (refine .inl ?_; try go_simp; refine hK _ _ ?_; clear hK K)
      | (refine hK _ _ ?_; clear hK K)
    refine anyL_done (by kernel_rfl) ?_
    go_wp2_with fail
    go_ret
    exact ⟨rfl, HB2.out.trans (Below.mono hk3 HB2.out.size)⟩
set_option maxRecDepth 100000 in
set_option maxHeartbeats 8000000 in
theorem rEqual_no2 {x y : V} (hcx : checkV x = 0) (hcy : checkV y ≠ 0) (hM : sizeV x ≤ 1000000) (hM' : sizeV y ≤ 1000000) (v u : Value) (w : World) (h : isV w x v) (h' : isV w y u) :
    Calls Tryz.prog 16 #[v, u] w fun e w' => e = .returned (.bool (false)) ∧ Below w.heap.size w w' := by
  obtain ⟨k, b, n, s, o, m, c, o2, m2, c2, rfl⟩ := isV_six h
  obtain ⟨k', b', n', s', o', m', c', o2', m2', c2', rfl⟩ := isV_six h'
  obtain ⟨W2, hW2⟩ : ∃ W2, (w.alloc (.cells #[.int .i8 k, .bool b, .int .i64 n, .string s, .slice o m c, .slice o2 m2 c2] 26)).alloc (.cells #[.int .i8 k', .bool b', .int .i64 n', .string s', .slice o' m' c', .slice o2' m2' c2'] 26) = W2 := ⟨_, rfl⟩
  have hb2 : KB w W2 := by rw [← hW2]; unfold KB; go_grown
  have hn1 : W2.heap[w.heap.size]? = some (.cells #[.int .i8 k, .bool b, .int .i64 n, .string s, .slice o m c, .slice o2 m2 c2] 26 (0, 0)) := by
    rw [← hW2]
    exact (Below.heap_alloc (w.alloc (.cells #[.int .i8 k, .bool b, .int .i64 n, .string s, .slice o m c, .slice o2 m2 c2] 26)) (.cells #[.int .i8 k', .bool b', .int .i64 n', .string s', .slice o' m' c', .slice o2' m2' c2'] 26) w.heap.size (by simp)).trans (World.alloc_heap_new w _)
  have hn2 : W2.heap[w.heap.size + 1]? = some (.cells #[.int .i8 k', .bool b', .int .i64 n', .string s', .slice o' m' c', .slice o2' m2' c2'] 26 (0, 0)) := by
    rw [← hW2]
    have := World.alloc_heap_new (w.alloc (.cells #[.int .i8 k, .bool b, .int .i64 n, .string s, .slice o m c, .slice o2 m2 c2] 26)) (.cells #[.int .i8 k', .bool b', .int .i64 n', .string s', .slice o' m' c', .slice o2' m2' c2'] 26)
    rw [World.size_alloc] at this
    exact this
  have hs2 : w.heap.size + 2 = W2.heap.size := by rw [← hW2]; simp
  have H1 : Hid (∀ w1, KB W2 w1 → Calls Tryz.prog 21 #[.agg #[.int .i8 k, .bool b, .int .i64 n, .string s, .slice o m c, .slice o2 m2 c2]] w1 fun e w' => e = .returned (.int .i64 0) ∧ KB W2 w') := Lib.hid fun w1 hk => by
    have := Calls.kb hk (check_any x _ w1 hM (isV_below (hb2.trans (Below.mono hk hb2.size)) h))
    rwa [hcx] at this
  obtain ⟨cy, hc2⟩ : ∃ cy, checkV y = cy := ⟨_, rfl⟩
  have g1 : ¬ cy = 0 := by rw [← hc2]; exact hcy
  have g2 : (cy == 0) = false := by simpa using g1
  have g3 : decide (cy = 0) = false := decide_eq_false g1
  have H2 : Hid (∀ w1, KB W2 w1 → Calls Tryz.prog 21 #[.agg #[.int .i8 k', .bool b', .int .i64 n', .string s', .slice o' m' c', .slice o2' m2' c2']] w1 fun e w' => e = .returned (.int .i64 cy) ∧ KB W2 w') := Lib.hid fun w1 hk => by
    rw [← hc2]
    have := Calls.kb hk (check_any y _ w1 hM' (isV_below (hb2.trans (Below.mono hk hb2.size)) h'))
    exact this
  have HC : Hid (∀ w1, KB W2 w1 → (w1.cell? ⟨w.heap.size, 0, none⟩ = some (.int .i8 k) ∧ w1.cell? ⟨w.heap.size, 1, none⟩ = some (.bool b) ∧ w1.cell? ⟨w.heap.size, 2, none⟩ = some (.int .i64 n) ∧ w1.cell? ⟨w.heap.size, 3, none⟩ = some (.string s) ∧ w1.cell? ⟨w.heap.size, 4, none⟩ = some (.slice o m c) ∧ w1.cell? ⟨w.heap.size, 5, none⟩ = some (.slice o2 m2 c2)) ∧ (w1.cell? ⟨w.heap.size + 1, 0, none⟩ = some (.int .i8 k') ∧ w1.cell? ⟨w.heap.size + 1, 1, none⟩ = some (.bool b') ∧ w1.cell? ⟨w.heap.size + 1, 2, none⟩ = some (.int .i64 n') ∧ w1.cell? ⟨w.heap.size + 1, 3, none⟩ = some (.string s') ∧ w1.cell? ⟨w.heap.size + 1, 4, none⟩ = some (.slice o' m' c') ∧ w1.cell? ⟨w.heap.size + 1, 5, none⟩ = some (.slice o2' m2' c2'))) := Lib.hid fun w1 hk =>
    ⟨six_cells ((Below.block hk _ (by omega)).trans hn1), six_cells ((Below.block hk _ (by omega)).trans hn2)⟩
  have HB2 := Lib.hid hb2
  obtain ⟨⟨a0, a1, a2, a3, a4, a5⟩, ⟨d0, d1, d2, d3, d4, d5⟩⟩ := HC.out W2 (Below.refl _ _)
  have hk0 : KB W2 W2 := Below.refl _ _
  have HK0 := Lib.hid hk0
  clear h h' hcx hcy hc2 hn1 hn2 hs2 hb2 hM hM' hk0
  go_enter Tryz.func16, Tryz.ntmps16
  go_wp2_with fail
  try rw [hW2]
  clear hW2
  refine Rn.region_any (by kernel_rfl) ?_
  refine Rn.any_seg 0 1 (by kernel_rfl) rfl ?_
  simp only [List.take_succ_cons, List.take_zero, List.drop_succ_cons, List.drop_zero]
  repeat (refine Rn.ws_one (fun KK hKK => ?_); go_simp; refine hKK _ ?_; clear hKK KK)
  refine Rn.ws_nil ?_
  intro K0 hK0
  go_simp
  refine .inl ((H1.out _ (drewB1 _ _)).mono ?_)
  rintro e w3 ⟨rfl, hk3⟩
  clear a0 a1 a2 a3 a4 a5 d0 d1 d2 d3 d4 d5
  obtain ⟨⟨a0, a1, a2, a3, a4, a5⟩, ⟨d0, d1, d2, d3, d4, d5⟩⟩ := HC.out _ hk3
  try go_simp
  refine hK0 _ _ ?_
  clear hK0 K0
  refine Rn.any_seg 2 5 (by kernel_rfl) rfl ?_
  simp only [List.take_succ_cons, List.take_zero, List.drop_succ_cons, List.drop_zero]
  repeat (refine Rn.ws_one (fun KK hKK => ?_); go_simp; refine hKK _ ?_; clear hKK KK)
  refine Rn.ws_nil ?_
  intro K0 hK0
  go_simp
  refine .inl ((H2.out _ hk3).mono ?_)
  rintro e w4 ⟨rfl, hk4⟩
  clear a0 a1 a2 a3 a4 a5 d0 d1 d2 d3 d4 d5
  obtain ⟨⟨a0, a1, a2, a3, a4, a5⟩, ⟨d0, d1, d2, d3, d4, d5⟩⟩ := HC.out _ hk4
  try go_simp
  refine hK0 _ _ ?_
  clear hK0 K0
  refine AnyL.of (g := 11) rfl ?_
  refine anyL_one (g := 10) 6 (by kernel_rfl) rfl (fun K hK => ?_)
  go_simp
  first
    | (refine .inl ?_; try go_simp; refine hK _ _ ?_; clear hK K)
    | (refine hK _ _ ?_; clear hK K)
  refine anyL_one (g := 9) 7 (by kernel_rfl) rfl (fun K hK => ?_)
  go_simp
  first
    | (refine .inl ?_; try go_simp; refine hK _ _ ?_; clear hK K)
    | (refine hK _ _ ?_; clear hK K)
  refine anyL_one (g := 8) 8 (by kernel_rfl) rfl (fun K hK => ?_)
  go_simp
  first
    | (refine .inl ?_; try go_simp; refine hK _ _ ?_; clear hK K)
    | (refine hK _ _ ?_; clear hK K)
  refine anyL_two (g := 7) 9 11 (by kernel_rfl) rfl rfl (fun K hK => ?_) (fun K hK => ?_)
  · go_simp
    first
      | (refine .inl ?_; try go_simp; refine hK _ _ ?_; clear hK K)
      | (refine hK _ _ ?_; clear hK K)
    refine anyL_two (g := 6) 10 11 (by kernel_rfl) rfl rfl (fun K hK => ?_) (fun K hK => ?_)
    · go_simp
      first
        | (refine .inl ?_; try go_simp; refine hK _ _ ?_; clear hK K)
        | (refine hK _ _ ?_; clear hK K)
      refine anyL_one (g := 5) 11 (by kernel_rfl) rfl (fun K hK => ?_)
      go_simp
      first
        | (refine .inl ?_; try go_simp; refine hK _ _ ?_; clear hK K)
        | (refine hK _ _ ?_; clear hK K)
      refine anyL_one (g := 4) 12 (by kernel_rfl) rfl (fun K hK => ?_)
      go_simp
      first
        | (refine .inl ?_; try go_simp; refine hK _ _ ?_; clear hK K)
        | (refine hK _ _ ?_; clear hK K)
      refine anyL_one (g := 3) 13 (by kernel_rfl) rfl (fun K hK => ?_)
      go_simp
      first
        | (refine .inl ?_; try go_simp; refine hK _ _ ?_; clear hK K)
        | (refine hK _ _ ?_; clear hK K)
      refine anyL_one (g := 2) 14 (by kernel_rfl) rfl (fun K hK => ?_)
      go_simp
      first
        | (refine .inl ?_; try go_simp; refine hK _ _ ?_; clear hK K)
        | (refine hK _ _ ?_; clear hK K)
      refine anyL_one (g := 1) 15 (by kernel_rfl) rfl (fun K hK => ?_)
      go_simp
      first
        | (refine .inl ?_; try go_simp; refine hK _ _ ?_; clear hK K)
        | (refine hK _ _ ?_; clear hK K)
      refine anyL_one (g := 0) 16 (by kernel_rfl) rfl (fun K hK => ?_)
      go_simp
      first
        | (refine .inl ?_; try go_simp; refine hK _ _ ?_; clear hK K)
        | (refine hK _ _ ?_; clear hK K)
      refine anyL_done (by kernel_rfl) ?_
      go_wp2_with fail
      go_ret
      exact ⟨rfl, HB2.out.trans (Below.mono hk4 HB2.out.size)⟩
    · go_simp
      first
        | (refine .inl ?_; try go_simp; refine hK _ _ ?_; clear hK K)
        | (refine hK _ _ ?_; clear hK K)
      refine anyL_one (g := 5) 10 (by kernel_rfl) rfl (fun K hK => ?_)
      go_simp
      first
        | (refine .inl ?_; try go_simp; refine hK _ _ ?_; clear hK K)
        | (refine hK _ _ ?_; clear hK K)
      refine anyL_one (g := 4) 12 (by kernel_rfl) rfl (fun K hK => ?_)
      go_simp
      first
        | (refine .inl ?_; try go_simp; refine hK _ _ ?_; clear hK K)
        | (refine hK _ _ ?_; clear hK K)
      refine anyL_one (g := 3) 13 (by kernel_rfl) rfl (fun K hK => ?_)
      go_simp
      first
        | (refine .inl ?_; try go_simp; refine hK _ _ ?_; clear hK K)
        | (refine hK _ _ ?_; clear hK K)
      refine anyL_one (g := 2) 14 (by kernel_rfl) rfl (fun K hK => ?_)
      go_simp
      first
        | (refine .inl ?_; try go_simp; refine hK _ _ ?_; clear hK K)
        | (refine hK _ _ ?_; clear hK K)
      refine anyL_one (g := 1) 15 (by kernel_rfl) rfl (fun K hK => ?_)
      go_simp
      first
        | (refine .inl ?_; try go_simp; refine hK _ _ ?_; clear hK K)
        | (refine hK _ _ ?_; clear hK K)
      refine anyL_one (g := 0) 16 (by kernel_rfl) rfl (fun K hK => ?_)
      go_simp
      first
        | (refine .inl ?_; try go_simp; refine hK _ _ ?_; clear hK K)
        | (refine hK _ _ ?_; clear hK K)
      refine anyL_done (by kernel_rfl) ?_
      go_wp2_with fail
      go_ret
      exact ⟨rfl, HB2.out.trans (Below.mono hk4 HB2.out.size)⟩
  · go_simp
    first
      | (refine .inl ?_; try go_simp; refine hK _ _ ?_; clear hK K)
      | (refine hK _ _ ?_; clear hK K)
    refine anyL_one (g := 6) 9 (by kernel_rfl) rfl (fun K hK => ?_)
    go_simp
    first
      | (refine .inl ?_; try go_simp; refine hK _ _ ?_; clear hK K)
      | (refine hK _ _ ?_; clear hK K)
    refine anyL_one (g := 5) 10 (by kernel_rfl) rfl (fun K hK => ?_)
    go_simp
    first
      | (refine .inl ?_; try go_simp; refine hK _ _ ?_; clear hK K)
      | (refine hK _ _ ?_; clear hK K)
    refine anyL_one (g := 4) 12 (by kernel_rfl) rfl (fun K hK => ?_)
    go_simp
    first
      | (refine .inl ?_; try go_simp; refine hK _ _ ?_; clear hK K)
      | (refine hK _ _ ?_; clear hK K)
    refine anyL_one (g := 3) 13 (by kernel_rfl) rfl (fun K hK => ?_)
    go_simp
    first
      | (refine .inl ?_; try go_simp; refine hK _ _ ?_; clear hK K)
      | (refine hK _ _ ?_; clear hK K)
    refine anyL_one (g := 2) 14 (by kernel_rfl) rfl (fun K hK => ?_)
    go_simp
    first
      | (refine .inl ?_; try go_simp; refine hK _ _ ?_; clear hK K)
      | (refine hK _ _ ?_; clear hK K)
    refine anyL_one (g := 1) 15 (by kernel_rfl) rfl (fun K hK => ?_)
    go_simp
    first
      | (refine .inl ?_; try go_simp; refine hK _ _ ?_; clear hK K)
      | (refine hK _ _ ?_; clear hK K)
    refine anyL_one (g := 0) 16 (by kernel_rfl) rfl (fun K hK => ?_)
    go_simp
    first
      | (refine .inl ?_; try go_simp; refine hK _ _ ?_; clear hK K)
      | (refine hK _ _ ?_; clear hK K)
    refine anyL_done (by kernel_rfl) ?_
    go_wp2_with fail
    go_ret
    exact ⟨rfl, HB2.out.trans (Below.mono hk4 HB2.out.size)⟩
set_option maxRecDepth 100000 in
set_option maxHeartbeats 8000000 in
theorem rEqual_yes {x y : V} (hcx : checkV x = 0) (hcy : checkV y = 0) (hM : sizeV x ≤ 1000000) (hM' : sizeV y ≤ 1000000) (v u : Value) (w : World) (h : isV w x v) (h' : isV w y u) :
    Calls Tryz.prog 16 #[v, u] w fun e w' => e = .returned (.bool (cmpV (psortV x) (psortV y) == 0)) ∧ Below w.heap.size w w' := by
  have hwx := wrong_of_check hcx
  have hwy := wrong_of_check hcy
  obtain ⟨k, b, n, s, o, m, c, o2, m2, c2, rfl⟩ := isV_six h
  obtain ⟨k', b', n', s', o', m', c', o2', m2', c2', rfl⟩ := isV_six h'
  obtain ⟨r, hr⟩ : ∃ r, (cmpV (psortV x) (psortV y) == 0) = r := ⟨_, rfl⟩
  have HCM := Lib.hid hr
  rw [hr]
  obtain ⟨W2, hW2⟩ : ∃ W2, (w.alloc (.cells #[.int .i8 k, .bool b, .int .i64 n, .string s, .slice o m c, .slice o2 m2 c2] 26)).alloc (.cells #[.int .i8 k', .bool b', .int .i64 n', .string s', .slice o' m' c', .slice o2' m2' c2'] 26) = W2 := ⟨_, rfl⟩
  have hb2 : KB w W2 := by rw [← hW2]; unfold KB; go_grown
  have hn1 : W2.heap[w.heap.size]? = some (.cells #[.int .i8 k, .bool b, .int .i64 n, .string s, .slice o m c, .slice o2 m2 c2] 26 (0, 0)) := by
    rw [← hW2]
    exact (Below.heap_alloc (w.alloc (.cells #[.int .i8 k, .bool b, .int .i64 n, .string s, .slice o m c, .slice o2 m2 c2] 26)) (.cells #[.int .i8 k', .bool b', .int .i64 n', .string s', .slice o' m' c', .slice o2' m2' c2'] 26) w.heap.size (by simp)).trans (World.alloc_heap_new w _)
  have hn2 : W2.heap[w.heap.size + 1]? = some (.cells #[.int .i8 k', .bool b', .int .i64 n', .string s', .slice o' m' c', .slice o2' m2' c2'] 26 (0, 0)) := by
    rw [← hW2]
    have := World.alloc_heap_new (w.alloc (.cells #[.int .i8 k, .bool b, .int .i64 n, .string s, .slice o m c, .slice o2 m2 c2] 26)) (.cells #[.int .i8 k', .bool b', .int .i64 n', .string s', .slice o' m' c', .slice o2' m2' c2'] 26)
    rw [World.size_alloc] at this
    exact this
  have hs2 : w.heap.size + 2 = W2.heap.size := by rw [← hW2]; simp
  have H1 : Hid (∀ w1, KB W2 w1 → Calls Tryz.prog 21 #[.agg #[.int .i8 k, .bool b, .int .i64 n, .string s, .slice o m c, .slice o2 m2 c2]] w1 fun e w' => e = .returned (.int .i64 0) ∧ KB W2 w') := Lib.hid fun w1 hk => by
    have := Calls.kb hk (check_any x _ w1 hM (isV_below (hb2.trans (Below.mono hk hb2.size)) h))
    rwa [hcx] at this
  have H2 : Hid (∀ w1, KB W2 w1 → Calls Tryz.prog 21 #[.agg #[.int .i8 k', .bool b', .int .i64 n', .string s', .slice o' m' c', .slice o2' m2' c2']] w1 fun e w' => e = .returned (.int .i64 0) ∧ KB W2 w') := Lib.hid fun w1 hk => by
    have := Calls.kb hk (check_any y _ w1 hM' (isV_below (hb2.trans (Below.mono hk hb2.size)) h'))
    rwa [hcy] at this
  have H3 : Hid (∀ w1, KB W2 w1 → Calls Tryz.prog 30 #[.agg #[.int .i8 k, .bool b, .int .i64 n, .string s, .slice o m c, .slice o2 m2 c2]] w1 fun e w' => ∃ v', e = .returned v' ∧ Hid (isV w' (psortV x) v') ∧ KB w1 w' ∧ KB W2 w') := Lib.hid fun w1 hk => by
    refine (rsorted_any x hM hwx _ w1 (isV_below (hb2.trans (Below.mono hk hb2.size)) h)).mono ?_
    rintro e w' ⟨v', rfl, hv, hb⟩
    exact ⟨v', rfl, Lib.hid (isV_of_a _ _ hv), hb, Below.trans hk (hb.mono hk.size)⟩
  have H4 : Hid (∀ w1, KB W2 w1 → Calls Tryz.prog 30 #[.agg #[.int .i8 k', .bool b', .int .i64 n', .string s', .slice o' m' c', .slice o2' m2' c2']] w1 fun e w' => ∃ v', e = .returned v' ∧ Hid (isV w' (psortV y) v') ∧ KB w1 w' ∧ KB W2 w') := Lib.hid fun w1 hk => by
    refine (rsorted_any y hM' hwy _ w1 (isV_below (hb2.trans (Below.mono hk hb2.size)) h')).mono ?_
    rintro e w' ⟨v', rfl, hv, hb⟩
    exact ⟨v', rfl, Lib.hid (isV_of_a _ _ hv), hb, Below.trans hk (hb.mono hk.size)⟩
  have H5 : Hid (∀ (v u : Value) w1, KB W2 w1 → isV w1 (psortV x) v → isV w1 (psortV y) u → Calls Tryz.prog 29 #[v, u] w1 fun e w' => (∃ z : Int, e = .returned (.int .i64 z) ∧ (z == 0) = r) ∧ KB W2 w') := Lib.hid fun v u w1 hk hv hu => by
    refine (Cq.compare_any _ (psortV x) (psortV y) v u w1 (Nat.le_refl _) (sort_okV (sort_p x)) (sort_okV (sort_p y)) hv hu).mono ?_
    rintro e w' ⟨rfl, hb⟩
    exact ⟨⟨_, rfl, HCM.out⟩, Below.trans hk (hb.mono hk.size)⟩
  have HC : Hid (∀ w1, KB W2 w1 → (w1.cell? ⟨w.heap.size, 0, none⟩ = some (.int .i8 k) ∧ w1.cell? ⟨w.heap.size, 1, none⟩ = some (.bool b) ∧ w1.cell? ⟨w.heap.size, 2, none⟩ = some (.int .i64 n) ∧ w1.cell? ⟨w.heap.size, 3, none⟩ = some (.string s) ∧ w1.cell? ⟨w.heap.size, 4, none⟩ = some (.slice o m c) ∧ w1.cell? ⟨w.heap.size, 5, none⟩ = some (.slice o2 m2 c2)) ∧ (w1.cell? ⟨w.heap.size + 1, 0, none⟩ = some (.int .i8 k') ∧ w1.cell? ⟨w.heap.size + 1, 1, none⟩ = some (.bool b') ∧ w1.cell? ⟨w.heap.size + 1, 2, none⟩ = some (.int .i64 n') ∧ w1.cell? ⟨w.heap.size + 1, 3, none⟩ = some (.string s') ∧ w1.cell? ⟨w.heap.size + 1, 4, none⟩ = some (.slice o' m' c') ∧ w1.cell? ⟨w.heap.size + 1, 5, none⟩ = some (.slice o2' m2' c2'))) := Lib.hid fun w1 hk =>
    ⟨six_cells ((Below.block hk _ (by omega)).trans hn1), six_cells ((Below.block hk _ (by omega)).trans hn2)⟩
  have HB2 := Lib.hid hb2
  obtain ⟨⟨a0, a1, a2, a3, a4, a5⟩, ⟨d0, d1, d2, d3, d4, d5⟩⟩ := HC.out W2 (Below.refl _ _)
  have hk0 : KB W2 W2 := Below.refl _ _
  have HK0 := Lib.hid hk0
  clear h h' hwx hwy hcx hcy hr hn1 hn2 hs2 hb2 hM hM' hk0
  go_enter Tryz.func16, Tryz.ntmps16
  go_wp2_with fail
  try rw [hW2]
  clear hW2
  refine Rn.region_any (by kernel_rfl) ?_
  refine Rn.any_seg 0 1 (by kernel_rfl) rfl ?_
  simp only [List.take_succ_cons, List.take_zero, List.drop_succ_cons, List.drop_zero]
  repeat (refine Rn.ws_one (fun KK hKK => ?_); go_simp; refine hKK _ ?_; clear hKK KK)
  refine Rn.ws_nil ?_
  intro K0 hK0
  go_simp
  refine .inl ((H1.out _ (drewB1 _ _)).mono ?_)
  rintro e w3 ⟨rfl, hk3⟩
  clear a0 a1 a2 a3 a4 a5 d0 d1 d2 d3 d4 d5
  obtain ⟨⟨a0, a1, a2, a3, a4, a5⟩, ⟨d0, d1, d2, d3, d4, d5⟩⟩ := HC.out _ hk3
  try go_simp
  refine hK0 _ _ ?_
  clear hK0 K0
  refine Rn.any_seg 2 5 (by kernel_rfl) rfl ?_
  simp only [List.take_succ_cons, List.take_zero, List.drop_succ_cons, List.drop_zero]
  repeat (refine Rn.ws_one (fun KK hKK => ?_); go_simp; refine hKK _ ?_; clear hKK KK)
  refine Rn.ws_nil ?_
  intro K0 hK0
  go_simp
  refine .inl ((H2.out _ hk3).mono ?_)
  rintro e w4 ⟨rfl, hk4⟩
  clear a0 a1 a2 a3 a4 a5 d0 d1 d2 d3 d4 d5
  obtain ⟨⟨a0, a1, a2, a3, a4, a5⟩, ⟨d0, d1, d2, d3, d4, d5⟩⟩ := HC.out _ hk4
  try go_simp
  refine hK0 _ _ ?_
  clear hK0 K0
  refine AnyL.of (g := 11) rfl ?_
  refine anyL_one (g := 10) 6 (by kernel_rfl) rfl (fun K hK => ?_)
  go_simp
  refine .inl ?_
  try go_simp
  refine hK _ _ ?_
  clear hK K
  refine anyL_one (g := 9) 7 (by kernel_rfl) rfl (fun K hK => ?_)
  go_simp
  refine .inl ?_
  try go_simp
  refine hK _ _ ?_
  clear hK K
  refine anyL_one (g := 8) 8 (by kernel_rfl) rfl (fun K hK => ?_)
  go_simp
  refine .inl ?_
  try go_simp
  refine hK _ _ ?_
  clear hK K
  refine anyL_two (g := 7) 9 11 (by kernel_rfl) rfl rfl (fun K hK => ?_) (fun K hK => ?_)
  · go_simp
    refine .inl ?_
    try go_simp
    refine hK _ _ ?_
    clear hK K
    refine anyL_two (g := 6) 10 11 (by kernel_rfl) rfl rfl (fun K hK => ?_) (fun K hK => ?_)
    · go_simp
      refine .inl ((H3.out _ hk4).mono ?_)
      rintro e w5 ⟨v5, rfl, hv5, hb5, hk5⟩
      clear a0 a1 a2 a3 a4 a5 d0 d1 d2 d3 d4 d5
      obtain ⟨⟨a0, a1, a2, a3, a4, a5⟩, ⟨d0, d1, d2, d3, d4, d5⟩⟩ := HC.out _ hk5
      try go_simp
      refine hK _ _ ?_
      clear hK K
      refine anyL_one (g := 5) 11 (by kernel_rfl) rfl (fun K hK => ?_)
      go_simp
      refine .inl ?_
      try go_simp
      refine hK _ _ ?_
      clear hK K
      refine anyL_one (g := 4) 12 (by kernel_rfl) rfl (fun K hK => ?_)
      go_simp
      refine .inl ((H4.out _ hk5).mono ?_)
      rintro e w6 ⟨v6, rfl, hv6, hb6, hk6⟩
      clear a0 a1 a2 a3 a4 a5 d0 d1 d2 d3 d4 d5
      obtain ⟨⟨a0, a1, a2, a3, a4, a5⟩, ⟨d0, d1, d2, d3, d4, d5⟩⟩ := HC.out _ hk6
      try go_simp
      refine hK _ _ ?_
      clear hK K
      refine anyL_one (g := 3) 13 (by kernel_rfl) rfl (fun K hK => ?_)
      go_simp
      refine .inl ((H5.out _ _ _ hk6 (isV_below hb6 hv5.out) hv6.out).mono ?_)
      rintro e w7 ⟨⟨z, rfl, hz⟩, hk7⟩
      try go_simp
      refine hK _ _ ?_
      clear hK K
      refine anyL_one (g := 2) 14 (by kernel_rfl) rfl (fun K hK => ?_)
      go_simp
      refine .inl ?_
      try go_simp
      refine hK _ _ ?_
      clear hK K
      refine anyL_one (g := 1) 15 (by kernel_rfl) rfl (fun K hK => ?_)
      go_simp
      refine .inl ?_
      try go_simp
      refine hK _ _ ?_
      clear hK K
      refine anyL_one (g := 0) 16 (by kernel_rfl) rfl (fun K hK => ?_)
      go_simp
      refine .inl ?_
      try go_simp
      refine hK _ _ ?_
      clear hK K
      refine anyL_done (by kernel_rfl) ?_
      go_wp2_with fail
      go_ret
      exact ⟨rfl, HB2.out.trans (Below.mono hk7 HB2.out.size)⟩
    · go_simp
      refine .inl ?_
      try go_simp
      refine hK _ _ ?_
      clear hK K
      refine anyL_one (g := 5) 10 (by kernel_rfl) rfl (fun K hK => ?_)
      go_simp
      refine .inl ((H3.out _ hk4).mono ?_)
      rintro e w5 ⟨v5, rfl, hv5, hb5, hk5⟩
      clear a0 a1 a2 a3 a4 a5 d0 d1 d2 d3 d4 d5
      obtain ⟨⟨a0, a1, a2, a3, a4, a5⟩, ⟨d0, d1, d2, d3, d4, d5⟩⟩ := HC.out _ hk5
      try go_simp
      refine hK _ _ ?_
      clear hK K
      refine anyL_one (g := 4) 12 (by kernel_rfl) rfl (fun K hK => ?_)
      go_simp
      refine .inl ((H4.out _ hk5).mono ?_)
      rintro e w6 ⟨v6, rfl, hv6, hb6, hk6⟩
      clear a0 a1 a2 a3 a4 a5 d0 d1 d2 d3 d4 d5
      obtain ⟨⟨a0, a1, a2, a3, a4, a5⟩, ⟨d0, d1, d2, d3, d4, d5⟩⟩ := HC.out _ hk6
      try go_simp
      refine hK _ _ ?_
      clear hK K
      refine anyL_one (g := 3) 13 (by kernel_rfl) rfl (fun K hK => ?_)
      go_simp
      refine .inl ((H5.out _ _ _ hk6 (isV_below hb6 hv5.out) hv6.out).mono ?_)
      rintro e w7 ⟨⟨z, rfl, hz⟩, hk7⟩
      try go_simp
      refine hK _ _ ?_
      clear hK K
      refine anyL_one (g := 2) 14 (by kernel_rfl) rfl (fun K hK => ?_)
      go_simp
      refine .inl ?_
      try go_simp
      refine hK _ _ ?_
      clear hK K
      refine anyL_one (g := 1) 15 (by kernel_rfl) rfl (fun K hK => ?_)
      go_simp
      refine .inl ?_
      try go_simp
      refine hK _ _ ?_
      clear hK K
      refine anyL_one (g := 0) 16 (by kernel_rfl) rfl (fun K hK => ?_)
      go_simp
      refine .inl ?_
      try go_simp
      refine hK _ _ ?_
      clear hK K
      refine anyL_done (by kernel_rfl) ?_
      go_wp2_with fail
      go_ret
      exact ⟨rfl, HB2.out.trans (Below.mono hk7 HB2.out.size)⟩
  · go_simp
    refine .inl ?_
    try go_simp
    refine hK _ _ ?_
    clear hK K
    refine anyL_one (g := 6) 9 (by kernel_rfl) rfl (fun K hK => ?_)
    go_simp
    refine .inl ?_
    try go_simp
    refine hK _ _ ?_
    clear hK K
    refine anyL_one (g := 5) 10 (by kernel_rfl) rfl (fun K hK => ?_)
    go_simp
    refine .inl ((H3.out _ hk4).mono ?_)
    rintro e w5 ⟨v5, rfl, hv5, hb5, hk5⟩
    clear a0 a1 a2 a3 a4 a5 d0 d1 d2 d3 d4 d5
    obtain ⟨⟨a0, a1, a2, a3, a4, a5⟩, ⟨d0, d1, d2, d3, d4, d5⟩⟩ := HC.out _ hk5
    try go_simp
    refine hK _ _ ?_
    clear hK K
    refine anyL_one (g := 4) 12 (by kernel_rfl) rfl (fun K hK => ?_)
    go_simp
    refine .inl ((H4.out _ hk5).mono ?_)
    rintro e w6 ⟨v6, rfl, hv6, hb6, hk6⟩
    clear a0 a1 a2 a3 a4 a5 d0 d1 d2 d3 d4 d5
    obtain ⟨⟨a0, a1, a2, a3, a4, a5⟩, ⟨d0, d1, d2, d3, d4, d5⟩⟩ := HC.out _ hk6
    try go_simp
    refine hK _ _ ?_
    clear hK K
    refine anyL_one (g := 3) 13 (by kernel_rfl) rfl (fun K hK => ?_)
    go_simp
    refine .inl ((H5.out _ _ _ hk6 (isV_below hb6 hv5.out) hv6.out).mono ?_)
    rintro e w7 ⟨⟨z, rfl, hz⟩, hk7⟩
    try go_simp
    refine hK _ _ ?_
    clear hK K
    refine anyL_one (g := 2) 14 (by kernel_rfl) rfl (fun K hK => ?_)
    go_simp
    refine .inl ?_
    try go_simp
    refine hK _ _ ?_
    clear hK K
    refine anyL_one (g := 1) 15 (by kernel_rfl) rfl (fun K hK => ?_)
    go_simp
    refine .inl ?_
    try go_simp
    refine hK _ _ ?_
    clear hK K
    refine anyL_one (g := 0) 16 (by kernel_rfl) rfl (fun K hK => ?_)
    go_simp
    refine .inl ?_
    try go_simp
    refine hK _ _ ?_
    clear hK K
    refine anyL_done (by kernel_rfl) ?_
    go_wp2_with fail
    go_ret
    exact ⟨rfl, HB2.out.trans (Below.mono hk7 HB2.out.size)⟩
/-- Of any two values. -/
theorem rEqual_all {x y : V} (hM : sizeV x ≤ 1000000) (hM' : sizeV y ≤ 1000000) (v u : Value) (w : World) (h : isV w x v) (h' : isV w y u) :
    Calls Tryz.prog 16 #[v, u] w fun e w' => e = .returned (.bool (eqR x y)) ∧ Below w.heap.size w w' := by
  by_cases hx : checkV x = 0
  · by_cases hy : checkV y = 0
    · have := rEqual_yes hx hy hM hM' v u w h h'
      unfold eqR
      rwa [decide_eq_true hx, decide_eq_true hy, Bool.true_and, Bool.true_and]
    · have := rEqual_no2 hx hy hM hM' v u w h h'
      unfold eqR
      rwa [decide_eq_true hx, decide_eq_false hy, Bool.true_and, Bool.false_and]
  · have := rEqual_no1 hx hM hM' v u w h h'
    unfold eqR
    rwa [decide_eq_false hx, Bool.false_and]
end Go.Proofs.YtllkcldckehipaaGreatDoor
