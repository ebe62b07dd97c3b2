/-
  The contract of the reference's Same: it tells whether two values are the same tree.
-/
import Derived.Test.YtdckldfekepopaaGreatDoorZD
import Derived.Lib.Strings
import Derived.StillTailTactics
set_option linter.unusedVariables false
set_option linter.unusedSimpArgs false
namespace Go.Proofs.YtdckldfekepopaaGreatDoor
open Go.RowKit

/-- The same tree? -/
noncomputable def sm (x y : V) : Bool := @decide (x = y) (Classical.propDecidable _)
theorem sm_yes {x y : V} (h : x = y) : sm x y = true := @decide_eq_true _ (Classical.propDecidable _) h
theorem sm_no {x y : V} (h : x ≠ y) : sm x y = false := @decide_eq_false _ (Classical.propDecidable _) h
theorem sm_eq {x y : V} (h : sm x y = true) : x = y := @of_decide_eq_true _ (Classical.propDecidable _) h
theorem sm_ne {x y : V} (h : sm x y = false) : x ≠ y := @of_decide_eq_false _ (Classical.propDecidable _) h
theorem KB.two {w : World} {o o' : Obj} : Below w.heap.size w ((w.alloc o).alloc o') := ((Below.refl _ _).alloc (Nat.le_refl _) _).alloc (by simp) _
theorem beq_toList {S T : ByteArray} (h : S ≠ T) : (S.toList == T.toList) = false := by
  rw [beq_eq_false_iff_ne]
  intro e
  rw [Lib.toList_data, Lib.toList_data] at e
  exact h (ByteArray.ext (by simpa using congrArg List.toArray e))
theorem drewB (n : Nat) (w : World) (m : Nat) : Below n w (w.drewN m) := ⟨rfl, rfl, rfl, Nat.le_refl _, fun _ _ => rfl⟩
theorem drewB1 (n : Nat) (w : World) : Below n w w.drew := ⟨rfl, rfl, rfl, Nat.le_refl _, fun _ _ => rfl⟩
theorem beqI {a b : Int} (h : a ≠ b) : (a == b) = false := by rw [beq_eq_false_iff_ne]; exact h
theorem beqB {a b : Bool} (h : a ≠ b) : (a == b) = false := by rw [beq_eq_false_iff_ne]; exact h

set_option maxRecDepth 100000 in
set_option maxHeartbeats 8000000 in
theorem same_any : ∀ (N : Nat) (x y : V) (v v' : Value) (w : World), sizeV x ≤ N → isV w x v → isV w y v' →
    Calls Tryz.prog 43 #[v, v'] w fun e w' => e = .returned (.bool (sm x y)) ∧ Below w.heap.size w w'
  | 0, x, y, v, v', w, hN, h, h' => absurd (sizeV_pos x) (by omega)
  | N + 1, x, y, v, v', w, hN, h, h' => by
    obtain ⟨k, b, n, s, l, ks⟩ := x
    obtain ⟨k', b', n', s', l', ks'⟩ := y
    unfold isV at h h'
    obtain ⟨lv, kv, rfl, hk, hn, hs, ⟨a, cap, ⟨o, rfl, hc1, hc2, ho⟩, hvs⟩, ⟨a2, cap2, ⟨o2, rfl, hc3, hc4, ho2⟩, hks⟩⟩ := h
    obtain ⟨lv, kv, rfl, hk', hn', hs', ⟨a', cap', ⟨o', rfl, hc1', hc2', ho'⟩, hvs'⟩, ⟨a2', cap2', ⟨o2', rfl, hc3', hc4', ho2'⟩, hks'⟩⟩ := h'
    unfold maxLen at hs hc2 hc4 hs' hc2' hc4'
    clear hk hn hk' hn'
    have hsz : sizeV (.mk k b n s l ks) = 1 + s.size + keysS ks + sizeVs l := by rw [sizeV]
    have hSL : sizeVs l ≤ N := by omega
    clear hsz hN
    by_cases q1 : k ≠ k'
    · have HN : Hid (sm (.mk k b n s l ks) (.mk k' b' n' s' l' ks') = false) := Lib.hid (sm_no (fun e => by injection e; contradiction))
      have f1 := beqI q1
      have f2 : (k != k') = true := bne_iff_ne.2 q1
      clear q1 hvs hvs' hks hks' ho ho' ho2 ho2'
      go_enter Tryz.func43, Tryz.ntmps43
      go_wp2_with fail
      go_ret
      exact ⟨by rw [HN.out]; rfl, KB.two⟩
    obtain rfl : k = k' := Decidable.not_not.1 q1
    by_cases q2 : b ≠ b'
    · have HN : Hid (sm (.mk k b n s l ks) (.mk k b' n' s' l' ks') = false) := Lib.hid (sm_no (fun e => by injection e; contradiction))
      have f1 := beqB q2
      have f2 : (b != b') = true := bne_iff_ne.2 q2
      clear q1 q2 hvs hvs' hks hks' ho ho' ho2 ho2'
      go_enter Tryz.func43, Tryz.ntmps43
      go_wp2_with fail
      go_ret
      exact ⟨by rw [HN.out]; rfl, KB.two⟩
    obtain rfl : b = b' := Decidable.not_not.1 q2
    by_cases q3 : n ≠ n'
    · have HN : Hid (sm (.mk k b n s l ks) (.mk k b n' s' l' ks') = false) := Lib.hid (sm_no (fun e => by injection e; contradiction))
      have f1 := beqI q3
      have f2 : (n != n') = true := bne_iff_ne.2 q3
      clear q1 q2 q3 hvs hvs' hks hks' ho ho' ho2 ho2'
      go_enter Tryz.func43, Tryz.ntmps43
      go_wp2_with fail
      go_ret
      exact ⟨by rw [HN.out]; rfl, KB.two⟩
    obtain rfl : n = n' := Decidable.not_not.1 q3
    by_cases q4 : s ≠ s'
    · have HN : Hid (sm (.mk k b n s l ks) (.mk k b n s' l' ks') = false) := Lib.hid (sm_no (fun e => by injection e; contradiction))
      have f1 := beq_toList q4
      clear q1 q2 q3 q4 hvs hvs' hks hks' ho ho' ho2 ho2'
      go_enter Tryz.func43, Tryz.ntmps43
      go_wp2_with fail
      go_ret
      exact ⟨by rw [HN.out]; rfl, KB.two⟩
    obtain rfl : s = s' := Classical.not_not.1 q4
    by_cases q5 : l.length ≠ l'.length
    · have HN : Hid (sm (.mk k b n s l ks) (.mk k b n s l' ks') = false) := Lib.hid (sm_no (fun e => by injection e; subst_vars; contradiction))
      have f1 : ((l.length : Int) == (l'.length : Int)) = false := beqI (by omega)
      have f2 : ((l.length : Int) != (l'.length : Int)) = true := bne_iff_ne.2 (by omega)
      clear q1 q2 q3 q4 q5 hvs hvs' hks hks' ho ho' ho2 ho2'
      go_enter Tryz.func43, Tryz.ntmps43
      go_wp2_with fail
      go_ret
      exact ⟨by rw [HN.out]; rfl, KB.two⟩
    have q5' : l'.length = l.length := (Decidable.not_not.1 q5).symm
    by_cases q6 : ks.length ≠ ks'.length
    · have HN : Hid (sm (.mk k b n s l ks) (.mk k b n s l' ks') = false) := Lib.hid (sm_no (fun e => by injection e; subst_vars; contradiction))
      have f1 : ((ks.length : Int) == (ks'.length : Int)) = false := beqI (by omega)
      have f2 : ((ks.length : Int) != (ks'.length : Int)) = true := bne_iff_ne.2 (by omega)
      clear q1 q2 q3 q4 q5 q6 hvs hvs' hks hks' ho ho' ho2 ho2'
      go_enter Tryz.func43, Tryz.ntmps43
      go_wp2_with fail
      go_ret
      exact ⟨by rw [HN.out]; rfl, KB.two⟩
    have q6' : ks'.length = ks.length := (Decidable.not_not.1 q6).symm
    rw [q5'] at hc1' ho' ⊢
    rw [q6'] at hc3' ho2' ⊢
    have HKA : Hid (∀ (i : Nat) (h : i < ks.length), ((w.alloc (.cells #[.int .i8 k, .bool b, .int .i64 n, .string s, .slice o l.length cap, .slice o2 ks.length cap2] 64)).alloc (.cells #[.int .i8 k, .bool b, .int .i64 n, .string s, .slice o' l.length cap', .slice o2' ks.length cap2'] 64)).cell? (a2.add i) = some (.string ks[i]) ∧ ks[i].size ≤ maxLen) := Lib.hid (fun i h => ⟨cell_below KB.two _ _ (hks i h).1, (hks i h).2⟩)
    have HKB : Hid (∀ (i : Nat) (h : i < ks'.length), ((w.alloc (.cells #[.int .i8 k, .bool b, .int .i64 n, .string s, .slice o l.length cap, .slice o2 ks.length cap2] 64)).alloc (.cells #[.int .i8 k, .bool b, .int .i64 n, .string s, .slice o' l.length cap', .slice o2' ks.length cap2'] 64)).cell? (a2'.add i) = some (.string ks'[i]) ∧ ks'[i].size ≤ maxLen) := Lib.hid (fun i h => ⟨cell_below KB.two _ _ (hks' i h).1, (hks' i h).2⟩)
    have HVA := Lib.hid hvs
    have HVB := Lib.hid hvs'
    have Q5 := Lib.hid q5'
    have Q6 := Lib.hid q6'
    clear q1 q2 q3 q4 q5 q6 q5' q6' hks hks' hvs hvs'
    go_enter Tryz.func43, Tryz.ntmps43
    go_wp2_with fail
    have hB0 : KB w ((w.alloc (.cells #[.int .i8 k, .bool b, .int .i64 n, .string s, .slice o l.length cap, .slice o2 ks.length cap2] 64)).alloc (.cells #[.int .i8 k, .bool b, .int .i64 n, .string s, .slice o' l.length cap', .slice o2' ks.length cap2'] 64)) := KB.two
    have h4 : ((w.alloc (.cells #[.int .i8 k, .bool b, .int .i64 n, .string s, .slice o l.length cap, .slice o2 ks.length cap2] 64)).alloc (.cells #[.int .i8 k, .bool b, .int .i64 n, .string s, .slice o' l.length cap', .slice o2' ks.length cap2'] 64)).cell? ⟨w.heap.size, 4, none⟩ = some (.slice o l.length cap) := by simp
    have h4' : ((w.alloc (.cells #[.int .i8 k, .bool b, .int .i64 n, .string s, .slice o l.length cap, .slice o2 ks.length cap2] 64)).alloc (.cells #[.int .i8 k, .bool b, .int .i64 n, .string s, .slice o' l.length cap', .slice o2' ks.length cap2'] 64)).cell? ⟨w.heap.size + 1, 4, none⟩ = some (.slice o' l.length cap') := by simp
    have h5 : ((w.alloc (.cells #[.int .i8 k, .bool b, .int .i64 n, .string s, .slice o l.length cap, .slice o2 ks.length cap2] 64)).alloc (.cells #[.int .i8 k, .bool b, .int .i64 n, .string s, .slice o' l.length cap', .slice o2' ks.length cap2'] 64)).cell? ⟨w.heap.size, 5, none⟩ = some (.slice o2 ks.length cap2) := by simp
    have h5' : ((w.alloc (.cells #[.int .i8 k, .bool b, .int .i64 n, .string s, .slice o l.length cap, .slice o2 ks.length cap2] 64)).alloc (.cells #[.int .i8 k, .bool b, .int .i64 n, .string s, .slice o' l.length cap', .slice o2' ks.length cap2'] 64)).cell? ⟨w.heap.size + 1, 5, none⟩ = some (.slice o2' ks.length cap2') := by simp
    generalize hW1 : (w.alloc (.cells #[.int .i8 k, .bool b, .int .i64 n, .string s, .slice o l.length cap, .slice o2 ks.length cap2] 64)).alloc (.cells #[.int .i8 k, .bool b, .int .i64 n, .string s, .slice o' l.length cap', .slice o2' ks.length cap2'] 64) = W1 at *
    clear hW1
    have HB0 := Lib.hid hB0
    have H4 := Lib.hid h4
    have H4' := Lib.hid h4'
    have H5 := Lib.hid h5
    have H5' := Lib.hid h5'
    clear hB0 h4 h4' h5 h5'
    go_loopw [5] (fun i wr => ∃ j : Nat, j ≤ ks.length ∧ i = .int .i64 j ∧ Hid (∀ q, q < j → ks[q]? = ks'[q]?) ∧ Below W1.heap.size W1 wr) (fun i _ => ks.length - (intOf i).toNat)
    case atStart => exact ⟨0, by omega, rfl, Lib.hid (fun q h => absurd h (by omega)), Below.refl _ _⟩
    case round =>
      obtain ⟨j, hj, rfl, hye, hB⟩ := hrel
      have b5 : wr.cell? ⟨w.heap.size, 5, none⟩ = some (.slice o2 ks.length cap2) := cell_below hB _ _ H5.out
      have b5' : wr.cell? ⟨w.heap.size + 1, 5, none⟩ = some (.slice o2' ks.length cap2') := cell_below hB _ _ H5'.out
      by_cases hlt : j < ks.length
      · have hlt' : j < ks'.length := by rw [Q6.out]; exact hlt
        obtain ⟨g1, z1⟩ := HKA.out j hlt
        obtain ⟨g2, z2⟩ := HKB.out j hlt'
        have g1 := cell_below hB _ _ g1
        have g2 := cell_below hB _ _ g2
        obtain rfl := ho2 (by omega)
        obtain rfl := ho2' (by omega)
        have e1 : ks[j]? = some ks[j] := List.getElem?_eq_getElem hlt
        have e2 : ks'[j]? = some ks'[j] := List.getElem?_eq_getElem hlt'
        have hi0 : (0 : Int) ≤ (j : Int) := by omega
        have hi1 : (j : Int) < (ks.length : Int) := by omega
        have HBB := Lib.hid hB
        generalize ks[j] = K at *
        generalize ks'[j] = K' at *
        by_cases hK : K = K'
        · subst hK
          have HN : Hid (∀ q, q < j + 1 → ks[q]? = ks'[q]?) := Lib.hid (fun q h => by
            by_cases e : q = j
            · subst e; rw [e1, e2]
            · exact hye.out q (by omega))
          clear e1 e2 hye z1 z2 hB
          go_wp2_with fail
          go_quiet (fail)
          go_wp2_with fail
          go_roundw
          case rel => exact ⟨j + 1, by omega, by go_num, HN, HBB.out.trans (drewB _ _ _)⟩
          case measure => simp [intOf]; omega
        · have HN : Hid (sm (.mk k b n s l ks) (.mk k b n s l' ks') = false) := Lib.hid (sm_no (fun e => by
            injection e with _ _ _ _ _ e6
            rw [e6] at e1
            rw [e1] at e2
            exact hK (Option.some.inj e2)))
          have f1 := beq_toList hK
          clear e1 e2 hye z1 z2 hK hB
          go_wp2_with fail
          go_quiet (fail)
          go_wp2_with fail
          go_ret
          exact ⟨by rw [HN.out]; rfl, HB0.out.trans ((HBB.out.trans (drewB _ _ _)).mono HB0.out.size)⟩
      · have HKE : Hid (ks = ks') := Lib.hid (List.ext_getElem? (fun q => by
          by_cases h : q < ks.length
          · exact hye.out q (by omega)
          · rw [List.getElem?_eq_none (by omega), List.getElem?_eq_none (by rw [Q6.out]; omega)]))
        have HB1 := Lib.hid hB
        clear hye HKA HKB hB
        go_wp2_with fail
        clear hlt hj ho2 ho2' b5 b5'
        go_loopw [6] (fun i wr => ∃ j : Nat, j ≤ l.length ∧ i = .int .i64 j ∧ Hid (∀ q, q < j → l[q]? = l'[q]?) ∧ Below W1.heap.size W1 wr) (fun i _ => l.length - (intOf i).toNat)
        case atStart => exact ⟨0, by omega, rfl, Lib.hid (fun q h => absurd h (by omega)), HB1.out⟩
        case round =>
          obtain ⟨j, hj, rfl, hye, hB⟩ := hrel
          have c4 : wr.cell? ⟨w.heap.size, 4, none⟩ = some (.slice o l.length cap) := cell_below hB _ _ H4.out
          have c4' : wr.cell? ⟨w.heap.size + 1, 4, none⟩ = some (.slice o' l.length cap') := cell_below hB _ _ H4'.out
          by_cases hlt : j < l.length
          · have hlt' : j < l'.length := by rw [Q5.out]; exact hlt
            obtain rfl := ho (by omega)
            obtain rfl := ho' (by omega)
            have hvw := isVs_keep (cell_below hB) l a (isVs_keep (cell_below HB0.out) l a HVA.out)
            obtain ⟨c0, c1, c2, c3, cc4, c5, g0, g1, g2, g3, g4, g5, hx5⟩ := isVs_at l a j hlt hvw
            have hvw' := isVs_keep (cell_below hB) l' a' (isVs_keep (cell_below HB0.out) l' a' HVB.out)
            obtain ⟨d0, d1, d2, d3, dd4, d5, k0, k1, k2, k3, k4, k5, hy5⟩ := isVs_at l' a' j hlt' hvw'
            have hI := fun w1 => same_any N l[j] l'[j] (.agg #[c0, c1, c2, c3, cc4, c5]) (.agg #[d0, d1, d2, d3, dd4, d5]) w1 (by have := sizeVs_get l j hlt; omega)
            have e1 : l[j]? = some l[j] := List.getElem?_eq_getElem hlt
            have e2 : l'[j]? = some l'[j] := List.getElem?_eq_getElem hlt'
            have HBB := Lib.hid hB
            generalize l[j] = X at *
            generalize l'[j] = Y at *
            have hi0 : (0 : Int) ≤ (j : Int) := by omega
            have hi1 : (j : Int) < (l.length : Int) := by omega
            have HI : Hid (∀ w1, KB wr w1 → Calls Tryz.prog 43 #[.agg #[c0, c1, c2, c3, cc4, c5], .agg #[d0, d1, d2, d3, dd4, d5]] w1 fun e w' => e = .returned (.bool (sm X Y)) ∧ KB wr w') := Lib.hid fun w1 hK => Calls.kb hK (hI w1 (isV_below hK hx5) (isV_below hK hy5))
            have HYE : Hid (sm X Y = true → ∀ q, q < j + 1 → l[q]? = l'[q]?) := Lib.hid (fun hz q h => by
                by_cases e : q = j
                · subst e; rw [e1, e2, sm_eq hz]
                · exact hye.out q (by omega))
            have HNN : Hid (sm X Y = false → sm (.mk k b n s l ks) (.mk k b n s l' ks') = false) := Lib.hid (fun hz => sm_no (fun e => by
                injection e with _ _ _ _ e5 _
                rw [e5] at e1
                rw [e1] at e2
                exact sm_ne hz (Option.some.inj e2)))
            clear hI hB hvw hvw' hx5 hy5 hye e1 e2
            go_wp2_with fail
            go_still_tail 10, (by kernel_rfl)
            cases hz : sm X Y with
            | true =>
              rw [hz] at HI
              have HN := Lib.hid (HYE.out hz)
              clear hz HYE HNN
              go_wp2_with (go_at_call 43; (refine (HI.out _ (drewB1 _ _)).mono ?_); rintro e w5 ⟨rfl, hb5⟩)
              go_roundw
              case rel => exact ⟨j + 1, by omega, by go_num, HN, HBB.out.trans (hb5.mono HBB.out.size)⟩
              case measure => simp [intOf]; omega
            | false =>
              rw [hz] at HI
              have HN := Lib.hid (HNN.out hz)
              clear hz HYE HNN
              go_wp2_with (go_at_call 43; (refine (HI.out _ (drewB1 _ _)).mono ?_); rintro e w5 ⟨rfl, hb5⟩)
              go_ret
              exact ⟨by rw [HN.out]; rfl, HB0.out.trans ((HBB.out.trans (hb5.mono HBB.out.size)).mono HB0.out.size)⟩
          · have HN : Hid (sm (.mk k b n s l ks) (.mk k b n s l' ks') = true) := Lib.hid (sm_yes (by
              have : l = l' := List.ext_getElem? (fun q => by
                by_cases h : q < l.length
                · exact hye.out q (by omega)
                · rw [List.getElem?_eq_none (by omega), List.getElem?_eq_none (by rw [Q5.out]; omega)])
              rw [this, HKE.out]))
            have HBB := Lib.hid hB
            clear hye hB
            go_wp2_with fail
            go_ret
            exact ⟨by rw [HN.out]; rfl, HB0.out.trans (HBB.out.mono HB0.out.size)⟩
end Go.Proofs.YtdckldfekepopaaGreatDoor
