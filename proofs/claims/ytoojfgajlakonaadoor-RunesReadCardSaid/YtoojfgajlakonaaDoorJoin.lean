/-
  The statement RunesJoin: the call returns true, and writes nothing that was there.
-/
import Derived.Test.YtoojfgajlakonaaDoorWk
import Derived.Test.YtoojfgajlakonaaDoorPl2
set_option linter.unusedVariables false
namespace Go.Proofs.YtoojfgajlakonaaDoor
open Go.RowKit Go.Shelf Go.Maps

/-- A world behind some calls: the package variables' facts, and what lay below stands. -/
def K (w0 w : World) : Prop := Env w ∧ Below w0.heap.size w0 w
theorem K.refl {w : World} (h : Env w) : K w w := ⟨h, Below.refl _ _⟩
theorem K.step {w0 w w' : World} (h0 : 7 ≤ w0.heap.size) (h : K w0 w) (hb : Below w.heap.size w w') : K w0 w' := ⟨h.1.below hb h.1.1, h.2.trans (hb.mono h.2.size)⟩
theorem Calls.k {f : Nat} {args : Array Value} {w0 w : World} {v : Value} (h0 : 7 ≤ w0.heap.size) (hK : K w0 w) (h : Env w → Calls Tryd.prog f args w fun e w' => e = .returned v ∧ Below w.heap.size w w') : Calls Tryd.prog f args w fun e w' => e = .returned v ∧ K w0 w' :=
  (h hK.1).mono fun _ _ ⟨he, hb⟩ => ⟨he, hK.step h0 hb⟩

theorem nameB_ascii {l : List UInt8} (h : nameB l = true) : (∀ c ∈ l, c.toNat < 128) ∧ 1 ≤ l.length ∧ l.length ≤ 32 := by
  unfold nameB at h
  simp only [Bool.and_eq_true, decide_eq_true_eq, List.all_eq_true] at h
  obtain ⟨⟨h1, h2⟩, _, h3⟩ := h
  refine ⟨fun c hc => ?_, h1, h2⟩
  have := h3 c hc
  unfold letB digB at this
  simp only [Bool.or_eq_true, Bool.and_eq_true, decide_eq_true_eq] at this
  omega
theorem nameB_valid {l : List UInt8} (h : nameB l = true) : Lib.validD l = true ∧ countN l = l.length ∧ l.length ≤ 32 := by
  obtain ⟨h1, _, h2⟩ := nameB_ascii h
  have hv := valid_ascii l h1
  exact ⟨hv, by unfold countN; rw [hv, if_pos rfl]; exact steps_ascii l 0 h1, h2⟩
theorem nameB_append {a b : List UInt8} (ha : nameB a = true) (hb : nameB b = true) : nameB (a ++ b) = decide (a.length + b.length ≤ 32) := by
  have hla := (nameB_ascii ha).2.1
  unfold nameB at *
  simp only [Bool.and_eq_true, decide_eq_true_eq] at ha hb
  obtain ⟨⟨h1, h2⟩, h3, h4⟩ := ha
  obtain ⟨⟨k1, k2⟩, k3, k4⟩ := hb
  have e : (a ++ b).getD 0 0 = a.getD 0 0 := by rw [List.getD, List.getD, List.getElem?_append_left (by omega)]
  rw [e, h3, List.all_append, h4, k4, List.length_append, decide_eq_true (by omega : 1 ≤ a.length + b.length)]
  simp
theorem count_append {a b : List UInt8} (ha : Lib.validD a = true) (hb : Lib.validD b = true) : Lib.validD (a ++ b) = true ∧ countN (a ++ b) = countN a + countN b := by
  have hv := valid_append b ha
  refine ⟨hv.trans hb, ?_⟩
  unfold countN
  rw [hv, ha, hb, if_pos rfl, if_pos rfl, if_pos rfl]
  exact steps_append_len ha
theorem countN_le (l : List UInt8) : countN l ≤ l.length := by
  unfold countN
  split
  · exact steps_length l
  · exact Nat.zero_le _

set_option maxHeartbeats 4000000 in
set_option maxRecDepth 100000 in
theorem join_long (s t : ByteArray) (w : World) (hE : Env w) (hs : s.size ≤ maxLen) (ht : t.size ≤ maxLen) (h : 1000 < s.size ∨ 1000 < t.size) :
    Calls Tryd.prog 8 #[.string s, .string t] w fun e w' => e = .returned (.bool true) ∧ Below w.heap.size w w' := by
  have HW := Lib.hid (wakes_any w hE)
  have hs9 : s.size ≤ 9223372036854775807 := by unfold maxLen at hs; omega
  have ht9 : t.size ≤ 9223372036854775807 := by unfold maxLen at ht; omega
  clear hs ht hE
  by_cases h1 : 1000 < s.size
  · clear h
    go_enter Tryd.func8, Tryd.ntmps8
    go_wp2_with (go_at_call 9; refine HW.out.mono ?_; rintro e w' ⟨rfl, hb⟩)
    go_ret
    exact ⟨rfl, hb⟩
  · have h2 := h.resolve_left h1
    clear h
    go_enter Tryd.func8, Tryd.ntmps8
    go_wp2_with (go_at_call 9; refine HW.out.mono ?_; rintro e w' ⟨rfl, hb⟩)
    go_ret
    exact ⟨rfl, hb⟩

theorem data_append (s t : ByteArray) : (s ++ t).data.toList = s.data.toList ++ t.data.toList := by simp
theorem size_append (s t : ByteArray) : (s ++ t).size = s.size + t.size := by simp

set_option maxHeartbeats 4000000 in
set_option maxRecDepth 100000 in
/-- The walk, by what the calls answer. -/
theorem join_walk (s t : ByteArray) (w : World) (hE : Env w) (hs : s.size ≤ 1000) (ht : t.size ≤ 1000) (vS vT vST nS nT nST : Bool) (cS cT cST : Nat)
    (HVs : Hid (∀ w1, K w w1 → Calls Tryd.prog 12 #[.string s] w1 fun e w' => e = .returned (.bool vS) ∧ K w w'))
    (HVt : Hid (∀ w1, K w w1 → Calls Tryd.prog 12 #[.string t] w1 fun e w' => e = .returned (.bool vT) ∧ K w w'))
    (HVst : Hid (∀ w1, K w w1 → Calls Tryd.prog 12 #[.string (s ++ t)] w1 fun e w' => e = .returned (.bool vST) ∧ K w w'))
    (HCs : Hid (∀ w1, K w w1 → Calls Tryd.prog 16 #[.string s] w1 fun e w' => e = .returned (.int .i64 (cS : Nat)) ∧ K w w'))
    (HCt : Hid (∀ w1, K w w1 → Calls Tryd.prog 16 #[.string t] w1 fun e w' => e = .returned (.int .i64 (cT : Nat)) ∧ K w w'))
    (HCst : Hid (∀ w1, K w w1 → Calls Tryd.prog 16 #[.string (s ++ t)] w1 fun e w' => e = .returned (.int .i64 (cST : Nat)) ∧ K w w'))
    (HNs : Hid (∀ w1, K w w1 → Calls Tryd.prog 14 #[.string s] w1 fun e w' => e = .returned (.bool nS) ∧ K w w'))
    (HNt : Hid (∀ w1, K w w1 → Calls Tryd.prog 14 #[.string t] w1 fun e w' => e = .returned (.bool nT) ∧ K w w'))
    (HNst : Hid (∀ w1, K w w1 → Calls Tryd.prog 14 #[.string (s ++ t)] w1 fun e w' => e = .returned (.bool nST) ∧ K w w'))
    (HW : Hid (∀ w1, K w w1 → Calls Tryd.prog 9 #[] w1 fun e w' => e = .returned (.bool true) ∧ K w w'))
    (hv : vS = true → vT = true → vST = true ∧ cST = cS + cT) (hcs : cS ≤ s.size) (hct : cT ≤ t.size)
    (hn : nS = true → vS = true ∧ cS = s.size ∧ s.size ≤ 32) (hm : nT = true → vT = true) (hnn : nS = true → nT = true → nST = decide (s.size + t.size ≤ 32)) :
    Calls Tryd.prog 8 #[.string s, .string t] w fun e w' => e = .returned (.bool true) ∧ Below w.heap.size w w' := by
  have hK0 := K.refl hE
  have fin : ∀ (e : Ending) (w' : World), e = .returned (.bool true) ∧ K w w' → e = .returned (.bool true) ∧ Below w.heap.size w w' := fun e w' h => ⟨h.1, h.2.2⟩
  refine Calls.mono ?_ fin
  clear fin
  cases vS with
  | false =>
    cases nS with
    | true => exact absurd (hn rfl).1 (by decide)
    | false =>
      clear hv hn hm hnn hE
      go_enter Tryd.func8, Tryd.ntmps8
      go_wp2_with (first | (go_at_call 12; (with_reducible refine (HVs.out _ (by assumption)).mono ?_); rintro e w' ⟨rfl, hK⟩) | (go_at_call 12; (with_reducible refine (HVt.out _ (by assumption)).mono ?_); rintro e w' ⟨rfl, hK⟩) | (go_at_call 12; (with_reducible refine (HVst.out _ (by assumption)).mono ?_); rintro e w' ⟨rfl, hK⟩) | (go_at_call 16; (with_reducible refine (HCst.out _ (by assumption)).mono ?_); rintro e w' ⟨rfl, hK⟩) | (go_at_call 16; (with_reducible refine (HCs.out _ (by assumption)).mono ?_); rintro e w' ⟨rfl, hK⟩) | (go_at_call 16; (with_reducible refine (HCt.out _ (by assumption)).mono ?_); rintro e w' ⟨rfl, hK⟩) | (go_at_call 14; (with_reducible refine (HNs.out _ (by assumption)).mono ?_); rintro e w' ⟨rfl, hK⟩) | (go_at_call 14; (with_reducible refine (HNt.out _ (by assumption)).mono ?_); rintro e w' ⟨rfl, hK⟩) | (go_at_call 14; (with_reducible refine (HNst.out _ (by assumption)).mono ?_); rintro e w' ⟨rfl, hK⟩) | (go_at_call 9; (with_reducible refine (HW.out _ (by assumption)).mono ?_); rintro e w' ⟨rfl, hK⟩))
      go_ret
      exact ⟨rfl, by assumption⟩
  | true =>
    cases vT with
    | false =>
      cases nT with
      | true => exact absurd (hm rfl) (by decide)
      | false =>
        cases nS with
        | false =>
          clear hv hn hm hnn hE
          go_enter Tryd.func8, Tryd.ntmps8
          go_wp2_with (first | (go_at_call 12; (with_reducible refine (HVs.out _ (by assumption)).mono ?_); rintro e w' ⟨rfl, hK⟩) | (go_at_call 12; (with_reducible refine (HVt.out _ (by assumption)).mono ?_); rintro e w' ⟨rfl, hK⟩) | (go_at_call 12; (with_reducible refine (HVst.out _ (by assumption)).mono ?_); rintro e w' ⟨rfl, hK⟩) | (go_at_call 16; (with_reducible refine (HCst.out _ (by assumption)).mono ?_); rintro e w' ⟨rfl, hK⟩) | (go_at_call 16; (with_reducible refine (HCs.out _ (by assumption)).mono ?_); rintro e w' ⟨rfl, hK⟩) | (go_at_call 16; (with_reducible refine (HCt.out _ (by assumption)).mono ?_); rintro e w' ⟨rfl, hK⟩) | (go_at_call 14; (with_reducible refine (HNs.out _ (by assumption)).mono ?_); rintro e w' ⟨rfl, hK⟩) | (go_at_call 14; (with_reducible refine (HNt.out _ (by assumption)).mono ?_); rintro e w' ⟨rfl, hK⟩) | (go_at_call 14; (with_reducible refine (HNst.out _ (by assumption)).mono ?_); rintro e w' ⟨rfl, hK⟩) | (go_at_call 9; (with_reducible refine (HW.out _ (by assumption)).mono ?_); rintro e w' ⟨rfl, hK⟩))
          go_ret
          exact ⟨rfl, by assumption⟩
        | true =>
          obtain ⟨_, h1, h2⟩ := hn rfl
          have h3 : ((cS : Int) != (s.size : Int)) = false := by rw [h1]; simp
          clear hv hn hm hnn hE h1
          go_enter Tryd.func8, Tryd.ntmps8
          go_wp2_with (first | (go_at_call 12; (with_reducible refine (HVs.out _ (by assumption)).mono ?_); rintro e w' ⟨rfl, hK⟩) | (go_at_call 12; (with_reducible refine (HVt.out _ (by assumption)).mono ?_); rintro e w' ⟨rfl, hK⟩) | (go_at_call 12; (with_reducible refine (HVst.out _ (by assumption)).mono ?_); rintro e w' ⟨rfl, hK⟩) | (go_at_call 16; (with_reducible refine (HCst.out _ (by assumption)).mono ?_); rintro e w' ⟨rfl, hK⟩) | (go_at_call 16; (with_reducible refine (HCs.out _ (by assumption)).mono ?_); rintro e w' ⟨rfl, hK⟩) | (go_at_call 16; (with_reducible refine (HCt.out _ (by assumption)).mono ?_); rintro e w' ⟨rfl, hK⟩) | (go_at_call 14; (with_reducible refine (HNs.out _ (by assumption)).mono ?_); rintro e w' ⟨rfl, hK⟩) | (go_at_call 14; (with_reducible refine (HNt.out _ (by assumption)).mono ?_); rintro e w' ⟨rfl, hK⟩) | (go_at_call 14; (with_reducible refine (HNst.out _ (by assumption)).mono ?_); rintro e w' ⟨rfl, hK⟩) | (go_at_call 9; (with_reducible refine (HW.out _ (by assumption)).mono ?_); rintro e w' ⟨rfl, hK⟩))
          go_ret
          exact ⟨rfl, by assumption⟩
    | true =>
      obtain ⟨rfl, h4⟩ := hv rfl rfl
      have h5 : ((cST : Int) != (cS : Int) + (cT : Int)) = false := by rw [h4]; simp
      clear hv h4
      cases nS with
      | false =>
        clear hn hm hnn hE
        go_enter Tryd.func8, Tryd.ntmps8
        go_wp2_with (first | (go_at_call 12; (with_reducible refine (HVs.out _ (by assumption)).mono ?_); rintro e w' ⟨rfl, hK⟩) | (go_at_call 12; (with_reducible refine (HVt.out _ (by assumption)).mono ?_); rintro e w' ⟨rfl, hK⟩) | (go_at_call 12; (with_reducible refine (HVst.out _ (by assumption)).mono ?_); rintro e w' ⟨rfl, hK⟩) | (go_at_call 16; (with_reducible refine (HCst.out _ (by assumption)).mono ?_); rintro e w' ⟨rfl, hK⟩) | (go_at_call 16; (with_reducible refine (HCs.out _ (by assumption)).mono ?_); rintro e w' ⟨rfl, hK⟩) | (go_at_call 16; (with_reducible refine (HCt.out _ (by assumption)).mono ?_); rintro e w' ⟨rfl, hK⟩) | (go_at_call 14; (with_reducible refine (HNs.out _ (by assumption)).mono ?_); rintro e w' ⟨rfl, hK⟩) | (go_at_call 14; (with_reducible refine (HNt.out _ (by assumption)).mono ?_); rintro e w' ⟨rfl, hK⟩) | (go_at_call 14; (with_reducible refine (HNst.out _ (by assumption)).mono ?_); rintro e w' ⟨rfl, hK⟩) | (go_at_call 9; (with_reducible refine (HW.out _ (by assumption)).mono ?_); rintro e w' ⟨rfl, hK⟩))
        go_ret
        exact ⟨rfl, by assumption⟩
      | true =>
        obtain ⟨_, h1, h2⟩ := hn rfl
        have h3 : ((cS : Int) != (s.size : Int)) = false := by rw [h1]; simp
        cases nT with
        | false =>
          clear hn hm hnn hE h1
          go_enter Tryd.func8, Tryd.ntmps8
          go_wp2_with (first | (go_at_call 12; (with_reducible refine (HVs.out _ (by assumption)).mono ?_); rintro e w' ⟨rfl, hK⟩) | (go_at_call 12; (with_reducible refine (HVt.out _ (by assumption)).mono ?_); rintro e w' ⟨rfl, hK⟩) | (go_at_call 12; (with_reducible refine (HVst.out _ (by assumption)).mono ?_); rintro e w' ⟨rfl, hK⟩) | (go_at_call 16; (with_reducible refine (HCst.out _ (by assumption)).mono ?_); rintro e w' ⟨rfl, hK⟩) | (go_at_call 16; (with_reducible refine (HCs.out _ (by assumption)).mono ?_); rintro e w' ⟨rfl, hK⟩) | (go_at_call 16; (with_reducible refine (HCt.out _ (by assumption)).mono ?_); rintro e w' ⟨rfl, hK⟩) | (go_at_call 14; (with_reducible refine (HNs.out _ (by assumption)).mono ?_); rintro e w' ⟨rfl, hK⟩) | (go_at_call 14; (with_reducible refine (HNt.out _ (by assumption)).mono ?_); rintro e w' ⟨rfl, hK⟩) | (go_at_call 14; (with_reducible refine (HNst.out _ (by assumption)).mono ?_); rintro e w' ⟨rfl, hK⟩) | (go_at_call 9; (with_reducible refine (HW.out _ (by assumption)).mono ?_); rintro e w' ⟨rfl, hK⟩))
          go_ret
          exact ⟨rfl, by assumption⟩
        | true =>
          have h6 := hnn rfl rfl
          by_cases h7 : s.size + t.size ≤ 32
          · rw [decide_eq_true h7] at h6
            subst h6
            have h7' : (s.size : Int) + (t.size : Int) ≤ 32 := by omega
            clear hn hm hnn hE h1 h7
            go_enter Tryd.func8, Tryd.ntmps8
            go_wp2_with (first | (go_at_call 12; (with_reducible refine (HVs.out _ (by assumption)).mono ?_); rintro e w' ⟨rfl, hK⟩) | (go_at_call 12; (with_reducible refine (HVt.out _ (by assumption)).mono ?_); rintro e w' ⟨rfl, hK⟩) | (go_at_call 12; (with_reducible refine (HVst.out _ (by assumption)).mono ?_); rintro e w' ⟨rfl, hK⟩) | (go_at_call 16; (with_reducible refine (HCst.out _ (by assumption)).mono ?_); rintro e w' ⟨rfl, hK⟩) | (go_at_call 16; (with_reducible refine (HCs.out _ (by assumption)).mono ?_); rintro e w' ⟨rfl, hK⟩) | (go_at_call 16; (with_reducible refine (HCt.out _ (by assumption)).mono ?_); rintro e w' ⟨rfl, hK⟩) | (go_at_call 14; (with_reducible refine (HNs.out _ (by assumption)).mono ?_); rintro e w' ⟨rfl, hK⟩) | (go_at_call 14; (with_reducible refine (HNt.out _ (by assumption)).mono ?_); rintro e w' ⟨rfl, hK⟩) | (go_at_call 14; (with_reducible refine (HNst.out _ (by assumption)).mono ?_); rintro e w' ⟨rfl, hK⟩) | (go_at_call 9; (with_reducible refine (HW.out _ (by assumption)).mono ?_); rintro e w' ⟨rfl, hK⟩))
            go_ret
            exact ⟨rfl, by assumption⟩
          · rw [decide_eq_false h7] at h6
            subst h6
            have h7' : ¬ (s.size : Int) + (t.size : Int) ≤ 32 := by omega
            clear hn hm hnn hE h1 h7
            go_enter Tryd.func8, Tryd.ntmps8
            go_wp2_with (first | (go_at_call 12; (with_reducible refine (HVs.out _ (by assumption)).mono ?_); rintro e w' ⟨rfl, hK⟩) | (go_at_call 12; (with_reducible refine (HVt.out _ (by assumption)).mono ?_); rintro e w' ⟨rfl, hK⟩) | (go_at_call 12; (with_reducible refine (HVst.out _ (by assumption)).mono ?_); rintro e w' ⟨rfl, hK⟩) | (go_at_call 16; (with_reducible refine (HCst.out _ (by assumption)).mono ?_); rintro e w' ⟨rfl, hK⟩) | (go_at_call 16; (with_reducible refine (HCs.out _ (by assumption)).mono ?_); rintro e w' ⟨rfl, hK⟩) | (go_at_call 16; (with_reducible refine (HCt.out _ (by assumption)).mono ?_); rintro e w' ⟨rfl, hK⟩) | (go_at_call 14; (with_reducible refine (HNs.out _ (by assumption)).mono ?_); rintro e w' ⟨rfl, hK⟩) | (go_at_call 14; (with_reducible refine (HNt.out _ (by assumption)).mono ?_); rintro e w' ⟨rfl, hK⟩) | (go_at_call 14; (with_reducible refine (HNst.out _ (by assumption)).mono ?_); rintro e w' ⟨rfl, hK⟩) | (go_at_call 9; (with_reducible refine (HW.out _ (by assumption)).mono ?_); rintro e w' ⟨rfl, hK⟩))
            go_ret
            exact ⟨ret_bool (by rw [decide_eq_false (by omega)]; rfl), by assumption⟩

theorem join_any (s t : ByteArray) (w : World) (hE : Env w) (hs : s.size ≤ maxLen) (ht : t.size ≤ maxLen) :
    Calls Tryd.prog 8 #[.string s, .string t] w fun e w' => e = .returned (.bool true) ∧ Below w.heap.size w w' := by
  by_cases h : 1000 < s.size ∨ 1000 < t.size
  · exact join_long s t w hE hs ht h
  have hs1 : s.size ≤ 1000 := by omega
  have ht1 : t.size ≤ 1000 := by omega
  have hst : (s ++ t).size ≤ maxLen := by rw [size_append]; unfold maxLen; omega
  have h7 := hE.1
  refine join_walk s t w hE hs1 ht1 (Lib.validD s.data.toList) (Lib.validD t.data.toList) (Lib.validD (s.data.toList ++ t.data.toList)) (nameB s.data.toList) (nameB t.data.toList) (nameB (s.data.toList ++ t.data.toList)) (countN s.data.toList) (countN t.data.toList) (countN (s.data.toList ++ t.data.toList))
    (Lib.hid fun w1 hK => Calls.k h7 hK fun hE1 => valid_any s w1 hs hE1.2.1) (Lib.hid fun w1 hK => Calls.k h7 hK fun hE1 => valid_any t w1 ht hE1.2.1)
    (Lib.hid fun w1 hK => Calls.k h7 hK fun hE1 => by have := valid_any (s ++ t) w1 hst hE1.2.1; rw [data_append] at this; exact this)
    (Lib.hid fun w1 hK => Calls.k h7 hK fun hE1 => count_any s w1 hs (by have := hE1.1; omega) hE1.2.1) (Lib.hid fun w1 hK => Calls.k h7 hK fun hE1 => count_any t w1 ht (by have := hE1.1; omega) hE1.2.1)
    (Lib.hid fun w1 hK => Calls.k h7 hK fun hE1 => by have := count_any (s ++ t) w1 hst (by have := hE1.1; omega) hE1.2.1; rw [data_append] at this; exact this)
    (Lib.hid fun w1 hK => Calls.k h7 hK fun _ => (name_any s w1 hs).mono fun _ _ ⟨he, hw⟩ => ⟨he, hw ▸ Below.refl _ _⟩) (Lib.hid fun w1 hK => Calls.k h7 hK fun _ => (name_any t w1 ht).mono fun _ _ ⟨he, hw⟩ => ⟨he, hw ▸ Below.refl _ _⟩)
    (Lib.hid fun w1 hK => Calls.k h7 hK fun _ => (show Calls Tryd.prog 14 #[.string (s ++ t)] w1 fun e w' => e = .returned (.bool (nameB (s.data.toList ++ t.data.toList))) ∧ Below w1.heap.size w1 w' by have := name_any (s ++ t) w1 hst; rw [data_append] at this; exact this.mono fun _ _ ⟨he, hw⟩ => ⟨he, hw ▸ Below.refl _ _⟩))
    (Lib.hid fun w1 hK => Calls.k h7 hK fun hE1 => wakes_any w1 hE1) (fun h1 h2 => count_append h1 h2) ?_ ?_ ?_ (fun h => (nameB_valid h).1) ?_
  · have := countN_le s.data.toList; rw [toList_length] at this; exact this
  · have := countN_le t.data.toList; rw [toList_length] at this; exact this
  · intro h
    have := nameB_valid h
    rw [toList_length] at this
    exact this
  · intro h1 h2
    have := nameB_append h1 h2
    rw [toList_length, toList_length] at this
    exact this
end Go.Proofs.YtoojfgajlakonaaDoor
