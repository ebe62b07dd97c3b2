/-
  The reference's part.
-/
import Derived.Test.YtjnoomefppncoaaDoorMg
import Derived.Test.YtjnoomefppncoaaDoorLz
set_option linter.unusedVariables false
namespace Go.Proofs.YtjnoomefppncoaaDoor
open Go.RowKit Go.Shelf

set_option maxRecDepth 100000 in
set_option maxHeartbeats 8000000 in
theorem rpart_any (x : E) (v : Value) (w : World) (hx : isE w x v) :
    Calls Tryd.prog 34 #[v] w fun e w' => e = .returned (.bool (partB x)) ∧ Below w.heap.size w w' := by
  obtain ⟨k, t, n, m, a, l⟩ := x
  unfold isE at hx
  obtain ⟨lv, rfl, -, -, ht, hm, ha, ⟨ad, cap, ⟨o, rfl, -, -, -⟩, -⟩⟩ := hx
  have hr := reach_le
  have HV := Lib.hid fun W => rvalid_any t W (by omega)
  have HN := Lib.hid fun W => rname_any m W (by unfold maxLen; omega)
  have HA := Lib.hid fun W => rattr_any a W (by unfold maxLen; omega)
  rw [partB]
  generalize Lib.validD t.data.toList = rv at *
  generalize nameB m.data.toList = rn at *
  generalize attrB a.data.toList = ra at *
  have HB : Hid (∀ ob, Below w.heap.size w (w.alloc ob)) := Lib.hid fun ob => (Below.refl _ _).alloc (Nat.le_refl _) _
  clear ht hm ha hr
  by_cases hn : n = 0
  · have hn1 : ((n : Int) != 0) = false := by rw [hn]; rfl
    rw [decide_eq_true hn, Bool.true_and]
    cases l with
    | cons y l =>
      have hl1 : (0 : Int) < ((y :: l).length : Int) := by simp only [List.length_cons]; omega
      simp only [List.isEmpty_cons, Bool.false_and]
      generalize (y :: l).length = len at *
      clear hn HV HN HA
      go_enter Tryd.func34, Tryd.ntmps34
      go_wp2_with fail
      go_ret
      exact ⟨rfl, HB.out _⟩
    | nil =>
      simp only [List.isEmpty_nil, Bool.true_and, List.length_nil]
      clear hn
      by_cases h0 : k = 0
      · rw [if_pos h0]
        subst h0
        unfold emB
        go_enter Tryd.func34, Tryd.ntmps34
        go_wp2_with (go_at_call 21; refine (HV.out _).mono ?_; rintro e w5 ⟨rfl, rfl⟩)
        all_goals
          go_ret
          exact ⟨by simp [*], HB.out _⟩
      rw [if_neg h0]
      have k0 : ((k : Int) == 0) = false := beq_eq_false_iff_ne.2 h0
      by_cases h3 : k = 3
      · rw [if_pos h3]
        subst h3
        unfold emB
        clear h0 k0
        go_enter Tryd.func34, Tryd.ntmps34
        go_wp2_with (go_at_call 29; refine (HN.out _).mono ?_; rintro e w5 ⟨rfl, rfl⟩)
        all_goals
          go_ret
          exact ⟨by simp [*], HB.out _⟩
      rw [if_neg h3]
      have k3 : ((k : Int) == 3) = false := beq_eq_false_iff_ne.2 h3
      by_cases h4 : k = 4
      · rw [if_pos h4]
        subst h4
        unfold emB
        clear h0 k0 h3 k3
        cases rn with
        | false =>
          go_enter Tryd.func34, Tryd.ntmps34
          go_wp2_with (first | (go_at_call 29; refine (HN.out _).mono ?_; rintro e w5 ⟨rfl, rfl⟩))
          all_goals
            go_ret
            exact ⟨by simp [*], HB.out _⟩
        | true =>
          go_enter Tryd.func34, Tryd.ntmps34
          go_wp2_with (first | (go_at_call 29; refine (HN.out _).mono ?_; rintro e w5 ⟨rfl, rfl⟩) | (go_at_call 15; refine (HA.out _).mono ?_; rintro e w5 ⟨rfl, rfl⟩))
          all_goals
            go_ret
            exact ⟨by simp [*], HB.out _⟩
      rw [if_neg h4]
      have k4 : ((k : Int) == 4) = false := beq_eq_false_iff_ne.2 h4
      clear h0 h3 h4
      go_enter Tryd.func34, Tryd.ntmps34
      go_wp2_with fail
      go_ret
      exact ⟨rfl, HB.out _⟩
  · have hn1 : ((n : Int) != 0) = true := by rw [bne, beq_eq_false_iff_ne.2 hn]; rfl
    rw [decide_eq_false hn]
    simp only [Bool.false_and]
    clear hn
    cases l with
    | nil =>
      simp only [List.length_nil]
      go_enter Tryd.func34, Tryd.ntmps34
      go_wp2_with fail
      go_ret
      exact ⟨rfl, HB.out _⟩
    | cons y l =>
      have hl1 : (0 : Int) < ((y :: l).length : Int) := by simp only [List.length_cons]; omega
      generalize (y :: l).length = len at *
      go_enter Tryd.func34, Tryd.ntmps34
      go_wp2_with fail
      go_ret
      exact ⟨rfl, HB.out _⟩
end Go.Proofs.YtjnoomefppncoaaDoor
