/-
  mayBe of package sub.
-/
import Derived.Test.YtjnoomefppncoaaDoorMf
import Derived.Test.YtjnoomefppncoaaDoorLv
set_option linter.unusedVariables false
namespace Go.Proofs.YtjnoomefppncoaaDoor
open Go.RowKit Go.Shelf

theorem loop_len (b : ByteArray) : ∀ (n i : Nat) (r : List UInt8), b.size - i ≤ n → (ByteArray.toList.loop b i r).length = r.length + (b.size - i)
  | 0, i, r, h => by
    unfold ByteArray.toList.loop
    rw [if_neg (by omega)]
    simp; omega
  | n + 1, i, r, h => by
    unfold ByteArray.toList.loop
    by_cases hi : i < b.size
    · rw [if_pos hi, loop_len b n (i + 1) _ (by omega)]
      simp; omega
    · rw [if_neg hi]
      simp; omega
theorem toList_len (b : ByteArray) : b.toList.length = b.size := by
  have := loop_len b b.size 0 [] (by omega)
  unfold ByteArray.toList
  simpa using this
theorem emp_iff (b : ByteArray) : b.toList = [] ↔ b = ⟨#[]⟩ := by
  constructor
  · intro h
    have h2 := toList_len b
    rw [h] at h2
    cases b with
    | mk d =>
      have : d.size = 0 := h2.symm
      rw [Array.eq_empty_of_size_eq_zero this]
  · rintro rfl
    have := toList_len ⟨#[]⟩
    exact List.eq_nil_of_length_eq_zero this
/-- Is a text empty? -/
def emB (b : ByteArray) : Bool := decide (b.toList = [])
/-- May an expression be a part? -/
def partB : E → Bool
  | .mk k t n m a l => decide (n = 0) && l.isEmpty && (if k = 0 then emB m && emB a && !emB t && Lib.validD t.data.toList else if k = 3 then emB t && emB a && nameB m.data.toList else if k = 4 then emB t && nameB m.data.toList && attrB a.data.toList else false)

set_option maxRecDepth 100000 in
set_option maxHeartbeats 8000000 in
theorem pmayBe_any (x : E) (v : Value) (w : World) (hE : Env w) (hx : isE w x v) :
    Calls Tryd.prog 31 #[v] w fun e w' => e = .returned (.bool (partB x)) ∧ Below w.heap.size w w' := by
  obtain ⟨k, t, n, m, a, l⟩ := x
  unfold isE at hx
  obtain ⟨lv, rfl, -, -, ht, hm, ha, ⟨ad, cap, ⟨o, rfl, -, -, -⟩, -⟩⟩ := hx
  have hr := reach_le
  have HV := Lib.hid fun ob => valid_any t (by unfold maxLen; omega) (w.alloc ob) (hE.kb ((Below.refl _ _).alloc (Nat.le_refl _) _))
  have HN := Lib.hid fun W => name_any m W (by unfold maxLen; omega)
  have HA := Lib.hid fun W => pattr_any a W (by unfold maxLen; omega)
  rw [partB]
  generalize Lib.validD t.data.toList = rv at *
  generalize nameB m.data.toList = rn at *
  generalize attrB a.data.toList = ra at *
  have HB : Hid (∀ ob, Below w.heap.size w (w.alloc ob)) := Lib.hid fun ob => (Below.refl _ _).alloc (Nat.le_refl _) _
  clear hE ht hm ha hr
  by_cases hn : n = 0
  · have hn1 : ((n : Int) != 0) = false := by rw [hn]; rfl
    rw [decide_eq_true hn, Bool.true_and]
    cases l with
    | cons y l =>
      have hl1 : (0 : Int) < ((y :: l).length : Int) := by simp only [List.length_cons]; omega
      simp only [List.isEmpty_cons, Bool.false_and]
      generalize (y :: l).length = len at *
      clear hn HV HN HA
      go_enter Tryd.func31, Tryd.ntmps31
      go_wp2_with fail
      go_ret
      exact ⟨rfl, HB.out _⟩
    | nil =>
      simp only [List.isEmpty_nil, Bool.true_and, List.length_nil]
      clear hn
      by_cases h0 : k = 0
      · rw [if_pos h0]
        subst h0
        unfold emB
        go_enter Tryd.func31, Tryd.ntmps31
        go_wp2_with (go_at_call 19; refine (HV.out _).mono ?_; rintro e w5 ⟨rfl, hb5⟩)
        all_goals
          go_ret
          first | exact ⟨by simp [*], HB.out _⟩ | exact ⟨by simp [*], (HB.out _).trans (hb5.mono (HB.out _).size)⟩
      rw [if_neg h0]
      have k0 : ((k : Int) == 0) = false := beq_eq_false_iff_ne.2 h0
      by_cases h3 : k = 3
      · rw [if_pos h3]
        subst h3
        unfold emB
        clear h0 k0
        go_enter Tryd.func31, Tryd.ntmps31
        go_wp2_with (go_at_call 26; refine (HN.out _).mono ?_; rintro e w5 ⟨rfl, rfl⟩)
        all_goals
          go_ret
          exact ⟨by simp [*], HB.out _⟩
      rw [if_neg h3]
      have k3 : ((k : Int) == 3) = false := beq_eq_false_iff_ne.2 h3
      by_cases h4 : k = 4
      · rw [if_pos h4]
        subst h4
        unfold emB
        clear h0 k0 h3 k3
        cases rn with
        | false =>
          go_enter Tryd.func31, Tryd.ntmps31
          go_wp2_with (first | (go_at_call 26; refine (HN.out _).mono ?_; rintro e w5 ⟨rfl, rfl⟩))
          all_goals
            go_ret
            exact ⟨by simp [*], HB.out _⟩
        | true =>
          go_enter Tryd.func31, Tryd.ntmps31
          go_wp2_with (first | (go_at_call 26; refine (HN.out _).mono ?_; rintro e w5 ⟨rfl, rfl⟩) | (go_at_call 14; refine (HA.out _).mono ?_; rintro e w5 ⟨rfl, rfl⟩))
          all_goals
            go_ret
            exact ⟨by simp [*], HB.out _⟩
      rw [if_neg h4]
      have k4 : ((k : Int) == 4) = false := beq_eq_false_iff_ne.2 h4
      clear h0 h3 h4
      go_enter Tryd.func31, Tryd.ntmps31
      go_wp2_with fail
      go_ret
      exact ⟨rfl, HB.out _⟩
  · have hn1 : ((n : Int) != 0) = true := by rw [bne, beq_eq_false_iff_ne.2 hn]; rfl
    rw [decide_eq_false hn]
    simp only [Bool.false_and]
    clear hn
    go_enter Tryd.func31, Tryd.ntmps31
    go_wp2_with fail
    go_ret
    exact ⟨rfl, HB.out _⟩
end Go.Proofs.YtjnoomefppncoaaDoor
