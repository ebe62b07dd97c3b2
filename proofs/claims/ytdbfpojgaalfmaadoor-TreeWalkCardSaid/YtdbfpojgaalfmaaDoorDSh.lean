/-
  The program's shaped: is the kind one, and are the fields zero that it does not name?
-/
import Derived.Test.YtdbfpojgaalfmaaDoorTP
set_option linter.unusedVariables false
namespace Go.Proofs.YtdbfpojgaalfmaaDoor
open Go.RowKit

set_option maxRecDepth 100000 in
set_option maxHeartbeats 16000000 in
theorem shaped_any (x : V) (v : Value) (w : World) (h : isV w x v) :
    Calls Tryd.prog 85 #[v] w fun e w' => e = .returned (.bool (plainB x)) ∧ Below w.heap.size w w' := by
  obtain ⟨k, b, n, s, l, ks⟩ := x
  unfold isV at h
  obtain ⟨lv, kv, rfl, hk, hn, hs, ⟨a, cap, ⟨o, rfl, hc1, hc2, ho⟩, hvs⟩, ⟨a2, cap2, ⟨o2, rfl, hc3, hc4, ho2⟩, hks⟩⟩ := h
  unfold maxLen at hs hc2 hc4
  clear hk hn ho hvs ho2 hks
  by_cases hk0 : k = 0
  · subst hk0
    cases b with
    | true =>
      have HP : Hid (plainB (.mk 0 true n s l ks) = false) := Lib.hid (plain_no (fun h => by have := h.2.1 rfl; omega))
      go_enter Tryd.func85, Tryd.ntmps85
      go_wp2_with fail
      go_ret
      exact ⟨by rw [HP.out]; rfl, kbA⟩
    | false =>
      by_cases h2 : n ≠ 0
      · have HP : Hid (plainB (.mk 0 false n s l ks) = false) := Lib.hid (plain_no (fun h => by have := h.2.2.1 h2; omega))
        have n2 : (n == 0) = false := beqI h2
        clear h2
        go_enter Tryd.func85, Tryd.ntmps85
        go_wp2_with fail
        go_ret
        exact ⟨by rw [HP.out]; rfl, kbA⟩
      obtain rfl : n = 0 := Decidable.not_not.1 h2
      clear h2
      by_cases h3 : s ≠ ⟨#[]⟩
      · have HP : Hid (plainB (.mk 0 false 0 s l ks) = false) := Lib.hid (plain_no (fun h => by have := h.2.2.2.1 h3; omega))
        have s1 := emp_no h3
        have s2 := beq_toList h3
        clear h3
        go_enter Tryd.func85, Tryd.ntmps85
        go_wp2_with fail
        go_ret
        exact ⟨by rw [HP.out]; rfl, kbA⟩
      obtain rfl : s = ⟨#[]⟩ := Classical.not_not.1 h3
      clear h3
      by_cases h4 : l ≠ []
      · have HP : Hid (plainB (.mk 0 false 0 ⟨#[]⟩ l ks) = false) := Lib.hid (plain_no (fun h => by have := h.2.2.2.2.1 h4; omega))
        have l0 : 0 < l.length := List.length_pos_iff.2 h4
        have l1 : ((l.length : Int) == 0) = false := beqI (by omega)
        clear h4
        go_enter Tryd.func85, Tryd.ntmps85
        go_wp2_with fail
        go_ret
        exact ⟨by rw [HP.out]; rfl, kbA⟩
      obtain rfl : l = [] := Classical.not_not.1 h4
      clear h4
      by_cases hz : ks.length ≠ 0
      · have HP : Hid (plainB (.mk 0 false 0 ⟨#[]⟩ [] ks) = false) := Lib.hid (plain_no (fun h => hz (h.2.2.2.2.2.2 (by omega))))
        have z1 : ((ks.length : Int) == 0) = false := beqI (by omega)
        clear hz
        go_enter Tryd.func85, Tryd.ntmps85
        go_wp2_with fail
        go_ret
        exact ⟨by rw [HP.out]; rfl, kbA⟩
      replace hz : ks.length = 0 := Decidable.not_not.1 hz
      have z1 : ((ks.length : Int) == 0) = true := by rw [beq_iff_eq]; omega
      have HP : Hid (plainB (.mk 0 false 0 ⟨#[]⟩ [] ks) = true) := Lib.hid (plain_yes (by unfold plainP; refine ⟨by omega, ?_, ?_, ?_, ?_, ?_, fun _ => hz⟩ <;> intro h <;> first | omega | (exact absurd rfl h) | (exact absurd h (by simp)) | contradiction))
      clear hz
      go_enter Tryd.func85, Tryd.ntmps85
      go_wp2_with fail
      go_ret
      exact ⟨by rw [HP.out]; rfl, kbA⟩
  by_cases hk1 : k = 1
  · subst hk1
    by_cases h2 : n ≠ 0
    · have HP : Hid (plainB (.mk 1 b n s l ks) = false) := Lib.hid (plain_no (fun h => by have := h.2.2.1 h2; omega))
      have n2 : (n == 0) = false := beqI h2
      clear h2
      go_enter Tryd.func85, Tryd.ntmps85
      go_wp2_with fail
      go_ret
      exact ⟨by rw [HP.out]; rfl, kbA⟩
    obtain rfl : n = 0 := Decidable.not_not.1 h2
    clear h2
    by_cases h3 : s ≠ ⟨#[]⟩
    · have HP : Hid (plainB (.mk 1 b 0 s l ks) = false) := Lib.hid (plain_no (fun h => by have := h.2.2.2.1 h3; omega))
      have s1 := emp_no h3
      have s2 := beq_toList h3
      clear h3
      go_enter Tryd.func85, Tryd.ntmps85
      go_wp2_with fail
      go_ret
      exact ⟨by rw [HP.out]; rfl, kbA⟩
    obtain rfl : s = ⟨#[]⟩ := Classical.not_not.1 h3
    clear h3
    by_cases h4 : l ≠ []
    · have HP : Hid (plainB (.mk 1 b 0 ⟨#[]⟩ l ks) = false) := Lib.hid (plain_no (fun h => by have := h.2.2.2.2.1 h4; omega))
      have l0 : 0 < l.length := List.length_pos_iff.2 h4
      have l1 : ((l.length : Int) == 0) = false := beqI (by omega)
      clear h4
      go_enter Tryd.func85, Tryd.ntmps85
      go_wp2_with fail
      go_ret
      exact ⟨by rw [HP.out]; rfl, kbA⟩
    obtain rfl : l = [] := Classical.not_not.1 h4
    clear h4
    by_cases hz : ks.length ≠ 0
    · have HP : Hid (plainB (.mk 1 b 0 ⟨#[]⟩ [] ks) = false) := Lib.hid (plain_no (fun h => hz (h.2.2.2.2.2.2 (by omega))))
      have z1 : ((ks.length : Int) == 0) = false := beqI (by omega)
      clear hz
      go_enter Tryd.func85, Tryd.ntmps85
      go_wp2_with fail
      go_ret
      exact ⟨by rw [HP.out]; rfl, kbA⟩
    replace hz : ks.length = 0 := Decidable.not_not.1 hz
    have z1 : ((ks.length : Int) == 0) = true := by rw [beq_iff_eq]; omega
    have HP : Hid (plainB (.mk 1 b 0 ⟨#[]⟩ [] ks) = true) := Lib.hid (plain_yes (by unfold plainP; refine ⟨by omega, ?_, ?_, ?_, ?_, ?_, fun _ => hz⟩ <;> intro h <;> first | omega | (exact absurd rfl h) | (exact absurd h (by simp)) | contradiction))
    clear hz
    go_enter Tryd.func85, Tryd.ntmps85
    go_wp2_with fail
    go_ret
    exact ⟨by rw [HP.out]; rfl, kbA⟩
  by_cases hk2 : k = 2
  · subst hk2
    cases b with
    | true =>
      have HP : Hid (plainB (.mk 2 true n s l ks) = false) := Lib.hid (plain_no (fun h => by have := h.2.1 rfl; omega))
      go_enter Tryd.func85, Tryd.ntmps85
      go_wp2_with fail
      go_ret
      exact ⟨by rw [HP.out]; rfl, kbA⟩
    | false =>
      by_cases h3 : s ≠ ⟨#[]⟩
      · have HP : Hid (plainB (.mk 2 false n s l ks) = false) := Lib.hid (plain_no (fun h => by have := h.2.2.2.1 h3; omega))
        have s1 := emp_no h3
        have s2 := beq_toList h3
        clear h3
        go_enter Tryd.func85, Tryd.ntmps85
        go_wp2_with fail
        go_ret
        exact ⟨by rw [HP.out]; rfl, kbA⟩
      obtain rfl : s = ⟨#[]⟩ := Classical.not_not.1 h3
      clear h3
      by_cases h4 : l ≠ []
      · have HP : Hid (plainB (.mk 2 false n ⟨#[]⟩ l ks) = false) := Lib.hid (plain_no (fun h => by have := h.2.2.2.2.1 h4; omega))
        have l0 : 0 < l.length := List.length_pos_iff.2 h4
        have l1 : ((l.length : Int) == 0) = false := beqI (by omega)
        clear h4
        go_enter Tryd.func85, Tryd.ntmps85
        go_wp2_with fail
        go_ret
        exact ⟨by rw [HP.out]; rfl, kbA⟩
      obtain rfl : l = [] := Classical.not_not.1 h4
      clear h4
      by_cases hz : ks.length ≠ 0
      · have HP : Hid (plainB (.mk 2 false n ⟨#[]⟩ [] ks) = false) := Lib.hid (plain_no (fun h => hz (h.2.2.2.2.2.2 (by omega))))
        have z1 : ((ks.length : Int) == 0) = false := beqI (by omega)
        clear hz
        go_enter Tryd.func85, Tryd.ntmps85
        go_wp2_with fail
        go_ret
        exact ⟨by rw [HP.out]; rfl, kbA⟩
      replace hz : ks.length = 0 := Decidable.not_not.1 hz
      have z1 : ((ks.length : Int) == 0) = true := by rw [beq_iff_eq]; omega
      have HP : Hid (plainB (.mk 2 false n ⟨#[]⟩ [] ks) = true) := Lib.hid (plain_yes (by unfold plainP; refine ⟨by omega, ?_, ?_, ?_, ?_, ?_, fun _ => hz⟩ <;> intro h <;> first | omega | (exact absurd rfl h) | (exact absurd h (by simp)) | contradiction))
      clear hz
      go_enter Tryd.func85, Tryd.ntmps85
      go_wp2_with fail
      go_ret
      exact ⟨by rw [HP.out]; rfl, kbA⟩
  by_cases hk3 : k = 3
  · subst hk3
    cases b with
    | true =>
      have HP : Hid (plainB (.mk 3 true n s l ks) = false) := Lib.hid (plain_no (fun h => by have := h.2.1 rfl; omega))
      go_enter Tryd.func85, Tryd.ntmps85
      go_wp2_with fail
      go_ret
      exact ⟨by rw [HP.out]; rfl, kbA⟩
    | false =>
      by_cases h2 : n ≠ 0
      · have HP : Hid (plainB (.mk 3 false n s l ks) = false) := Lib.hid (plain_no (fun h => by have := h.2.2.1 h2; omega))
        have n2 : (n == 0) = false := beqI h2
        clear h2
        go_enter Tryd.func85, Tryd.ntmps85
        go_wp2_with fail
        go_ret
        exact ⟨by rw [HP.out]; rfl, kbA⟩
      obtain rfl : n = 0 := Decidable.not_not.1 h2
      clear h2
      by_cases h4 : l ≠ []
      · have HP : Hid (plainB (.mk 3 false 0 s l ks) = false) := Lib.hid (plain_no (fun h => by have := h.2.2.2.2.1 h4; omega))
        have l0 : 0 < l.length := List.length_pos_iff.2 h4
        have l1 : ((l.length : Int) == 0) = false := beqI (by omega)
        clear h4
        go_enter Tryd.func85, Tryd.ntmps85
        go_wp2_with fail
        go_ret
        exact ⟨by rw [HP.out]; rfl, kbA⟩
      obtain rfl : l = [] := Classical.not_not.1 h4
      clear h4
      by_cases hz : ks.length ≠ 0
      · have HP : Hid (plainB (.mk 3 false 0 s [] ks) = false) := Lib.hid (plain_no (fun h => hz (h.2.2.2.2.2.2 (by omega))))
        have z1 : ((ks.length : Int) == 0) = false := beqI (by omega)
        clear hz
        go_enter Tryd.func85, Tryd.ntmps85
        go_wp2_with fail
        go_ret
        exact ⟨by rw [HP.out]; rfl, kbA⟩
      replace hz : ks.length = 0 := Decidable.not_not.1 hz
      have z1 : ((ks.length : Int) == 0) = true := by rw [beq_iff_eq]; omega
      have HP : Hid (plainB (.mk 3 false 0 s [] ks) = true) := Lib.hid (plain_yes (by unfold plainP; refine ⟨by omega, ?_, ?_, ?_, ?_, ?_, fun _ => hz⟩ <;> intro h <;> first | omega | (exact absurd rfl h) | (exact absurd h (by simp)) | contradiction))
      clear hz
      go_enter Tryd.func85, Tryd.ntmps85
      go_wp2_with fail
      go_ret
      exact ⟨by rw [HP.out]; rfl, kbA⟩
  by_cases hk4 : k = 4
  · subst hk4
    cases b with
    | true =>
      have HP : Hid (plainB (.mk 4 true n s l ks) = false) := Lib.hid (plain_no (fun h => by have := h.2.1 rfl; omega))
      go_enter Tryd.func85, Tryd.ntmps85
      go_wp2_with fail
      go_ret
      exact ⟨by rw [HP.out]; rfl, kbA⟩
    | false =>
      by_cases h2 : n ≠ 0
      · have HP : Hid (plainB (.mk 4 false n s l ks) = false) := Lib.hid (plain_no (fun h => by have := h.2.2.1 h2; omega))
        have n2 : (n == 0) = false := beqI h2
        clear h2
        go_enter Tryd.func85, Tryd.ntmps85
        go_wp2_with fail
        go_ret
        exact ⟨by rw [HP.out]; rfl, kbA⟩
      obtain rfl : n = 0 := Decidable.not_not.1 h2
      clear h2
      by_cases h3 : s ≠ ⟨#[]⟩
      · have HP : Hid (plainB (.mk 4 false 0 s l ks) = false) := Lib.hid (plain_no (fun h => by have := h.2.2.2.1 h3; omega))
        have s1 := emp_no h3
        have s2 := beq_toList h3
        clear h3
        go_enter Tryd.func85, Tryd.ntmps85
        go_wp2_with fail
        go_ret
        exact ⟨by rw [HP.out]; rfl, kbA⟩
      obtain rfl : s = ⟨#[]⟩ := Classical.not_not.1 h3
      clear h3
      by_cases hz : ks.length ≠ 0
      · have HP : Hid (plainB (.mk 4 false 0 ⟨#[]⟩ l ks) = false) := Lib.hid (plain_no (fun h => hz (h.2.2.2.2.2.2 (by omega))))
        have z1 : ((ks.length : Int) == 0) = false := beqI (by omega)
        clear hz
        go_enter Tryd.func85, Tryd.ntmps85
        go_wp2_with fail
        go_ret
        exact ⟨by rw [HP.out]; rfl, kbA⟩
      replace hz : ks.length = 0 := Decidable.not_not.1 hz
      have z1 : ((ks.length : Int) == 0) = true := by rw [beq_iff_eq]; omega
      have HP : Hid (plainB (.mk 4 false 0 ⟨#[]⟩ l ks) = true) := Lib.hid (plain_yes (by unfold plainP; refine ⟨by omega, ?_, ?_, ?_, fun _ => .inl rfl, ?_, fun _ => hz⟩ <;> intro h <;> first | omega | (exact absurd rfl h) | contradiction))
      clear hz
      go_enter Tryd.func85, Tryd.ntmps85
      go_wp2_with fail
      go_ret
      exact ⟨by rw [HP.out]; rfl, kbA⟩
  by_cases hk5 : k = 5
  · subst hk5
    by_cases hz : (ks.length : Int) ≠ (l.length : Int)
    · have HP : Hid (plainB (.mk 5 b n s l ks) = false) := Lib.hid (plain_no (fun h => by have := h.2.2.2.2.2.1 rfl; omega))
      have z1 : ((ks.length : Int) != (l.length : Int)) = true := bne_iff_ne.2 hz
      have z2 : ((ks.length : Int) == (l.length : Int)) = false := beqI hz
      clear hz
      go_enter Tryd.func85, Tryd.ntmps85
      go_wp2_with fail
      go_ret
      exact ⟨by rw [HP.out]; rfl, kbA⟩
    replace hz : (ks.length : Int) = (l.length : Int) := Decidable.not_not.1 hz
    have z1 : ((ks.length : Int) != (l.length : Int)) = false := by rw [hz]; simp
    have z2 : ((ks.length : Int) == (l.length : Int)) = true := by rw [beq_iff_eq]; exact hz
    have HZ := Lib.hid hz
    clear hz
    cases b with
    | true =>
      have HP : Hid (plainB (.mk 5 true n s l ks) = false) := Lib.hid (plain_no (fun h => by have := h.2.1 rfl; omega))
      go_enter Tryd.func85, Tryd.ntmps85
      go_wp2_with fail
      go_ret
      exact ⟨by rw [HP.out]; rfl, kbA⟩
    | false =>
      by_cases h2 : n ≠ 0
      · have HP : Hid (plainB (.mk 5 false n s l ks) = false) := Lib.hid (plain_no (fun h => by have := h.2.2.1 h2; omega))
        have n2 : (n == 0) = false := beqI h2
        clear h2
        go_enter Tryd.func85, Tryd.ntmps85
        go_wp2_with fail
        go_ret
        exact ⟨by rw [HP.out]; rfl, kbA⟩
      obtain rfl : n = 0 := Decidable.not_not.1 h2
      clear h2
      by_cases h3 : s ≠ ⟨#[]⟩
      · have HP : Hid (plainB (.mk 5 false 0 s l ks) = false) := Lib.hid (plain_no (fun h => by have := h.2.2.2.1 h3; omega))
        have s1 := emp_no h3
        have s2 := beq_toList h3
        clear h3
        go_enter Tryd.func85, Tryd.ntmps85
        go_wp2_with fail
        go_ret
        exact ⟨by rw [HP.out]; rfl, kbA⟩
      obtain rfl : s = ⟨#[]⟩ := Classical.not_not.1 h3
      clear h3
      have HP : Hid (plainB (.mk 5 false 0 ⟨#[]⟩ l ks) = true) := Lib.hid (plain_yes (by have hz := HZ.out; unfold plainP; refine ⟨by omega, ?_, ?_, ?_, fun _ => .inr rfl, fun _ => by omega, ?_⟩ <;> intro h <;> first | omega | (exact absurd rfl h) | contradiction))
      go_enter Tryd.func85, Tryd.ntmps85
      go_wp2_with fail
      go_ret
      exact ⟨by rw [HP.out]; rfl, kbA⟩
  have HP : Hid (plainB (.mk k b n s l ks) = false) := Lib.hid (plain_no (fun h => by have := h.1; omega))
  have q0 : (k == 0) = false := beqI hk0
  have q1 : (k == 1) = false := beqI hk1
  have q2 : (k == 2) = false := beqI hk2
  have q3 : (k == 3) = false := beqI hk3
  have q4 : (k == 4) = false := beqI hk4
  have q5 : (k == 5) = false := beqI hk5
  clear hk0 hk1 hk2 hk3 hk4 hk5
  go_enter Tryd.func85, Tryd.ntmps85
  go_wp2_with fail
  go_ret
  exact ⟨by rw [HP.out]; rfl, kbA⟩
end Go.Proofs.YtdbfpojgaalfmaaDoor
