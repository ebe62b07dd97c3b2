/-
  The program's shaped: is the kind one, and are the fields zero that it does not name? · The program's twice (does a key stand there twice?), number.Fits, and the library's slices.Clone at values and at texts.
-/
import Derived.Test.YtdckldfekepopaaGreatDoorZF
import Derived.Test.YtdckldfekepopaaGreatDoorZG
import Derived.Test.YtdckldfekepopaaGreatDoorZJ
import Derived.Deep.AppendLies
import Derived.Laws.OwnMore
import Derived.Laws.AppendOwn
import Derived.Maps.OwnSet
import Derived.Maps.Views
import Derived.StringKeys
import Derived.Lib.SliceRun
set_option linter.unusedVariables false
set_option linter.unusedSimpArgs false
namespace Go.Proofs.YtdckldfekepopaaGreatDoor
open Go.RowKit

set_option maxRecDepth 100000 in
set_option maxHeartbeats 16000000 in
theorem shaped_any (x : V) (v : Value) (w : World) (h : isV w x v) :
    Calls Tryz.prog 132 #[v] w fun e w' => e = .returned (.bool (plainB x)) ∧ Below w.heap.size w w' := by
  obtain ⟨k, b, n, s, l, ks⟩ := x
  unfold isV at h
  obtain ⟨lv, kv, rfl, hk, hn, hs, ⟨a, cap, ⟨o, rfl, hc1, hc2, ho⟩, hvs⟩, ⟨a2, cap2, ⟨o2, rfl, hc3, hc4, ho2⟩, hks⟩⟩ := h
  unfold maxLen at hs hc2 hc4
  clear hk hn ho hvs ho2 hks
  by_cases hk0 : k = 0
  · subst hk0
    cases b with
    | true =>
      have HP : Hid (plainB (.mk 0 true n s l ks) = false) := Lib.hid (plain_no (fun h => by have := h.2.1 rfl; omega))
      go_enter Tryz.func132, Tryz.ntmps132
      go_wp2_with fail
      go_ret
      exact ⟨by rw [HP.out]; rfl, kbA⟩
    | false =>
      by_cases h2 : n ≠ 0
      · have HP : Hid (plainB (.mk 0 false n s l ks) = false) := Lib.hid (plain_no (fun h => by have := h.2.2.1 h2; omega))
        have n2 : (n == 0) = false := beqI h2
        clear h2
        go_enter Tryz.func132, Tryz.ntmps132
        go_wp2_with fail
        go_ret
        exact ⟨by rw [HP.out]; rfl, kbA⟩
      obtain rfl : n = 0 := Decidable.not_not.1 h2
      clear h2
      by_cases h3 : s ≠ ⟨#[]⟩
      · have HP : Hid (plainB (.mk 0 false 0 s l ks) = false) := Lib.hid (plain_no (fun h => by have := h.2.2.2.1 h3; omega))
        have s1 := emp_no h3
        have s2 := beq_toList h3
        clear h3
        go_enter Tryz.func132, Tryz.ntmps132
        go_wp2_with fail
        go_ret
        exact ⟨by rw [HP.out]; rfl, kbA⟩
      obtain rfl : s = ⟨#[]⟩ := Classical.not_not.1 h3
      clear h3
      by_cases h4 : l ≠ []
      · have HP : Hid (plainB (.mk 0 false 0 ⟨#[]⟩ l ks) = false) := Lib.hid (plain_no (fun h => by have := h.2.2.2.2.1 h4; omega))
        have l0 : 0 < l.length := List.length_pos_iff.2 h4
        have l1 : ((l.length : Int) == 0) = false := beqI (by omega)
        clear h4
        go_enter Tryz.func132, Tryz.ntmps132
        go_wp2_with fail
        go_ret
        exact ⟨by rw [HP.out]; rfl, kbA⟩
      obtain rfl : l = [] := Classical.not_not.1 h4
      clear h4
      by_cases hz : ks.length ≠ 0
      · have HP : Hid (plainB (.mk 0 false 0 ⟨#[]⟩ [] ks) = false) := Lib.hid (plain_no (fun h => hz (h.2.2.2.2.2.2 (by omega))))
        have z1 : ((ks.length : Int) == 0) = false := beqI (by omega)
        clear hz
        go_enter Tryz.func132, Tryz.ntmps132
        go_wp2_with fail
        go_ret
        exact ⟨by rw [HP.out]; rfl, kbA⟩
      replace hz : ks.length = 0 := Decidable.not_not.1 hz
      have z1 : ((ks.length : Int) == 0) = true := by rw [beq_iff_eq]; omega
      have HP : Hid (plainB (.mk 0 false 0 ⟨#[]⟩ [] ks) = true) := Lib.hid (plain_yes (by unfold plainP; refine ⟨by omega, ?_, ?_, ?_, ?_, ?_, fun _ => hz⟩ <;> intro h <;> first | omega | (exact absurd rfl h) | (exact absurd h (by simp)) | contradiction))
      clear hz
      go_enter Tryz.func132, Tryz.ntmps132
      go_wp2_with fail
      go_ret
      exact ⟨by rw [HP.out]; rfl, kbA⟩
  by_cases hk1 : k = 1
  · subst hk1
    by_cases h2 : n ≠ 0
    · have HP : Hid (plainB (.mk 1 b n s l ks) = false) := Lib.hid (plain_no (fun h => by have := h.2.2.1 h2; omega))
      have n2 : (n == 0) = false := beqI h2
      clear h2
      go_enter Tryz.func132, Tryz.ntmps132
      go_wp2_with fail
      go_ret
      exact ⟨by rw [HP.out]; rfl, kbA⟩
    obtain rfl : n = 0 := Decidable.not_not.1 h2
    clear h2
    by_cases h3 : s ≠ ⟨#[]⟩
    · have HP : Hid (plainB (.mk 1 b 0 s l ks) = false) := Lib.hid (plain_no (fun h => by have := h.2.2.2.1 h3; omega))
      have s1 := emp_no h3
      have s2 := beq_toList h3
      clear h3
      go_enter Tryz.func132, Tryz.ntmps132
      go_wp2_with fail
      go_ret
      exact ⟨by rw [HP.out]; rfl, kbA⟩
    obtain rfl : s = ⟨#[]⟩ := Classical.not_not.1 h3
    clear h3
    by_cases h4 : l ≠ []
    · have HP : Hid (plainB (.mk 1 b 0 ⟨#[]⟩ l ks) = false) := Lib.hid (plain_no (fun h => by have := h.2.2.2.2.1 h4; omega))
      have l0 : 0 < l.length := List.length_pos_iff.2 h4
      have l1 : ((l.length : Int) == 0) = false := beqI (by omega)
      clear h4
      go_enter Tryz.func132, Tryz.ntmps132
      go_wp2_with fail
      go_ret
      exact ⟨by rw [HP.out]; rfl, kbA⟩
    obtain rfl : l = [] := Classical.not_not.1 h4
    clear h4
    by_cases hz : ks.length ≠ 0
    · have HP : Hid (plainB (.mk 1 b 0 ⟨#[]⟩ [] ks) = false) := Lib.hid (plain_no (fun h => hz (h.2.2.2.2.2.2 (by omega))))
      have z1 : ((ks.length : Int) == 0) = false := beqI (by omega)
      clear hz
      go_enter Tryz.func132, Tryz.ntmps132
      go_wp2_with fail
      go_ret
      exact ⟨by rw [HP.out]; rfl, kbA⟩
    replace hz : ks.length = 0 := Decidable.not_not.1 hz
    have z1 : ((ks.length : Int) == 0) = true := by rw [beq_iff_eq]; omega
    have HP : Hid (plainB (.mk 1 b 0 ⟨#[]⟩ [] ks) = true) := Lib.hid (plain_yes (by unfold plainP; refine ⟨by omega, ?_, ?_, ?_, ?_, ?_, fun _ => hz⟩ <;> intro h <;> first | omega | (exact absurd rfl h) | (exact absurd h (by simp)) | contradiction))
    clear hz
    go_enter Tryz.func132, Tryz.ntmps132
    go_wp2_with fail
    go_ret
    exact ⟨by rw [HP.out]; rfl, kbA⟩
  by_cases hk2 : k = 2
  · subst hk2
    cases b with
    | true =>
      have HP : Hid (plainB (.mk 2 true n s l ks) = false) := Lib.hid (plain_no (fun h => by have := h.2.1 rfl; omega))
      go_enter Tryz.func132, Tryz.ntmps132
      go_wp2_with fail
      go_ret
      exact ⟨by rw [HP.out]; rfl, kbA⟩
    | false =>
      by_cases h3 : s ≠ ⟨#[]⟩
      · have HP : Hid (plainB (.mk 2 false n s l ks) = false) := Lib.hid (plain_no (fun h => by have := h.2.2.2.1 h3; omega))
        have s1 := emp_no h3
        have s2 := beq_toList h3
        clear h3
        go_enter Tryz.func132, Tryz.ntmps132
        go_wp2_with fail
        go_ret
        exact ⟨by rw [HP.out]; rfl, kbA⟩
      obtain rfl : s = ⟨#[]⟩ := Classical.not_not.1 h3
      clear h3
      by_cases h4 : l ≠ []
      · have HP : Hid (plainB (.mk 2 false n ⟨#[]⟩ l ks) = false) := Lib.hid (plain_no (fun h => by have := h.2.2.2.2.1 h4; omega))
        have l0 : 0 < l.length := List.length_pos_iff.2 h4
        have l1 : ((l.length : Int) == 0) = false := beqI (by omega)
        clear h4
        go_enter Tryz.func132, Tryz.ntmps132
        go_wp2_with fail
        go_ret
        exact ⟨by rw [HP.out]; rfl, kbA⟩
      obtain rfl : l = [] := Classical.not_not.1 h4
      clear h4
      by_cases hz : ks.length ≠ 0
      · have HP : Hid (plainB (.mk 2 false n ⟨#[]⟩ [] ks) = false) := Lib.hid (plain_no (fun h => hz (h.2.2.2.2.2.2 (by omega))))
        have z1 : ((ks.length : Int) == 0) = false := beqI (by omega)
        clear hz
        go_enter Tryz.func132, Tryz.ntmps132
        go_wp2_with fail
        go_ret
        exact ⟨by rw [HP.out]; rfl, kbA⟩
      replace hz : ks.length = 0 := Decidable.not_not.1 hz
      have z1 : ((ks.length : Int) == 0) = true := by rw [beq_iff_eq]; omega
      have HP : Hid (plainB (.mk 2 false n ⟨#[]⟩ [] ks) = true) := Lib.hid (plain_yes (by unfold plainP; refine ⟨by omega, ?_, ?_, ?_, ?_, ?_, fun _ => hz⟩ <;> intro h <;> first | omega | (exact absurd rfl h) | (exact absurd h (by simp)) | contradiction))
      clear hz
      go_enter Tryz.func132, Tryz.ntmps132
      go_wp2_with fail
      go_ret
      exact ⟨by rw [HP.out]; rfl, kbA⟩
  by_cases hk3 : k = 3
  · subst hk3
    cases b with
    | true =>
      have HP : Hid (plainB (.mk 3 true n s l ks) = false) := Lib.hid (plain_no (fun h => by have := h.2.1 rfl; omega))
      go_enter Tryz.func132, Tryz.ntmps132
      go_wp2_with fail
      go_ret
      exact ⟨by rw [HP.out]; rfl, kbA⟩
    | false =>
      by_cases h2 : n ≠ 0
      · have HP : Hid (plainB (.mk 3 false n s l ks) = false) := Lib.hid (plain_no (fun h => by have := h.2.2.1 h2; omega))
        have n2 : (n == 0) = false := beqI h2
        clear h2
        go_enter Tryz.func132, Tryz.ntmps132
        go_wp2_with fail
        go_ret
        exact ⟨by rw [HP.out]; rfl, kbA⟩
      obtain rfl : n = 0 := Decidable.not_not.1 h2
      clear h2
      by_cases h4 : l ≠ []
      · have HP : Hid (plainB (.mk 3 false 0 s l ks) = false) := Lib.hid (plain_no (fun h => by have := h.2.2.2.2.1 h4; omega))
        have l0 : 0 < l.length := List.length_pos_iff.2 h4
        have l1 : ((l.length : Int) == 0) = false := beqI (by omega)
        clear h4
        go_enter Tryz.func132, Tryz.ntmps132
        go_wp2_with fail
        go_ret
        exact ⟨by rw [HP.out]; rfl, kbA⟩
      obtain rfl : l = [] := Classical.not_not.1 h4
      clear h4
      by_cases hz : ks.length ≠ 0
      · have HP : Hid (plainB (.mk 3 false 0 s [] ks) = false) := Lib.hid (plain_no (fun h => hz (h.2.2.2.2.2.2 (by omega))))
        have z1 : ((ks.length : Int) == 0) = false := beqI (by omega)
        clear hz
        go_enter Tryz.func132, Tryz.ntmps132
        go_wp2_with fail
        go_ret
        exact ⟨by rw [HP.out]; rfl, kbA⟩
      replace hz : ks.length = 0 := Decidable.not_not.1 hz
      have z1 : ((ks.length : Int) == 0) = true := by rw [beq_iff_eq]; omega
      have HP : Hid (plainB (.mk 3 false 0 s [] ks) = true) := Lib.hid (plain_yes (by unfold plainP; refine ⟨by omega, ?_, ?_, ?_, ?_, ?_, fun _ => hz⟩ <;> intro h <;> first | omega | (exact absurd rfl h) | (exact absurd h (by simp)) | contradiction))
      clear hz
      go_enter Tryz.func132, Tryz.ntmps132
      go_wp2_with fail
      go_ret
      exact ⟨by rw [HP.out]; rfl, kbA⟩
  by_cases hk4 : k = 4
  · subst hk4
    cases b with
    | true =>
      have HP : Hid (plainB (.mk 4 true n s l ks) = false) := Lib.hid (plain_no (fun h => by have := h.2.1 rfl; omega))
      go_enter Tryz.func132, Tryz.ntmps132
      go_wp2_with fail
      go_ret
      exact ⟨by rw [HP.out]; rfl, kbA⟩
    | false =>
      by_cases h2 : n ≠ 0
      · have HP : Hid (plainB (.mk 4 false n s l ks) = false) := Lib.hid (plain_no (fun h => by have := h.2.2.1 h2; omega))
        have n2 : (n == 0) = false := beqI h2
        clear h2
        go_enter Tryz.func132, Tryz.ntmps132
        go_wp2_with fail
        go_ret
        exact ⟨by rw [HP.out]; rfl, kbA⟩
      obtain rfl : n = 0 := Decidable.not_not.1 h2
      clear h2
      by_cases h3 : s ≠ ⟨#[]⟩
      · have HP : Hid (plainB (.mk 4 false 0 s l ks) = false) := Lib.hid (plain_no (fun h => by have := h.2.2.2.1 h3; omega))
        have s1 := emp_no h3
        have s2 := beq_toList h3
        clear h3
        go_enter Tryz.func132, Tryz.ntmps132
        go_wp2_with fail
        go_ret
        exact ⟨by rw [HP.out]; rfl, kbA⟩
      obtain rfl : s = ⟨#[]⟩ := Classical.not_not.1 h3
      clear h3
      by_cases hz : ks.length ≠ 0
      · have HP : Hid (plainB (.mk 4 false 0 ⟨#[]⟩ l ks) = false) := Lib.hid (plain_no (fun h => hz (h.2.2.2.2.2.2 (by omega))))
        have z1 : ((ks.length : Int) == 0) = false := beqI (by omega)
        clear hz
        go_enter Tryz.func132, Tryz.ntmps132
        go_wp2_with fail
        go_ret
        exact ⟨by rw [HP.out]; rfl, kbA⟩
      replace hz : ks.length = 0 := Decidable.not_not.1 hz
      have z1 : ((ks.length : Int) == 0) = true := by rw [beq_iff_eq]; omega
      have HP : Hid (plainB (.mk 4 false 0 ⟨#[]⟩ l ks) = true) := Lib.hid (plain_yes (by unfold plainP; refine ⟨by omega, ?_, ?_, ?_, fun _ => .inl rfl, ?_, fun _ => hz⟩ <;> intro h <;> first | omega | (exact absurd rfl h) | contradiction))
      clear hz
      go_enter Tryz.func132, Tryz.ntmps132
      go_wp2_with fail
      go_ret
      exact ⟨by rw [HP.out]; rfl, kbA⟩
  by_cases hk5 : k = 5
  · subst hk5
    by_cases hz : (ks.length : Int) ≠ (l.length : Int)
    · have HP : Hid (plainB (.mk 5 b n s l ks) = false) := Lib.hid (plain_no (fun h => by have := h.2.2.2.2.2.1 rfl; omega))
      have z1 : ((ks.length : Int) != (l.length : Int)) = true := bne_iff_ne.2 hz
      have z2 : ((ks.length : Int) == (l.length : Int)) = false := beqI hz
      clear hz
      go_enter Tryz.func132, Tryz.ntmps132
      go_wp2_with fail
      go_ret
      exact ⟨by rw [HP.out]; rfl, kbA⟩
    replace hz : (ks.length : Int) = (l.length : Int) := Decidable.not_not.1 hz
    have z1 : ((ks.length : Int) != (l.length : Int)) = false := by rw [hz]; simp
    have z2 : ((ks.length : Int) == (l.length : Int)) = true := by rw [beq_iff_eq]; exact hz
    have HZ := Lib.hid hz
    clear hz
    cases b with
    | true =>
      have HP : Hid (plainB (.mk 5 true n s l ks) = false) := Lib.hid (plain_no (fun h => by have := h.2.1 rfl; omega))
      go_enter Tryz.func132, Tryz.ntmps132
      go_wp2_with fail
      go_ret
      exact ⟨by rw [HP.out]; rfl, kbA⟩
    | false =>
      by_cases h2 : n ≠ 0
      · have HP : Hid (plainB (.mk 5 false n s l ks) = false) := Lib.hid (plain_no (fun h => by have := h.2.2.1 h2; omega))
        have n2 : (n == 0) = false := beqI h2
        clear h2
        go_enter Tryz.func132, Tryz.ntmps132
        go_wp2_with fail
        go_ret
        exact ⟨by rw [HP.out]; rfl, kbA⟩
      obtain rfl : n = 0 := Decidable.not_not.1 h2
      clear h2
      by_cases h3 : s ≠ ⟨#[]⟩
      · have HP : Hid (plainB (.mk 5 false 0 s l ks) = false) := Lib.hid (plain_no (fun h => by have := h.2.2.2.1 h3; omega))
        have s1 := emp_no h3
        have s2 := beq_toList h3
        clear h3
        go_enter Tryz.func132, Tryz.ntmps132
        go_wp2_with fail
        go_ret
        exact ⟨by rw [HP.out]; rfl, kbA⟩
      obtain rfl : s = ⟨#[]⟩ := Classical.not_not.1 h3
      clear h3
      have HP : Hid (plainB (.mk 5 false 0 ⟨#[]⟩ l ks) = true) := Lib.hid (plain_yes (by have hz := HZ.out; unfold plainP; refine ⟨by omega, ?_, ?_, ?_, fun _ => .inr rfl, fun _ => by omega, ?_⟩ <;> intro h <;> first | omega | (exact absurd rfl h) | contradiction))
      go_enter Tryz.func132, Tryz.ntmps132
      go_wp2_with fail
      go_ret
      exact ⟨by rw [HP.out]; rfl, kbA⟩
  have HP : Hid (plainB (.mk k b n s l ks) = false) := Lib.hid (plain_no (fun h => by have := h.1; omega))
  have q0 : (k == 0) = false := beqI hk0
  have q1 : (k == 1) = false := beqI hk1
  have q2 : (k == 2) = false := beqI hk2
  have q3 : (k == 3) = false := beqI hk3
  have q4 : (k == 4) = false := beqI hk4
  have q5 : (k == 5) = false := beqI hk5
  clear hk0 hk1 hk2 hk3 hk4 hk5
  go_enter Tryz.func132, Tryz.ntmps132
  go_wp2_with fail
  go_ret
  exact ⟨by rw [HP.out]; rfl, kbA⟩
end Go.Proofs.YtdckldfekepopaaGreatDoor

namespace Go.Proofs.YtdckldfekepopaaGreatDoor
open Go.RowKit Go.Maps

def fitB (n : Int) : Bool := decide (-9007199254740992 ≤ n ∧ n ≤ 9007199254740992)
set_option maxHeartbeats 1000000 in
theorem fits_any (n : Int) (w : World) : Calls Tryz.prog 65 #[.int .i64 n] w fun e w' => e = .returned (.bool (fitB n)) ∧ w' = w := by
  have HF : Hid (fitB n = (decide (-9007199254740992 ≤ n) && decide (n ≤ 9007199254740992))) := Lib.hid (by unfold fitB; rw [Bool.decide_and])
  by_cases h1 : -9007199254740992 ≤ n
  · by_cases h2 : n ≤ 9007199254740992
    · go_enter Tryz.func65, Tryz.ntmps65
      go_wp2
      go_ret
      exact ⟨ret_bool (by rw [HF.out, decide_eq_true h1, decide_eq_true h2]; rfl), rfl⟩
    · go_enter Tryz.func65, Tryz.ntmps65
      go_wp2
      go_ret
      exact ⟨ret_bool (by rw [HF.out, decide_eq_true h1, decide_eq_false (by omega)]; rfl), rfl⟩
  · go_enter Tryz.func65, Tryz.ntmps65
    go_wp2
    go_ret
    exact ⟨ret_bool (by rw [HF.out, decide_eq_false (by omega)]; rfl), rfl⟩

/-- Of the map behind so many keys: which keys it has, and whether there are as many. -/
def TS (ks : List ByteArray) (j : Nat) (D : DataW Unit) : Prop :=
  (∀ s : List UInt8, Maps.has D (.string s) = true ↔ ∃ q ∈ ks.take j, q.data.toList = s) ∧ Maps.size D ≤ j ∧ (Maps.size D = j ↔ (ks.take j).Nodup)
theorem TS.step {ks : List ByteArray} {j : Nat} (hj : j < ks.length) {D : DataW Unit} (h : TS ks j D) (hD : Tidy D) (hm : IsMap D) (d : DataW Unit) : TS ks (j + 1) (D.put (.string ks[j].data.toList) d) := by
  obtain ⟨h1, h2, h3⟩ := h
  have ht : ks.take (j + 1) = ks.take j ++ [ks[j]] := List.take_succ_eq_append_getElem hj
  have hs := size_put (k := .string ks[j].data.toList) hD d
  have hlen : (ks.take j).length = j := by rw [List.length_take]; omega
  refine ⟨fun s => ?_, ?_, ?_⟩
  · rw [ht]
    by_cases e : s = ks[j].data.toList
    · subst e
      rw [has_put_same hm (by trivial)]
      exact ⟨fun _ => ⟨_, List.mem_append.2 (.inr (List.mem_singleton.2 rfl)), rfl⟩, fun _ => rfl⟩
    · rw [has_put_other (by intro e2; cases e2; exact e rfl), h1]
      constructor
      · rintro ⟨q, hq, rfl⟩; exact ⟨q, List.mem_append.2 (.inl hq), rfl⟩
      · rintro ⟨q, hq, rfl⟩
        rcases List.mem_append.1 hq with hq | hq
        · exact ⟨q, hq, rfl⟩
        · simp at hq; subst hq; exact absurd rfl e
  · rw [hs]; split <;> omega
  · rw [hs, ht]
    by_cases hh : Maps.has D (.string ks[j].data.toList) = true
    · rw [if_pos hh]
      obtain ⟨q, hq, hqe⟩ := (h1 _).1 hh
      have hqk : q = ks[j] := ByteArray.ext (by simpa using congrArg List.toArray hqe)
      subst hqk
      constructor
      · intro e; omega
      · intro hn
        exact absurd hq (fun hq => (List.nodup_append.1 hn).2.2 _ hq _ (by simp) rfl)
    · rw [if_neg hh]
      have hnot : ks[j] ∉ ks.take j := fun hq => hh ((h1 _).2 ⟨_, hq, rfl⟩)
      constructor
      · intro e
        have := h3.1 (by omega)
        rw [List.nodup_append]
        refine ⟨this, by simp, fun a ha b hb e2 => ?_⟩
        simp at hb
        subst hb
        subst e2
        exact hnot ha
      · intro hn
        have := h3.2 (List.nodup_append.1 hn).1
        omega

set_option maxRecDepth 100000 in
set_option maxHeartbeats 2000000 in
theorem twice_any (ks : List ByteArray) (v : Value) (w : World) (hl : ks.length ≤ 1000000) (h : isK w ks v) :
    Calls Tryz.prog 135 #[v] w fun e w' => e = .returned (.bool (!onceB ks)) ∧ Below w.heap.size w w' := by
  obtain ⟨a, cap, ⟨o, rfl, hc1, hc2, ho⟩, hks⟩ := h
  unfold maxLen at hc2
  have lawK : Keyed Tryz.prog 9 := string_keyed Tryz.underlying9
  have hom : (w.alloc (.map #[] 0)).ownsMap Tryz.prog 9 (plainElem (H := Unit) Tryz.prog 3) w.heap.size 0 (.map []) := World.ownsMap_made w Tryz.prog 9 _
  have hmm := @run_makeMap Tryz.prog
  have HK := Lib.hid hks
  have HOM := Lib.hid hom
  obtain ⟨r, hr⟩ : ∃ r, (!onceB ks) = r := ⟨_, rfl⟩
  rw [hr]
  have HR := Lib.hid hr
  clear hks hom hr
  go_enter Tryz.func135, Tryz.ntmps135
  go_wp2_with fail
  go_loopw [9] (fun i wr => ∃ (j : Nat) (D : DataW Unit), j ≤ ks.length ∧ i = .int .i64 j ∧ Hid (wr.ownsMap Tryz.prog 9 (plainElem (H := Unit) Tryz.prog 3) w.heap.size j D) ∧ Hid (TS ks j D) ∧ Hid (Below w.heap.size w wr)) (fun i _ => ks.length - (intOf i).toNat)
  case atStart =>
    refine ⟨0, _, by omega, rfl, HOM, Lib.hid ⟨fun s => ?_, Nat.le_refl _, ?_⟩, Lib.hid (by go_grown)⟩
    · simp [Maps.has]
    · simp [Maps.size]
  case round =>
    obtain ⟨j, D, hj, rfl, hO, hT, hB⟩ := hrel
    by_cases hlt : j < ks.length
    · obtain rfl := ho (by omega)
      have hcell := cell_below hB.out _ _ (HK.out j hlt).1
      have hsz := (HK.out j hlt).2
      have HT2 := Lib.hid (hT.out.step hlt (hO.out.tidy lawK) hO.out.isMap (.lit (.int .i64 j)))
      generalize ks[j] = s at *
      go_wp2_with (at_mapUpdate; refine wpList_mapUpdate_own _ rfl _ _ _ 168 rfl 9 3 lawK Tryz.underlying168 _ w.heap.size _ _ rfl hO.out (by unfold maxLen; omega) _ _ _ rfl rfl (Go.WideMaps.keyOf_string_mk Tryz.underlying9 hsz) _ [] (plainElem_int Tryz.underlying3 (by simp [Lit.wf, IntKind.min, IntKind.max, IntKind.bits, IntKind.signed]; omega)) ?_; intro w5 ho5 hg5)
      have HO5 := Lib.hid ho5
      have HB5 := Lib.hid (hB.out.grown hg5 hB.out.size (fun r e => by cases e; exact Nat.le_refl _))
      clear ho5 hg5
      go_wp2_with fail
      go_roundw
      case rel => exact ⟨j + 1, _, by omega, by go_num, HO5, HT2, HB5⟩
      case measure => simp [intOf]; omega
    · obtain rfl : j = ks.length := by omega
      have hres : decide (Maps.size D < ks.length) = r := by
        rw [← HR.out]
        obtain ⟨_, h2, h3⟩ := hT.out
        rw [List.take_of_length_le (Nat.le_refl _)] at h3
        by_cases hn : ks.Nodup
        · rw [once_yes hn, decide_eq_false (by have := h3.2 hn; omega)]; rfl
        · rw [once_no hn, decide_eq_true (by have : Maps.size D ≠ ks.length := fun e => hn (h3.1 e); omega)]; rfl
      have HRES := Lib.hid hres
      clear hres
      go_wp2_with (at_len; refine wpList_len_own _ rfl _ 168 rfl 9 3 Tryz.underlying168 _ w.heap.size _ D rfl hO.out ?_)
      go_ret
      exact ⟨ret_bool HRES.out, hB.out⟩

theorem infoV2 : (Tryz.prog.info? 64).map (fun i => (i.zero, i.size, i.bytes)) = some (some (.agg #[.int .i8 0, .bool false, .int .i64 0, .string ⟨#[]⟩, .slice none 0 0, .slice none 0 0]), 6, 80) := by kernel_rfl
theorem infoStr : (Tryz.prog.info? 9).map (fun i => (i.zero, i.size, i.bytes)) = some (some (.string ⟨#[]⟩), 1, 16) := by kernel_rfl

set_option maxRecDepth 100000 in
set_option maxHeartbeats 2000000 in
/-- slices.Clone of so many values: their cells, in a row of the call's own. -/
theorem cloneV_any (o : Option Addr) (a : Addr) (n cap : Nat) (ho : 0 < n → o = some a) (hn : n ≤ 1000000) (news : List Value) (w : World) (hl : news.length = n * 6) (hc : ∀ j u, news[j]? = some u → w.cell? (a.add j) = some u) (h1 : ∀ u ∈ news, u.oneCell' = true) :
    Calls Tryz.prog 83 #[.slice o n cap] w fun e w' => ∃ v', e = .returned v' ∧ w'.ownsRow w.heap.size 64 6 v' n news ∧ Below w.heap.size w w' := by
  obtain ⟨i0, hi0, hz0, hz1, hz2⟩ := info_parts infoV2
  have hq : ∀ (w : World) (a : Option Addr) (n c n' c' : Nat), (binOp .eql 61 (.slice a n c) (.slice none n' c')).run Tryz.prog w = .ok (.bool a.isNone) w := fun w a n c n' c' => Lib.run_eql_slice_nil w _ _ a n c n' c' Tryz.underlying61
  cases o with
  | none =>
    obtain rfl : n = 0 := by
      rcases Nat.eq_zero_or_pos n with h | h
      · exact h
      · cases ho h
    go_enter Tryz.func83, Tryz.ntmps83
    go_wp2
    go_ret
    exact ⟨_, rfl, ⟨hl, .inl ⟨rfl, rfl⟩⟩, Below.refl _ _⟩
  | some b =>
    have hc2 : ∀ j u, news[j]? = some u → w.cell? (b.add j) = some u := fun j u h => by
      have hj := (List.getElem?_eq_some_iff.1 h).1
      cases ho (by omega)
      exact hc j u h
    have HC := Lib.hid hc2
    have H1 := Lib.hid h1
    clear hc hc2 h1 ho
    go_enter Tryz.func83, Tryz.ntmps83
    go_wp2_with (at_builtin; refine wpList_append_own _ rfl _ _ 61 rfl w.heap.size 64 i0 _ 6 80 Tryz.underlying61 hi0 hz0 hz1 hz2 rfl (by decide) _ 0 [] rfl (World.ownsRow_lit w #[] 0 (Nat.le_refl _) (by unfold maxLen; omega) rfl) b n cap news rfl hl ?d1 H1.out ?d3 ?d4 ?d5 ?_)
    case d1 => intro j u h; exact cell_below ((Below.refl _ w).alloc (Nat.le_refl _) _) _ _ (HC.out j u h)
    case d3 => unfold maxLen; omega
    case d4 => omega
    case d5 => simp
    intro v' w1 hown' hgrow _
    have hO : w1.ownsRow w.heap.size 64 6 v' n news := by simpa using hown'
    have HO := Lib.hid hO
    have HB : Hid (Below w.heap.size w w1) := Lib.hid (((Below.refl _ w).alloc (Nat.le_refl _) _).grown hgrow (by simp) (fun r e => by cases e; exact Nat.le_refl _))
    clear hown' hgrow hO
    go_wp2_with fail
    go_ret
    exact ⟨v', rfl, HO.out, HB.out⟩
set_option maxRecDepth 100000 in
set_option maxHeartbeats 2000000 in
/-- slices.Clone of so many texts: their cells, in a row of the call's own. -/
theorem cloneS_any (o : Option Addr) (a : Addr) (n cap : Nat) (ho : 0 < n → o = some a) (hn : n ≤ 1000000) (news : List Value) (w : World) (hl : news.length = n * 1) (hc : ∀ j u, news[j]? = some u → w.cell? (a.add j) = some u) (h1 : ∀ u ∈ news, u.oneCell' = true) :
    Calls Tryz.prog 84 #[.slice o n cap] w fun e w' => ∃ v', e = .returned v' ∧ w'.ownsRow w.heap.size 9 1 v' n news ∧ Below w.heap.size w w' := by
  obtain ⟨i0, hi0, hz0, hz1, hz2⟩ := info_parts infoStr
  have hq : ∀ (w : World) (a : Option Addr) (n c n' c' : Nat), (binOp .eql 62 (.slice a n c) (.slice none n' c')).run Tryz.prog w = .ok (.bool a.isNone) w := fun w a n c n' c' => Lib.run_eql_slice_nil w _ _ a n c n' c' Tryz.underlying62
  cases o with
  | none =>
    obtain rfl : n = 0 := by
      rcases Nat.eq_zero_or_pos n with h | h
      · exact h
      · cases ho h
    go_enter Tryz.func84, Tryz.ntmps84
    go_wp2
    go_ret
    exact ⟨_, rfl, ⟨hl, .inl ⟨rfl, rfl⟩⟩, Below.refl _ _⟩
  | some b =>
    have hc2 : ∀ j u, news[j]? = some u → w.cell? (b.add j) = some u := fun j u h => by
      have hj := (List.getElem?_eq_some_iff.1 h).1
      cases ho (by omega)
      exact hc j u h
    have HC := Lib.hid hc2
    have H1 := Lib.hid h1
    clear hc hc2 h1 ho
    go_enter Tryz.func84, Tryz.ntmps84
    go_wp2_with (at_builtin; refine wpList_append_own _ rfl _ _ 62 rfl w.heap.size 9 i0 _ 1 16 Tryz.underlying62 hi0 hz0 hz1 hz2 rfl (by decide) _ 0 [] rfl (World.ownsRow_lit w #[] 0 (Nat.le_refl _) (by unfold maxLen; omega) rfl) b n cap news rfl hl ?d1 H1.out ?d3 ?d4 ?d5 ?_)
    case d1 => intro j u h; exact cell_below ((Below.refl _ w).alloc (Nat.le_refl _) _) _ _ (HC.out j u h)
    case d3 => unfold maxLen; omega
    case d4 => omega
    case d5 => simp
    intro v' w1 hown' hgrow _
    have hO : w1.ownsRow w.heap.size 9 1 v' n news := by simpa using hown'
    have HO := Lib.hid hO
    have HB : Hid (Below w.heap.size w w1) := Lib.hid (((Below.refl _ w).alloc (Nat.le_refl _) _).grown hgrow (by simp) (fun r e => by cases e; exact Nat.le_refl _))
    clear hown' hgrow hO
    go_wp2_with fail
    go_ret
    exact ⟨v', rfl, HO.out, HB.out⟩
end Go.Proofs.YtdckldfekepopaaGreatDoor
