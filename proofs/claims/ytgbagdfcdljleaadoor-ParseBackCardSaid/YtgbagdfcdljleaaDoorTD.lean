/-
  Contracts of the reference's Text, Num, Get. · The contract of the reference's plain: has a value what its kind names alone? · The reference's Valid, for tree's texts. · Contracts of the reference's wrong and Check. · The contract of the reference's Check.
-/
import Derived.Test.YtgbagdfcdljleaaDoorTB
import Derived.Test.YtgbagdfcdljleaaDoorRA
set_option linter.unusedVariables false
set_option linter.unusedSimpArgs false
namespace Go.Proofs.YtgbagdfcdljleaaDoor
open Go.RowKit

theorem isK_nil (w : World) : isK w [] (.slice none 0 0) := ⟨⟨0, 0, none⟩, 0, ⟨none, rfl, Nat.le_refl _, by unfold maxLen; omega, fun h => absurd h (by decide)⟩, fun i h => absurd h (by simp)⟩
theorem isV_leaf (w : World) (k : Int) (b : Bool) (n : Int) (s : ByteArray) (hk : -128 ≤ k ∧ k ≤ 127) (hn : -9223372036854775808 ≤ n ∧ n ≤ 9223372036854775807) (hs : s.size ≤ maxLen) :
    isV w (.mk k b n s [] []) (.agg #[.int .i8 k, .bool b, .int .i64 n, .string s, .slice none 0 0, .slice none 0 0]) := by
  unfold isV
  exact ⟨_, _, rfl, hk, hn, hs, ⟨⟨0, 0, none⟩, 0, ⟨none, rfl, Nat.le_refl _, by unfold maxLen; omega, fun h => absurd h (by decide)⟩, by unfold isVs; trivial⟩, isK_nil w⟩
def V0 : V := .mk 0 false 0 ⟨#[]⟩ [] []
/-- A call that answers a value. -/
def RetV (x : V) (w : World) (e : Ending) (w' : World) : Prop := ∃ v, e = .returned v ∧ isV w' x v ∧ Below w.heap.size w w'

/-- The value beside a key. -/
def look : List ByteArray → List V → ByteArray → Option V
  | k :: ks, x :: l, key => if k = key then some x else look ks l key
  | _, _, _ => none
theorem look_at : ∀ (ks : List ByteArray) (l : List V) (key : ByteArray) (j : Nat) (h : j < ks.length) (h' : j < l.length), (∀ q, q < j → ks[q]? ≠ some key) → ks[j] = key → look ks l key = some l[j]
  | k :: ks, x :: l, key, 0, _, _, _, e => by simp only [List.getElem_cons_zero] at e; simp [look, e]
  | k :: ks, x :: l, key, j + 1, h, h', hq, e => by
    have h0 : k ≠ key := by have := hq 0 (by omega); simpa using this
    simp only [look, if_neg h0]
    rw [look_at ks l key j (by simpa using h) (by simpa using h') (fun q hqj => by have := hq (q + 1) (by omega); simpa using this) (by simpa using e)]
    simp
theorem look_none : ∀ (ks : List ByteArray) (l : List V) (key : ByteArray), (∀ q, q < ks.length → ks[q]? ≠ some key) → look ks l key = none
  | [], l, key, _ => by cases l <;> rfl
  | k :: ks, [], key, _ => rfl
  | k :: ks, x :: l, key, hq => by
    have h0 : k ≠ key := by have := hq 0 (by simp); simpa using this
    simp only [look, if_neg h0]
    exact look_none ks l key (fun q hqj => by have := hq (q + 1) (by simpa using hqj); simpa using this)
def getV (x : V) (key : ByteArray) : Option V := if x.kind = 5 ∧ x.keys.length = x.list.length then look x.keys x.list key else none
def RetG (g : Option V) (w : World) (e : Ending) (w' : World) : Prop := ∃ v, e = .returned (.tuple #[v, .bool g.isSome]) ∧ isV w' (g.getD V0) v ∧ Below w.heap.size w w'
theorem isV_V0 (w : World) : isV w V0 (.agg #[.int .i8 0, .bool false, .int .i64 0, .string ⟨#[]⟩, .slice none 0 0, .slice none 0 0]) := isV_leaf _ _ _ _ _ (by omega) (by omega) (by decide)

end Go.Proofs.YtgbagdfcdljleaaDoor

namespace Go.Proofs.YtgbagdfcdljleaaDoor.Tr
open Go.RowKit

/-- Has it what its kind names alone? -/
def plainP : V → Prop
  | .mk k b n s l ks => (0 ≤ k ∧ k ≤ 5) ∧ (b = true → k = 1) ∧ (n ≠ 0 → k = 2) ∧ (s ≠ ⟨#[]⟩ → k = 3) ∧ (l ≠ [] → k = 4 ∨ k = 5) ∧ (k = 5 → ks.length = l.length) ∧ (k ≠ 5 → ks.length = 0)
noncomputable def plainB (x : V) : Bool := @decide (plainP x) (Classical.propDecidable _)
theorem plain_yes {x : V} (h : plainP x) : plainB x = true := @decide_eq_true _ (Classical.propDecidable _) h
theorem plain_no {x : V} (h : ¬ plainP x) : plainB x = false := @decide_eq_false _ (Classical.propDecidable _) h
theorem plain_eq {x : V} (h : plainB x = true) : plainP x := @of_decide_eq_true _ (Classical.propDecidable _) h
theorem emp_no {s : ByteArray} (h : s ≠ ⟨#[]⟩) : s.toList.isEmpty = false := by
  cases e : s.toList with
  | nil =>
    rw [Lib.toList_data] at e
    exact absurd (ByteArray.ext (by simpa using congrArg List.toArray e)) h
  | cons _ _ => rfl

set_option maxRecDepth 100000 in
set_option maxHeartbeats 8000000 in
theorem plain_any (x : V) (v : Value) (w : World) (h : isV w x v) :
    Calls Tryd.prog 34 #[v] w fun e w' => e = .returned (.bool (plainB x)) ∧ Below w.heap.size w w' := by
  obtain ⟨k, b, n, s, l, ks⟩ := x
  unfold isV at h
  obtain ⟨lv, kv, rfl, hk, hn, hs, ⟨a, cap, ⟨o, rfl, hc1, hc2, ho⟩, hvs⟩, ⟨a2, cap2, ⟨o2, rfl, hc3, hc4, ho2⟩, hks⟩⟩ := h
  unfold maxLen at hs hc2 hc4
  clear hk hn ho hvs ho2 hks
  by_cases hr : k < 0
  · have HP : Hid (plainB (.mk k b n s l ks) = false) := Lib.hid (plain_no (fun h => by have := h.1.1; omega))
    have r1 : decide (k < 0) = true := decide_eq_true hr
    clear hr
    go_enter Tryd.func34, Tryd.ntmps34
    go_wp2_with fail
    go_ret
    exact ⟨by rw [HP.out]; rfl, kbA⟩
  by_cases hr2 : 5 < k
  · have HP : Hid (plainB (.mk k b n s l ks) = false) := Lib.hid (plain_no (fun h => by have := h.1.2; omega))
    have r1 : decide (k < 0) = false := decide_eq_false hr
    have r2 : decide (5 < k) = true := decide_eq_true hr2
    clear hr hr2
    go_enter Tryd.func34, Tryd.ntmps34
    go_wp2_with fail
    go_ret
    exact ⟨by rw [HP.out]; rfl, kbA⟩
  cases b with
  | true =>
    by_cases h1 : k ≠ 1
    · have HP : Hid (plainB (.mk k true n s l ks) = false) := Lib.hid (plain_no (fun h => h1 (h.2.1 rfl)))
      have r1 : decide (k < 0) = false := decide_eq_false (by omega)
      have r2 : decide (5 < k) = false := decide_eq_false (by omega)
      have k1 : (k == 1) = false := beqI h1
      have k1' : (k != 1) = true := bne_iff_ne.2 h1
      clear h1 hr hr2
      go_enter Tryd.func34, Tryd.ntmps34
      go_wp2_with fail
      go_ret
      exact ⟨by rw [HP.out]; rfl, kbA⟩
    obtain rfl : k = 1 := Decidable.not_not.1 h1
    clear h1 hr hr2
    by_cases h2 : n ≠ 0
    · have HP : Hid (plainB (.mk 1 true n s l ks) = false) := Lib.hid (plain_no (fun h => by have := h.2.2.1 h2; omega))
      have n1 : (n != 0) = true := bne_iff_ne.2 h2
      have n2 : (n == 0) = false := beqI h2
      clear h2
      go_enter Tryd.func34, Tryd.ntmps34
      go_wp2_with fail
      go_ret
      exact ⟨by rw [HP.out]; rfl, kbA⟩
    obtain rfl : n = 0 := Decidable.not_not.1 h2
    clear h2
    by_cases h3 : s ≠ ⟨#[]⟩
    · have HP : Hid (plainB (.mk 1 true 0 s l ks) = false) := Lib.hid (plain_no (fun h => by have := h.2.2.2.1 h3; omega))
      have s1 := emp_no h3
      have s2 := beq_toList h3
      clear h3
      go_enter Tryd.func34, Tryd.ntmps34
      go_wp2_with fail
      go_ret
      exact ⟨by rw [HP.out]; rfl, kbA⟩
    obtain rfl : s = ⟨#[]⟩ := Classical.not_not.1 h3
    clear h3
    by_cases h4 : l ≠ []
    · have HP : Hid (plainB (.mk 1 true 0 ⟨#[]⟩ l ks) = false) := Lib.hid (plain_no (fun h => by have := h.2.2.2.2.1 h4; omega))
      have l0 : 0 < l.length := List.length_pos_iff.2 h4
      have l1 : decide (0 < (l.length : Int)) = true := decide_eq_true (by omega)
      clear h4
      go_enter Tryd.func34, Tryd.ntmps34
      go_wp2_with fail
      go_ret
      exact ⟨by rw [HP.out]; rfl, kbA⟩
    obtain rfl : l = [] := Classical.not_not.1 h4
    clear h4
    by_cases hz : ks.length = 0
    · have HP : Hid (plainB (.mk 1 true 0 ⟨#[]⟩ [] ks) = true) := Lib.hid (plain_yes (by unfold plainP; refine ⟨by omega, ?_, ?_, ?_, ?_, ?_, fun _ => hz⟩ <;> intro h <;> first | omega | (exact absurd rfl h) | (exact absurd h (by simp)) | (exact .inl rfl) | contradiction))
      have z1 : ((ks.length : Int) == 0) = true := by rw [beq_iff_eq]; omega
      clear  hz
      go_enter Tryd.func34, Tryd.ntmps34
      go_wp2_with fail
      go_ret
      exact ⟨by rw [HP.out]; rfl, kbA⟩
    · have HP : Hid (plainB (.mk 1 true 0 ⟨#[]⟩ [] ks) = false) := Lib.hid (plain_no (fun h => hz (h.2.2.2.2.2.2 (by omega))))
      have z1 : ((ks.length : Int) == 0) = false := beqI (by omega)
      clear  hz
      go_enter Tryd.func34, Tryd.ntmps34
      go_wp2_with fail
      go_ret
      exact ⟨by rw [HP.out]; rfl, kbA⟩
  | false =>
    by_cases h2 : n ≠ 0
    · have n1 : (n != 0) = true := bne_iff_ne.2 h2
      have n2 : (n == 0) = false := beqI h2
      by_cases h1 : k ≠ 2
      · have HP : Hid (plainB (.mk k false n s l ks) = false) := Lib.hid (plain_no (fun h => h1 (h.2.2.1 h2)))
        have r1 : decide (k < 0) = false := decide_eq_false (by omega)
        have r2 : decide (5 < k) = false := decide_eq_false (by omega)
        have k2 : (k == 2) = false := beqI h1
        have k2' : (k != 2) = true := bne_iff_ne.2 h1
        clear h1 h2 hr hr2
        go_enter Tryd.func34, Tryd.ntmps34
        go_wp2_with fail
        go_ret
        exact ⟨by rw [HP.out]; rfl, kbA⟩
      obtain rfl : k = 2 := Decidable.not_not.1 h1
      clear h1 hr hr2
      by_cases h3 : s ≠ ⟨#[]⟩
      · have HP : Hid (plainB (.mk 2 false n s l ks) = false) := Lib.hid (plain_no (fun h => by have := h.2.2.2.1 h3; omega))
        have s1 := emp_no h3
        have s2 := beq_toList h3
        clear h3 h2
        go_enter Tryd.func34, Tryd.ntmps34
        go_wp2_with fail
        go_ret
        exact ⟨by rw [HP.out]; rfl, kbA⟩
      obtain rfl : s = ⟨#[]⟩ := Classical.not_not.1 h3
      clear h3
      by_cases h4 : l ≠ []
      · have HP : Hid (plainB (.mk 2 false n ⟨#[]⟩ l ks) = false) := Lib.hid (plain_no (fun h => by have := h.2.2.2.2.1 h4; omega))
        have l0 : 0 < l.length := List.length_pos_iff.2 h4
        have l1 : decide (0 < (l.length : Int)) = true := decide_eq_true (by omega)
        clear h4 h2
        go_enter Tryd.func34, Tryd.ntmps34
        go_wp2_with fail
        go_ret
        exact ⟨by rw [HP.out]; rfl, kbA⟩
      obtain rfl : l = [] := Classical.not_not.1 h4
      clear h4 h2
      by_cases hz : ks.length = 0
      · have HP : Hid (plainB (.mk 2 false n ⟨#[]⟩ [] ks) = true) := Lib.hid (plain_yes (by unfold plainP; refine ⟨by omega, ?_, ?_, ?_, ?_, ?_, fun _ => hz⟩ <;> intro h <;> first | omega | (exact absurd rfl h) | (exact absurd h (by simp)) | (exact .inl rfl) | contradiction))
        have z1 : ((ks.length : Int) == 0) = true := by rw [beq_iff_eq]; omega
        clear  hz
        go_enter Tryd.func34, Tryd.ntmps34
        go_wp2_with fail
        go_ret
        exact ⟨by rw [HP.out]; rfl, kbA⟩
      · have HP : Hid (plainB (.mk 2 false n ⟨#[]⟩ [] ks) = false) := Lib.hid (plain_no (fun h => hz (h.2.2.2.2.2.2 (by omega))))
        have z1 : ((ks.length : Int) == 0) = false := beqI (by omega)
        clear  hz
        go_enter Tryd.func34, Tryd.ntmps34
        go_wp2_with fail
        go_ret
        exact ⟨by rw [HP.out]; rfl, kbA⟩
    obtain rfl : n = 0 := Decidable.not_not.1 h2
    clear h2
    by_cases h3 : s ≠ ⟨#[]⟩
    · have s1 := emp_no h3
      have s2 := beq_toList h3
      by_cases h1 : k ≠ 3
      · have HP : Hid (plainB (.mk k false 0 s l ks) = false) := Lib.hid (plain_no (fun h => h1 (h.2.2.2.1 h3)))
        have r1 : decide (k < 0) = false := decide_eq_false (by omega)
        have r2 : decide (5 < k) = false := decide_eq_false (by omega)
        have k3 : (k == 3) = false := beqI h1
        have k3' : (k != 3) = true := bne_iff_ne.2 h1
        clear h1 h3 hr hr2
        go_enter Tryd.func34, Tryd.ntmps34
        go_wp2_with fail
        go_ret
        exact ⟨by rw [HP.out]; rfl, kbA⟩
      obtain rfl : k = 3 := Decidable.not_not.1 h1
      clear h1 hr hr2
      by_cases h4 : l ≠ []
      · have HP : Hid (plainB (.mk 3 false 0 s l ks) = false) := Lib.hid (plain_no (fun h => by have := h.2.2.2.2.1 h4; omega))
        have l0 : 0 < l.length := List.length_pos_iff.2 h4
        have l1 : decide (0 < (l.length : Int)) = true := decide_eq_true (by omega)
        clear h4 h3
        go_enter Tryd.func34, Tryd.ntmps34
        go_wp2_with fail
        go_ret
        exact ⟨by rw [HP.out]; rfl, kbA⟩
      obtain rfl : l = [] := Classical.not_not.1 h4
      clear h4 h3
      by_cases hz : ks.length = 0
      · have HP : Hid (plainB (.mk 3 false 0 s [] ks) = true) := Lib.hid (plain_yes (by unfold plainP; refine ⟨by omega, ?_, ?_, ?_, ?_, ?_, fun _ => hz⟩ <;> intro h <;> first | omega | (exact absurd rfl h) | (exact absurd h (by simp)) | (exact .inl rfl) | contradiction))
        have z1 : ((ks.length : Int) == 0) = true := by rw [beq_iff_eq]; omega
        clear  hz
        go_enter Tryd.func34, Tryd.ntmps34
        go_wp2_with fail
        go_ret
        exact ⟨by rw [HP.out]; rfl, kbA⟩
      · have HP : Hid (plainB (.mk 3 false 0 s [] ks) = false) := Lib.hid (plain_no (fun h => hz (h.2.2.2.2.2.2 (by omega))))
        have z1 : ((ks.length : Int) == 0) = false := beqI (by omega)
        clear  hz
        go_enter Tryd.func34, Tryd.ntmps34
        go_wp2_with fail
        go_ret
        exact ⟨by rw [HP.out]; rfl, kbA⟩
    obtain rfl : s = ⟨#[]⟩ := Classical.not_not.1 h3
    clear h3
    by_cases h4 : l ≠ []
    · have l0 : 0 < l.length := List.length_pos_iff.2 h4
      have l1 : decide (0 < (l.length : Int)) = true := decide_eq_true (by omega)
      by_cases h5 : k = 5
      · subst h5
        clear hr hr2
        by_cases hz : ks.length = l.length
        · have HP : Hid (plainB (.mk 5 false 0 ⟨#[]⟩ l ks) = true) := Lib.hid (plain_yes (by unfold plainP; refine ⟨by omega, ?_, ?_, ?_, fun _ => .inr rfl, fun _ => hz, ?_⟩ <;> intro h <;> first | (exact absurd rfl h) | (exact absurd h (by simp))))
          have z1 : ((ks.length : Int) == (l.length : Int)) = true := by rw [beq_iff_eq]; omega
          clear hz h4
          go_enter Tryd.func34, Tryd.ntmps34
          go_wp2_with fail
          go_ret
          exact ⟨by rw [HP.out]; rfl, kbA⟩
        · have HP : Hid (plainB (.mk 5 false 0 ⟨#[]⟩ l ks) = false) := Lib.hid (plain_no (fun h => hz (h.2.2.2.2.2.1 rfl)))
          have z1 : ((ks.length : Int) == (l.length : Int)) = false := beqI (by omega)
          clear hz h4
          go_enter Tryd.func34, Tryd.ntmps34
          go_wp2_with fail
          go_ret
          exact ⟨by rw [HP.out]; rfl, kbA⟩
      by_cases h6 : k = 4
      · subst h6
        clear hr hr2 h5
        by_cases hz : ks.length = 0
        · have HP : Hid (plainB (.mk 4 false 0 ⟨#[]⟩ l ks) = true) := Lib.hid (plain_yes (by unfold plainP; refine ⟨by omega, ?_, ?_, ?_, ?_, ?_, fun _ => hz⟩ <;> intro h <;> first | omega | (exact absurd rfl h) | (exact absurd h (by simp)) | (exact .inl rfl) | contradiction))
          have z1 : ((ks.length : Int) == 0) = true := by rw [beq_iff_eq]; omega
          clear h4 hz
          go_enter Tryd.func34, Tryd.ntmps34
          go_wp2_with fail
          go_ret
          exact ⟨by rw [HP.out]; rfl, kbA⟩
        · have HP : Hid (plainB (.mk 4 false 0 ⟨#[]⟩ l ks) = false) := Lib.hid (plain_no (fun h => hz (h.2.2.2.2.2.2 (by omega))))
          have z1 : ((ks.length : Int) == 0) = false := beqI (by omega)
          clear h4 hz
          go_enter Tryd.func34, Tryd.ntmps34
          go_wp2_with fail
          go_ret
          exact ⟨by rw [HP.out]; rfl, kbA⟩
      · have HP : Hid (plainB (.mk k false 0 ⟨#[]⟩ l ks) = false) := Lib.hid (plain_no (fun h => by have := h.2.2.2.2.1 h4; omega))
        have r1 : decide (k < 0) = false := decide_eq_false (by omega)
        have r2 : decide (5 < k) = false := decide_eq_false (by omega)
        have k4 : (k == 4) = false := beqI h6
        have k4' : (k != 4) = true := bne_iff_ne.2 h6
        have k5 : (k == 5) = false := beqI h5
        have k5' : (k != 5) = true := bne_iff_ne.2 h5
        clear h4 h5 h6 hr hr2
        go_enter Tryd.func34, Tryd.ntmps34
        go_wp2_with fail
        go_ret
        exact ⟨by rw [HP.out]; rfl, kbA⟩
    obtain rfl : l = [] := Classical.not_not.1 h4
    clear h4
    by_cases h5 : k = 5
    · subst h5
      clear hr hr2
      by_cases hz : ks.length = 0
      · have HP : Hid (plainB (.mk 5 false 0 ⟨#[]⟩ [] ks) = true) := Lib.hid (plain_yes (by unfold plainP; refine ⟨by omega, ?_, ?_, ?_, ?_, fun _ => hz, ?_⟩ <;> intro h <;> first | (exact absurd rfl h) | (exact absurd h (by simp))))
        have z1 : ((ks.length : Int) == 0) = true := by rw [beq_iff_eq]; omega
        clear hz
        go_enter Tryd.func34, Tryd.ntmps34
        go_wp2_with fail
        go_ret
        exact ⟨by rw [HP.out]; rfl, kbA⟩
      · have HP : Hid (plainB (.mk 5 false 0 ⟨#[]⟩ [] ks) = false) := Lib.hid (plain_no (fun h => hz (h.2.2.2.2.2.1 rfl)))
        have z1 : ((ks.length : Int) == 0) = false := beqI (by omega)
        clear hz
        go_enter Tryd.func34, Tryd.ntmps34
        go_wp2_with fail
        go_ret
        exact ⟨by rw [HP.out]; rfl, kbA⟩
    · have k5 : (k == 5) = false := beqI h5
      have k5' : (k != 5) = true := bne_iff_ne.2 h5
      have r1 : decide (k < 0) = false := decide_eq_false (by omega)
      have r2 : decide (5 < k) = false := decide_eq_false (by omega)
      by_cases hz : ks.length = 0
      · have HP : Hid (plainB (.mk k false 0 ⟨#[]⟩ [] ks) = true) := Lib.hid (plain_yes (by unfold plainP; refine ⟨⟨by omega, by omega⟩, ?_, ?_, ?_, ?_, ?_, fun _ => hz⟩ <;> intro h <;> first | omega | (exact absurd rfl h) | (exact absurd h (by simp)) | (exact .inl rfl) | contradiction))
        have z1 : ((ks.length : Int) == 0) = true := by rw [beq_iff_eq]; omega
        clear h5 hr hr2 hz
        go_enter Tryd.func34, Tryd.ntmps34
        go_wp2_with fail
        go_ret
        exact ⟨by rw [HP.out]; rfl, kbA⟩
      · have HP : Hid (plainB (.mk k false 0 ⟨#[]⟩ [] ks) = false) := Lib.hid (plain_no (fun h => hz (h.2.2.2.2.2.2 (by omega))))
        have z1 : ((ks.length : Int) == 0) = false := beqI (by omega)
        clear h5 hr hr2 hz
        go_enter Tryd.func34, Tryd.ntmps34
        go_wp2_with fail
        go_ret
        exact ⟨by rw [HP.out]; rfl, kbA⟩
end Go.Proofs.YtgbagdfcdljleaaDoor.Tr

namespace Go.Proofs.YtgbagdfcdljleaaDoor.Tr
open Go.RowKit
theorem rvalid_any (s : ByteArray) (w : World) (h63 : s.size ≤ 4611686018427387904) :
    Calls Tryd.prog 35 #[.string s] w fun e w' => e = .returned (.bool (Lib.validD s.data.toList)) ∧ w = w' := Ru.rvalid_any s w h63
end Go.Proofs.YtgbagdfcdljleaaDoor.Tr

namespace Go.Proofs.YtgbagdfcdljleaaDoor.Tr
open Go.RowKit

def validS (s : ByteArray) : Bool := Lib.validD s.data.toList
noncomputable def onceB (ks : List ByteArray) : Bool := @decide ks.Nodup (Classical.propDecidable _)
theorem once_yes {ks : List ByteArray} (h : ks.Nodup) : onceB ks = true := @decide_eq_true _ (Classical.propDecidable _) h
theorem once_no {ks : List ByteArray} (h : ¬ ks.Nodup) : onceB ks = false := @decide_eq_false _ (Classical.propDecidable _) h
/-- What is wrong in the whole. -/
noncomputable def ownW (x : V) : Int := if plainB x = false then 2 else if x.num < -9007199254740992 ∨ 9007199254740992 < x.num then 20 else if validS x.text = false then 10 else if x.keys.all validS = false then 10 else if onceB x.keys = false then 41 else 0
theorem ownW_mk (k : Int) (b : Bool) (n : Int) (s : ByteArray) (l : List V) (ks : List ByteArray) : ownW (.mk k b n s l ks) = if plainB (.mk k b n s l ks) = false then 2 else if n < -9007199254740992 ∨ 9007199254740992 < n then 20 else if validS s = false then 10 else if ks.all validS = false then 10 else if onceB ks = false then 41 else 0 := rfl
mutual
/-- The first thing that is wrong. -/
noncomputable def wrongV : V → Int | .mk k b n s l ks => if ownW (.mk k b n s l ks) = 0 then wrongVs l else ownW (.mk k b n s l ks)
noncomputable def wrongVs : List V → Int | [] => 0 | x :: t => if wrongV x = 0 then wrongVs t else wrongV x
end
theorem wrongV_own {x : V} {e : Int} (h : ownW x = e) (he : e ≠ 0) : wrongV x = e := by
  obtain ⟨k, b, n, s, l, ks⟩ := x
  rw [wrongV, h, if_neg he]
theorem wrongV_parts {k n : Int} {b : Bool} {s : ByteArray} {l : List V} {ks : List ByteArray} (h : ownW (.mk k b n s l ks) = 0) : wrongV (.mk k b n s l ks) = wrongVs l := by
  rw [wrongV, if_pos h]
theorem wrongVs_at : ∀ (l : List V) (j : Nat) (h : j < l.length), (∀ q (h : q < l.length), q < j → wrongV l[q] = 0) → wrongV l[j] ≠ 0 → wrongVs l = wrongV l[j]
  | x :: t, 0, _, _, h => by simp only [List.getElem_cons_zero] at h ⊢; rw [wrongVs, if_neg h]
  | x :: t, j + 1, h, hq, hn => by
    have h0 : wrongV x = 0 := hq 0 (by simp) (by omega)
    rw [wrongVs, if_pos h0]
    exact wrongVs_at t j (by simpa using h) (fun q hql hqj => hq (q + 1) (by simpa using hql) (by omega)) hn
theorem wrongVs_none : ∀ (l : List V), (∀ q (h : q < l.length), wrongV l[q] = 0) → wrongVs l = 0
  | [], _ => by rw [wrongVs]
  | x :: t, hq => by
    have h0 : wrongV x = 0 := hq 0 (by simp)
    rw [wrongVs, if_pos h0]
    exact wrongVs_none t (fun q hql => hq (q + 1) (by simpa using hql))
theorem key_le : ∀ (ks : List ByteArray) (j : Nat) (h : j < ks.length), ks[j].size ≤ keysS ks
  | k :: t, 0, _ => by simp [keysS]
  | k :: t, j + 1, h => by
    have := key_le t j (by simpa using h)
    simp only [keysS, List.map_cons, List.sum_cons, List.getElem_cons_succ] at this ⊢
    omega
theorem nodup_snoc (ks : List ByteArray) (j : Nat) (h : j < ks.length) (hd : (ks.take j).Nodup) (hn : ∀ q (h : q < ks.length), q < j → ks[q] ≠ ks[j]) : (ks.take (j + 1)).Nodup := by
  rw [List.take_succ_eq_append_getElem h, List.nodup_append]
  refine ⟨hd, by simp, fun a ha b hb => ?_⟩
  simp only [List.mem_singleton] at hb
  subst hb
  obtain ⟨q, hq, rfl⟩ := List.getElem_of_mem ha
  rw [List.length_take] at hq
  rw [List.getElem_take]
  exact hn q (by omega) (by omega)
theorem not_nodup (ks : List ByteArray) (q j : Nat) (hq : q < j) (h : j < ks.length) (e : ks[q]'(by omega) = ks[j]) : ¬ ks.Nodup := fun hd => by
  have := (List.getElem_inj hd).1 e
  omega
theorem Calls.k0 {f : Nat} {args : Array Value} {w0 w : World} {v : Value} (hK : KB w0 w) (h : Calls Tryd.prog f args w fun e w' => e = .returned v ∧ w' = w) : Calls Tryd.prog f args w fun e w' => e = .returned v ∧ KB w0 w' :=
  h.mono fun _ _ ⟨he, hb⟩ => ⟨he, hb ▸ hK⟩

set_option maxRecDepth 100000 in
set_option maxHeartbeats 16000000 in
theorem wrong_any : ∀ (N : Nat) (x : V) (v : Value) (w : World), sizeV x ≤ N → N ≤ 1000000 → isV w x v →
    Calls Tryd.prog 20 #[v] w fun e w' => e = .returned (.int .i64 (wrongV x)) ∧ Below w.heap.size w w'
  | 0, x, v, w, hN, _, h => absurd (sizeV_pos x) (by omega)
  | N + 1, x, v, w, hN, hM, h => by
    have h00 := h
    obtain ⟨k, b, n, s, l, ks⟩ := x
    unfold isV at h
    obtain ⟨lv, kv, rfl, hk, hn, hs, ⟨a, cap, ⟨o, rfl, hc1, hc2, ho⟩, hvs⟩, ⟨a2, cap2, ⟨o2, rfl, hc3, hc4, ho2⟩, hks⟩⟩ := h
    unfold maxLen at hs hc2 hc4
    have hsz : sizeV (.mk k b n s l ks) = 1 + s.size + keysS ks + sizeVs l := by rw [sizeV]
    have hSL : sizeVs l ≤ N := by omega
    have hs1 : s.size ≤ 1000000 := by omega
    have hkS : keysS ks ≤ 1000000 := by omega
    have HPl : Hid (∀ w1, KB (w.alloc (.cells #[.int .i8 k, .bool b, .int .i64 n, .string s, .slice o l.length cap, .slice o2 ks.length cap2] 28)) w1 → Calls Tryd.prog 34 #[.agg #[.int .i8 k, .bool b, .int .i64 n, .string s, .slice o l.length cap, .slice o2 ks.length cap2]] w1 fun e w' => e = .returned (.bool (plainB (.mk k b n s l ks))) ∧ KB (w.alloc (.cells #[.int .i8 k, .bool b, .int .i64 n, .string s, .slice o l.length cap, .slice o2 ks.length cap2] 28)) w') := Lib.hid fun w1 hK => Calls.kb hK (plain_any _ _ _ (isV_below hK (isV_below kbA h00)))
    have HVa : Hid (∀ (S : ByteArray), S.size ≤ 1000000 → ∀ w1, KB (w.alloc (.cells #[.int .i8 k, .bool b, .int .i64 n, .string s, .slice o l.length cap, .slice o2 ks.length cap2] 28)) w1 → Calls Tryd.prog 35 #[.string S] w1 fun e w' => e = .returned (.bool (validS S)) ∧ KB (w.alloc (.cells #[.int .i8 k, .bool b, .int .i64 n, .string s, .slice o l.length cap, .slice o2 ks.length cap2] 28)) w') := Lib.hid fun S hS w1 hK => Calls.k0 hK ((rvalid_any S w1 (by omega)).mono fun _ _ ⟨h1, h2⟩ => ⟨h1, h2.symm⟩)
    have hO : ∀ e : Int, e ≠ 0 → ownW (.mk k b n s l ks) = e → wrongV (.mk k b n s l ks) = e := fun e he h => wrongV_own h he
    have HB0 : Hid (KB w (w.alloc (.cells #[.int .i8 k, .bool b, .int .i64 n, .string s, .slice o l.length cap, .slice o2 ks.length cap2] 28))) := Lib.hid kbA
    have H2 : Hid ((w.alloc (.cells #[.int .i8 k, .bool b, .int .i64 n, .string s, .slice o l.length cap, .slice o2 ks.length cap2] 28)).cell? ⟨w.heap.size, 2, none⟩ = some (.int .i64 n)) := Lib.hid (by simp)
    have H3 : Hid ((w.alloc (.cells #[.int .i8 k, .bool b, .int .i64 n, .string s, .slice o l.length cap, .slice o2 ks.length cap2] 28)).cell? ⟨w.heap.size, 3, none⟩ = some (.string s)) := Lib.hid (by simp)
    have H4 : Hid ((w.alloc (.cells #[.int .i8 k, .bool b, .int .i64 n, .string s, .slice o l.length cap, .slice o2 ks.length cap2] 28)).cell? ⟨w.heap.size, 4, none⟩ = some (.slice o l.length cap)) := Lib.hid (by simp)
    have H5 : Hid ((w.alloc (.cells #[.int .i8 k, .bool b, .int .i64 n, .string s, .slice o l.length cap, .slice o2 ks.length cap2] 28)).cell? ⟨w.heap.size, 5, none⟩ = some (.slice o2 ks.length cap2)) := Lib.hid (by simp)
    have HK := Lib.hid hks
    have HV := Lib.hid hvs
    have HKS := Lib.hid (key_le ks)
    clear h00 hk hn hsz hN hks hvs
    go_enter Tryd.func20, Tryd.ntmps20
    go_wp2_with fail
    generalize hW1 : w.alloc (.cells #[.int .i8 k, .bool b, .int .i64 n, .string s, .slice o l.length cap, .slice o2 ks.length cap2] 28) = W1 at *
    clear hW1
    refine (HPl.out W1 (Below.refl _ _)).mono ?_
    rintro e w5 ⟨rfl, hb5⟩
    clear HPl
    have c2 := cell_below hb5 _ _ H2.out
    have c3 := cell_below hb5 _ _ H3.out
    cases hp : plainB (.mk k b n s l ks) with
    | false =>
      have HF : Hid (wrongV (.mk k b n s l ks) = 2) := Lib.hid (hO 2 (by omega) (by rw [ownW_mk, hp, if_pos rfl]))
      clear hp hO ho ho2
      go_wp2_with fail
      go_ret
      exact ⟨by rw [HF.out]; rfl, HB0.out.trans (hb5.mono HB0.out.size)⟩
    | true =>
    by_cases hnr : n < -9007199254740992 ∨ 9007199254740992 < n
    · have HF : Hid (wrongV (.mk k b n s l ks) = 20) := Lib.hid (hO 20 (by omega) (by rw [ownW_mk, hp, if_neg (by simp)]; exact if_pos hnr))
      by_cases hn1 : n < -9007199254740992
      · clear hp hO ho ho2 hnr
        go_wp2_with fail
        go_ret
        exact ⟨by rw [HF.out]; rfl, HB0.out.trans (hb5.mono HB0.out.size)⟩
      · have d1 : decide (n < -9007199254740992) = false := decide_eq_false hn1
        have d2 : 9007199254740992 < n := by omega
        clear hp hO ho ho2 hnr hn1
        go_wp2_with fail
        go_ret
        exact ⟨by rw [HF.out]; rfl, HB0.out.trans (hb5.mono HB0.out.size)⟩
    have d1 : decide (n < -9007199254740992) = false := decide_eq_false (by omega)
    have d2 : decide (9007199254740992 < n) = false := decide_eq_false (by omega)
    cases hvt : validS s with
    | false =>
      have HF : Hid (wrongV (.mk k b n s l ks) = 10) := Lib.hid (hO 10 (by omega) (by rw [ownW_mk, hp, if_neg (by simp), if_neg hnr]; exact if_pos hvt))
      have HVT := Lib.hid hvt
      clear hp hO ho ho2 hnr hvt
      go_wp2_with (go_at_call 35; (refine (HVa.out s hs1 _ hb5).mono ?_); rw [HVT.out]; rintro e w6 ⟨rfl, hb6⟩)
      go_ret
      exact ⟨by rw [HF.out]; rfl, HB0.out.trans (hb6.mono HB0.out.size)⟩
    | true =>
    have HVT := Lib.hid hvt
    have HO2 : Hid (∀ e : Int, (if ks.all validS = false then 10 else if onceB ks = false then 41 else 0) = e → (e ≠ 0 → wrongV (.mk k b n s l ks) = e) ∧ (e = 0 → wrongV (.mk k b n s l ks) = wrongVs l)) := Lib.hid (fun e he => by
      have h : ownW (.mk k b n s l ks) = e := by
        rw [ownW_mk, hp, if_neg (by simp), if_neg hnr, if_neg (by rw [hvt]; simp)]
        exact he
      exact ⟨fun h0 => wrongV_own h h0, fun h0 => wrongV_parts (by rw [h, h0])⟩)
    clear hp hO hnr hvt
    go_wp2_with (go_at_call 35; (refine (HVa.out s hs1 _ hb5).mono ?_); rw [HVT.out]; rintro e w6 ⟨rfl, hb6⟩)
    have HB6 := Lib.hid hb6
    clear hb5 hb6 c2 c3 d1 d2
    go_loopw [3] (fun i wr => ∃ j : Nat, j ≤ ks.length ∧ i = .int .i64 j ∧ Hid (∀ q (h : q < ks.length), q < j → validS ks[q] = true) ∧ KB W1 wr) (fun i _ => ks.length - (intOf i).toNat)
    case atStart => exact ⟨0, by omega, rfl, Lib.hid (fun q _ h => absurd h (by omega)), HB6.out⟩
    case round =>
      obtain ⟨j, hj, rfl, hye, hB⟩ := hrel
      have b5 := cell_below hB _ _ H5.out
      by_cases hlt : j < ks.length
      · obtain ⟨g1, z1⟩ := HK.out j hlt
        have g1 := cell_below hB _ _ (cell_below HB0.out _ _ g1)
        obtain rfl := ho2 (by omega)
        have z2 : ks[j].size ≤ 1000000 := by have := HKS.out j hlt; omega
        cases hvk : validS ks[j] with
        | false =>
          have HF : Hid (wrongV (.mk k b n s l ks) = 10) := Lib.hid ((HO2.out 10 (if_pos (by
            rw [← Bool.not_eq_true, List.all_eq_true]
            exact fun hc => by have := hc ks[j] (List.getElem_mem hlt); rw [hvk] at this; cases this))).1 (by omega))
          generalize ks[j] = K at *
          have HVK := Lib.hid hvk
          have HBB := Lib.hid hB
          clear hvk hye z1 hB
          go_wp2_with (go_at_call 35; (refine (HVa.out K z2 _ HBB.out).mono ?_); rw [HVK.out]; rintro e w7 ⟨rfl, hb7⟩)
          go_ret
          exact ⟨by rw [HF.out]; rfl, HB0.out.trans (hb7.mono HB0.out.size)⟩
        | true =>
          have HN : Hid (∀ q (h : q < ks.length), q < j + 1 → validS ks[q] = true) := Lib.hid (fun q h h2 => by
            by_cases e : q = j
            · subst e; exact hvk
            · exact hye.out q h (by omega))
          generalize ks[j] = K at *
          have HVK := Lib.hid hvk
          have HBB := Lib.hid hB
          clear hvk hye z1 hB
          go_wp2_with (go_at_call 35; (refine (HVa.out K z2 _ HBB.out).mono ?_); rw [HVK.out]; rintro e w7 ⟨rfl, hb7⟩)
          go_roundw
          case rel => exact ⟨j + 1, by omega, by go_num, HN, hb7⟩
          case measure => simp [intOf]; omega
      · have HAll : Hid (ks.all validS = true) := Lib.hid (by
          rw [List.all_eq_true]
          intro K hK
          obtain ⟨q, hq, rfl⟩ := List.getElem_of_mem hK
          exact hye.out q hq (by omega))
        have HB7 := Lib.hid hB
        clear hye hB
        go_wp2_with fail
        clear hlt hj b5
        go_loopw [4] (fun i wr => ∃ j : Nat, j ≤ ks.length ∧ i = .int .i64 j ∧ Hid ((ks.take j).Nodup) ∧ KB W1 wr) (fun i _ => ks.length - (intOf i).toNat)
        case atStart => exact ⟨0, by omega, rfl, Lib.hid (by simp), HB7.out⟩
        case round =>
          obtain ⟨j, hj, rfl, hye, hB⟩ := hrel
          have b5 := cell_below hB _ _ H5.out
          by_cases hlt : j < ks.length
          · obtain rfl := ho2 (by omega)
            have HB8 := Lib.hid hB
            clear hB
            go_wp2_with fail
            clear b5
            go_loopw [5] (fun i wr => ∃ q : Nat, q ≤ j ∧ i = .int .i64 q ∧ Hid (∀ p (h : p < ks.length), p < q → ks[p] ≠ ks[j]) ∧ KB W1 wr) (fun i _ => j - (intOf i).toNat)
            case atStart => exact ⟨0, by omega, rfl, Lib.hid (fun p _ h => absurd h (by omega)), HB8.out⟩
            case round =>
              obtain ⟨q, hq, rfl, hqe, hB⟩ := hrel
              have b5 := cell_below hB _ _ H5.out
              by_cases hql : q < j
              · obtain ⟨g1, _⟩ := HK.out q (by omega)
                have g1 := cell_below hB _ _ (cell_below HB0.out _ _ g1)
                obtain ⟨g2, _⟩ := HK.out j hlt
                have g2 := cell_below hB _ _ (cell_below HB0.out _ _ g2)
                have i0 : (0 : Int) ≤ (q : Int) := by omega
                have i1 : (q : Int) < (ks.length : Int) := by omega
                have i2 : (0 : Int) ≤ (j : Int) := by omega
                have i3 : (j : Int) < (ks.length : Int) := by omega
                have HBB := Lib.hid hB
                by_cases hK : ks[q]'(by omega) = ks[j]
                · have HF : Hid (wrongV (.mk k b n s l ks) = 41) := Lib.hid ((HO2.out 41 (by rw [HAll.out, if_neg (by simp), if_pos (once_no (not_nodup ks q j hql hlt hK))])).1 (by omega))
                  have HN' : Hid True := Lib.hid trivial
                  rw [hK] at g1
                  generalize ks[j] = K at *
                  clear hK hqe hye hB
                  go_wp2_with fail
                  go_quiet (fail)
                  go_wp2_with fail
                  go_ret
                  exact ⟨by rw [HF.out]; rfl, HB0.out.trans ((HBB.out.trans (drewB _ _ _)).mono HB0.out.size)⟩
                · have HN : Hid (∀ p (h : p < ks.length), p < q + 1 → ks[p] ≠ ks[j]) := Lib.hid (fun p h h2 => by
                    by_cases e : p = q
                    · subst e; exact hK
                    · exact hqe.out p h (by omega))
                  have f1 := beq_toList hK
                  generalize hX : ks[q]'(by omega) = X at *
                  generalize hY : ks[j] = Y at *
                  clear hX hY hK hqe hB
                  go_wp2_with fail
                  go_quiet (fail)
                  go_wp2_with fail
                  go_roundw
                  case rel => exact ⟨q + 1, by omega, by go_num, HN, HBB.out.trans (drewB _ _ _)⟩
                  case measure => simp [intOf]; omega
              · have HN : Hid ((ks.take (j + 1)).Nodup) := Lib.hid (nodup_snoc ks j hlt hye.out (fun p h h2 => hqe.out p h (by omega)))
                have HBB := Lib.hid hB
                clear hqe hye hB
                go_wp2_with fail
                go_roundw
                case rel => exact ⟨j + 1, by omega, by go_num, HN, HBB.out⟩
                case measure => simp [intOf]; omega
          · have HF : Hid (wrongV (.mk k b n s l ks) = wrongVs l) := Lib.hid ((HO2.out 0 (by
              rw [HAll.out, if_neg (by simp), if_neg]
              have h := hye.out
              rw [List.take_of_length_le (by omega)] at h
              rw [once_yes h]; simp)).2 rfl)
            have HB9 := Lib.hid hB
            clear hye hB
            go_wp2_with fail
            clear hlt hj b5 ho2
            go_loopw [6] (fun i wr => ∃ j : Nat, j ≤ l.length ∧ i = .int .i64 j ∧ Hid (∀ q (h : q < l.length), q < j → wrongV l[q] = 0) ∧ KB W1 wr) (fun i _ => l.length - (intOf i).toNat)
            case atStart => exact ⟨0, by omega, rfl, Lib.hid (fun q _ h => absurd h (by omega)), HB9.out⟩
            case round =>
              obtain ⟨j, hj, rfl, hye, hB⟩ := hrel
              have b4 := cell_below hB _ _ H4.out
              by_cases hlt : j < l.length
              · obtain rfl := ho (by omega)
                have hvw := isVs_keep (cell_below hB) l a (isVs_keep (cell_below HB0.out) l a HV.out)
                obtain ⟨c0, c1, c2, c3, c4, c5, g0, g1, g2, g3, g4, g5, hx5⟩ := isVs_at l a j hlt hvw
                have hI := wrong_any N l[j] _ wr (by have := sizeVs_get l j hlt; omega) (by omega) hx5
                have HBB := Lib.hid hB
                by_cases hz : wrongV l[j] = 0
                · rw [hz] at hI
                  have HI := Lib.hid hI
                  have HN : Hid (∀ q (h : q < l.length), q < j + 1 → wrongV l[q] = 0) := Lib.hid (fun q h h2 => by
                    by_cases e : q = j
                    · subst e; exact hz
                    · exact hye.out q h (by omega))
                  clear hI hB hvw hx5 hz hye
                  go_wp2_with (go_at_call 20; (with_reducible refine HI.out.mono ?_); rintro e w5 ⟨rfl, hb5⟩)
                  go_roundw
                  case rel => exact ⟨j + 1, by omega, by go_num, HN, HBB.out.trans (hb5.mono HBB.out.size)⟩
                  case measure => simp [intOf]; omega
                · have hwv := wrongVs_at l j hlt (fun q h h2 => hye.out q h h2) hz
                  obtain ⟨z, hzz⟩ : ∃ z, wrongV l[j] = z := ⟨_, rfl⟩
                  rw [hzz] at hI hwv hz
                  have HG : Hid (wrongV (.mk k b n s l ks) = z) := Lib.hid (HF.out.trans hwv)
                  have HI := Lib.hid hI
                  have z1 : (z == 0) = false := beqI hz
                  have z2 : (z != 0) = true := bne_iff_ne.2 hz
                  clear hI hB hvw hx5 hz hye hwv hzz
                  go_wp2_with (go_at_call 20; (with_reducible refine HI.out.mono ?_); rintro e w5 ⟨rfl, hb5⟩)
                  go_ret
                  exact ⟨by rw [HG.out]; rfl, HB0.out.trans ((HBB.out.trans (hb5.mono HBB.out.size)).mono HB0.out.size)⟩
              · have HG : Hid (wrongV (.mk k b n s l ks) = 0) := Lib.hid (by rw [HF.out]; exact wrongVs_none l (fun q h => hye.out q h (by omega)))
                have HBB := Lib.hid hB
                clear hye hB
                go_wp2_with fail
                go_ret
                exact ⟨by rw [HG.out]; rfl, HB0.out.trans (HBB.out.mono HB0.out.size)⟩
end Go.Proofs.YtgbagdfcdljleaaDoor.Tr

namespace Go.Proofs.YtgbagdfcdljleaaDoor.Tr
open Go.RowKit

/-- What is wrong with a value; 0: it may be. -/
noncomputable def checkV (x : V) : Int := if 24 < depthV x then 30 else if wrongV x ≠ 0 then wrongV x else if 4096 < countV x then 3 else 0
set_option maxRecDepth 100000 in
set_option maxHeartbeats 4000000 in
theorem check_any (x : V) (v : Value) (w : World) (hx : sizeV x ≤ 1000000) (h : isV w x v) :
    Calls Tryd.prog 12 #[v] w fun e w' => e = .returned (.int .i64 (checkV x)) ∧ Below w.heap.size w w' := by
  have hC : checkV x = if deepB x 24 = true then 30 else if wrongV x ≠ 0 then wrongV x else if 4096 < countV x then 3 else 0 := by
    unfold checkV deepB
    by_cases h : 24 < depthV x
    · rw [if_pos h, if_pos (decide_eq_true h)]
    · rw [decide_eq_false h, if_neg h, if_neg (by simp : ¬ (false = true))]
  have hcle : countV x ≤ 1000000 := Nat.le_trans (count_le_size x) hx
  obtain ⟨y, hy⟩ : ∃ y, checkV x = y := ⟨_, rfl⟩
  rw [hy] at hC ⊢
  clear hy
  have h00 := h
  obtain ⟨k, b, n, s, l, ks⟩ := x
  unfold isV at h
  obtain ⟨lv, kv, rfl, _, _, _, ⟨a, cap, ⟨o, rfl, _⟩, _⟩, ⟨a2, cap2, ⟨o2, rfl, _⟩, _⟩⟩ := h
  have P1 : Hid (∀ w1, KB (w.alloc (.cells #[.int .i8 k, .bool b, .int .i64 n, .string s, .slice o l.length cap, .slice o2 ks.length cap2] 28)) w1 → Calls Tryd.prog 19 #[.agg #[.int .i8 k, .bool b, .int .i64 n, .string s, .slice o l.length cap, .slice o2 ks.length cap2], .int .i64 24] w1 fun e w' => e = .returned (.bool (deepB (.mk k b n s l ks) 24)) ∧ KB (w.alloc (.cells #[.int .i8 k, .bool b, .int .i64 n, .string s, .slice o l.length cap, .slice o2 ks.length cap2] 28)) w') := Lib.hid fun w1 hK => Calls.kb hK (deeper_any 24 _ _ w1 (by decide) (isV_below hK (isV_below kbA h00)))
  have P2 : Hid (∀ w1, KB (w.alloc (.cells #[.int .i8 k, .bool b, .int .i64 n, .string s, .slice o l.length cap, .slice o2 ks.length cap2] 28)) w1 → Calls Tryd.prog 20 #[.agg #[.int .i8 k, .bool b, .int .i64 n, .string s, .slice o l.length cap, .slice o2 ks.length cap2]] w1 fun e w' => e = .returned (.int .i64 (wrongV (.mk k b n s l ks))) ∧ KB (w.alloc (.cells #[.int .i8 k, .bool b, .int .i64 n, .string s, .slice o l.length cap, .slice o2 ks.length cap2] 28)) w') := Lib.hid fun w1 hK => Calls.kb hK (wrong_any 1000000 _ _ w1 hx (by decide) (isV_below hK (isV_below kbA h00)))
  have P3 : Hid (∀ w1, KB (w.alloc (.cells #[.int .i8 k, .bool b, .int .i64 n, .string s, .slice o l.length cap, .slice o2 ks.length cap2] 28)) w1 → Calls Tryd.prog 21 #[.agg #[.int .i8 k, .bool b, .int .i64 n, .string s, .slice o l.length cap, .slice o2 ks.length cap2]] w1 fun e w' => e = .returned (.int .i64 (countV (.mk k b n s l ks))) ∧ KB (w.alloc (.cells #[.int .i8 k, .bool b, .int .i64 n, .string s, .slice o l.length cap, .slice o2 ks.length cap2] 28)) w') := Lib.hid fun w1 hK => Calls.kb hK (count_any 1000000 _ _ w1 hx (by decide) (isV_below hK (isV_below kbA h00)))
  have HB0 : Hid (KB w (w.alloc (.cells #[.int .i8 k, .bool b, .int .i64 n, .string s, .slice o l.length cap, .slice o2 ks.length cap2] 28))) := Lib.hid kbA
  have HC : Hid (∀ w1, KB (w.alloc (.cells #[.int .i8 k, .bool b, .int .i64 n, .string s, .slice o l.length cap, .slice o2 ks.length cap2] 28)) w1 → w1.cell? ⟨w.heap.size, 0, none⟩ = some (.int .i8 k) ∧ w1.cell? ⟨w.heap.size, 1, none⟩ = some (.bool b) ∧ w1.cell? ⟨w.heap.size, 2, none⟩ = some (.int .i64 n) ∧ w1.cell? ⟨w.heap.size, 3, none⟩ = some (.string s) ∧ w1.cell? ⟨w.heap.size, 4, none⟩ = some (.slice o l.length cap) ∧ w1.cell? ⟨w.heap.size, 5, none⟩ = some (.slice o2 ks.length cap2)) := Lib.hid fun w1 hK =>
    ⟨cell_below hK _ _ (by simp), cell_below hK _ _ (by simp), cell_below hK _ _ (by simp), cell_below hK _ _ (by simp), cell_below hK _ _ (by simp), cell_below hK _ _ (by simp)⟩
  clear h00 hx
  generalize V.mk k b n s l ks = x at *
  obtain ⟨D, hD⟩ : ∃ D, deepB x 24 = D := ⟨_, rfl⟩
  obtain ⟨E, hE⟩ : ∃ E, wrongV x = E := ⟨_, rfl⟩
  obtain ⟨C, hCC⟩ : ∃ C, countV x = C := ⟨_, rfl⟩
  rw [hD] at hC P1
  rw [hE] at hC P2
  rw [hCC] at hC P3 hcle
  clear hD hE hCC
  cases D with
  | true =>
    have HY : Hid (y = 30) := Lib.hid (hC.trans (if_pos rfl))
    clear hC
    go_enter Tryd.func12, Tryd.ntmps12
    go_wp2_with fail
    generalize hW1 : w.alloc (.cells #[.int .i8 k, .bool b, .int .i64 n, .string s, .slice o l.length cap, .slice o2 ks.length cap2] 28) = W1 at *
    clear hW1
    refine (P1.out W1 (Below.refl _ _)).mono ?_
    rintro e w5 ⟨rfl, hb5⟩
    go_wp2_with fail
    go_ret
    exact ⟨by rw [HY.out]; rfl, HB0.out.trans (hb5.mono HB0.out.size)⟩
  | false =>
    rw [if_neg (by simp)] at hC
    by_cases hE0 : E ≠ 0
    · have HY : Hid (y = E) := Lib.hid (hC.trans (if_pos hE0))
      have z1 : (E == 0) = false := beqI hE0
      have z2 : (E != 0) = true := bne_iff_ne.2 hE0
      clear hC hE0
      go_enter Tryd.func12, Tryd.ntmps12
      go_wp2_with fail
      generalize hW1 : w.alloc (.cells #[.int .i8 k, .bool b, .int .i64 n, .string s, .slice o l.length cap, .slice o2 ks.length cap2] 28) = W1 at *
      clear hW1
      refine (P1.out W1 (Below.refl _ _)).mono ?_
      rintro e w5 ⟨rfl, hb5⟩
      obtain ⟨m0, m1, m2, m3, m4, m5⟩ := HC.out w5 hb5
      go_wp2_with (go_at_call 20; (refine (P2.out _ hb5).mono ?_); rintro e w6 ⟨rfl, hb6⟩)
      go_ret
      exact ⟨by rw [HY.out]; rfl, HB0.out.trans (hb6.mono HB0.out.size)⟩
    · obtain rfl : E = 0 := Decidable.not_not.1 hE0
      rw [if_neg hE0] at hC
      have HY : Hid (y = if 4096 < C then 3 else 0) := Lib.hid hC
      clear hC hE0
      by_cases hc : 4096 < C
      · have c1 : decide ((4096 : Int) < (C : Int)) = true := decide_eq_true (by omega)
        have HZ : Hid (y = 3) := Lib.hid (HY.out.trans (if_pos hc))
        clear hc
        go_enter Tryd.func12, Tryd.ntmps12
        go_wp2_with fail
        generalize hW1 : w.alloc (.cells #[.int .i8 k, .bool b, .int .i64 n, .string s, .slice o l.length cap, .slice o2 ks.length cap2] 28) = W1 at *
        clear hW1
        refine (P1.out W1 (Below.refl _ _)).mono ?_
        rintro e w5 ⟨rfl, hb5⟩
        obtain ⟨m0, m1, m2, m3, m4, m5⟩ := HC.out w5 hb5
        go_wp2_with (first | (go_at_call 20; (refine (P2.out _ hb5).mono ?_); rintro e w6 ⟨rfl, hb6⟩; obtain ⟨p0, p1, p2, p3, p4, p5⟩ := HC.out w6 hb6) | (go_at_call 21; (refine (P3.out _ hb6).mono ?_); rintro e w7 ⟨rfl, hb7⟩))
        go_ret
        exact ⟨by rw [HZ.out]; rfl, HB0.out.trans (hb7.mono HB0.out.size)⟩
      · have c1 : decide ((4096 : Int) < (C : Int)) = false := decide_eq_false (by omega)
        have HZ : Hid (y = 0) := Lib.hid (HY.out.trans (if_neg hc))
        clear hc
        go_enter Tryd.func12, Tryd.ntmps12
        go_wp2_with fail
        generalize hW1 : w.alloc (.cells #[.int .i8 k, .bool b, .int .i64 n, .string s, .slice o l.length cap, .slice o2 ks.length cap2] 28) = W1 at *
        clear hW1
        refine (P1.out W1 (Below.refl _ _)).mono ?_
        rintro e w5 ⟨rfl, hb5⟩
        obtain ⟨m0, m1, m2, m3, m4, m5⟩ := HC.out w5 hb5
        go_wp2_with (first | (go_at_call 20; (refine (P2.out _ hb5).mono ?_); rintro e w6 ⟨rfl, hb6⟩; obtain ⟨p0, p1, p2, p3, p4, p5⟩ := HC.out w6 hb6) | (go_at_call 21; (refine (P3.out _ hb6).mono ?_); rintro e w7 ⟨rfl, hb7⟩))
        go_ret
        exact ⟨by rw [HZ.out]; rfl, HB0.out.trans (hb7.mono HB0.out.size)⟩
end Go.Proofs.YtgbagdfcdljleaaDoor.Tr
