/-
  The contract of the reference's Same: it tells whether two values are the same tree. · Contracts of the reference's Text, Num, Get. · The contract of the reference's plain: has a value what its kind names alone?
-/
import Derived.Test.YtlamkadllbgamaaGreatDoorGB
import Derived.Lib.Strings
import Derived.StillTailTactics
set_option linter.unusedVariables false
set_option linter.unusedSimpArgs false
namespace Go.Proofs.YtlamkadllbgamaaGreatDoor
open Go.RowKit

/-- The same tree? -/
noncomputable def sm (x y : V) : Bool := @decide (x = y) (Classical.propDecidable _)
theorem sm_yes {x y : V} (h : x = y) : sm x y = true := @decide_eq_true _ (Classical.propDecidable _) h
theorem sm_no {x y : V} (h : x ≠ y) : sm x y = false := @decide_eq_false _ (Classical.propDecidable _) h
theorem sm_eq {x y : V} (h : sm x y = true) : x = y := @of_decide_eq_true _ (Classical.propDecidable _) h
theorem sm_ne {x y : V} (h : sm x y = false) : x ≠ y := @of_decide_eq_false _ (Classical.propDecidable _) h
theorem KB.two {w : World} {o o' : Obj} : Below w.heap.size w ((w.alloc o).alloc o') := ((Below.refl _ _).alloc (Nat.le_refl _) _).alloc (by simp) _
theorem beq_toList {S T : ByteArray} (h : S ≠ T) : (S.toList == T.toList) = false := by
  rw [beq_eq_false_iff_ne]
  intro e
  rw [Lib.toList_data, Lib.toList_data] at e
  exact h (ByteArray.ext (by simpa using congrArg List.toArray e))
theorem drewB (n : Nat) (w : World) (m : Nat) : Below n w (w.drewN m) := ⟨rfl, rfl, rfl, Nat.le_refl _, fun _ _ => rfl⟩
theorem drewB1 (n : Nat) (w : World) : Below n w w.drew := ⟨rfl, rfl, rfl, Nat.le_refl _, fun _ _ => rfl⟩
theorem beqI {a b : Int} (h : a ≠ b) : (a == b) = false := by rw [beq_eq_false_iff_ne]; exact h
theorem beqB {a b : Bool} (h : a ≠ b) : (a == b) = false := by rw [beq_eq_false_iff_ne]; exact h

end Go.Proofs.YtlamkadllbgamaaGreatDoor

namespace Go.Proofs.YtlamkadllbgamaaGreatDoor
open Go.RowKit

theorem isK_nil (w : World) : isK w [] (.slice none 0 0) := ⟨⟨0, 0, none⟩, 0, ⟨none, rfl, Nat.le_refl _, by unfold maxLen; omega, fun h => absurd h (by decide)⟩, fun i h => absurd h (by simp)⟩
theorem isV_leaf (w : World) (k : Int) (b : Bool) (n : Int) (s : ByteArray) (hk : -128 ≤ k ∧ k ≤ 127) (hn : -9223372036854775808 ≤ n ∧ n ≤ 9223372036854775807) (hs : s.size ≤ maxLen) :
    isV w (.mk k b n s [] []) (.agg #[.int .i8 k, .bool b, .int .i64 n, .string s, .slice none 0 0, .slice none 0 0]) := by
  unfold isV
  exact ⟨_, _, rfl, hk, hn, hs, ⟨⟨0, 0, none⟩, 0, ⟨none, rfl, Nat.le_refl _, by unfold maxLen; omega, fun h => absurd h (by decide)⟩, by unfold isVs; trivial⟩, isK_nil w⟩
def V0 : V := .mk 0 false 0 ⟨#[]⟩ [] []
/-- A call that answers a value. -/
def RetV (x : V) (w : World) (e : Ending) (w' : World) : Prop := ∃ v, e = .returned v ∧ isV w' x v ∧ Below w.heap.size w w'

/-- The value beside a key. -/
def look : List ByteArray → List V → ByteArray → Option V
  | k :: ks, x :: l, key => if k = key then some x else look ks l key
  | _, _, _ => none
theorem look_at : ∀ (ks : List ByteArray) (l : List V) (key : ByteArray) (j : Nat) (h : j < ks.length) (h' : j < l.length), (∀ q, q < j → ks[q]? ≠ some key) → ks[j] = key → look ks l key = some l[j]
  | k :: ks, x :: l, key, 0, _, _, _, e => by simp only [List.getElem_cons_zero] at e; simp [look, e]
  | k :: ks, x :: l, key, j + 1, h, h', hq, e => by
    have h0 : k ≠ key := by have := hq 0 (by omega); simpa using this
    simp only [look, if_neg h0]
    rw [look_at ks l key j (by simpa using h) (by simpa using h') (fun q hqj => by have := hq (q + 1) (by omega); simpa using this) (by simpa using e)]
    simp
theorem look_none : ∀ (ks : List ByteArray) (l : List V) (key : ByteArray), (∀ q, q < ks.length → ks[q]? ≠ some key) → look ks l key = none
  | [], l, key, _ => by cases l <;> rfl
  | k :: ks, [], key, _ => rfl
  | k :: ks, x :: l, key, hq => by
    have h0 : k ≠ key := by have := hq 0 (by simp); simpa using this
    simp only [look, if_neg h0]
    exact look_none ks l key (fun q hqj => by have := hq (q + 1) (by simpa using hqj); simpa using this)
def getV (x : V) (key : ByteArray) : Option V := if x.kind = 5 ∧ x.keys.length = x.list.length then look x.keys x.list key else none
def RetG (g : Option V) (w : World) (e : Ending) (w' : World) : Prop := ∃ v, e = .returned (.tuple #[v, .bool g.isSome]) ∧ isV w' (g.getD V0) v ∧ Below w.heap.size w w'
theorem isV_V0 (w : World) : isV w V0 (.agg #[.int .i8 0, .bool false, .int .i64 0, .string ⟨#[]⟩, .slice none 0 0, .slice none 0 0]) := isV_leaf _ _ _ _ _ (by omega) (by omega) (by decide)

end Go.Proofs.YtlamkadllbgamaaGreatDoor

namespace Go.Proofs.YtlamkadllbgamaaGreatDoor
open Go.RowKit

/-- Has it what its kind names alone? -/
def plainP : V → Prop
  | .mk k b n s l ks => (0 ≤ k ∧ k ≤ 5) ∧ (b = true → k = 1) ∧ (n ≠ 0 → k = 2) ∧ (s ≠ ⟨#[]⟩ → k = 3) ∧ (l ≠ [] → k = 4 ∨ k = 5) ∧ (k = 5 → ks.length = l.length) ∧ (k ≠ 5 → ks.length = 0)
noncomputable def plainB (x : V) : Bool := @decide (plainP x) (Classical.propDecidable _)
theorem plain_yes {x : V} (h : plainP x) : plainB x = true := @decide_eq_true _ (Classical.propDecidable _) h
theorem plain_no {x : V} (h : ¬ plainP x) : plainB x = false := @decide_eq_false _ (Classical.propDecidable _) h
theorem plain_eq {x : V} (h : plainB x = true) : plainP x := @of_decide_eq_true _ (Classical.propDecidable _) h
theorem emp_no {s : ByteArray} (h : s ≠ ⟨#[]⟩) : s.toList.isEmpty = false := by
  cases e : s.toList with
  | nil =>
    rw [Lib.toList_data] at e
    exact absurd (ByteArray.ext (by simpa using congrArg List.toArray e)) h
  | cons _ _ => rfl

set_option maxRecDepth 100000 in
set_option maxHeartbeats 8000000 in
theorem plain_any (x : V) (v : Value) (w : World) (h : isV w x v) :
    Calls Tryz.prog 72 #[v] w fun e w' => e = .returned (.bool (plainB x)) ∧ Below w.heap.size w w' := by
  obtain ⟨k, b, n, s, l, ks⟩ := x
  unfold isV at h
  obtain ⟨lv, kv, rfl, hk, hn, hs, ⟨a, cap, ⟨o, rfl, hc1, hc2, ho⟩, hvs⟩, ⟨a2, cap2, ⟨o2, rfl, hc3, hc4, ho2⟩, hks⟩⟩ := h
  unfold maxLen at hs hc2 hc4
  clear hk hn ho hvs ho2 hks
  by_cases hr : k < 0
  · have HP : Hid (plainB (.mk k b n s l ks) = false) := Lib.hid (plain_no (fun h => by have := h.1.1; omega))
    have r1 : decide (k < 0) = true := decide_eq_true hr
    clear hr
    go_enter Tryz.func72, Tryz.ntmps72
    go_wp2_with fail
    go_ret
    exact ⟨by rw [HP.out]; rfl, kbA⟩
  by_cases hr2 : 5 < k
  · have HP : Hid (plainB (.mk k b n s l ks) = false) := Lib.hid (plain_no (fun h => by have := h.1.2; omega))
    have r1 : decide (k < 0) = false := decide_eq_false hr
    have r2 : decide (5 < k) = true := decide_eq_true hr2
    clear hr hr2
    go_enter Tryz.func72, Tryz.ntmps72
    go_wp2_with fail
    go_ret
    exact ⟨by rw [HP.out]; rfl, kbA⟩
  cases b with
  | true =>
    by_cases h1 : k ≠ 1
    · have HP : Hid (plainB (.mk k true n s l ks) = false) := Lib.hid (plain_no (fun h => h1 (h.2.1 rfl)))
      have r1 : decide (k < 0) = false := decide_eq_false (by omega)
      have r2 : decide (5 < k) = false := decide_eq_false (by omega)
      have k1 : (k == 1) = false := beqI h1
      have k1' : (k != 1) = true := bne_iff_ne.2 h1
      clear h1 hr hr2
      go_enter Tryz.func72, Tryz.ntmps72
      go_wp2_with fail
      go_ret
      exact ⟨by rw [HP.out]; rfl, kbA⟩
    obtain rfl : k = 1 := Decidable.not_not.1 h1
    clear h1 hr hr2
    by_cases h2 : n ≠ 0
    · have HP : Hid (plainB (.mk 1 true n s l ks) = false) := Lib.hid (plain_no (fun h => by have := h.2.2.1 h2; omega))
      have n1 : (n != 0) = true := bne_iff_ne.2 h2
      have n2 : (n == 0) = false := beqI h2
      clear h2
      go_enter Tryz.func72, Tryz.ntmps72
      go_wp2_with fail
      go_ret
      exact ⟨by rw [HP.out]; rfl, kbA⟩
    obtain rfl : n = 0 := Decidable.not_not.1 h2
    clear h2
    by_cases h3 : s ≠ ⟨#[]⟩
    · have HP : Hid (plainB (.mk 1 true 0 s l ks) = false) := Lib.hid (plain_no (fun h => by have := h.2.2.2.1 h3; omega))
      have s1 := emp_no h3
      have s2 := beq_toList h3
      clear h3
      go_enter Tryz.func72, Tryz.ntmps72
      go_wp2_with fail
      go_ret
      exact ⟨by rw [HP.out]; rfl, kbA⟩
    obtain rfl : s = ⟨#[]⟩ := Classical.not_not.1 h3
    clear h3
    by_cases h4 : l ≠ []
    · have HP : Hid (plainB (.mk 1 true 0 ⟨#[]⟩ l ks) = false) := Lib.hid (plain_no (fun h => by have := h.2.2.2.2.1 h4; omega))
      have l0 : 0 < l.length := List.length_pos_iff.2 h4
      have l1 : decide (0 < (l.length : Int)) = true := decide_eq_true (by omega)
      clear h4
      go_enter Tryz.func72, Tryz.ntmps72
      go_wp2_with fail
      go_ret
      exact ⟨by rw [HP.out]; rfl, kbA⟩
    obtain rfl : l = [] := Classical.not_not.1 h4
    clear h4
    by_cases hz : ks.length = 0
    · have HP : Hid (plainB (.mk 1 true 0 ⟨#[]⟩ [] ks) = true) := Lib.hid (plain_yes (by unfold plainP; refine ⟨by omega, ?_, ?_, ?_, ?_, ?_, fun _ => hz⟩ <;> intro h <;> first | omega | (exact absurd rfl h) | (exact absurd h (by simp)) | (exact .inl rfl) | contradiction))
      have z1 : ((ks.length : Int) == 0) = true := by rw [beq_iff_eq]; omega
      clear  hz
      go_enter Tryz.func72, Tryz.ntmps72
      go_wp2_with fail
      go_ret
      exact ⟨by rw [HP.out]; rfl, kbA⟩
    · have HP : Hid (plainB (.mk 1 true 0 ⟨#[]⟩ [] ks) = false) := Lib.hid (plain_no (fun h => hz (h.2.2.2.2.2.2 (by omega))))
      have z1 : ((ks.length : Int) == 0) = false := beqI (by omega)
      clear  hz
      go_enter Tryz.func72, Tryz.ntmps72
      go_wp2_with fail
      go_ret
      exact ⟨by rw [HP.out]; rfl, kbA⟩
  | false =>
    by_cases h2 : n ≠ 0
    · have n1 : (n != 0) = true := bne_iff_ne.2 h2
      have n2 : (n == 0) = false := beqI h2
      by_cases h1 : k ≠ 2
      · have HP : Hid (plainB (.mk k false n s l ks) = false) := Lib.hid (plain_no (fun h => h1 (h.2.2.1 h2)))
        have r1 : decide (k < 0) = false := decide_eq_false (by omega)
        have r2 : decide (5 < k) = false := decide_eq_false (by omega)
        have k2 : (k == 2) = false := beqI h1
        have k2' : (k != 2) = true := bne_iff_ne.2 h1
        clear h1 h2 hr hr2
        go_enter Tryz.func72, Tryz.ntmps72
        go_wp2_with fail
        go_ret
        exact ⟨by rw [HP.out]; rfl, kbA⟩
      obtain rfl : k = 2 := Decidable.not_not.1 h1
      clear h1 hr hr2
      by_cases h3 : s ≠ ⟨#[]⟩
      · have HP : Hid (plainB (.mk 2 false n s l ks) = false) := Lib.hid (plain_no (fun h => by have := h.2.2.2.1 h3; omega))
        have s1 := emp_no h3
        have s2 := beq_toList h3
        clear h3 h2
        go_enter Tryz.func72, Tryz.ntmps72
        go_wp2_with fail
        go_ret
        exact ⟨by rw [HP.out]; rfl, kbA⟩
      obtain rfl : s = ⟨#[]⟩ := Classical.not_not.1 h3
      clear h3
      by_cases h4 : l ≠ []
      · have HP : Hid (plainB (.mk 2 false n ⟨#[]⟩ l ks) = false) := Lib.hid (plain_no (fun h => by have := h.2.2.2.2.1 h4; omega))
        have l0 : 0 < l.length := List.length_pos_iff.2 h4
        have l1 : decide (0 < (l.length : Int)) = true := decide_eq_true (by omega)
        clear h4 h2
        go_enter Tryz.func72, Tryz.ntmps72
        go_wp2_with fail
        go_ret
        exact ⟨by rw [HP.out]; rfl, kbA⟩
      obtain rfl : l = [] := Classical.not_not.1 h4
      clear h4 h2
      by_cases hz : ks.length = 0
      · have HP : Hid (plainB (.mk 2 false n ⟨#[]⟩ [] ks) = true) := Lib.hid (plain_yes (by unfold plainP; refine ⟨by omega, ?_, ?_, ?_, ?_, ?_, fun _ => hz⟩ <;> intro h <;> first | omega | (exact absurd rfl h) | (exact absurd h (by simp)) | (exact .inl rfl) | contradiction))
        have z1 : ((ks.length : Int) == 0) = true := by rw [beq_iff_eq]; omega
        clear  hz
        go_enter Tryz.func72, Tryz.ntmps72
        go_wp2_with fail
        go_ret
        exact ⟨by rw [HP.out]; rfl, kbA⟩
      · have HP : Hid (plainB (.mk 2 false n ⟨#[]⟩ [] ks) = false) := Lib.hid (plain_no (fun h => hz (h.2.2.2.2.2.2 (by omega))))
        have z1 : ((ks.length : Int) == 0) = false := beqI (by omega)
        clear  hz
        go_enter Tryz.func72, Tryz.ntmps72
        go_wp2_with fail
        go_ret
        exact ⟨by rw [HP.out]; rfl, kbA⟩
    obtain rfl : n = 0 := Decidable.not_not.1 h2
    clear h2
    by_cases h3 : s ≠ ⟨#[]⟩
    · have s1 := emp_no h3
      have s2 := beq_toList h3
      by_cases h1 : k ≠ 3
      · have HP : Hid (plainB (.mk k false 0 s l ks) = false) := Lib.hid (plain_no (fun h => h1 (h.2.2.2.1 h3)))
        have r1 : decide (k < 0) = false := decide_eq_false (by omega)
        have r2 : decide (5 < k) = false := decide_eq_false (by omega)
        have k3 : (k == 3) = false := beqI h1
        have k3' : (k != 3) = true := bne_iff_ne.2 h1
        clear h1 h3 hr hr2
        go_enter Tryz.func72, Tryz.ntmps72
        go_wp2_with fail
        go_ret
        exact ⟨by rw [HP.out]; rfl, kbA⟩
      obtain rfl : k = 3 := Decidable.not_not.1 h1
      clear h1 hr hr2
      by_cases h4 : l ≠ []
      · have HP : Hid (plainB (.mk 3 false 0 s l ks) = false) := Lib.hid (plain_no (fun h => by have := h.2.2.2.2.1 h4; omega))
        have l0 : 0 < l.length := List.length_pos_iff.2 h4
        have l1 : decide (0 < (l.length : Int)) = true := decide_eq_true (by omega)
        clear h4 h3
        go_enter Tryz.func72, Tryz.ntmps72
        go_wp2_with fail
        go_ret
        exact ⟨by rw [HP.out]; rfl, kbA⟩
      obtain rfl : l = [] := Classical.not_not.1 h4
      clear h4 h3
      by_cases hz : ks.length = 0
      · have HP : Hid (plainB (.mk 3 false 0 s [] ks) = true) := Lib.hid (plain_yes (by unfold plainP; refine ⟨by omega, ?_, ?_, ?_, ?_, ?_, fun _ => hz⟩ <;> intro h <;> first | omega | (exact absurd rfl h) | (exact absurd h (by simp)) | (exact .inl rfl) | contradiction))
        have z1 : ((ks.length : Int) == 0) = true := by rw [beq_iff_eq]; omega
        clear  hz
        go_enter Tryz.func72, Tryz.ntmps72
        go_wp2_with fail
        go_ret
        exact ⟨by rw [HP.out]; rfl, kbA⟩
      · have HP : Hid (plainB (.mk 3 false 0 s [] ks) = false) := Lib.hid (plain_no (fun h => hz (h.2.2.2.2.2.2 (by omega))))
        have z1 : ((ks.length : Int) == 0) = false := beqI (by omega)
        clear  hz
        go_enter Tryz.func72, Tryz.ntmps72
        go_wp2_with fail
        go_ret
        exact ⟨by rw [HP.out]; rfl, kbA⟩
    obtain rfl : s = ⟨#[]⟩ := Classical.not_not.1 h3
    clear h3
    by_cases h4 : l ≠ []
    · have l0 : 0 < l.length := List.length_pos_iff.2 h4
      have l1 : decide (0 < (l.length : Int)) = true := decide_eq_true (by omega)
      by_cases h5 : k = 5
      · subst h5
        clear hr hr2
        by_cases hz : ks.length = l.length
        · have HP : Hid (plainB (.mk 5 false 0 ⟨#[]⟩ l ks) = true) := Lib.hid (plain_yes (by unfold plainP; refine ⟨by omega, ?_, ?_, ?_, fun _ => .inr rfl, fun _ => hz, ?_⟩ <;> intro h <;> first | (exact absurd rfl h) | (exact absurd h (by simp))))
          have z1 : ((ks.length : Int) == (l.length : Int)) = true := by rw [beq_iff_eq]; omega
          clear hz h4
          go_enter Tryz.func72, Tryz.ntmps72
          go_wp2_with fail
          go_ret
          exact ⟨by rw [HP.out]; rfl, kbA⟩
        · have HP : Hid (plainB (.mk 5 false 0 ⟨#[]⟩ l ks) = false) := Lib.hid (plain_no (fun h => hz (h.2.2.2.2.2.1 rfl)))
          have z1 : ((ks.length : Int) == (l.length : Int)) = false := beqI (by omega)
          clear hz h4
          go_enter Tryz.func72, Tryz.ntmps72
          go_wp2_with fail
          go_ret
          exact ⟨by rw [HP.out]; rfl, kbA⟩
      by_cases h6 : k = 4
      · subst h6
        clear hr hr2 h5
        by_cases hz : ks.length = 0
        · have HP : Hid (plainB (.mk 4 false 0 ⟨#[]⟩ l ks) = true) := Lib.hid (plain_yes (by unfold plainP; refine ⟨by omega, ?_, ?_, ?_, ?_, ?_, fun _ => hz⟩ <;> intro h <;> first | omega | (exact absurd rfl h) | (exact absurd h (by simp)) | (exact .inl rfl) | contradiction))
          have z1 : ((ks.length : Int) == 0) = true := by rw [beq_iff_eq]; omega
          clear h4 hz
          go_enter Tryz.func72, Tryz.ntmps72
          go_wp2_with fail
          go_ret
          exact ⟨by rw [HP.out]; rfl, kbA⟩
        · have HP : Hid (plainB (.mk 4 false 0 ⟨#[]⟩ l ks) = false) := Lib.hid (plain_no (fun h => hz (h.2.2.2.2.2.2 (by omega))))
          have z1 : ((ks.length : Int) == 0) = false := beqI (by omega)
          clear h4 hz
          go_enter Tryz.func72, Tryz.ntmps72
          go_wp2_with fail
          go_ret
          exact ⟨by rw [HP.out]; rfl, kbA⟩
      · have HP : Hid (plainB (.mk k false 0 ⟨#[]⟩ l ks) = false) := Lib.hid (plain_no (fun h => by have := h.2.2.2.2.1 h4; omega))
        have r1 : decide (k < 0) = false := decide_eq_false (by omega)
        have r2 : decide (5 < k) = false := decide_eq_false (by omega)
        have k4 : (k == 4) = false := beqI h6
        have k4' : (k != 4) = true := bne_iff_ne.2 h6
        have k5 : (k == 5) = false := beqI h5
        have k5' : (k != 5) = true := bne_iff_ne.2 h5
        clear h4 h5 h6 hr hr2
        go_enter Tryz.func72, Tryz.ntmps72
        go_wp2_with fail
        go_ret
        exact ⟨by rw [HP.out]; rfl, kbA⟩
    obtain rfl : l = [] := Classical.not_not.1 h4
    clear h4
    by_cases h5 : k = 5
    · subst h5
      clear hr hr2
      by_cases hz : ks.length = 0
      · have HP : Hid (plainB (.mk 5 false 0 ⟨#[]⟩ [] ks) = true) := Lib.hid (plain_yes (by unfold plainP; refine ⟨by omega, ?_, ?_, ?_, ?_, fun _ => hz, ?_⟩ <;> intro h <;> first | (exact absurd rfl h) | (exact absurd h (by simp))))
        have z1 : ((ks.length : Int) == 0) = true := by rw [beq_iff_eq]; omega
        clear hz
        go_enter Tryz.func72, Tryz.ntmps72
        go_wp2_with fail
        go_ret
        exact ⟨by rw [HP.out]; rfl, kbA⟩
      · have HP : Hid (plainB (.mk 5 false 0 ⟨#[]⟩ [] ks) = false) := Lib.hid (plain_no (fun h => hz (h.2.2.2.2.2.1 rfl)))
        have z1 : ((ks.length : Int) == 0) = false := beqI (by omega)
        clear hz
        go_enter Tryz.func72, Tryz.ntmps72
        go_wp2_with fail
        go_ret
        exact ⟨by rw [HP.out]; rfl, kbA⟩
    · have k5 : (k == 5) = false := beqI h5
      have k5' : (k != 5) = true := bne_iff_ne.2 h5
      have r1 : decide (k < 0) = false := decide_eq_false (by omega)
      have r2 : decide (5 < k) = false := decide_eq_false (by omega)
      by_cases hz : ks.length = 0
      · have HP : Hid (plainB (.mk k false 0 ⟨#[]⟩ [] ks) = true) := Lib.hid (plain_yes (by unfold plainP; refine ⟨⟨by omega, by omega⟩, ?_, ?_, ?_, ?_, ?_, fun _ => hz⟩ <;> intro h <;> first | omega | (exact absurd rfl h) | (exact absurd h (by simp)) | (exact .inl rfl) | contradiction))
        have z1 : ((ks.length : Int) == 0) = true := by rw [beq_iff_eq]; omega
        clear h5 hr hr2 hz
        go_enter Tryz.func72, Tryz.ntmps72
        go_wp2_with fail
        go_ret
        exact ⟨by rw [HP.out]; rfl, kbA⟩
      · have HP : Hid (plainB (.mk k false 0 ⟨#[]⟩ [] ks) = false) := Lib.hid (plain_no (fun h => hz (h.2.2.2.2.2.2 (by omega))))
        have z1 : ((ks.length : Int) == 0) = false := beqI (by omega)
        clear h5 hr hr2 hz
        go_enter Tryz.func72, Tryz.ntmps72
        go_wp2_with fail
        go_ret
        exact ⟨by rw [HP.out]; rfl, kbA⟩
end Go.Proofs.YtlamkadllbgamaaGreatDoor
