/-
  How the program compares: numbers, texts, rows of keys.
-/
import Derived.Test.YtdbfpojgaalfmaaDoorDO
import Derived.Test.YtdbfpojgaalfmaaDoorTCm
set_option linter.unusedVariables false
namespace Go.Proofs.YtdbfpojgaalfmaaDoor
open Go.RowKit

def cmpI (x y : Int) : Int := if x < y then -1 else if y < x then 1 else 0
theorem blq_eq : ∀ (x y : List UInt8), Op.bytesLess x y = decide (x < y)
  | [], [] => by simp [Op.bytesLess]
  | _ :: _, [] => by simp [Op.bytesLess]
  | [], _ :: _ => by simp [Op.bytesLess]
  | a :: x, b :: y => by
    rw [Op.bytesLess, blq_eq x y, Bool.eq_iff_iff]
    simp [List.cons_lt_cons_iff]
theorem cmpB_m1 : ∀ a b : List UInt8, Lib.compareBytes a b < 0 → Lib.compareBytes a b = -1
  | [], [], h => by simp [Lib.compareBytes] at h
  | [], b :: tb, _ => rfl
  | a :: ta, [], h => by simp [Lib.compareBytes] at h
  | a :: ta, b :: tb, h => by
    rw [Lib.compareBytes] at h ⊢
    by_cases h1 : a < b
    · rw [if_pos h1]
    · rw [if_neg h1] at h ⊢
      by_cases h2 : b < a
      · rw [if_pos h2] at h; omega
      · rw [if_neg h2] at h ⊢; exact cmpB_m1 ta tb h
theorem cmpB_p1 : ∀ a b : List UInt8, b < a → Lib.compareBytes a b = 1
  | [], [], h => absurd h (List.lt_irrefl _)
  | [], b :: tb, h => absurd h (List.not_lt_nil _)
  | a :: ta, [], h => rfl
  | a :: ta, b :: tb, h => by
    rw [List.cons_lt_cons_iff] at h
    rw [Lib.compareBytes]
    rcases h with h | ⟨rfl, h⟩
    · rw [if_neg (UInt8.lt_asymm h), if_pos h]
    · rw [if_neg (UInt8.lt_irrefl _), if_neg (UInt8.lt_irrefl _)]; exact cmpB_p1 ta tb h
set_option maxHeartbeats 2000000 in
theorem cmp8_any (x y : Int) (w : World) : Calls Tryd.prog 93 #[.int .i8 x, .int .i8 y] w fun e w' => e = .returned (.int .i64 (cmpI x y)) ∧ w' = w := by
  have hn : ∀ (x : Int) (w : World), Calls Tryd.prog 115 #[.int .i8 x] w fun e w' => e = .returned (.bool false) ∧ w' = w := fun x w => by
    go_enter Tryd.func115, Tryd.ntmps115
    go_wp2
    go_ret
    exact ⟨by simp, rfl⟩
  have HN := Lib.hid hn
  clear hn
  unfold cmpI
  by_cases h1 : x < y
  · rw [if_pos h1]
    go_enter Tryd.func93, Tryd.ntmps93
    go_wp2_with (go_at_call 115; refine (HN.out _ _).mono ?_; rintro e w5 ⟨rfl, rfl⟩)
    go_ret
    exact ⟨rfl, rfl⟩
  · rw [if_neg h1]
    by_cases h2 : y < x
    · rw [if_pos h2]
      go_enter Tryd.func93, Tryd.ntmps93
      go_wp2_with (go_at_call 115; refine (HN.out _ _).mono ?_; rintro e w5 ⟨rfl, rfl⟩)
      go_ret
      exact ⟨rfl, rfl⟩
    · rw [if_neg h2]
      go_enter Tryd.func93, Tryd.ntmps93
      go_wp2_with (go_at_call 115; refine (HN.out _ _).mono ?_; rintro e w5 ⟨rfl, rfl⟩)
      go_ret
      exact ⟨rfl, rfl⟩
set_option maxHeartbeats 2000000 in
theorem cmp64_any (x y : Int) (w : World) : Calls Tryd.prog 95 #[.int .i64 x, .int .i64 y] w fun e w' => e = .returned (.int .i64 (cmpI x y)) ∧ w' = w := by
  have hn : ∀ (x : Int) (w : World), Calls Tryd.prog 116 #[.int .i64 x] w fun e w' => e = .returned (.bool false) ∧ w' = w := fun x w => by
    go_enter Tryd.func116, Tryd.ntmps116
    go_wp2
    go_ret
    exact ⟨by simp, rfl⟩
  have HN := Lib.hid hn
  clear hn
  unfold cmpI
  by_cases h1 : x < y
  · rw [if_pos h1]
    go_enter Tryd.func95, Tryd.ntmps95
    go_wp2_with (go_at_call 116; refine (HN.out _ _).mono ?_; rintro e w5 ⟨rfl, rfl⟩)
    go_ret
    exact ⟨rfl, rfl⟩
  · rw [if_neg h1]
    by_cases h2 : y < x
    · rw [if_pos h2]
      go_enter Tryd.func95, Tryd.ntmps95
      go_wp2_with (go_at_call 116; refine (HN.out _ _).mono ?_; rintro e w5 ⟨rfl, rfl⟩)
      go_ret
      exact ⟨rfl, rfl⟩
    · rw [if_neg h2]
      go_enter Tryd.func95, Tryd.ntmps95
      go_wp2_with (go_at_call 116; refine (HN.out _ _).mono ?_; rintro e w5 ⟨rfl, rfl⟩)
      go_ret
      exact ⟨rfl, rfl⟩
set_option maxHeartbeats 2000000 in
theorem cmpS_any (s t : ByteArray) (w : World) : Calls Tryd.prog 118 #[.string s, .string t] w fun e w' => e = .returned (.int .i64 (cmpK s t)) ∧ w' = w := by
  have hn : ∀ (x : ByteArray) (w : World), Calls Tryd.prog 128 #[.string x] w fun e w' => e = .returned (.bool false) ∧ w' = w := fun x w => by
    go_enter Tryd.func128, Tryd.ntmps128
    go_wp2
    go_ret
    exact ⟨by simp, rfl⟩
  have HN := Lib.hid hn
  clear hn
  have hg : ∀ w, (Go.binOp .gtr 9 (.string s) (.string t)).run Tryd.prog w = .ok (.bool (Op.bytesLess t.toList s.toList)) w := fun w => by
    have key : (!Op.bytesLess s.toList t.toList && !s.toList == t.toList) = Op.bytesLess t.toList s.toList := by
      rw [blq_eq, blq_eq]
      by_cases h1 : s.toList < t.toList
      · simp [h1, List.lt_asymm h1]
      · by_cases h2 : s.toList = t.toList
        · simp [h2, List.lt_irrefl]
        · have h3 : t.toList < s.toList := Classical.byContradiction fun h => h2 (List.le_antisymm (List.not_lt.1 h) (List.not_lt.1 h1))
          simp [h1, h2, h3]
    simp [Go.binOp, go_sem, Go.Op.stringOp]
    exact key
  have e1 : cmpK s t = if Op.bytesLess s.toList t.toList = true then -1 else if Op.bytesLess t.toList s.toList = true then 1 else 0 := by
    rw [blq_eq, blq_eq, Lib.toList_data, Lib.toList_data]
    have q1 := cmpK_neg s t
    have q0 := cmpK_zero s t
    by_cases h1 : s.data.toList < t.data.toList
    · rw [if_pos (decide_eq_true h1)]
      exact cmpB_m1 _ _ (q1.2 h1)
    · rw [if_neg (by simp [h1])]
      by_cases h2 : t.data.toList < s.data.toList
      · rw [if_pos (decide_eq_true h2)]
        exact cmpB_p1 _ _ h2
      · rw [if_neg (by simp [h2])]
        exact (cmpB_zero _ _).2 (List.le_antisymm (List.not_lt.1 h2) (List.not_lt.1 h1))
  rw [e1]
  clear e1
  generalize h1 : Op.bytesLess s.toList t.toList = b1
  generalize h2 : Op.bytesLess t.toList s.toList = b2 at hg ⊢
  cases b1 with
  | true =>
    go_enter Tryd.func118, Tryd.ntmps118
    go_wp2_with (go_at_call 128; refine (HN.out _ _).mono ?_; rintro e w5 ⟨rfl, rfl⟩)
    go_ret
    exact ⟨rfl, rfl⟩
  | false =>
    cases b2 with
    | true =>
      go_enter Tryd.func118, Tryd.ntmps118
      go_wp2_with (go_at_call 128; refine (HN.out _ _).mono ?_; rintro e w5 ⟨rfl, rfl⟩)
      go_ret
      exact ⟨rfl, rfl⟩
    | false =>
      go_enter Tryd.func118, Tryd.ntmps118
      go_wp2_with (go_at_call 128; refine (HN.out _ _).mono ?_; rintro e w5 ⟨rfl, rfl⟩)
      go_ret
      exact ⟨rfl, rfl⟩
def cmpBo (a b : Bool) : Int := if a = b then 0 else if b then -1 else 1
set_option maxHeartbeats 1000000 in
theorem cmpBo_any (a b : Bool) (w : World) : Calls Tryd.prog 94 #[.bool a, .bool b] w fun e w' => e = .returned (.int .i64 (cmpBo a b)) ∧ w' = w := by
  cases a <;> cases b
  all_goals
    go_enter Tryd.func94, Tryd.ntmps94
    go_wp2
    go_ret
    exact ⟨rfl, rfl⟩
end Go.Proofs.YtdbfpojgaalfmaaDoor
