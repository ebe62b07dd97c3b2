/-
  JournalSays: plain facts, size.
-/
import Derived.Test.YtbjdbphnccdpbaaJr
import Derived.Deep.DeepCutAuto
set_option linter.unusedVariables false
namespace Go.Proofs.Ytbjdbphnccdpbaa
open Go.RowKit Go.Shelf Go.Lib Go.Deep

set_option maxRecDepth 100000 in
set_option maxHeartbeats 4000000 in
theorem size_any (L : List (List UInt8)) (v : Value) (w : World) (hv : rds w L v) : Calls Try.prog 21 #[v] w fun e w' => ∃ n : Int, e = .returned (.int .i64 n) ∧ w = w' := by
  obtain ⟨o, a, cap, rfl, hc1, hc2, ho, hL⟩ := hv
  unfold maxLen at hc2
  have HL := Lib.hid hL
  have HO := Lib.hid ho
  clear hL ho
  go_enter Try.func21, Try.ntmps21
  go_wp2_with fail
  go_loop [3, 4] (fun n i => ∃ (j : Nat) (k : Int), j ≤ L.length ∧ i = .int .i64 j ∧ n = .int .i64 k) (fun _ i => L.length - (intOf i).toNat)
  case atStart => exact ⟨0, 0, by omega, rfl, rfl⟩
  case round =>
    obtain ⟨j, k, hj, rfl, rfl⟩ := hrel
    by_cases hlt : j < L.length
    · have hlt' : (j : Int) < (L.length : Int) := by omega
      by_cases h2 : j ≤ 200
      · obtain rfl := HO.out (by omega)
        obtain ⟨ob, cb, g0, g1⟩ := HL.out j hlt
        generalize L[j] = X at *
        have h2' : (j : Int) ≤ 200 := by omega
        clear g1
        go_wp2_with fail
        go_round
        case rel => exact ⟨j + 1, _, by omega, by go_num, rfl⟩
        case measure => simp [intOf]; omega
      · have h2' : decide ((j : Int) ≤ 200) = false := decide_eq_false (by omega)
        have h2'' : decide (j ≤ 200) = false := decide_eq_false (by omega)
        go_wp2_with fail
        go_ret
        exact ⟨⟨k, rfl⟩, rfl⟩
    · obtain rfl : j = L.length := by omega
      have hlt' : decide ((L.length : Int) < (L.length : Int)) = false := decide_eq_false (by omega)
      go_wp2_with fail
      go_ret
      exact ⟨⟨k, rfl⟩, rfl⟩
theorem frB_bad {x : List UInt8} (h : frE x ≠ 0) : frB x = [] := by
  unfold frE at h
  unfold frB
  by_cases h0 : x.length = 0
  · rw [if_neg (by omega)]
  · rw [if_neg h0] at h
    by_cases h1 : 524288 < x.length
    · rw [if_neg (by omega)]
    · rw [if_neg h1] at h; exact absurd rfl h
theorem app_fresh {x : List UInt8} {r : Int × DS} (h : AppR ⟨[], false, none⟩ x r) : r = (frE x, ⟨frB x, false, none⟩) := by
  by_cases hE : frE x = 0
  · obtain ⟨hg, hB⟩ := fr_ok hE
    rw [app_whole h hg rfl rfl, hE, hB]
    unfold appD wrD
    have := hg.2
    rw [if_neg (by simp), if_neg (by rw [frame_length]; simp; omega)]
    rfl
  · rcases h with ⟨_, h⟩ | ⟨h, _⟩ | ⟨h, _⟩
    · rw [h, frB_bad hE]
    · exact absurd h hE
    · exact absurd h hE
/-- What Snap answers on a new disk, what stands there then. -/
def snE (L : List (List UInt8)) : Int := if soundE L = 0 then fitE L else soundE L
def snB (L : List (List UInt8)) : List UInt8 := if snE L = 0 then framesL L else []
theorem snap_fresh {L : List (List UInt8)} {r : Int × DS} (h : SnapR ⟨[], false, none⟩ L r) : r = (snE L, ⟨snB L, false, none⟩) := by
  unfold snB snE
  rcases h with ⟨h1, h⟩ | ⟨h1, h2, h⟩ | ⟨h1, h2, h⟩
  · rw [if_neg h1, if_neg h1, h]
  · rw [if_pos h1, if_neg h2, h]
  · rw [if_pos h1, if_pos h2, h, h2]
    unfold swapD wrD
    rw [if_neg (by simp), if_neg (by have := fit_le h2; omega)]
theorem sound_take : ∀ (L : List (List UInt8)) (j : Nat), soundE (L.take j) ≠ 0 → soundE L = soundE (L.take j)
  | [], j, h => by simp [soundE] at h
  | x :: t, 0, h => by simp [soundE] at h
  | x :: t, j + 1, h => by
    rw [List.take_succ_cons] at h ⊢
    unfold soundE at h ⊢
    by_cases h0 : frE x = 0
    · rw [if_pos h0] at h ⊢
      rw [if_pos h0]
      exact sound_take t j h
    · rw [if_neg h0, if_neg h0]
theorem sound_step : ∀ (L : List (List UInt8)) (j : Nat) (hj : j < L.length), soundE (L.take j) = 0 → soundE (L.take (j + 1)) = frE (lk L j)
  | [], j, hj, _ => absurd hj (by simp)
  | x :: t, 0, _, _ => by
    have e : lk (x :: t) 0 = x := by simp [lk]
    rw [e]
    show (if frE x = 0 then soundE [] else frE x) = frE x
    by_cases h : frE x = 0
    · rw [if_pos h, h]; rfl
    · rw [if_neg h]
  | x :: t, j + 1, hj, h => by
    have e : lk (x :: t) (j + 1) = lk t j := by simp [lk]
    rw [List.take_succ_cons] at h ⊢
    unfold soundE at h ⊢
    by_cases h0 : frE x = 0
    · rw [if_pos h0] at h ⊢
      rw [e]
      exact sound_step t j (by simpa using hj) h
    · rw [if_neg h0] at h
      exact absurd h h0
theorem frames_take (L : List (List UInt8)) (j : Nat) (hj : j < L.length) : framesL (L.take (j + 1)) = framesL (L.take j) ++ frameL (lk L j) := by
  rw [List.take_succ_eq_append_getElem hj, frames_append, lk_get hj]
  simp [framesL]
theorem frames_mono (L : List (List UInt8)) (j : Nat) : (framesL (L.take j)).length ≤ (framesL L).length := by
  have := congrArg List.length (frames_append (L.take j) (L.drop j))
  rw [List.take_append_drop, List.length_append] at this
  omega
end Go.Proofs.Ytbjdbphnccdpbaa
