/-
  The reference's four.
-/
import Derived.Test.YtoojfgajlakonaaDoorRName
import Derived.Test.YtoojfgajlakonaaDoorPl5
set_option linter.unusedVariables false
namespace Go.Proofs.YtoojfgajlakonaaDoor
open Go.RowKit

def fourO (l : List UInt8) (q : Nat) : Option Nat := if q + 4 ≤ l.length then parse16 0 ((l.drop q).take 4) else none
def fourI : Option Nat → Int
  | some n => n
  | none => -1
theorem take_cons (s : ByteArray) (q n : Nat) (h : q < s.size) : (s.data.toList.drop q).take (n + 1) = s[q] :: (s.data.toList.drop (q + 1)).take n := by
  rw [List.drop_eq_getElem_cons (by rw [toList_length]; exact h), List.take_succ_cons]
  rfl
theorem pow16 (k : Nat) (h : k < 4) : 16 ^ k ≤ 4096 := by
  match k, h with
  | 0, _ => decide
  | 1, _ => decide
  | 2, _ => decide
  | 3, _ => decide

set_option maxRecDepth 100000 in
set_option maxHeartbeats 2000000 in
theorem rfour_any (s : ByteArray) (q : Nat) (hq : q ≤ 5000) (hs : s.size ≤ 2000) (w : World) :
    Calls Tryd.prog 43 #[.string s, .int .i64 q] w fun e w' => e = .returned (.int .i64 (fourI (fourO s.data.toList q))) ∧ w = w' := by
  unfold fourO
  rw [toList_length]
  by_cases h4 : q + 4 ≤ s.size
  · rw [if_pos h4]
    obtain ⟨R, hR⟩ : ∃ R, parse16 0 ((s.data.toList.drop q).take 4) = R := ⟨_, rfl⟩
    rw [hR]
    have HR := Lib.hid hR
    clear hR
    go_enter Tryd.func43, Tryd.ntmps43
    go_wp2_with fail
    go_loop [5, 6] (fun n i => ∃ k m : Nat, k ≤ 4 ∧ i = .int .i64 k ∧ n = .int .i64 m ∧ m < 16 ^ k ∧ parse16 m ((s.data.toList.drop (q + k)).take (4 - k)) = R) (fun n i => 4 - (intOf i).toNat)
    case atStart => exact ⟨0, 0, by omega, rfl, rfl, by decide, HR.out⟩
    case round =>
      obtain ⟨k, m, hk, rfl, rfl, hm, hp⟩ := hrel
      by_cases hlt : k < 4
      · have hqk : q + k < s.size := by omega
        have hp16 := pow16 k hlt
        have hm2 : m < 4096 := by omega
        have hps : 16 ^ (k + 1) = 16 ^ k * 16 := Nat.pow_succ ..
        rw [show 4 - k = (4 - (k + 1)) + 1 by omega, take_cons s (q + k) _ hqk] at hp
        obtain ⟨c, hc⟩ : ∃ c, s[q + k]'hqk = c := ⟨_, rfl⟩
        rw [hc] at hp
        have hc' : (s[q + k]'hqk).toNat = c.toNat := by rw [hc]
        have hbyte := c.toNat_lt
        unfold parse16 at hp
        by_cases hd : 48 ≤ c.toNat ∧ c.toNat ≤ 57
        · have hx : hexv c.toNat = c.toNat - 48 := by unfold hexv; rw [if_pos hd]
          rw [hx, if_pos (by omega)] at hp
          have hdig : digB c = true := by unfold digB; rw [decide_eq_true hd.1, decide_eq_true hd.2]; rfl
          have HD := Lib.hid (rdigit_yes c hdig)
          have HP := Lib.hid hp
          have HM : m * 16 + (c.toNat - 48) < 16 ^ (k + 1) := by omega
          obtain ⟨d1, d2⟩ := hd
          clear hp hc hx hdig hp16 hps hm
          go_wp2_with (go_at_call 32; refine (HD.out _).mono ?_; rintro e w' ⟨rfl, rfl⟩)
          go_round
          case rel => exact ⟨k + 1, m * 16 + (c.toNat - 48), by omega, by go_num, by go_num, HM, by rw [← Nat.add_assoc]; exact HP.out⟩
          case measure => simp [intOf]; omega
        · have hdig : digB c = false := by
            unfold digB
            by_cases d1 : 48 ≤ c.toNat
            · rw [decide_eq_false (by omega : ¬ c.toNat ≤ 57), Bool.and_false]
            · rw [decide_eq_false d1, Bool.false_and]
          have HD := Lib.hid (rdigit_no c hdig)
          by_cases ha : 97 ≤ c.toNat ∧ c.toNat ≤ 102
          · have hx : hexv c.toNat = c.toNat - 87 := by unfold hexv; rw [if_neg hd, if_pos ha]
            rw [hx, if_pos (by omega)] at hp
            have HP := Lib.hid hp
            have HM : m * 16 + (c.toNat - 87) < 16 ^ (k + 1) := by omega
            obtain ⟨d1, d2⟩ := ha
            clear hp hc hx hdig hp16 hps hm hd
            go_wp2_with (go_at_call 32; refine (HD.out _).mono ?_; rintro e w' ⟨rfl, rfl⟩)
            go_round
            case rel => exact ⟨k + 1, m * 16 + (c.toNat - 87), by omega, by go_num, by go_num, HM, by rw [← Nat.add_assoc]; exact HP.out⟩
            case measure => simp [intOf]; omega
          · by_cases hA : 65 ≤ c.toNat ∧ c.toNat ≤ 70
            · have hx : hexv c.toNat = c.toNat - 55 := by unfold hexv; rw [if_neg hd, if_neg ha, if_pos hA]
              rw [hx, if_pos (by omega)] at hp
              have HP := Lib.hid hp
              have HM : m * 16 + (c.toNat - 55) < 16 ^ (k + 1) := by omega
              obtain ⟨d1, d2⟩ := hA
              have d3 : ¬ 97 ≤ c.toNat := by omega
              clear hp hc hx hdig hp16 hps hm hd ha
              go_wp2_with (go_at_call 32; refine (HD.out _).mono ?_; rintro e w' ⟨rfl, rfl⟩)
              go_round
              case rel => exact ⟨k + 1, m * 16 + (c.toNat - 55), by omega, by go_num, by go_num, HM, by rw [← Nat.add_assoc]; exact HP.out⟩
              case measure => simp [intOf]; omega
            · have hx : hexv c.toNat = 16 := by unfold hexv; rw [if_neg hd, if_neg ha, if_neg hA]
              rw [hx, if_neg (by omega)] at hp
              subst hp
              clear hc hx hdig hp16 hps hm hd
              by_cases d1 : 97 ≤ c.toNat <;> by_cases d2 : c.toNat ≤ 102 <;> by_cases d3 : 65 ≤ c.toNat <;> by_cases d4 : c.toNat ≤ 70 <;> first | (exfalso; omega) | skip
              all_goals
                clear ha hA
                go_wp2_with (go_at_call 32; refine (HD.out _).mono ?_; rintro e w' ⟨rfl, rfl⟩)
                go_ret
                exact ⟨rfl, rfl⟩
      · have hke : k = 4 := by omega
        subst hke
        rw [Nat.sub_self, List.take_zero] at hp
        unfold parse16 at hp
        subst hp
        go_wp2_with fail
        go_ret
        exact ⟨rfl, rfl⟩
  · rw [if_neg h4]
    go_enter Tryd.func43, Tryd.ntmps43
    go_wp2_with fail
    go_ret
    exact ⟨rfl, rfl⟩
end Go.Proofs.YtoojfgajlakonaaDoor
