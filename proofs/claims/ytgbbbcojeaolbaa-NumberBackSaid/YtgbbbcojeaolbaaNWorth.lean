/-
  The contract of worth, of package number.
-/
import Derived.Test.YtgbbbcojeaolbaaNMis
set_option linter.unusedVariables false
namespace Go.Proofs.Ytgbbbcojeaolbaa
open Go.RowKit

theorem val_snoc_at (s : ByteArray) (k : Nat) (h : k < s.size) : val (s.data.toList.take (k + 1)) = val (s.data.toList.take k) * 10 + (s[k].toNat - 48) := by
  rw [take_snoc s k h, val_snoc]
theorem all_at (s : ByteArray) (ha : s.data.toList.all isD = true) (k : Nat) (h : k < s.size) : 48 ≤ s[k].toNat ∧ s[k].toNat ≤ 57 := by
  have := List.all_eq_true.1 ha s[k] (by
    have e := toList_getElem s k h
    exact List.mem_of_getElem? e)
  exact isD_iff.1 this

set_option maxRecDepth 100000 in
set_option maxHeartbeats 2000000 in
theorem worth_any (s : ByteArray) (hs : s.size ≤ maxLen) (ha : s.data.toList.all isD = true) (w : World) :
    Calls Try.prog 24 #[.string s] w fun e w' => e = .returned (misV (wL s.data.toList)) ∧ w = w' := by
  unfold maxLen at hs
  have HA := Lib.hid (all_at s ha)
  have HV := Lib.hid (val_snoc_at s)
  have HT := Lib.hid (val_take_le s.data.toList)
  have hall : s.data.toList.take s.size = s.data.toList := List.take_of_length_le (by rw [toList_length]; omega)
  have HF := Lib.hid hall
  clear ha hall
  go_enter Try.func24, Try.ntmps24
  go_wp2
  go_loop [2, 8] (fun n i => ∃ k v : Nat, k ≤ s.size ∧ i = .int .i64 k ∧ n = .int .i64 v ∧ v ≤ 9007199254740992 ∧ Hid (val (s.data.toList.take k) = v)) (fun _ i => s.size - (intOf i).toNat)
  case atStart => exact ⟨0, 0, by omega, rfl, rfl, by omega, Lib.hid rfl⟩
  case round =>
    obtain ⟨k, v, hk, rfl, rfl, hv, hval⟩ := hrel
    by_cases hlt : k < s.size
    · obtain ⟨c0, c1⟩ := HA.out k hlt
      have hsn := HV.out k hlt
      rw [hval.out] at hsn
      obtain ⟨d, hd⟩ : ∃ d : Nat, d = s[k].toNat - 48 := ⟨_, rfl⟩
      rw [← hd] at hsn
      have hdi : (s[k].toNat : Int) - 48 = (d : Int) := by omega
      have d9 : d ≤ 9 := by omega
      obtain ⟨q, hq⟩ : ∃ q : Nat, q = (9007199254740992 - d) / 10 := ⟨_, rfl⟩
      have hqi : (9007199254740992 - (d : Int)) / 10 = (q : Int) := by omega
      by_cases ho : q < v
      · have hgt : (q : Int) < v := by omega
        have hbig : 9007199254740992 < val (s.data.toList.take (k + 1)) := by rw [hsn]; omega
        have HW : Hid (wL s.data.toList = (0, false)) := Lib.hid (by unfold wL; rw [if_neg (by have := HT.out (k + 1); omega)])
        clear hbig hsn hd hq hval
        go_wp2
        go_ret2
        exact ⟨by rw [HW.out]; rfl, rfl⟩
      · have hgt : ¬ (q : Int) < v := by omega
        have hle : v * 10 + d ≤ 9007199254740992 := by omega
        have HN : Hid (val (s.data.toList.take (k + 1)) = v * 10 + d) := Lib.hid hsn
        clear hsn hd hq hval
        go_wp2
        go_round
        case rel => exact ⟨k + 1, v * 10 + d, by omega, by go_num, by go_num, by omega, HN⟩
        case measure => simp [intOf]; omega
    · have HW : Hid (wL s.data.toList = ((v : Int), true)) := Lib.hid (by
        have e : k = s.size := by omega
        have h2 := hval.out
        rw [e, HF.out] at h2
        unfold wL
        rw [h2, if_pos hv])
      clear hval
      go_wp2
      go_ret2
      exact ⟨by rw [HW.out]; rfl, rfl⟩
end Go.Proofs.Ytgbbbcojeaolbaa
