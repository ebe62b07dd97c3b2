/-
  The reference's Valid (for seats without package runes; there: RVal).
-/
import Derived.Test.YtdbfpojgaalfmaaDoorOne2
set_option linter.unusedVariables false
namespace Go.Proofs.YtdbfpojgaalfmaaDoor
open Go.RowKit

theorem oneL_bad {l : List UInt8} (h : bad l = true) : oneL l = (0, 0) := by
  unfold oneL
  split
  · rfl
  · rfl
theorem oneL_good {l : List UInt8} (h0 : l ≠ []) (h : bad l = false) : oneL l = Lib.decodeL l := by
  unfold oneL
  rw [if_neg h0, h]; rfl
theorem bad_size (s : ByteArray) (p : Nat) (hp : p < s.size) (h : bad (s.data.toList.drop p) = true) : (oneL (s.data.toList.drop p)) = (0, 0) := oneL_bad h
theorem good_size (s : ByteArray) (p : Nat) (hp : p < s.size) (h : bad (s.data.toList.drop p) = false) :
    ∃ r n : Nat, oneL (s.data.toList.drop p) = (r, n) ∧ 1 ≤ n ∧ p + n ≤ s.size ∧ r ≤ 1114111 ∧ Lib.validD (s.data.toList.drop p) = Lib.validD (s.data.toList.drop (p + n)) ∧
      (stepsP p (s.data.toList.drop p)) = (p, r) :: stepsP (p + n) (s.data.toList.drop (p + n)) := by
  have h0 := drop_ne s p hp
  have hw := Lib.decodeL_width (s.data.toList.drop p)
  have hl := Lib.decodeL_le (s.data.toList.drop p) h0
  rw [drop_len] at hl
  have hr := Lib.decodeL_rune (s.data.toList.drop p)
  have e1 := oneL_good h0 h
  have e2 := validD_bad h0
  have e3 := stepsP_good p h0 h
  rw [h, List.drop_drop] at e2
  rw [List.drop_drop] at e3
  generalize Lib.decodeL (s.data.toList.drop p) = d at *
  obtain ⟨r, n⟩ := d
  have hp2 : p + n ≤ s.size := by
    have : n ≤ s.size - p := hl
    omega
  exact ⟨r, n, e1, hw, hp2, hr, by simpa using e2, e3⟩

set_option maxHeartbeats 400000 in
theorem rvalid_any (s : ByteArray) (w : World) (h63 : s.size ≤ 4611686018427387904) :
    Calls Tryd.prog 67 #[.string s] w fun e w' => e = .returned (.bool (Lib.validD s.data.toList)) ∧ w = w' := by
  obtain ⟨V, hV⟩ : ∃ V, Lib.validD s.data.toList = V := ⟨_, rfl⟩
  rw [hV]
  have HV := Lib.hid hV
  clear hV
  go_enter Tryd.func67, Tryd.ntmps67
  go_wp2_with fail
  go_loop [3] (fun i => ∃ k : Nat, k ≤ s.size ∧ i = .int .i64 k ∧ Lib.validD (s.data.toList.drop k) = V) (fun i => s.size - (intOf i).toNat)
  case atStart => exact ⟨0, Nat.zero_le _, rfl, by rw [List.drop_zero]; exact HV.out⟩
  case round =>
    obtain ⟨k, hk, rfl, hv⟩ := hrel
    by_cases hlt : k < s.size
    · have hO := one_at s k hlt h63 w
      cases hb : bad (s.data.toList.drop k) with
      | true =>
        rw [bad_size s k hlt hb] at hO
        have HO := Lib.hid hO
        have e : V = false := by rw [← hv, validD_bad (drop_ne s k hlt), hb]; rfl
        clear hO hb hv
        subst e
        go_wp2_with (go_at_call 91; refine HO.out.mono ?_; rintro e w' ⟨rfl, rfl⟩; unfold pairV)
        go_ret
        exact ⟨rfl, rfl⟩
      | false =>
        obtain ⟨r, n, h1, h2, h3, h4, h5, h6⟩ := good_size s k hlt hb
        rw [h1] at hO
        have HO := Lib.hid hO
        have H5 := Lib.hid (h5.symm.trans hv)
        clear hO hb hv h5 h6 h1
        have hn0 : ¬ n = 0 := by omega
        go_wp2_with (go_at_call 91; refine HO.out.mono ?_; rintro e w' ⟨rfl, rfl⟩; unfold pairV)
        go_round
        case rel => exact ⟨k + n, by omega, by go_num, H5.out⟩
        case measure => simp [intOf]; omega
    · have hke : k = s.size := by omega
      subst hke
      have e : V = true := by
        rw [← hv, List.drop_eq_nil_of_le (by rw [toList_length]; omega)]; rfl
      clear hv
      subst e
      go_wp2_with fail
      go_ret
      exact ⟨rfl, rfl⟩
end Go.Proofs.YtdbfpojgaalfmaaDoor
