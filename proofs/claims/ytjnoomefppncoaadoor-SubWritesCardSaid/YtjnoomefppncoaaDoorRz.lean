/-
  The reference's One and Valid (for seats where La's names stand beside).
-/
import Derived.Test.YtjnoomefppncoaaDoorOne
import Derived.Test.YtjnoomefppncoaaDoorPl2
set_option linter.unusedVariables false
namespace Go.Proofs.YtjnoomefppncoaaDoor
open Go.RowKit

theorem drop_get (s : ByteArray) (p i : Nat) (h : p + i < s.size) : (s.data.toList.drop p).getD i 0 = s[p + i]'h := by
  rw [List.getD, List.getElem?_drop, toList_getElem s (p + i) h]; rfl
theorem drop_len2 (s : ByteArray) (p : Nat) : (s.data.toList.drop p).length = s.size - p := by rw [List.length_drop, toList_length]
theorem drop_ne (s : ByteArray) (p : Nat) (h : p < s.size) : s.data.toList.drop p ≠ [] := by
  intro e
  have := congrArg List.length e
  rw [drop_len2] at this
  simp at this; omega

theorem one_at (s : ByteArray) (p : Nat) (hp : p < s.size) (hs : s.size ≤ 4611686018427387904) (w : World) :
    Calls Tryd.prog 41 #[.string s, .int .i64 p] w fun e w' => e = .returned (pairV (oneL (s.data.toList.drop p))) ∧ w = w' := by
  have g0 : (s.data.toList.drop p).getD 0 0 = s[p]'hp := drop_get s p 0 hp
  have hN := oneL_N (drop_ne s p hp)
  rw [drop_len2, g0] at hN
  have hb := (s[p]'hp).toNat_lt
  have z1 : ¬ p + 1 < s.size → True := fun _ => trivial
  by_cases q0 : (s[p]'hp).toNat < 128
  · have : oneL (s.data.toList.drop p) = ((s[p]'hp).toNat, 1) := by
      rw [hN]
      have e : ∀ a b c, Lib.decodeN (s.size - p) (s[p]'hp).toNat a b c = ((s[p]'hp).toNat, 1) := fun a b c => by unfold Lib.decodeN; rw [if_pos q0]
      rw [e, if_neg (fun h => by have := congrArg Prod.fst h; simp at this; omega)]
    rw [this]
    exact one_ascii s p hp (by omega) w q0
  by_cases q1 : (s[p]'hp).toNat < 192 ∨ 248 ≤ (s[p]'hp).toNat
  · have : oneL (s.data.toList.drop p) = (0, 0) := by
      rw [hN]
      have e : ∀ a b c, Lib.decodeN (s.size - p) (s[p]'hp).toNat a b c = (65533, 1) := fun a b c => by
        unfold Lib.decodeN
        rw [if_neg q0, if_neg (by omega), if_neg (by omega), if_neg (by omega)]
      rw [e, if_pos rfl]
    rw [this]
    exact one_stray s p hp (by omega) w (by omega)
  by_cases q2 : (s[p]'hp).toNat < 224
  · by_cases k : p + 2 ≤ s.size
    · have g1 := drop_get s p 1 (by omega)
      rw [g1] at hN
      have b1 := (s[p + 1]'(by omega)).toNat_lt
      by_cases c1 : (s[p + 1]'(by omega)).toNat < 128 ∨ 191 < (s[p + 1]'(by omega)).toNat
      · have : oneL (s.data.toList.drop p) = (0, 0) := by
          rw [hN]
          have e : ∀ b c, Lib.decodeN (s.size - p) (s[p]'hp).toNat (s[p + 1]'(by omega)).toNat b c = (65533, 1) := fun b c => by
            unfold Lib.decodeN
            rw [if_neg q0, if_neg (by omega), if_neg (by omega), if_neg (by omega)]
          rw [e, if_pos rfl]
        rw [this]
        exact one_2_bad1 s p hp hs w (by omega) q2 k c1
      · have e : ∀ b c, Lib.decodeN (s.size - p) (s[p]'hp).toNat (s[p + 1]'(by omega)).toNat b c = if (s[p]'hp).toNat % 32 * 64 + (s[p + 1]'(by omega)).toNat % 64 ≥ 128 then ((s[p]'hp).toNat % 32 * 64 + (s[p + 1]'(by omega)).toNat % 64, 2) else (65533, 1) := fun b c => by
          unfold Lib.decodeN
          rw [if_neg q0, if_pos (by omega)]
        rw [e] at hN
        by_cases qv : (s[p]'hp).toNat % 32 * 64 + (s[p + 1]'(by omega)).toNat % 64 ≥ 128
        · rw [if_pos qv, if_neg (fun h => by have := congrArg Prod.snd h; simp at this)] at hN
          rw [hN]
          exact one_2_ok s p hp hs w (by omega) q2 k (by omega) _ rfl qv
        · rw [if_neg qv, if_pos rfl] at hN
          rw [hN]
          exact one_2_no s p hp hs w (by omega) q2 k (by omega) _ rfl (by omega)
    · have : oneL (s.data.toList.drop p) = (0, 0) := by
        rw [hN]
        have e : ∀ a b c, Lib.decodeN (s.size - p) (s[p]'hp).toNat a b c = (65533, 1) := fun a b c => by
          unfold Lib.decodeN
          rw [if_neg q0, if_neg (by omega), if_neg (by omega), if_neg (by omega)]
        rw [e, if_pos rfl]
      rw [this]
      exact one_2_short s p hp hs w (by omega) q2 (by omega)
  by_cases q3 : (s[p]'hp).toNat < 240
  · by_cases k : p + 3 ≤ s.size
    · have g1 := drop_get s p 1 (by omega)
      have g2 := drop_get s p 2 (by omega)
      rw [g1, g2] at hN
      have b1 := (s[p + 1]'(by omega)).toNat_lt
      have b2 := (s[p + 2]'(by omega)).toNat_lt
      by_cases c1 : (s[p + 1]'(by omega)).toNat < 128 ∨ 191 < (s[p + 1]'(by omega)).toNat
      · have : oneL (s.data.toList.drop p) = (0, 0) := by
          rw [hN]
          have e : ∀ b c, Lib.decodeN (s.size - p) (s[p]'hp).toNat (s[p + 1]'(by omega)).toNat b c = (65533, 1) := fun b c => by
            unfold Lib.decodeN
            rw [if_neg q0, if_neg (by omega), if_neg (by omega), if_neg (by omega)]
          rw [e, if_pos rfl]
        rw [this]
        exact one_3_bad1 s p hp hs w (by omega) q3 k c1
      by_cases c2 : (s[p + 2]'(by omega)).toNat < 128 ∨ 191 < (s[p + 2]'(by omega)).toNat
      · have : oneL (s.data.toList.drop p) = (0, 0) := by
          rw [hN]
          have e : ∀ c, Lib.decodeN (s.size - p) (s[p]'hp).toNat (s[p + 1]'(by omega)).toNat (s[p + 2]'(by omega)).toNat c = (65533, 1) := fun c => by
            unfold Lib.decodeN
            rw [if_neg q0, if_neg (by omega), if_neg (by omega), if_neg (by omega)]
          rw [e, if_pos rfl]
        rw [this]
        exact one_3_bad2 s p hp hs w (by omega) q3 k (by omega) c2
      · have e : ∀ c, Lib.decodeN (s.size - p) (s[p]'hp).toNat (s[p + 1]'(by omega)).toNat (s[p + 2]'(by omega)).toNat c = if (s[p]'hp).toNat % 16 * 4096 + (s[p + 1]'(by omega)).toNat % 64 * 64 + (s[p + 2]'(by omega)).toNat % 64 ≥ 2048 ∧ ((s[p]'hp).toNat % 16 * 4096 + (s[p + 1]'(by omega)).toNat % 64 * 64 + (s[p + 2]'(by omega)).toNat % 64 < 55296 ∨ (57344 ≤ (s[p]'hp).toNat % 16 * 4096 + (s[p + 1]'(by omega)).toNat % 64 * 64 + (s[p + 2]'(by omega)).toNat % 64 ∧ (s[p]'hp).toNat % 16 * 4096 + (s[p + 1]'(by omega)).toNat % 64 * 64 + (s[p + 2]'(by omega)).toNat % 64 ≤ 1114111)) then ((s[p]'hp).toNat % 16 * 4096 + (s[p + 1]'(by omega)).toNat % 64 * 64 + (s[p + 2]'(by omega)).toNat % 64, 3) else (65533, 1) := fun c => by
          unfold Lib.decodeN
          rw [if_neg q0, if_neg (by omega), if_pos (by omega)]
        rw [e] at hN
        obtain ⟨r, hr⟩ : ∃ r, (s[p]'hp).toNat % 16 * 4096 + (s[p + 1]'(by omega)).toNat % 64 * 64 + (s[p + 2]'(by omega)).toNat % 64 = r := ⟨_, rfl⟩
        rw [hr] at hN
        by_cases qv : r ≥ 2048 ∧ (r < 55296 ∨ (57344 ≤ r ∧ r ≤ 1114111))
        · rw [if_pos qv, if_neg (fun h => by have := congrArg Prod.snd h; simp at this)] at hN
          rw [hN]
          exact one_3_ok s p hp hs w (by omega) q3 k (by omega) (by omega) r (by omega) (by omega)
        · rw [if_neg qv, if_pos rfl] at hN
          rw [hN]
          exact one_3_no s p hp hs w (by omega) q3 k (by omega) (by omega) r (by omega) (by omega)
    · have : oneL (s.data.toList.drop p) = (0, 0) := by
        rw [hN]
        have e : ∀ a b c, Lib.decodeN (s.size - p) (s[p]'hp).toNat a b c = (65533, 1) := fun a b c => by
          unfold Lib.decodeN
          rw [if_neg q0, if_neg (by omega), if_neg (by omega), if_neg (by omega)]
        rw [e, if_pos rfl]
      rw [this]
      exact one_3_short s p hp hs w (by omega) q3 (by omega)
  by_cases k : p + 4 ≤ s.size
  · have g1 := drop_get s p 1 (by omega)
    have g2 := drop_get s p 2 (by omega)
    have g3 := drop_get s p 3 (by omega)
    rw [g1, g2, g3] at hN
    have b1 := (s[p + 1]'(by omega)).toNat_lt
    have b2 := (s[p + 2]'(by omega)).toNat_lt
    have b3 := (s[p + 3]'(by omega)).toNat_lt
    by_cases c1 : (s[p + 1]'(by omega)).toNat < 128 ∨ 191 < (s[p + 1]'(by omega)).toNat
    · have : oneL (s.data.toList.drop p) = (0, 0) := by
        rw [hN]
        have e : ∀ b c, Lib.decodeN (s.size - p) (s[p]'hp).toNat (s[p + 1]'(by omega)).toNat b c = (65533, 1) := fun b c => by
          unfold Lib.decodeN
          rw [if_neg q0, if_neg (by omega), if_neg (by omega), if_neg (by omega)]
        rw [e, if_pos rfl]
      rw [this]
      exact one_4_bad1 s p hp hs w (by omega) (by omega) k c1
    by_cases c2 : (s[p + 2]'(by omega)).toNat < 128 ∨ 191 < (s[p + 2]'(by omega)).toNat
    · have : oneL (s.data.toList.drop p) = (0, 0) := by
        rw [hN]
        have e : ∀ c, Lib.decodeN (s.size - p) (s[p]'hp).toNat (s[p + 1]'(by omega)).toNat (s[p + 2]'(by omega)).toNat c = (65533, 1) := fun c => by
          unfold Lib.decodeN
          rw [if_neg q0, if_neg (by omega), if_neg (by omega), if_neg (by omega)]
        rw [e, if_pos rfl]
      rw [this]
      exact one_4_bad2 s p hp hs w (by omega) (by omega) k (by omega) c2
    by_cases c3 : (s[p + 3]'(by omega)).toNat < 128 ∨ 191 < (s[p + 3]'(by omega)).toNat
    · have : oneL (s.data.toList.drop p) = (0, 0) := by
        rw [hN]
        have e : Lib.decodeN (s.size - p) (s[p]'hp).toNat (s[p + 1]'(by omega)).toNat (s[p + 2]'(by omega)).toNat (s[p + 3]'(by omega)).toNat = (65533, 1) := by
          unfold Lib.decodeN
          rw [if_neg q0, if_neg (by omega), if_neg (by omega), if_neg (by omega)]
        rw [e, if_pos rfl]
      rw [this]
      exact one_4_bad3 s p hp hs w (by omega) (by omega) k (by omega) (by omega) c3
    · have e : Lib.decodeN (s.size - p) (s[p]'hp).toNat (s[p + 1]'(by omega)).toNat (s[p + 2]'(by omega)).toNat (s[p + 3]'(by omega)).toNat = if (s[p]'hp).toNat % 8 * 262144 + (s[p + 1]'(by omega)).toNat % 64 * 4096 + (s[p + 2]'(by omega)).toNat % 64 * 64 + (s[p + 3]'(by omega)).toNat % 64 ≥ 65536 ∧ ((s[p]'hp).toNat % 8 * 262144 + (s[p + 1]'(by omega)).toNat % 64 * 4096 + (s[p + 2]'(by omega)).toNat % 64 * 64 + (s[p + 3]'(by omega)).toNat % 64 < 55296 ∨ (57344 ≤ (s[p]'hp).toNat % 8 * 262144 + (s[p + 1]'(by omega)).toNat % 64 * 4096 + (s[p + 2]'(by omega)).toNat % 64 * 64 + (s[p + 3]'(by omega)).toNat % 64 ∧ (s[p]'hp).toNat % 8 * 262144 + (s[p + 1]'(by omega)).toNat % 64 * 4096 + (s[p + 2]'(by omega)).toNat % 64 * 64 + (s[p + 3]'(by omega)).toNat % 64 ≤ 1114111)) then ((s[p]'hp).toNat % 8 * 262144 + (s[p + 1]'(by omega)).toNat % 64 * 4096 + (s[p + 2]'(by omega)).toNat % 64 * 64 + (s[p + 3]'(by omega)).toNat % 64, 4) else (65533, 1) := by
        unfold Lib.decodeN
        rw [if_neg q0, if_neg (by omega), if_neg (by omega), if_pos (by omega)]
      rw [e] at hN
      obtain ⟨r, hr⟩ : ∃ r, (s[p]'hp).toNat % 8 * 262144 + (s[p + 1]'(by omega)).toNat % 64 * 4096 + (s[p + 2]'(by omega)).toNat % 64 * 64 + (s[p + 3]'(by omega)).toNat % 64 = r := ⟨_, rfl⟩
      rw [hr] at hN
      by_cases qv : r ≥ 65536 ∧ (r < 55296 ∨ (57344 ≤ r ∧ r ≤ 1114111))
      · rw [if_pos qv, if_neg (fun h => by have := congrArg Prod.snd h; simp at this)] at hN
        rw [hN]
        exact one_4_ok s p hp hs w (by omega) (by omega) k (by omega) (by omega) (by omega) r (by omega) (by omega)
      · rw [if_neg qv, if_pos rfl] at hN
        rw [hN]
        exact one_4_no s p hp hs w (by omega) (by omega) k (by omega) (by omega) (by omega) r (by omega) (by omega)
  · have : oneL (s.data.toList.drop p) = (0, 0) := by
      rw [hN]
      have e : ∀ a b c, Lib.decodeN (s.size - p) (s[p]'hp).toNat a b c = (65533, 1) := fun a b c => by
        unfold Lib.decodeN
        rw [if_neg q0, if_neg (by omega), if_neg (by omega), if_neg (by omega)]
      rw [e, if_pos rfl]
    rw [this]
    exact one_4_short s p hp hs w (by omega) (by omega) (by omega)
end Go.Proofs.YtjnoomefppncoaaDoor

namespace Go.Proofs.YtjnoomefppncoaaDoor
open Go.RowKit

theorem oneL_bad {l : List UInt8} (h : bad l = true) : oneL l = (0, 0) := by
  unfold oneL
  split
  · rfl
  · rfl
theorem oneL_good {l : List UInt8} (h0 : l ≠ []) (h : bad l = false) : oneL l = Lib.decodeL l := by
  unfold oneL
  rw [if_neg h0, h]; rfl
theorem bad_size (s : ByteArray) (p : Nat) (hp : p < s.size) (h : bad (s.data.toList.drop p) = true) : (oneL (s.data.toList.drop p)) = (0, 0) := oneL_bad h
theorem good_size (s : ByteArray) (p : Nat) (hp : p < s.size) (h : bad (s.data.toList.drop p) = false) :
    ∃ r n : Nat, oneL (s.data.toList.drop p) = (r, n) ∧ 1 ≤ n ∧ p + n ≤ s.size ∧ r ≤ 1114111 ∧ Lib.validD (s.data.toList.drop p) = Lib.validD (s.data.toList.drop (p + n)) ∧
      (stepsP p (s.data.toList.drop p)) = (p, r) :: stepsP (p + n) (s.data.toList.drop (p + n)) := by
  have h0 := drop_ne s p hp
  have hw := Lib.decodeL_width (s.data.toList.drop p)
  have hl := Lib.decodeL_le (s.data.toList.drop p) h0
  rw [drop_len2] at hl
  have hr := Lib.decodeL_rune (s.data.toList.drop p)
  have e1 := oneL_good h0 h
  have e2 := validD_bad h0
  have e3 := stepsP_good p h0 h
  rw [h, List.drop_drop] at e2
  rw [List.drop_drop] at e3
  generalize Lib.decodeL (s.data.toList.drop p) = d at *
  obtain ⟨r, n⟩ := d
  have hp2 : p + n ≤ s.size := by
    have : n ≤ s.size - p := hl
    omega
  exact ⟨r, n, e1, hw, hp2, hr, by simpa using e2, e3⟩

set_option maxHeartbeats 400000 in
theorem rvalid_any (s : ByteArray) (w : World) (h63 : s.size ≤ 4611686018427387904) :
    Calls Tryd.prog 21 #[.string s] w fun e w' => e = .returned (.bool (Lib.validD s.data.toList)) ∧ w = w' := by
  obtain ⟨V, hV⟩ : ∃ V, Lib.validD s.data.toList = V := ⟨_, rfl⟩
  rw [hV]
  have HV := Lib.hid hV
  clear hV
  go_enter Tryd.func21, Tryd.ntmps21
  go_wp2_with fail
  go_loop [3] (fun i => ∃ k : Nat, k ≤ s.size ∧ i = .int .i64 k ∧ Lib.validD (s.data.toList.drop k) = V) (fun i => s.size - (intOf i).toNat)
  case atStart => exact ⟨0, Nat.zero_le _, rfl, by rw [List.drop_zero]; exact HV.out⟩
  case round =>
    obtain ⟨k, hk, rfl, hv⟩ := hrel
    by_cases hlt : k < s.size
    · have hO := one_at s k hlt h63 w
      cases hb : bad (s.data.toList.drop k) with
      | true =>
        rw [bad_size s k hlt hb] at hO
        have HO := Lib.hid hO
        have e : V = false := by rw [← hv, validD_bad (drop_ne s k hlt), hb]; rfl
        clear hO hb hv
        subst e
        go_wp2_with (go_at_call 41; refine HO.out.mono ?_; rintro e w' ⟨rfl, rfl⟩; unfold pairV)
        go_ret
        exact ⟨rfl, rfl⟩
      | false =>
        obtain ⟨r, n, h1, h2, h3, h4, h5, h6⟩ := good_size s k hlt hb
        rw [h1] at hO
        have HO := Lib.hid hO
        have H5 := Lib.hid (h5.symm.trans hv)
        clear hO hb hv h5 h6 h1
        have hn0 : ¬ n = 0 := by omega
        go_wp2_with (go_at_call 41; refine HO.out.mono ?_; rintro e w' ⟨rfl, rfl⟩; unfold pairV)
        go_round
        case rel => exact ⟨k + n, by omega, by go_num, H5.out⟩
        case measure => simp [intOf]; omega
    · have hke : k = s.size := by omega
      subst hke
      have e : V = true := by
        rw [← hv, List.drop_eq_nil_of_le (by rw [toList_length]; omega)]; rfl
      clear hv
      subst e
      go_wp2_with fail
      go_ret
      exact ⟨rfl, rfl⟩
end Go.Proofs.YtjnoomefppncoaaDoor
