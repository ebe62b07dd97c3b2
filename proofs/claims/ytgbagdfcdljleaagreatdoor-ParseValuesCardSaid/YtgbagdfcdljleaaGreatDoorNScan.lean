/-
  The contracts of Scan and Read, of package number.
-/
import Derived.Test.YtgbagdfcdljleaaGreatDoorNA
set_option linter.unusedVariables false
set_option linter.unusedSimpArgs false
namespace Go.Proofs.YtgbagdfcdljleaaGreatDoor.Nu
open Go.RowKit

def scanV (r : Int × Int × Int) : Value := .tuple #[.int .i64 r.1, .int .i64 r.2.1, .int .i64 r.2.2]
set_option maxRecDepth 100000 in
set_option maxHeartbeats 2000000 in
theorem scan_low (s : ByteArray) (at_ : Int) (h : at_ < 0) (w : World) :
    Calls Tryz.prog 51 #[.string s, .int .i64 at_] w fun e w' => e = .returned (scanV (scanL s.data.toList at_)) ∧ w = w' := by
  have HS : Hid (scanL s.data.toList at_ = (0, 0, 2)) := Lib.hid (by unfold scanL; rw [if_pos (.inl h)])
  go_enter Tryz.func51, Tryz.ntmps51
  go_wp2_with fail
  go_ret3
  exact ⟨by rw [HS.out]; rfl, rfl⟩
set_option maxRecDepth 100000 in
set_option maxHeartbeats 2000000 in
theorem scan_high (s : ByteArray) (hs : s.size ≤ maxLen) (at_ : Int) (h0 : 0 ≤ at_) (h : (s.size : Int) < at_) (w : World) :
    Calls Tryz.prog 51 #[.string s, .int .i64 at_] w fun e w' => e = .returned (scanV (scanL s.data.toList at_)) ∧ w = w' := by
  unfold maxLen at hs
  have HS : Hid (scanL s.data.toList at_ = (0, 0, 2)) := Lib.hid (by unfold scanL; rw [if_pos (.inr (by rw [toList_length]; exact h))])
  have h0' : ¬ at_ < 0 := by omega
  go_enter Tryz.func51, Tryz.ntmps51
  go_wp2_with fail
  go_ret3
  exact ⟨by rw [HS.out]; rfl, rfl⟩
theorem dig_facts (s : ByteArray) (f : Nat) : (∀ j, j < (dig s.data.toList f).length → ∃ h : f + j < s.size, isD (s[f + j]'h) = true) ∧ (∀ h : f + (dig s.data.toList f).length < s.size, isD (s[f + (dig s.data.toList f).length]'h) = false) := by
  refine ⟨fun j hj => ?_, fun h => ?_⟩
  · have hl := dig_le s.data.toList f
    rw [toList_length] at hl
    have h : f + j < s.size := by omega
    refine ⟨h, ?_⟩
    rw [← toList_getD s _ h]
    exact dig_at _ _ _ hj
  · rw [← toList_getD s _ h]
    exact dig_end _ _ (by rw [toList_length]; exact h)
theorem ext_drop (s : ByteArray) (k : Nat) : (s.extract k s.size).data.toList = s.data.toList.drop k := by
  rw [Lib.extract_data, List.take_of_length_le]
  rw [List.length_drop, toList_length]; omega
theorem ext_dig (s : ByteArray) (f d : Nat) (hd : d = (dig s.data.toList f).length) : (s.extract f (f + d)).data.toList = dig s.data.toList f := by
  rw [Lib.extract_data, show f + d - f = d by omega, hd]
  exact (dig_take _ _).symm
theorem pre_any (s : ByteArray) (k : Nat) (w : World) :
    Calls Tryz.prog 50 #[.string (s.extract k s.size), .string ⟨#[45]⟩] w fun e w' => e = .returned (.bool (decide (s.data.toList.getD k 0 = 45))) ∧ w = w' := by
  refine (Tryz.strings_HasPrefix (s.extract k s.size) ⟨#[45]⟩ w).mono ?_
  rintro e w' ⟨rfl, rfl⟩
  refine ⟨?_, rfl⟩
  have h : Lib.hasPrefix (s.extract k s.size).data.toList [45] = decide (s.data.toList.getD k 0 = 45) := by
    rw [ext_drop, ← Nat.add_zero k, ← getD_drop, Nat.add_zero]
    match s.data.toList.drop k with
    | [] => rfl
    | c :: t =>
      unfold Lib.hasPrefix
      simp only [List.isPrefixOf, Bool.and_true, List.getD_cons_zero]
      by_cases hc : c = 45
      · subst hc; rfl
      · rw [decide_eq_false hc, beq_eq_false_iff_ne]; exact fun e => hc e.symm
  show Ending.returned (.bool (Lib.hasPrefix (s.extract k s.size).data.toList [45])) = _
  rw [h]
theorem scanB_bad {l : List UInt8} {k f d : Nat} {m : Bool} {p : Int} (hd : d = (dig l f).length) (h : misL l f d = (p, true)) : scanB l k m f = (0, p, 20) := by
  unfold scanB; rw [← hd, h]; rfl
theorem scanB_big {l : List UInt8} {k f d : Nat} {m : Bool} {p x : Int} (hd : d = (dig l f).length) (h : misL l f d = (p, false)) (hw : wL (dig l f) = (x, false)) : scanB l k m f = (0, (k : Int), 20) := by
  unfold scanB; rw [← hd, h]
  have : 9007199254740992 < val (dig l f) := by
    unfold wL at hw
    split at hw
    · cases hw
    · omega
  simp [this]
theorem scanB_zero {l : List UInt8} {k f d : Nat} {p : Int} (hd : d = (dig l f).length) (h : misL l f d = (p, false)) (hw : wL (dig l f) = (0, true)) : scanB l k true f = (0, (k : Int), 20) := by
  unfold scanB; rw [← hd, h]
  have : val (dig l f) = 0 := by
    unfold wL at hw
    split at hw
    · have := congrArg Prod.fst hw; simp at this; omega
    · cases hw
  simp [this]
theorem scanB_neg {l : List UInt8} {k f d : Nat} {p x : Int} (hd : d = (dig l f).length) (h : misL l f d = (p, false)) (hw : wL (dig l f) = (x, true)) (h0 : x ≠ 0) : scanB l k true f = (-x, ((f + d : Nat) : Int), 0) ∧ 0 ≤ x ∧ x ≤ 9007199254740992 := by
  unfold scanB; rw [← hd, h]
  unfold wL at hw
  split at hw
  · rename_i hv
    have hx : (val (dig l f) : Int) = x := congrArg Prod.fst hw
    rw [if_neg (by simp), if_neg (by omega), hx]
    exact ⟨by simp, by omega, by omega⟩
  · cases hw
theorem scanB_pos {l : List UInt8} {k f d : Nat} {p x : Int} (hd : d = (dig l f).length) (h : misL l f d = (p, false)) (hw : wL (dig l f) = (x, true)) : scanB l k false f = (x, ((f + d : Nat) : Int), 0) := by
  unfold scanB; rw [← hd, h]
  unfold wL at hw
  split at hw
  · rename_i hv
    have hx : (val (dig l f) : Int) = x := congrArg Prod.fst hw
    rw [if_neg (by simp), if_neg (by simp; omega), hx]
    simp
  · cases hw

set_option maxRecDepth 100000 in
set_option maxHeartbeats 4000000 in
theorem scan_false (s : ByteArray) (hs : s.size ≤ maxLen) (k : Nat) (hk : k ≤ s.size) (hm : s.data.toList.getD k 0 ≠ 45) (w : World) :
    Calls Tryz.prog 51 #[.string s, .int .i64 k] w fun e w' => e = .returned (scanV (scanB s.data.toList k false k)) ∧ w = w' := by
  obtain ⟨f, hf⟩ : ∃ f, k = f := ⟨_, rfl⟩
  subst hf
  have hfs : k ≤ s.size := hk
  have HP := Lib.hid (pre_any s k w)
  rw [decide_eq_false hm] at HP
  have hM9 := Lib.hid hs
  unfold maxLen at hs
  obtain ⟨d, hd⟩ : ∃ d, d = (dig s.data.toList k).length := ⟨_, rfl⟩
  have hdl := dig_le s.data.toList k
  rw [← hd, toList_length] at hdl
  have hfd : k + d ≤ s.size := by omega
  obtain ⟨hF1, hF2⟩ := dig_facts s k
  rw [← hd] at hF1
  have HF1 := Lib.hid hF1
  have HF2 : Hid (∀ h : k + d < s.size, isD (s[k + d]'h) = false) := Lib.hid (by subst hd; exact hF2)
  obtain ⟨en, hen⟩ : ∃ en : Nat, en = k + d := ⟨_, rfl⟩
  have HM := Lib.hid (mis_any s k d hfd hM9.out w)
  rw [← hen] at HM
  have hX := ext_dig s k d hd
  rw [← hen] at hX
  have HW := Lib.hid (worth_any (s.extract k en) (by rw [ByteArray.size_extract]; have := hM9.out; omega) (by rw [hX]; exact dig_all _ _) w)
  rw [hX] at HW
  have hen1 : en ≤ s.size := by omega
  have hen2 : k ≤ en := by omega
  have HD := Lib.hid hd
  have HE := Lib.hid hen
  have hk1 : ¬ (s.size : Int) < k := by omega
  have hk0 : ¬ (k : Int) < 0 := by omega
  clear hm hF1 hF2 hd hdl hfd hen hX
  go_enter Tryz.func51, Tryz.ntmps51
  go_wp2_with (go_at_call 50; refine HP.out.mono ?_; rintro e w' ⟨rfl, rfl⟩)
  go_loop [5] (fun v => ∃ q : Nat, k ≤ q ∧ q ≤ en ∧ v = .int .i64 q) (fun v => en - (intOf v).toNat)
  case atStart => exact ⟨k, by omega, by omega, rfl⟩
  case round =>
    obtain ⟨q, hq1, hq2, rfl⟩ := hrel
    by_cases hlt : q < en
    · obtain ⟨hqs, hdq⟩ : ∃ h : q < s.size, isD (s[q]'h) = true := by
        obtain ⟨h, h2⟩ := HF1.out (q - k) (by have := HE.out; omega)
        have e : k + (q - k) = q := by omega
        simp only [e] at h h2
        exact ⟨h, h2⟩
      have HDQ := Lib.hid hdq
      clear hdq
      go_wp2_with (go_at_call 35; refine (digit_yes _ HDQ.out _).mono ?_; rintro e w' ⟨rfl, rfl⟩)
      go_round
      case rel => exact ⟨q + 1, by omega, by omega, by go_num⟩
      case measure => simp [intOf]; omega
    · obtain rfl : q = en := by omega
      obtain ⟨p, b, hmis⟩ : ∃ p b, misL s.data.toList k d = (p, b) := ⟨_, _, rfl⟩
      obtain ⟨x, y, hwl⟩ : ∃ x y, wL (dig s.data.toList k) = (x, y) := ⟨_, _, rfl⟩
      have HMis := Lib.hid hmis
      have HWl := Lib.hid hwl
      rw [hmis] at HM
      rw [hwl] at HW
      unfold misV at HM HW
      have hnd : ∀ h : q < s.size, isD (s[q]'h) = false := by
        have e := HE.out
        subst e
        exact HF2.out
      clear hmis hwl
      cases b with
      | true =>
        have HS := Lib.hid (scanB_bad (k := k) (m := false) HD.out HMis.out)
        by_cases hqs : q < s.size
        · have HDQ := Lib.hid (hnd hqs)
          clear hnd
          go_wp2_with (first | (go_at_call 35; refine (digit_no _ HDQ.out _).mono ?_; rintro e w' ⟨rfl, rfl⟩) | (go_at_call 59; (with_reducible refine HM.out.mono ?_); rintro e w' ⟨rfl, rfl⟩))
          go_ret3
          exact ⟨by rw [HS.out]; rfl, rfl⟩
        · clear hnd
          go_wp2_with (first | (go_at_call 59; (with_reducible refine HM.out.mono ?_); rintro e w' ⟨rfl, rfl⟩))
          go_ret3
          exact ⟨by rw [HS.out]; rfl, rfl⟩
      | false =>
        cases y with
        | false =>
          have HS := Lib.hid (scanB_big (k := k) (m := false) HD.out HMis.out HWl.out)
          by_cases hqs : q < s.size
          · have HDQ := Lib.hid (hnd hqs)
            clear hnd
            go_wp2_with (first | (go_at_call 35; refine (digit_no _ HDQ.out _).mono ?_; rintro e w' ⟨rfl, rfl⟩) | (go_at_call 59; (with_reducible refine HM.out.mono ?_); rintro e w' ⟨rfl, rfl⟩) | (go_at_call 60; (with_reducible refine HW.out.mono ?_); rintro e w' ⟨rfl, rfl⟩))
            go_ret3
            exact ⟨by rw [HS.out]; rfl, rfl⟩
          · clear hnd
            go_wp2_with (first | (go_at_call 59; (with_reducible refine HM.out.mono ?_); rintro e w' ⟨rfl, rfl⟩) | (go_at_call 60; (with_reducible refine HW.out.mono ?_); rintro e w' ⟨rfl, rfl⟩))
            go_ret3
            exact ⟨by rw [HS.out]; rfl, rfl⟩
        | true =>
          have HS := Lib.hid (scanB_pos (k := k) HD.out HMis.out HWl.out)
          rw [← HE.out] at HS
          by_cases hqs : q < s.size
          · have HDQ := Lib.hid (hnd hqs)
            clear hnd
            go_wp2_with (first | (go_at_call 35; refine (digit_no _ HDQ.out _).mono ?_; rintro e w' ⟨rfl, rfl⟩) | (go_at_call 59; (with_reducible refine HM.out.mono ?_); rintro e w' ⟨rfl, rfl⟩) | (go_at_call 60; (with_reducible refine HW.out.mono ?_); rintro e w' ⟨rfl, rfl⟩))
            go_ret3
            exact ⟨by rw [HS.out]; rfl, rfl⟩
          · clear hnd
            go_wp2_with (first | (go_at_call 59; (with_reducible refine HM.out.mono ?_); rintro e w' ⟨rfl, rfl⟩) | (go_at_call 60; (with_reducible refine HW.out.mono ?_); rintro e w' ⟨rfl, rfl⟩))
            go_ret3
            exact ⟨by rw [HS.out]; rfl, rfl⟩

set_option maxRecDepth 100000 in
set_option maxHeartbeats 4000000 in
theorem scan_true (s : ByteArray) (hs : s.size ≤ maxLen) (k : Nat) (hk : k ≤ s.size) (hm : s.data.toList.getD k 0 = 45) (w : World) :
    Calls Tryz.prog 51 #[.string s, .int .i64 k] w fun e w' => e = .returned (scanV (scanB s.data.toList k true (k + 1))) ∧ w = w' := by
  have hk2 : k < s.size := by
    rcases Nat.lt_or_ge k s.size with h | h
    · exact h
    · rw [toList_getD_end s k h] at hm; exact absurd hm (by decide)
  obtain ⟨f, hf⟩ : ∃ f, f = k + 1 := ⟨_, rfl⟩
  rw [← hf]
  have hfi : (k : Int) + 1 = (f : Int) := by omega
  have hfs : f ≤ s.size := by omega
  have HP := Lib.hid (pre_any s k w)
  rw [decide_eq_true hm] at HP
  have hM9 := Lib.hid hs
  unfold maxLen at hs
  obtain ⟨d, hd⟩ : ∃ d, d = (dig s.data.toList f).length := ⟨_, rfl⟩
  have hdl := dig_le s.data.toList f
  rw [← hd, toList_length] at hdl
  have hfd : f + d ≤ s.size := by omega
  obtain ⟨hF1, hF2⟩ := dig_facts s f
  rw [← hd] at hF1
  have HF1 := Lib.hid hF1
  have HF2 : Hid (∀ h : f + d < s.size, isD (s[f + d]'h) = false) := Lib.hid (by subst hd; exact hF2)
  obtain ⟨en, hen⟩ : ∃ en : Nat, en = f + d := ⟨_, rfl⟩
  have HM := Lib.hid (mis_any s f d hfd hM9.out w)
  rw [← hen] at HM
  have hX := ext_dig s f d hd
  rw [← hen] at hX
  have HW := Lib.hid (worth_any (s.extract f en) (by rw [ByteArray.size_extract]; have := hM9.out; omega) (by rw [hX]; exact dig_all _ _) w)
  rw [hX] at HW
  have hen1 : en ≤ s.size := by omega
  have hen2 : f ≤ en := by omega
  have HD := Lib.hid hd
  have HE := Lib.hid hen
  have hk1 : ¬ (s.size : Int) < k := by omega
  have hk0 : ¬ (k : Int) < 0 := by omega
  clear hm hF1 hF2 hd hdl hfd hen hX hf
  go_enter Tryz.func51, Tryz.ntmps51
  go_wp2_with (go_at_call 50; refine HP.out.mono ?_; rintro e w' ⟨rfl, rfl⟩)
  go_loop [5] (fun v => ∃ q : Nat, f ≤ q ∧ q ≤ en ∧ v = .int .i64 q) (fun v => en - (intOf v).toNat)
  case atStart => exact ⟨f, by omega, by omega, rfl⟩
  case round =>
    obtain ⟨q, hq1, hq2, rfl⟩ := hrel
    by_cases hlt : q < en
    · obtain ⟨hqs, hdq⟩ : ∃ h : q < s.size, isD (s[q]'h) = true := by
        obtain ⟨h, h2⟩ := HF1.out (q - f) (by have := HE.out; omega)
        have e : f + (q - f) = q := by omega
        simp only [e] at h h2
        exact ⟨h, h2⟩
      have HDQ := Lib.hid hdq
      clear hdq
      go_wp2_with (go_at_call 35; refine (digit_yes _ HDQ.out _).mono ?_; rintro e w' ⟨rfl, rfl⟩)
      go_round
      case rel => exact ⟨q + 1, by omega, by omega, by go_num⟩
      case measure => simp [intOf]; omega
    · obtain rfl : q = en := by omega
      obtain ⟨p, b, hmis⟩ : ∃ p b, misL s.data.toList f d = (p, b) := ⟨_, _, rfl⟩
      obtain ⟨x, y, hwl⟩ : ∃ x y, wL (dig s.data.toList f) = (x, y) := ⟨_, _, rfl⟩
      have HMis := Lib.hid hmis
      have HWl := Lib.hid hwl
      rw [hmis] at HM
      rw [hwl] at HW
      unfold misV at HM HW
      have hnd : ∀ h : q < s.size, isD (s[q]'h) = false := by
        have e := HE.out
        subst e
        exact HF2.out
      clear hmis hwl
      cases b with
      | true =>
        have HS := Lib.hid (scanB_bad (k := k) (m := true) HD.out HMis.out)
        by_cases hqs : q < s.size
        · have HDQ := Lib.hid (hnd hqs)
          clear hnd
          go_wp2_with (first | (go_at_call 35; refine (digit_no _ HDQ.out _).mono ?_; rintro e w' ⟨rfl, rfl⟩) | (go_at_call 59; (with_reducible refine HM.out.mono ?_); rintro e w' ⟨rfl, rfl⟩))
          go_ret3
          exact ⟨by rw [HS.out]; rfl, rfl⟩
        · clear hnd
          go_wp2_with (first | (go_at_call 59; (with_reducible refine HM.out.mono ?_); rintro e w' ⟨rfl, rfl⟩))
          go_ret3
          exact ⟨by rw [HS.out]; rfl, rfl⟩
      | false =>
        cases y with
        | false =>
          have HS := Lib.hid (scanB_big (k := k) (m := true) HD.out HMis.out HWl.out)
          by_cases hqs : q < s.size
          · have HDQ := Lib.hid (hnd hqs)
            clear hnd
            go_wp2_with (first | (go_at_call 35; refine (digit_no _ HDQ.out _).mono ?_; rintro e w' ⟨rfl, rfl⟩) | (go_at_call 59; (with_reducible refine HM.out.mono ?_); rintro e w' ⟨rfl, rfl⟩) | (go_at_call 60; (with_reducible refine HW.out.mono ?_); rintro e w' ⟨rfl, rfl⟩))
            go_ret3
            exact ⟨by rw [HS.out]; rfl, rfl⟩
          · clear hnd
            go_wp2_with (first | (go_at_call 59; (with_reducible refine HM.out.mono ?_); rintro e w' ⟨rfl, rfl⟩) | (go_at_call 60; (with_reducible refine HW.out.mono ?_); rintro e w' ⟨rfl, rfl⟩))
            go_ret3
            exact ⟨by rw [HS.out]; rfl, rfl⟩
        | true =>
          by_cases hx0 : x = 0
          · subst hx0
            have HS := Lib.hid (scanB_zero (k := k) HD.out HMis.out HWl.out)
            by_cases hqs : q < s.size
            · have HDQ := Lib.hid (hnd hqs)
              clear hnd
              go_wp2_with (first | (go_at_call 35; refine (digit_no _ HDQ.out _).mono ?_; rintro e w' ⟨rfl, rfl⟩) | (go_at_call 59; (with_reducible refine HM.out.mono ?_); rintro e w' ⟨rfl, rfl⟩) | (go_at_call 60; (with_reducible refine HW.out.mono ?_); rintro e w' ⟨rfl, rfl⟩))
              go_ret3
              exact ⟨by rw [HS.out]; rfl, rfl⟩
            · clear hnd
              go_wp2_with (first | (go_at_call 59; (with_reducible refine HM.out.mono ?_); rintro e w' ⟨rfl, rfl⟩) | (go_at_call 60; (with_reducible refine HW.out.mono ?_); rintro e w' ⟨rfl, rfl⟩))
              go_ret3
              exact ⟨by rw [HS.out]; rfl, rfl⟩
          · obtain ⟨hs1, hx1, hx2⟩ := scanB_neg (k := k) HD.out HMis.out HWl.out hx0
            have HS := Lib.hid hs1
            rw [← HE.out] at HS
            have hxb : (x == 0) = false := by rw [beq_eq_false_iff_ne]; exact hx0
            clear hs1
            by_cases hqs : q < s.size
            · have HDQ := Lib.hid (hnd hqs)
              clear hnd
              go_wp2_with (first | (go_at_call 35; refine (digit_no _ HDQ.out _).mono ?_; rintro e w' ⟨rfl, rfl⟩) | (go_at_call 59; (with_reducible refine HM.out.mono ?_); rintro e w' ⟨rfl, rfl⟩) | (go_at_call 60; (with_reducible refine HW.out.mono ?_); rintro e w' ⟨rfl, rfl⟩))
              go_ret3
              exact ⟨by rw [HS.out]; rfl, rfl⟩
            · clear hnd
              go_wp2_with (first | (go_at_call 59; (with_reducible refine HM.out.mono ?_); rintro e w' ⟨rfl, rfl⟩) | (go_at_call 60; (with_reducible refine HW.out.mono ?_); rintro e w' ⟨rfl, rfl⟩))
              go_ret3
              exact ⟨by rw [HS.out]; rfl, rfl⟩

theorem scan_any (s : ByteArray) (hs : s.size ≤ maxLen) (at_ : Int) (w : World) :
    Calls Tryz.prog 51 #[.string s, .int .i64 at_] w fun e w' => e = .returned (scanV (scanL s.data.toList at_)) ∧ w = w' := by
  by_cases h0 : at_ < 0
  · exact scan_low s at_ h0 w
  by_cases h1 : (s.size : Int) < at_
  · exact scan_high s hs at_ (by omega) h1 w
  obtain ⟨k, rfl⟩ : ∃ k : Nat, at_ = (k : Int) := ⟨at_.toNat, by omega⟩
  have e : scanL s.data.toList (k : Int) = scanN s.data.toList k := by
    unfold scanL
    rw [if_neg (by rw [toList_length]; omega)]
    rfl
  rw [e]
  unfold scanN
  by_cases hm : s.data.toList.getD k 0 = 45
  · rw [if_pos hm]
    exact scan_true s hs k (by omega) hm w
  · rw [if_neg hm]
    exact scan_false s hs k (by omega) hm w
def readV (r : Int × Int) : Value := .tuple #[.int .i64 r.1, .int .i64 r.2]
theorem readL_bad {l : List UInt8} {n en e : Int} (h : scanL l 0 = (n, en, e)) (he : e ≠ 0) : readL l = (0, 20) := by
  unfold readL; rw [h, if_neg (fun x => he x.1)]
theorem readL_end {l : List UInt8} {n en e : Int} (h : scanL l 0 = (n, en, e)) (he : en ≠ l.length) : readL l = (0, 20) := by
  unfold readL; rw [h, if_neg (fun x => he x.2)]
theorem readL_ok {l : List UInt8} {n : Int} (h : scanL l 0 = (n, (l.length : Int), 0)) : readL l = (n, 0) := by
  unfold readL; rw [h, if_pos ⟨rfl, rfl⟩]
end Go.Proofs.YtgbagdfcdljleaaGreatDoor.Nu
