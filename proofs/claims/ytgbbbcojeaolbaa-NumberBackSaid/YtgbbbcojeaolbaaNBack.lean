/-
  The statement NumberBack: the call returns true, and writes nothing that was there.
-/
import Derived.Test.YtgbbbcojeaolbaaNOrder
set_option linter.unusedVariables false
namespace Go.Proofs.Ytgbbbcojeaolbaa
open Go.RowKit

theorem read_at {s : ByteArray} {x e : Int} (hs : s.size ≤ maxLen) (h : readL s.data.toList = (x, e)) (w : World) : Hid (∀ w1, KB w w1 → Calls Try.prog 18 #[.string s] w1 fun e' w' => e' = .returned (.tuple #[.int .i64 x, .int .i64 e]) ∧ KB w w') :=
  Lib.hid fun w1 hK => Calls.k0 hK (by have := read_any s hs w1; rw [h] at this; exact this)
theorem scan_at {s : ByteArray} {a x en e : Int} (hs : s.size ≤ maxLen) (h : scanL s.data.toList a = (x, en, e)) (w : World) : Hid (∀ w1, KB w w1 → Calls Try.prog 16 #[.string s, .int .i64 a] w1 fun e' w' => e' = .returned (.tuple #[.int .i64 x, .int .i64 en, .int .i64 e]) ∧ KB w w') :=
  Lib.hid fun w1 hK => Calls.k0 hK (by have := scan_any s hs a w1; rw [h] at this; exact this)
theorem readL_forms (l : List UInt8) : (∃ k, readL l = (k, 0)) ∨ readL l = (0, 20) := by
  unfold readL
  split
  · exact .inl ⟨_, rfl⟩
  · exact .inr rfl
theorem ba_list (s : ByteArray) (l : List UInt8) (h : l = s.data.toList) : (⟨l.toArray⟩ : ByteArray) = s := by
  subst h
  apply ByteArray.ext
  simp
theorem data_app (s t : ByteArray) : (s ++ t).data.toList = s.data.toList ++ t.data.toList := by
  rw [ByteArray.data_append]; simp
theorem size_app (s t : ByteArray) : (s ++ t).size = s.size + t.size := by
  rw [← toList_length, data_app, List.length_append, toList_length, toList_length]
theorem beq_toList {S T : ByteArray} (h : S ≠ T) : (S.toList == T.toList) = false := by
  rw [beq_eq_false_iff_ne]
  intro e
  rw [Lib.toList_data, Lib.toList_data] at e
  exact h (ByteArray.ext (by simpa using congrArg List.toArray e))
theorem wakes_at (w : World) : Hid (∀ w1, KB w w1 → Calls Try.prog 15 #[] w1 fun e w' => e = .returned (.bool true) ∧ KB w w') := Lib.hid fun w1 hK => Calls.k0 hK (wakes_any w1)

set_option maxHeartbeats 4000000 in
set_option maxRecDepth 100000 in
theorem back_long (n m : Int) (a b : ByteArray) (w : World) (ha : a.size ≤ maxLen) (hb : b.size ≤ maxLen) (h : 400 < a.size ∨ 400 < b.size) :
    Calls Try.prog 5 #[.int .i64 n, .int .i64 m, .string a, .string b] w fun e w' => e = .returned (.bool true) ∧ KB w w' := by
  have hK0 : KB w w := Below.refl _ _
  have HW := wakes_at w
  unfold maxLen at ha hb
  by_cases h1 : 400 < a.size
  · clear h
    go_enter Try.func5, Try.ntmps5
    go_wp2_with (go_at_call 15; (with_reducible refine (HW.out _ (by assumption)).mono ?_); rintro e w' ⟨rfl, hK⟩)
    go_ret
    exact ⟨rfl, by assumption⟩
  · have h2 : 400 < b.size := by omega
    clear h
    go_enter Try.func5, Try.ntmps5
    go_wp2_with (go_at_call 15; (with_reducible refine (HW.out _ (by assumption)).mono ?_); rintro e w' ⟨rfl, hK⟩)
    go_ret
    exact ⟨rfl, by assumption⟩

set_option maxHeartbeats 8000000 in
set_option maxRecDepth 100000 in
theorem back_no0 (n m : Int) (a b : ByteArray) (w : World) (ha : a.size ≤ 400) (hb : b.size ≤ 400) (hn : fitB n = false) (hr : ∃ k, readL b.data.toList = (k, 0)) :
    Calls Try.prog 5 #[.int .i64 n, .int .i64 m, .string a, .string b] w fun e w' => e = .returned (.bool true) ∧ KB w w' := by
  have hK0 : KB w w := Below.refl _ _
  have HW := wakes_at w
  have hbM : b.size ≤ maxLen := by unfold maxLen; omega
  have haM : a.size ≤ maxLen := by unfold maxLen; omega
  obtain ⟨k, hrd⟩ := hr
  obtain ⟨hkf, hkt⟩ := text_read _ _ hrd
  have HR := read_at hbM hrd w
  have HK := text_at (n := k) (S := b) (E := 0) (ba_list _ _ hkt) (by rw [hkf]; rfl) w
  clear hrd hkf hkt
  have HT := text_at (n := n) (S := ⟨#[]⟩) (E := 20) (by rw [txt_no hn]) (by rw [hn]; rfl) w
  have hd : n < -9007199254740992 ∨ 9007199254740992 < n := by
    have : ¬ (-9007199254740992 ≤ n ∧ n ≤ 9007199254740992) := fun e => by rw [fitB_iff.2 e] at hn; cases hn
    omega
  clear hn hbM haM
  rcases hd with hd | hd
  · have e1 : decide (-9007199254740992 ≤ n) = false := decide_eq_false (by omega)
    clear hd
    go_enter Try.func5, Try.ntmps5
    go_wp2_with (first | (go_at_call 7; first | ((with_reducible refine (HT.out _ (by assumption)).mono ?_); rintro e w' ⟨rfl, hK⟩) | ((with_reducible refine (HK.out _ (by assumption)).mono ?_); rintro e w' ⟨rfl, hK⟩)) | (go_at_call 18; first | ((with_reducible refine (HR.out _ (by assumption)).mono ?_); rintro e w' ⟨rfl, hK⟩)) | (go_at_call 15; first | ((with_reducible refine (HW.out _ (by assumption)).mono ?_); rintro e w' ⟨rfl, hK⟩)))
    go_ret
    exact ⟨rfl, by assumption⟩
  · have e1 : decide (-9007199254740992 ≤ n) = true := decide_eq_true (by omega)
    have e2 : decide (n ≤ 9007199254740992) = false := decide_eq_false (by omega)
    clear hd
    go_enter Try.func5, Try.ntmps5
    go_wp2_with (first | (go_at_call 7; first | ((with_reducible refine (HT.out _ (by assumption)).mono ?_); rintro e w' ⟨rfl, hK⟩) | ((with_reducible refine (HK.out _ (by assumption)).mono ?_); rintro e w' ⟨rfl, hK⟩)) | (go_at_call 18; first | ((with_reducible refine (HR.out _ (by assumption)).mono ?_); rintro e w' ⟨rfl, hK⟩)) | (go_at_call 15; first | ((with_reducible refine (HW.out _ (by assumption)).mono ?_); rintro e w' ⟨rfl, hK⟩)))
    go_ret
    exact ⟨rfl, by assumption⟩

set_option maxHeartbeats 8000000 in
set_option maxRecDepth 100000 in
theorem back_no1 (n m : Int) (a b : ByteArray) (w : World) (ha : a.size ≤ 400) (hb : b.size ≤ 400) (hn : fitB n = false) (hr : readL b.data.toList = (0, 20)) :
    Calls Try.prog 5 #[.int .i64 n, .int .i64 m, .string a, .string b] w fun e w' => e = .returned (.bool true) ∧ KB w w' := by
  have hK0 : KB w w := Below.refl _ _
  have HW := wakes_at w
  have hbM : b.size ≤ maxLen := by unfold maxLen; omega
  have haM : a.size ≤ maxLen := by unfold maxLen; omega
  have HR := read_at hbM hr w
  clear hr
  have HT := text_at (n := n) (S := ⟨#[]⟩) (E := 20) (by rw [txt_no hn]) (by rw [hn]; rfl) w
  have hd : n < -9007199254740992 ∨ 9007199254740992 < n := by
    have : ¬ (-9007199254740992 ≤ n ∧ n ≤ 9007199254740992) := fun e => by rw [fitB_iff.2 e] at hn; cases hn
    omega
  clear hn hbM haM
  rcases hd with hd | hd
  · have e1 : decide (-9007199254740992 ≤ n) = false := decide_eq_false (by omega)
    clear hd
    go_enter Try.func5, Try.ntmps5
    go_wp2_with (first | (go_at_call 7; first | ((with_reducible refine (HT.out _ (by assumption)).mono ?_); rintro e w' ⟨rfl, hK⟩)) | (go_at_call 18; first | ((with_reducible refine (HR.out _ (by assumption)).mono ?_); rintro e w' ⟨rfl, hK⟩)) | (go_at_call 15; first | ((with_reducible refine (HW.out _ (by assumption)).mono ?_); rintro e w' ⟨rfl, hK⟩)))
    go_ret
    exact ⟨rfl, by assumption⟩
  · have e1 : decide (-9007199254740992 ≤ n) = true := decide_eq_true (by omega)
    have e2 : decide (n ≤ 9007199254740992) = false := decide_eq_false (by omega)
    clear hd
    go_enter Try.func5, Try.ntmps5
    go_wp2_with (first | (go_at_call 7; first | ((with_reducible refine (HT.out _ (by assumption)).mono ?_); rintro e w' ⟨rfl, hK⟩)) | (go_at_call 18; first | ((with_reducible refine (HR.out _ (by assumption)).mono ?_); rintro e w' ⟨rfl, hK⟩)) | (go_at_call 15; first | ((with_reducible refine (HW.out _ (by assumption)).mono ?_); rintro e w' ⟨rfl, hK⟩)))
    go_ret
    exact ⟨rfl, by assumption⟩

set_option maxHeartbeats 8000000 in
set_option maxRecDepth 100000 in
theorem back_true1_0 (n m : Int) (a b : ByteArray) (w : World) (ha : a.size ≤ 400) (hb : b.size ≤ 400) (hn : fitB n = true) (hm : fitB m = true) (hnm : n ≠ m) (hr : ∃ k, readL b.data.toList = (k, 0)) :
    Calls Try.prog 5 #[.int .i64 n, .int .i64 m, .string a, .string b] w fun e w' => e = .returned (.bool true) ∧ KB w w' := by
  have hK0 : KB w w := Below.refl _ _
  have HW := wakes_at w
  have hbM : b.size ≤ maxLen := by unfold maxLen; omega
  have haM : a.size ≤ maxLen := by unfold maxLen; omega
  have hf := fitB_iff.1 hn
  have e1 : decide (-9007199254740992 ≤ n) = true := decide_eq_true hf.1
  have e2 : decide (n ≤ 9007199254740992) = true := decide_eq_true hf.2
  have l1 := txt_len n
  have hrt := read_text n hn
  obtain ⟨S, hS⟩ : ∃ S : ByteArray, (⟨(txt n).toArray⟩ : ByteArray) = S := ⟨_, rfl⟩
  have sS : S.size = (txt n).length := by rw [← hS, size_arr]
  have hSl : S.data.toList = txt n := by rw [← hS]
  have HT := text_at (n := n) (S := S) (E := 0) hS (by rw [hn]; rfl) w
  have HX := read_at (s := S) (x := n) (e := 0) (by unfold maxLen; omega) (by rw [hSl]; exact hrt) w
  have HL : Hid (∀ w1, KB w w1 → Calls Try.prog 11 #[.int .i64 n] w1 fun e w' => e = .returned (.int .i64 S.size) ∧ KB w w') := Lib.hid fun w1 hK => Calls.kb hK (by have := len_any n w1; rw [sS]; exact this)
  have s17 : S.size ≤ 17 := by omega
  obtain ⟨k, hrd⟩ := hr
  obtain ⟨hkf, hkt⟩ := text_read _ _ hrd
  have HR := read_at hbM hrd w
  have HK := text_at (n := k) (S := b) (E := 0) (ba_list _ _ hkt) (by rw [hkf]; rfl) w
  clear hrd hkf hkt
  obtain ⟨T, hT⟩ : ∃ S : ByteArray, (⟨(txt m).toArray⟩ : ByteArray) = S := ⟨_, rfl⟩
  have HM := text_at (n := m) (S := T) (E := 0) hT (by rw [hm]; rfl) w
  have e3 : (S.toList == T.toList) = false := beq_toList (fun e => hnm ((txt_inj hn hm).1 (by rw [← hSl, e, ← hT])))
  have e4 : (n == m) = false := by rw [beq_eq_false_iff_ne]; exact hnm
  clear hT hm hnm
  by_cases hz : b.size = 0
  · have hfree : freeB b.data.toList = true := by
      have : b.data.toList = [] := List.length_eq_zero_iff.1 (by rw [toList_length]; exact hz)
      rw [this]; rfl
    have hsc : scanL (a ++ S ++ b).data.toList (a.size : Int) = (n, ((a.size + S.size : Nat) : Int), 0) := by
      have h := scan_text n hn a.data.toList b.data.toList hfree
      rw [toList_length, ← sS] at h
      rw [data_app, data_app, hSl, scanL_nat _ _ (by rw [List.length_append, List.length_append, toList_length]; omega)]
      exact h
    have HSc := scan_at (s := a ++ S ++ b) (by rw [size_app, size_app]; unfold maxLen; omega) hsc w
    have hen : ((a.size + S.size : Nat) : Int) = (a.size : Int) + S.size := by omega
    rw [hen] at HSc
    have z1 : (a ++ S).size = a.size + S.size := size_app _ _
    have z2 : (a.size : Int) + S.size ≤ 417 := by omega
    clear hsc hen hfree sS hSl hn hf l1 hS hrt hbM haM
    go_enter Try.func5, Try.ntmps5
    go_wp2_with (first | (go_at_call 7; first | ((with_reducible refine (HT.out _ (by assumption)).mono ?_); rintro e w' ⟨rfl, hK⟩) | ((with_reducible refine (HK.out _ (by assumption)).mono ?_); rintro e w' ⟨rfl, hK⟩) | ((with_reducible refine (HM.out _ (by assumption)).mono ?_); rintro e w' ⟨rfl, hK⟩)) | (go_at_call 18; first | ((with_reducible refine (HR.out _ (by assumption)).mono ?_); rintro e w' ⟨rfl, hK⟩) | ((with_reducible refine (HX.out _ (by assumption)).mono ?_); rintro e w' ⟨rfl, hK⟩)) | (go_at_call 15; first | ((with_reducible refine (HW.out _ (by assumption)).mono ?_); rintro e w' ⟨rfl, hK⟩)) | (go_at_call 16; first | ((with_reducible refine (HSc.out _ (by assumption)).mono ?_); rintro e w' ⟨rfl, hK⟩)) | (go_at_call 11; first | ((with_reducible refine (HL.out _ (by assumption)).mono ?_); rintro e w' ⟨rfl, hK⟩)))
    go_ret
    exact ⟨rfl, by assumption⟩
  · have hpos : 0 < b.size := by omega
    have hg0 := toList_getD b 0 hpos
    have hcons : ∃ t, b.data.toList = b[0] :: t := by
      match hb0 : b.data.toList with
      | [] => have := toList_length b; rw [hb0] at this; simp at this; omega
      | c :: t => rw [hb0] at hg0; exact ⟨t, by rw [← hg0]; rfl⟩
    obtain ⟨t, hcons⟩ := hcons
    have hfr : freeB b.data.toList = (!isD b[0] && !stopB b[0]) := by rw [hcons]; rfl
    clear hz hg0 hcons
    by_cases c1 : 48 ≤ b[0].toNat ∧ b[0].toNat ≤ 57
    · obtain ⟨c1, c2⟩ := c1
      clear hfr sS hSl hn hf l1 hS hrt hbM haM
      go_enter Try.func5, Try.ntmps5
      go_wp2_with (first | (go_at_call 7; first | ((with_reducible refine (HT.out _ (by assumption)).mono ?_); rintro e w' ⟨rfl, hK⟩) | ((with_reducible refine (HK.out _ (by assumption)).mono ?_); rintro e w' ⟨rfl, hK⟩) | ((with_reducible refine (HM.out _ (by assumption)).mono ?_); rintro e w' ⟨rfl, hK⟩)) | (go_at_call 18; first | ((with_reducible refine (HR.out _ (by assumption)).mono ?_); rintro e w' ⟨rfl, hK⟩) | ((with_reducible refine (HX.out _ (by assumption)).mono ?_); rintro e w' ⟨rfl, hK⟩)) | (go_at_call 15; first | ((with_reducible refine (HW.out _ (by assumption)).mono ?_); rintro e w' ⟨rfl, hK⟩)) | (go_at_call 11; first | ((with_reducible refine (HL.out _ (by assumption)).mono ?_); rintro e w' ⟨rfl, hK⟩)))
      go_ret
      exact ⟨rfl, by assumption⟩
    have hD : isD b[0] = false := by
      cases h : isD b[0] with
      | true => exact absurd (isD_iff.1 h) c1
      | false => rfl
    have hdn : b[0].toNat < 48 ∨ 57 < b[0].toNat := by omega
    clear c1
    cases hst : stopB b[0] with
    | true =>
      have hsc := stop_cases hst
      clear hfr sS hSl hn hf l1 hS hrt hbM haM hst hD
      rcases hsc with h1 | ⟨h1, h2⟩ | ⟨h1, h2, h3⟩
      · have g1 : ((b[0].toNat : Int) == 46) = true := by rw [h1]; rfl
        have g0 : ¬ 48 ≤ b[0].toNat := by rw [h1]; decide
        clear h1 hdn
        go_enter Try.func5, Try.ntmps5
        go_wp2_with (first | (go_at_call 7; first | ((with_reducible refine (HT.out _ (by assumption)).mono ?_); rintro e w' ⟨rfl, hK⟩) | ((with_reducible refine (HK.out _ (by assumption)).mono ?_); rintro e w' ⟨rfl, hK⟩) | ((with_reducible refine (HM.out _ (by assumption)).mono ?_); rintro e w' ⟨rfl, hK⟩)) | (go_at_call 18; first | ((with_reducible refine (HR.out _ (by assumption)).mono ?_); rintro e w' ⟨rfl, hK⟩) | ((with_reducible refine (HX.out _ (by assumption)).mono ?_); rintro e w' ⟨rfl, hK⟩)) | (go_at_call 15; first | ((with_reducible refine (HW.out _ (by assumption)).mono ?_); rintro e w' ⟨rfl, hK⟩)) | (go_at_call 11; first | ((with_reducible refine (HL.out _ (by assumption)).mono ?_); rintro e w' ⟨rfl, hK⟩)))
        go_ret
        exact ⟨rfl, by assumption⟩
      · have g1 : ((b[0].toNat : Int) == 46) = false := beqN (n := 46) (by decide) h1
        have g2 : ((b[0].toNat : Int) == 101) = true := by rw [h2]; rfl
        have g0 : ¬ b[0].toNat ≤ 57 := by rw [h2]; decide
        clear h1 h2 hdn
        go_enter Try.func5, Try.ntmps5
        go_wp2_with (first | (go_at_call 7; first | ((with_reducible refine (HT.out _ (by assumption)).mono ?_); rintro e w' ⟨rfl, hK⟩) | ((with_reducible refine (HK.out _ (by assumption)).mono ?_); rintro e w' ⟨rfl, hK⟩) | ((with_reducible refine (HM.out _ (by assumption)).mono ?_); rintro e w' ⟨rfl, hK⟩)) | (go_at_call 18; first | ((with_reducible refine (HR.out _ (by assumption)).mono ?_); rintro e w' ⟨rfl, hK⟩) | ((with_reducible refine (HX.out _ (by assumption)).mono ?_); rintro e w' ⟨rfl, hK⟩)) | (go_at_call 15; first | ((with_reducible refine (HW.out _ (by assumption)).mono ?_); rintro e w' ⟨rfl, hK⟩)) | (go_at_call 11; first | ((with_reducible refine (HL.out _ (by assumption)).mono ?_); rintro e w' ⟨rfl, hK⟩)))
        go_ret
        exact ⟨rfl, by assumption⟩
      · have g1 : ((b[0].toNat : Int) == 46) = false := beqN (n := 46) (by decide) h1
        have g2 : ((b[0].toNat : Int) == 101) = false := beqN (n := 101) (by decide) h2
        have g3 : ((b[0].toNat : Int) == 69) = true := by rw [h3]; rfl
        have g0 : ¬ b[0].toNat ≤ 57 := by rw [h3]; decide
        clear h1 h2 h3 hdn
        go_enter Try.func5, Try.ntmps5
        go_wp2_with (first | (go_at_call 7; first | ((with_reducible refine (HT.out _ (by assumption)).mono ?_); rintro e w' ⟨rfl, hK⟩) | ((with_reducible refine (HK.out _ (by assumption)).mono ?_); rintro e w' ⟨rfl, hK⟩) | ((with_reducible refine (HM.out _ (by assumption)).mono ?_); rintro e w' ⟨rfl, hK⟩)) | (go_at_call 18; first | ((with_reducible refine (HR.out _ (by assumption)).mono ?_); rintro e w' ⟨rfl, hK⟩) | ((with_reducible refine (HX.out _ (by assumption)).mono ?_); rintro e w' ⟨rfl, hK⟩)) | (go_at_call 15; first | ((with_reducible refine (HW.out _ (by assumption)).mono ?_); rintro e w' ⟨rfl, hK⟩)) | (go_at_call 11; first | ((with_reducible refine (HL.out _ (by assumption)).mono ?_); rintro e w' ⟨rfl, hK⟩)))
        go_ret
        exact ⟨rfl, by assumption⟩
    | false =>
      have hfree : freeB b.data.toList = true := by rw [hfr, hD, hst]; rfl
      obtain ⟨h1, h2, h3⟩ := stop_none hst
      have g1 : ((b[0].toNat : Int) == 46) = false := beqN (n := 46) (by decide) h1
      have g2 : ((b[0].toNat : Int) == 101) = false := beqN (n := 101) (by decide) h2
      have g3 : ((b[0].toNat : Int) == 69) = false := beqN (n := 69) (by decide) h3
      have hsc : scanL (a ++ S ++ b).data.toList (a.size : Int) = (n, ((a.size + S.size : Nat) : Int), 0) := by
        have h := scan_text n hn a.data.toList b.data.toList hfree
        rw [toList_length, ← sS] at h
        rw [data_app, data_app, hSl, scanL_nat _ _ (by rw [List.length_append, List.length_append, toList_length]; omega)]
        exact h
      have HSc := scan_at (s := a ++ S ++ b) (by rw [size_app, size_app]; unfold maxLen; omega) hsc w
      have hen : ((a.size + S.size : Nat) : Int) = (a.size : Int) + S.size := by omega
      rw [hen] at HSc
      have z1 : (a ++ S).size = a.size + S.size := size_app _ _
      have z2 : (a.size : Int) + S.size ≤ 417 := by omega
      clear hsc hen hfree sS hSl hn hf l1 hS hrt hbM haM
      clear h1 h2 h3 hst hD hfr
      rcases hdn with g0 | g0
      · have g0' : ¬ 48 ≤ b[0].toNat := by omega
        go_enter Try.func5, Try.ntmps5
        go_wp2_with (first | (go_at_call 7; first | ((with_reducible refine (HT.out _ (by assumption)).mono ?_); rintro e w' ⟨rfl, hK⟩) | ((with_reducible refine (HK.out _ (by assumption)).mono ?_); rintro e w' ⟨rfl, hK⟩) | ((with_reducible refine (HM.out _ (by assumption)).mono ?_); rintro e w' ⟨rfl, hK⟩)) | (go_at_call 18; first | ((with_reducible refine (HR.out _ (by assumption)).mono ?_); rintro e w' ⟨rfl, hK⟩) | ((with_reducible refine (HX.out _ (by assumption)).mono ?_); rintro e w' ⟨rfl, hK⟩)) | (go_at_call 15; first | ((with_reducible refine (HW.out _ (by assumption)).mono ?_); rintro e w' ⟨rfl, hK⟩)) | (go_at_call 16; first | ((with_reducible refine (HSc.out _ (by assumption)).mono ?_); rintro e w' ⟨rfl, hK⟩)) | (go_at_call 11; first | ((with_reducible refine (HL.out _ (by assumption)).mono ?_); rintro e w' ⟨rfl, hK⟩)))
        go_ret
        exact ⟨rfl, by assumption⟩
      · have g0' : ¬ b[0].toNat ≤ 57 := by omega
        go_enter Try.func5, Try.ntmps5
        go_wp2_with (first | (go_at_call 7; first | ((with_reducible refine (HT.out _ (by assumption)).mono ?_); rintro e w' ⟨rfl, hK⟩) | ((with_reducible refine (HK.out _ (by assumption)).mono ?_); rintro e w' ⟨rfl, hK⟩) | ((with_reducible refine (HM.out _ (by assumption)).mono ?_); rintro e w' ⟨rfl, hK⟩)) | (go_at_call 18; first | ((with_reducible refine (HR.out _ (by assumption)).mono ?_); rintro e w' ⟨rfl, hK⟩) | ((with_reducible refine (HX.out _ (by assumption)).mono ?_); rintro e w' ⟨rfl, hK⟩)) | (go_at_call 15; first | ((with_reducible refine (HW.out _ (by assumption)).mono ?_); rintro e w' ⟨rfl, hK⟩)) | (go_at_call 16; first | ((with_reducible refine (HSc.out _ (by assumption)).mono ?_); rintro e w' ⟨rfl, hK⟩)) | (go_at_call 11; first | ((with_reducible refine (HL.out _ (by assumption)).mono ?_); rintro e w' ⟨rfl, hK⟩)))
        go_ret
        exact ⟨rfl, by assumption⟩

set_option maxHeartbeats 8000000 in
set_option maxRecDepth 100000 in
theorem back_true1_1 (n m : Int) (a b : ByteArray) (w : World) (ha : a.size ≤ 400) (hb : b.size ≤ 400) (hn : fitB n = true) (hm : fitB m = true) (hnm : n ≠ m) (hr : readL b.data.toList = (0, 20)) :
    Calls Try.prog 5 #[.int .i64 n, .int .i64 m, .string a, .string b] w fun e w' => e = .returned (.bool true) ∧ KB w w' := by
  have hK0 : KB w w := Below.refl _ _
  have HW := wakes_at w
  have hbM : b.size ≤ maxLen := by unfold maxLen; omega
  have haM : a.size ≤ maxLen := by unfold maxLen; omega
  have hf := fitB_iff.1 hn
  have e1 : decide (-9007199254740992 ≤ n) = true := decide_eq_true hf.1
  have e2 : decide (n ≤ 9007199254740992) = true := decide_eq_true hf.2
  have l1 := txt_len n
  have hrt := read_text n hn
  obtain ⟨S, hS⟩ : ∃ S : ByteArray, (⟨(txt n).toArray⟩ : ByteArray) = S := ⟨_, rfl⟩
  have sS : S.size = (txt n).length := by rw [← hS, size_arr]
  have hSl : S.data.toList = txt n := by rw [← hS]
  have HT := text_at (n := n) (S := S) (E := 0) hS (by rw [hn]; rfl) w
  have HX := read_at (s := S) (x := n) (e := 0) (by unfold maxLen; omega) (by rw [hSl]; exact hrt) w
  have HL : Hid (∀ w1, KB w w1 → Calls Try.prog 11 #[.int .i64 n] w1 fun e w' => e = .returned (.int .i64 S.size) ∧ KB w w') := Lib.hid fun w1 hK => Calls.kb hK (by have := len_any n w1; rw [sS]; exact this)
  have s17 : S.size ≤ 17 := by omega
  have HR := read_at hbM hr w
  clear hr
  obtain ⟨T, hT⟩ : ∃ S : ByteArray, (⟨(txt m).toArray⟩ : ByteArray) = S := ⟨_, rfl⟩
  have HM := text_at (n := m) (S := T) (E := 0) hT (by rw [hm]; rfl) w
  have e3 : (S.toList == T.toList) = false := beq_toList (fun e => hnm ((txt_inj hn hm).1 (by rw [← hSl, e, ← hT])))
  have e4 : (n == m) = false := by rw [beq_eq_false_iff_ne]; exact hnm
  clear hT hm hnm
  by_cases hz : b.size = 0
  · have hfree : freeB b.data.toList = true := by
      have : b.data.toList = [] := List.length_eq_zero_iff.1 (by rw [toList_length]; exact hz)
      rw [this]; rfl
    have hsc : scanL (a ++ S ++ b).data.toList (a.size : Int) = (n, ((a.size + S.size : Nat) : Int), 0) := by
      have h := scan_text n hn a.data.toList b.data.toList hfree
      rw [toList_length, ← sS] at h
      rw [data_app, data_app, hSl, scanL_nat _ _ (by rw [List.length_append, List.length_append, toList_length]; omega)]
      exact h
    have HSc := scan_at (s := a ++ S ++ b) (by rw [size_app, size_app]; unfold maxLen; omega) hsc w
    have hen : ((a.size + S.size : Nat) : Int) = (a.size : Int) + S.size := by omega
    rw [hen] at HSc
    have z1 : (a ++ S).size = a.size + S.size := size_app _ _
    have z2 : (a.size : Int) + S.size ≤ 417 := by omega
    clear hsc hen hfree sS hSl hn hf l1 hS hrt hbM haM
    go_enter Try.func5, Try.ntmps5
    go_wp2_with (first | (go_at_call 7; first | ((with_reducible refine (HT.out _ (by assumption)).mono ?_); rintro e w' ⟨rfl, hK⟩) | ((with_reducible refine (HM.out _ (by assumption)).mono ?_); rintro e w' ⟨rfl, hK⟩)) | (go_at_call 18; first | ((with_reducible refine (HR.out _ (by assumption)).mono ?_); rintro e w' ⟨rfl, hK⟩) | ((with_reducible refine (HX.out _ (by assumption)).mono ?_); rintro e w' ⟨rfl, hK⟩)) | (go_at_call 15; first | ((with_reducible refine (HW.out _ (by assumption)).mono ?_); rintro e w' ⟨rfl, hK⟩)) | (go_at_call 16; first | ((with_reducible refine (HSc.out _ (by assumption)).mono ?_); rintro e w' ⟨rfl, hK⟩)) | (go_at_call 11; first | ((with_reducible refine (HL.out _ (by assumption)).mono ?_); rintro e w' ⟨rfl, hK⟩)))
    go_ret
    exact ⟨rfl, by assumption⟩
  · have hpos : 0 < b.size := by omega
    have hg0 := toList_getD b 0 hpos
    have hcons : ∃ t, b.data.toList = b[0] :: t := by
      match hb0 : b.data.toList with
      | [] => have := toList_length b; rw [hb0] at this; simp at this; omega
      | c :: t => rw [hb0] at hg0; exact ⟨t, by rw [← hg0]; rfl⟩
    obtain ⟨t, hcons⟩ := hcons
    have hfr : freeB b.data.toList = (!isD b[0] && !stopB b[0]) := by rw [hcons]; rfl
    clear hz hg0 hcons
    by_cases c1 : 48 ≤ b[0].toNat ∧ b[0].toNat ≤ 57
    · obtain ⟨c1, c2⟩ := c1
      clear hfr sS hSl hn hf l1 hS hrt hbM haM
      go_enter Try.func5, Try.ntmps5
      go_wp2_with (first | (go_at_call 7; first | ((with_reducible refine (HT.out _ (by assumption)).mono ?_); rintro e w' ⟨rfl, hK⟩) | ((with_reducible refine (HM.out _ (by assumption)).mono ?_); rintro e w' ⟨rfl, hK⟩)) | (go_at_call 18; first | ((with_reducible refine (HR.out _ (by assumption)).mono ?_); rintro e w' ⟨rfl, hK⟩) | ((with_reducible refine (HX.out _ (by assumption)).mono ?_); rintro e w' ⟨rfl, hK⟩)) | (go_at_call 15; first | ((with_reducible refine (HW.out _ (by assumption)).mono ?_); rintro e w' ⟨rfl, hK⟩)) | (go_at_call 11; first | ((with_reducible refine (HL.out _ (by assumption)).mono ?_); rintro e w' ⟨rfl, hK⟩)))
      go_ret
      exact ⟨rfl, by assumption⟩
    have hD : isD b[0] = false := by
      cases h : isD b[0] with
      | true => exact absurd (isD_iff.1 h) c1
      | false => rfl
    have hdn : b[0].toNat < 48 ∨ 57 < b[0].toNat := by omega
    clear c1
    cases hst : stopB b[0] with
    | true =>
      have hsc := stop_cases hst
      clear hfr sS hSl hn hf l1 hS hrt hbM haM hst hD
      rcases hsc with h1 | ⟨h1, h2⟩ | ⟨h1, h2, h3⟩
      · have g1 : ((b[0].toNat : Int) == 46) = true := by rw [h1]; rfl
        have g0 : ¬ 48 ≤ b[0].toNat := by rw [h1]; decide
        clear h1 hdn
        go_enter Try.func5, Try.ntmps5
        go_wp2_with (first | (go_at_call 7; first | ((with_reducible refine (HT.out _ (by assumption)).mono ?_); rintro e w' ⟨rfl, hK⟩) | ((with_reducible refine (HM.out _ (by assumption)).mono ?_); rintro e w' ⟨rfl, hK⟩)) | (go_at_call 18; first | ((with_reducible refine (HR.out _ (by assumption)).mono ?_); rintro e w' ⟨rfl, hK⟩) | ((with_reducible refine (HX.out _ (by assumption)).mono ?_); rintro e w' ⟨rfl, hK⟩)) | (go_at_call 15; first | ((with_reducible refine (HW.out _ (by assumption)).mono ?_); rintro e w' ⟨rfl, hK⟩)) | (go_at_call 11; first | ((with_reducible refine (HL.out _ (by assumption)).mono ?_); rintro e w' ⟨rfl, hK⟩)))
        go_ret
        exact ⟨rfl, by assumption⟩
      · have g1 : ((b[0].toNat : Int) == 46) = false := beqN (n := 46) (by decide) h1
        have g2 : ((b[0].toNat : Int) == 101) = true := by rw [h2]; rfl
        have g0 : ¬ b[0].toNat ≤ 57 := by rw [h2]; decide
        clear h1 h2 hdn
        go_enter Try.func5, Try.ntmps5
        go_wp2_with (first | (go_at_call 7; first | ((with_reducible refine (HT.out _ (by assumption)).mono ?_); rintro e w' ⟨rfl, hK⟩) | ((with_reducible refine (HM.out _ (by assumption)).mono ?_); rintro e w' ⟨rfl, hK⟩)) | (go_at_call 18; first | ((with_reducible refine (HR.out _ (by assumption)).mono ?_); rintro e w' ⟨rfl, hK⟩) | ((with_reducible refine (HX.out _ (by assumption)).mono ?_); rintro e w' ⟨rfl, hK⟩)) | (go_at_call 15; first | ((with_reducible refine (HW.out _ (by assumption)).mono ?_); rintro e w' ⟨rfl, hK⟩)) | (go_at_call 11; first | ((with_reducible refine (HL.out _ (by assumption)).mono ?_); rintro e w' ⟨rfl, hK⟩)))
        go_ret
        exact ⟨rfl, by assumption⟩
      · have g1 : ((b[0].toNat : Int) == 46) = false := beqN (n := 46) (by decide) h1
        have g2 : ((b[0].toNat : Int) == 101) = false := beqN (n := 101) (by decide) h2
        have g3 : ((b[0].toNat : Int) == 69) = true := by rw [h3]; rfl
        have g0 : ¬ b[0].toNat ≤ 57 := by rw [h3]; decide
        clear h1 h2 h3 hdn
        go_enter Try.func5, Try.ntmps5
        go_wp2_with (first | (go_at_call 7; first | ((with_reducible refine (HT.out _ (by assumption)).mono ?_); rintro e w' ⟨rfl, hK⟩) | ((with_reducible refine (HM.out _ (by assumption)).mono ?_); rintro e w' ⟨rfl, hK⟩)) | (go_at_call 18; first | ((with_reducible refine (HR.out _ (by assumption)).mono ?_); rintro e w' ⟨rfl, hK⟩) | ((with_reducible refine (HX.out _ (by assumption)).mono ?_); rintro e w' ⟨rfl, hK⟩)) | (go_at_call 15; first | ((with_reducible refine (HW.out _ (by assumption)).mono ?_); rintro e w' ⟨rfl, hK⟩)) | (go_at_call 11; first | ((with_reducible refine (HL.out _ (by assumption)).mono ?_); rintro e w' ⟨rfl, hK⟩)))
        go_ret
        exact ⟨rfl, by assumption⟩
    | false =>
      have hfree : freeB b.data.toList = true := by rw [hfr, hD, hst]; rfl
      obtain ⟨h1, h2, h3⟩ := stop_none hst
      have g1 : ((b[0].toNat : Int) == 46) = false := beqN (n := 46) (by decide) h1
      have g2 : ((b[0].toNat : Int) == 101) = false := beqN (n := 101) (by decide) h2
      have g3 : ((b[0].toNat : Int) == 69) = false := beqN (n := 69) (by decide) h3
      have hsc : scanL (a ++ S ++ b).data.toList (a.size : Int) = (n, ((a.size + S.size : Nat) : Int), 0) := by
        have h := scan_text n hn a.data.toList b.data.toList hfree
        rw [toList_length, ← sS] at h
        rw [data_app, data_app, hSl, scanL_nat _ _ (by rw [List.length_append, List.length_append, toList_length]; omega)]
        exact h
      have HSc := scan_at (s := a ++ S ++ b) (by rw [size_app, size_app]; unfold maxLen; omega) hsc w
      have hen : ((a.size + S.size : Nat) : Int) = (a.size : Int) + S.size := by omega
      rw [hen] at HSc
      have z1 : (a ++ S).size = a.size + S.size := size_app _ _
      have z2 : (a.size : Int) + S.size ≤ 417 := by omega
      clear hsc hen hfree sS hSl hn hf l1 hS hrt hbM haM
      clear h1 h2 h3 hst hD hfr
      rcases hdn with g0 | g0
      · have g0' : ¬ 48 ≤ b[0].toNat := by omega
        go_enter Try.func5, Try.ntmps5
        go_wp2_with (first | (go_at_call 7; first | ((with_reducible refine (HT.out _ (by assumption)).mono ?_); rintro e w' ⟨rfl, hK⟩) | ((with_reducible refine (HM.out _ (by assumption)).mono ?_); rintro e w' ⟨rfl, hK⟩)) | (go_at_call 18; first | ((with_reducible refine (HR.out _ (by assumption)).mono ?_); rintro e w' ⟨rfl, hK⟩) | ((with_reducible refine (HX.out _ (by assumption)).mono ?_); rintro e w' ⟨rfl, hK⟩)) | (go_at_call 15; first | ((with_reducible refine (HW.out _ (by assumption)).mono ?_); rintro e w' ⟨rfl, hK⟩)) | (go_at_call 16; first | ((with_reducible refine (HSc.out _ (by assumption)).mono ?_); rintro e w' ⟨rfl, hK⟩)) | (go_at_call 11; first | ((with_reducible refine (HL.out _ (by assumption)).mono ?_); rintro e w' ⟨rfl, hK⟩)))
        go_ret
        exact ⟨rfl, by assumption⟩
      · have g0' : ¬ b[0].toNat ≤ 57 := by omega
        go_enter Try.func5, Try.ntmps5
        go_wp2_with (first | (go_at_call 7; first | ((with_reducible refine (HT.out _ (by assumption)).mono ?_); rintro e w' ⟨rfl, hK⟩) | ((with_reducible refine (HM.out _ (by assumption)).mono ?_); rintro e w' ⟨rfl, hK⟩)) | (go_at_call 18; first | ((with_reducible refine (HR.out _ (by assumption)).mono ?_); rintro e w' ⟨rfl, hK⟩) | ((with_reducible refine (HX.out _ (by assumption)).mono ?_); rintro e w' ⟨rfl, hK⟩)) | (go_at_call 15; first | ((with_reducible refine (HW.out _ (by assumption)).mono ?_); rintro e w' ⟨rfl, hK⟩)) | (go_at_call 16; first | ((with_reducible refine (HSc.out _ (by assumption)).mono ?_); rintro e w' ⟨rfl, hK⟩)) | (go_at_call 11; first | ((with_reducible refine (HL.out _ (by assumption)).mono ?_); rintro e w' ⟨rfl, hK⟩)))
        go_ret
        exact ⟨rfl, by assumption⟩

set_option maxHeartbeats 8000000 in
set_option maxRecDepth 100000 in
theorem back_true2_0 (n m : Int) (a b : ByteArray) (w : World) (ha : a.size ≤ 400) (hb : b.size ≤ 400) (hn : fitB n = true) (hnm : n = m) (hr : ∃ k, readL b.data.toList = (k, 0)) :
    Calls Try.prog 5 #[.int .i64 n, .int .i64 m, .string a, .string b] w fun e w' => e = .returned (.bool true) ∧ KB w w' := by
  have hK0 : KB w w := Below.refl _ _
  have HW := wakes_at w
  have hbM : b.size ≤ maxLen := by unfold maxLen; omega
  have haM : a.size ≤ maxLen := by unfold maxLen; omega
  have hf := fitB_iff.1 hn
  have e1 : decide (-9007199254740992 ≤ n) = true := decide_eq_true hf.1
  have e2 : decide (n ≤ 9007199254740992) = true := decide_eq_true hf.2
  have l1 := txt_len n
  have hrt := read_text n hn
  obtain ⟨S, hS⟩ : ∃ S : ByteArray, (⟨(txt n).toArray⟩ : ByteArray) = S := ⟨_, rfl⟩
  have sS : S.size = (txt n).length := by rw [← hS, size_arr]
  have hSl : S.data.toList = txt n := by rw [← hS]
  have HT := text_at (n := n) (S := S) (E := 0) hS (by rw [hn]; rfl) w
  have HX := read_at (s := S) (x := n) (e := 0) (by unfold maxLen; omega) (by rw [hSl]; exact hrt) w
  have HL : Hid (∀ w1, KB w w1 → Calls Try.prog 11 #[.int .i64 n] w1 fun e w' => e = .returned (.int .i64 S.size) ∧ KB w w') := Lib.hid fun w1 hK => Calls.kb hK (by have := len_any n w1; rw [sS]; exact this)
  have s17 : S.size ≤ 17 := by omega
  obtain ⟨k, hrd⟩ := hr
  obtain ⟨hkf, hkt⟩ := text_read _ _ hrd
  have HR := read_at hbM hrd w
  have HK := text_at (n := k) (S := b) (E := 0) (ba_list _ _ hkt) (by rw [hkf]; rfl) w
  clear hrd hkf hkt
  subst hnm
  by_cases hz : b.size = 0
  · have hfree : freeB b.data.toList = true := by
      have : b.data.toList = [] := List.length_eq_zero_iff.1 (by rw [toList_length]; exact hz)
      rw [this]; rfl
    have hsc : scanL (a ++ S ++ b).data.toList (a.size : Int) = (n, ((a.size + S.size : Nat) : Int), 0) := by
      have h := scan_text n hn a.data.toList b.data.toList hfree
      rw [toList_length, ← sS] at h
      rw [data_app, data_app, hSl, scanL_nat _ _ (by rw [List.length_append, List.length_append, toList_length]; omega)]
      exact h
    have HSc := scan_at (s := a ++ S ++ b) (by rw [size_app, size_app]; unfold maxLen; omega) hsc w
    have hen : ((a.size + S.size : Nat) : Int) = (a.size : Int) + S.size := by omega
    rw [hen] at HSc
    have z1 : (a ++ S).size = a.size + S.size := size_app _ _
    have z2 : (a.size : Int) + S.size ≤ 417 := by omega
    clear hsc hen hfree sS hSl hn hf l1 hS hrt hbM haM
    go_enter Try.func5, Try.ntmps5
    go_wp2_with (first | (go_at_call 7; first | ((with_reducible refine (HT.out _ (by assumption)).mono ?_); rintro e w' ⟨rfl, hK⟩) | ((with_reducible refine (HK.out _ (by assumption)).mono ?_); rintro e w' ⟨rfl, hK⟩)) | (go_at_call 18; first | ((with_reducible refine (HR.out _ (by assumption)).mono ?_); rintro e w' ⟨rfl, hK⟩) | ((with_reducible refine (HX.out _ (by assumption)).mono ?_); rintro e w' ⟨rfl, hK⟩)) | (go_at_call 15; first | ((with_reducible refine (HW.out _ (by assumption)).mono ?_); rintro e w' ⟨rfl, hK⟩)) | (go_at_call 16; first | ((with_reducible refine (HSc.out _ (by assumption)).mono ?_); rintro e w' ⟨rfl, hK⟩)) | (go_at_call 11; first | ((with_reducible refine (HL.out _ (by assumption)).mono ?_); rintro e w' ⟨rfl, hK⟩)))
    go_ret
    exact ⟨rfl, by assumption⟩
  · have hpos : 0 < b.size := by omega
    have hg0 := toList_getD b 0 hpos
    have hcons : ∃ t, b.data.toList = b[0] :: t := by
      match hb0 : b.data.toList with
      | [] => have := toList_length b; rw [hb0] at this; simp at this; omega
      | c :: t => rw [hb0] at hg0; exact ⟨t, by rw [← hg0]; rfl⟩
    obtain ⟨t, hcons⟩ := hcons
    have hfr : freeB b.data.toList = (!isD b[0] && !stopB b[0]) := by rw [hcons]; rfl
    clear hz hg0 hcons
    by_cases c1 : 48 ≤ b[0].toNat ∧ b[0].toNat ≤ 57
    · obtain ⟨c1, c2⟩ := c1
      clear hfr sS hSl hn hf l1 hS hrt hbM haM
      go_enter Try.func5, Try.ntmps5
      go_wp2_with (first | (go_at_call 7; first | ((with_reducible refine (HT.out _ (by assumption)).mono ?_); rintro e w' ⟨rfl, hK⟩) | ((with_reducible refine (HK.out _ (by assumption)).mono ?_); rintro e w' ⟨rfl, hK⟩)) | (go_at_call 18; first | ((with_reducible refine (HR.out _ (by assumption)).mono ?_); rintro e w' ⟨rfl, hK⟩) | ((with_reducible refine (HX.out _ (by assumption)).mono ?_); rintro e w' ⟨rfl, hK⟩)) | (go_at_call 15; first | ((with_reducible refine (HW.out _ (by assumption)).mono ?_); rintro e w' ⟨rfl, hK⟩)) | (go_at_call 11; first | ((with_reducible refine (HL.out _ (by assumption)).mono ?_); rintro e w' ⟨rfl, hK⟩)))
      go_ret
      exact ⟨rfl, by assumption⟩
    have hD : isD b[0] = false := by
      cases h : isD b[0] with
      | true => exact absurd (isD_iff.1 h) c1
      | false => rfl
    have hdn : b[0].toNat < 48 ∨ 57 < b[0].toNat := by omega
    clear c1
    cases hst : stopB b[0] with
    | true =>
      have hsc := stop_cases hst
      clear hfr sS hSl hn hf l1 hS hrt hbM haM hst hD
      rcases hsc with h1 | ⟨h1, h2⟩ | ⟨h1, h2, h3⟩
      · have g1 : ((b[0].toNat : Int) == 46) = true := by rw [h1]; rfl
        have g0 : ¬ 48 ≤ b[0].toNat := by rw [h1]; decide
        clear h1 hdn
        go_enter Try.func5, Try.ntmps5
        go_wp2_with (first | (go_at_call 7; first | ((with_reducible refine (HT.out _ (by assumption)).mono ?_); rintro e w' ⟨rfl, hK⟩) | ((with_reducible refine (HK.out _ (by assumption)).mono ?_); rintro e w' ⟨rfl, hK⟩)) | (go_at_call 18; first | ((with_reducible refine (HR.out _ (by assumption)).mono ?_); rintro e w' ⟨rfl, hK⟩) | ((with_reducible refine (HX.out _ (by assumption)).mono ?_); rintro e w' ⟨rfl, hK⟩)) | (go_at_call 15; first | ((with_reducible refine (HW.out _ (by assumption)).mono ?_); rintro e w' ⟨rfl, hK⟩)) | (go_at_call 11; first | ((with_reducible refine (HL.out _ (by assumption)).mono ?_); rintro e w' ⟨rfl, hK⟩)))
        go_ret
        exact ⟨rfl, by assumption⟩
      · have g1 : ((b[0].toNat : Int) == 46) = false := beqN (n := 46) (by decide) h1
        have g2 : ((b[0].toNat : Int) == 101) = true := by rw [h2]; rfl
        have g0 : ¬ b[0].toNat ≤ 57 := by rw [h2]; decide
        clear h1 h2 hdn
        go_enter Try.func5, Try.ntmps5
        go_wp2_with (first | (go_at_call 7; first | ((with_reducible refine (HT.out _ (by assumption)).mono ?_); rintro e w' ⟨rfl, hK⟩) | ((with_reducible refine (HK.out _ (by assumption)).mono ?_); rintro e w' ⟨rfl, hK⟩)) | (go_at_call 18; first | ((with_reducible refine (HR.out _ (by assumption)).mono ?_); rintro e w' ⟨rfl, hK⟩) | ((with_reducible refine (HX.out _ (by assumption)).mono ?_); rintro e w' ⟨rfl, hK⟩)) | (go_at_call 15; first | ((with_reducible refine (HW.out _ (by assumption)).mono ?_); rintro e w' ⟨rfl, hK⟩)) | (go_at_call 11; first | ((with_reducible refine (HL.out _ (by assumption)).mono ?_); rintro e w' ⟨rfl, hK⟩)))
        go_ret
        exact ⟨rfl, by assumption⟩
      · have g1 : ((b[0].toNat : Int) == 46) = false := beqN (n := 46) (by decide) h1
        have g2 : ((b[0].toNat : Int) == 101) = false := beqN (n := 101) (by decide) h2
        have g3 : ((b[0].toNat : Int) == 69) = true := by rw [h3]; rfl
        have g0 : ¬ b[0].toNat ≤ 57 := by rw [h3]; decide
        clear h1 h2 h3 hdn
        go_enter Try.func5, Try.ntmps5
        go_wp2_with (first | (go_at_call 7; first | ((with_reducible refine (HT.out _ (by assumption)).mono ?_); rintro e w' ⟨rfl, hK⟩) | ((with_reducible refine (HK.out _ (by assumption)).mono ?_); rintro e w' ⟨rfl, hK⟩)) | (go_at_call 18; first | ((with_reducible refine (HR.out _ (by assumption)).mono ?_); rintro e w' ⟨rfl, hK⟩) | ((with_reducible refine (HX.out _ (by assumption)).mono ?_); rintro e w' ⟨rfl, hK⟩)) | (go_at_call 15; first | ((with_reducible refine (HW.out _ (by assumption)).mono ?_); rintro e w' ⟨rfl, hK⟩)) | (go_at_call 11; first | ((with_reducible refine (HL.out _ (by assumption)).mono ?_); rintro e w' ⟨rfl, hK⟩)))
        go_ret
        exact ⟨rfl, by assumption⟩
    | false =>
      have hfree : freeB b.data.toList = true := by rw [hfr, hD, hst]; rfl
      obtain ⟨h1, h2, h3⟩ := stop_none hst
      have g1 : ((b[0].toNat : Int) == 46) = false := beqN (n := 46) (by decide) h1
      have g2 : ((b[0].toNat : Int) == 101) = false := beqN (n := 101) (by decide) h2
      have g3 : ((b[0].toNat : Int) == 69) = false := beqN (n := 69) (by decide) h3
      have hsc : scanL (a ++ S ++ b).data.toList (a.size : Int) = (n, ((a.size + S.size : Nat) : Int), 0) := by
        have h := scan_text n hn a.data.toList b.data.toList hfree
        rw [toList_length, ← sS] at h
        rw [data_app, data_app, hSl, scanL_nat _ _ (by rw [List.length_append, List.length_append, toList_length]; omega)]
        exact h
      have HSc := scan_at (s := a ++ S ++ b) (by rw [size_app, size_app]; unfold maxLen; omega) hsc w
      have hen : ((a.size + S.size : Nat) : Int) = (a.size : Int) + S.size := by omega
      rw [hen] at HSc
      have z1 : (a ++ S).size = a.size + S.size := size_app _ _
      have z2 : (a.size : Int) + S.size ≤ 417 := by omega
      clear hsc hen hfree sS hSl hn hf l1 hS hrt hbM haM
      clear h1 h2 h3 hst hD hfr
      rcases hdn with g0 | g0
      · have g0' : ¬ 48 ≤ b[0].toNat := by omega
        go_enter Try.func5, Try.ntmps5
        go_wp2_with (first | (go_at_call 7; first | ((with_reducible refine (HT.out _ (by assumption)).mono ?_); rintro e w' ⟨rfl, hK⟩) | ((with_reducible refine (HK.out _ (by assumption)).mono ?_); rintro e w' ⟨rfl, hK⟩)) | (go_at_call 18; first | ((with_reducible refine (HR.out _ (by assumption)).mono ?_); rintro e w' ⟨rfl, hK⟩) | ((with_reducible refine (HX.out _ (by assumption)).mono ?_); rintro e w' ⟨rfl, hK⟩)) | (go_at_call 15; first | ((with_reducible refine (HW.out _ (by assumption)).mono ?_); rintro e w' ⟨rfl, hK⟩)) | (go_at_call 16; first | ((with_reducible refine (HSc.out _ (by assumption)).mono ?_); rintro e w' ⟨rfl, hK⟩)) | (go_at_call 11; first | ((with_reducible refine (HL.out _ (by assumption)).mono ?_); rintro e w' ⟨rfl, hK⟩)))
        go_ret
        exact ⟨rfl, by assumption⟩
      · have g0' : ¬ b[0].toNat ≤ 57 := by omega
        go_enter Try.func5, Try.ntmps5
        go_wp2_with (first | (go_at_call 7; first | ((with_reducible refine (HT.out _ (by assumption)).mono ?_); rintro e w' ⟨rfl, hK⟩) | ((with_reducible refine (HK.out _ (by assumption)).mono ?_); rintro e w' ⟨rfl, hK⟩)) | (go_at_call 18; first | ((with_reducible refine (HR.out _ (by assumption)).mono ?_); rintro e w' ⟨rfl, hK⟩) | ((with_reducible refine (HX.out _ (by assumption)).mono ?_); rintro e w' ⟨rfl, hK⟩)) | (go_at_call 15; first | ((with_reducible refine (HW.out _ (by assumption)).mono ?_); rintro e w' ⟨rfl, hK⟩)) | (go_at_call 16; first | ((with_reducible refine (HSc.out _ (by assumption)).mono ?_); rintro e w' ⟨rfl, hK⟩)) | (go_at_call 11; first | ((with_reducible refine (HL.out _ (by assumption)).mono ?_); rintro e w' ⟨rfl, hK⟩)))
        go_ret
        exact ⟨rfl, by assumption⟩

set_option maxHeartbeats 8000000 in
set_option maxRecDepth 100000 in
theorem back_true2_1 (n m : Int) (a b : ByteArray) (w : World) (ha : a.size ≤ 400) (hb : b.size ≤ 400) (hn : fitB n = true) (hnm : n = m) (hr : readL b.data.toList = (0, 20)) :
    Calls Try.prog 5 #[.int .i64 n, .int .i64 m, .string a, .string b] w fun e w' => e = .returned (.bool true) ∧ KB w w' := by
  have hK0 : KB w w := Below.refl _ _
  have HW := wakes_at w
  have hbM : b.size ≤ maxLen := by unfold maxLen; omega
  have haM : a.size ≤ maxLen := by unfold maxLen; omega
  have hf := fitB_iff.1 hn
  have e1 : decide (-9007199254740992 ≤ n) = true := decide_eq_true hf.1
  have e2 : decide (n ≤ 9007199254740992) = true := decide_eq_true hf.2
  have l1 := txt_len n
  have hrt := read_text n hn
  obtain ⟨S, hS⟩ : ∃ S : ByteArray, (⟨(txt n).toArray⟩ : ByteArray) = S := ⟨_, rfl⟩
  have sS : S.size = (txt n).length := by rw [← hS, size_arr]
  have hSl : S.data.toList = txt n := by rw [← hS]
  have HT := text_at (n := n) (S := S) (E := 0) hS (by rw [hn]; rfl) w
  have HX := read_at (s := S) (x := n) (e := 0) (by unfold maxLen; omega) (by rw [hSl]; exact hrt) w
  have HL : Hid (∀ w1, KB w w1 → Calls Try.prog 11 #[.int .i64 n] w1 fun e w' => e = .returned (.int .i64 S.size) ∧ KB w w') := Lib.hid fun w1 hK => Calls.kb hK (by have := len_any n w1; rw [sS]; exact this)
  have s17 : S.size ≤ 17 := by omega
  have HR := read_at hbM hr w
  clear hr
  subst hnm
  by_cases hz : b.size = 0
  · have hfree : freeB b.data.toList = true := by
      have : b.data.toList = [] := List.length_eq_zero_iff.1 (by rw [toList_length]; exact hz)
      rw [this]; rfl
    have hsc : scanL (a ++ S ++ b).data.toList (a.size : Int) = (n, ((a.size + S.size : Nat) : Int), 0) := by
      have h := scan_text n hn a.data.toList b.data.toList hfree
      rw [toList_length, ← sS] at h
      rw [data_app, data_app, hSl, scanL_nat _ _ (by rw [List.length_append, List.length_append, toList_length]; omega)]
      exact h
    have HSc := scan_at (s := a ++ S ++ b) (by rw [size_app, size_app]; unfold maxLen; omega) hsc w
    have hen : ((a.size + S.size : Nat) : Int) = (a.size : Int) + S.size := by omega
    rw [hen] at HSc
    have z1 : (a ++ S).size = a.size + S.size := size_app _ _
    have z2 : (a.size : Int) + S.size ≤ 417 := by omega
    clear hsc hen hfree sS hSl hn hf l1 hS hrt hbM haM
    go_enter Try.func5, Try.ntmps5
    go_wp2_with (first | (go_at_call 7; first | ((with_reducible refine (HT.out _ (by assumption)).mono ?_); rintro e w' ⟨rfl, hK⟩)) | (go_at_call 18; first | ((with_reducible refine (HR.out _ (by assumption)).mono ?_); rintro e w' ⟨rfl, hK⟩) | ((with_reducible refine (HX.out _ (by assumption)).mono ?_); rintro e w' ⟨rfl, hK⟩)) | (go_at_call 15; first | ((with_reducible refine (HW.out _ (by assumption)).mono ?_); rintro e w' ⟨rfl, hK⟩)) | (go_at_call 16; first | ((with_reducible refine (HSc.out _ (by assumption)).mono ?_); rintro e w' ⟨rfl, hK⟩)) | (go_at_call 11; first | ((with_reducible refine (HL.out _ (by assumption)).mono ?_); rintro e w' ⟨rfl, hK⟩)))
    go_ret
    exact ⟨rfl, by assumption⟩
  · have hpos : 0 < b.size := by omega
    have hg0 := toList_getD b 0 hpos
    have hcons : ∃ t, b.data.toList = b[0] :: t := by
      match hb0 : b.data.toList with
      | [] => have := toList_length b; rw [hb0] at this; simp at this; omega
      | c :: t => rw [hb0] at hg0; exact ⟨t, by rw [← hg0]; rfl⟩
    obtain ⟨t, hcons⟩ := hcons
    have hfr : freeB b.data.toList = (!isD b[0] && !stopB b[0]) := by rw [hcons]; rfl
    clear hz hg0 hcons
    by_cases c1 : 48 ≤ b[0].toNat ∧ b[0].toNat ≤ 57
    · obtain ⟨c1, c2⟩ := c1
      clear hfr sS hSl hn hf l1 hS hrt hbM haM
      go_enter Try.func5, Try.ntmps5
      go_wp2_with (first | (go_at_call 7; first | ((with_reducible refine (HT.out _ (by assumption)).mono ?_); rintro e w' ⟨rfl, hK⟩)) | (go_at_call 18; first | ((with_reducible refine (HR.out _ (by assumption)).mono ?_); rintro e w' ⟨rfl, hK⟩) | ((with_reducible refine (HX.out _ (by assumption)).mono ?_); rintro e w' ⟨rfl, hK⟩)) | (go_at_call 15; first | ((with_reducible refine (HW.out _ (by assumption)).mono ?_); rintro e w' ⟨rfl, hK⟩)) | (go_at_call 11; first | ((with_reducible refine (HL.out _ (by assumption)).mono ?_); rintro e w' ⟨rfl, hK⟩)))
      go_ret
      exact ⟨rfl, by assumption⟩
    have hD : isD b[0] = false := by
      cases h : isD b[0] with
      | true => exact absurd (isD_iff.1 h) c1
      | false => rfl
    have hdn : b[0].toNat < 48 ∨ 57 < b[0].toNat := by omega
    clear c1
    cases hst : stopB b[0] with
    | true =>
      have hsc := stop_cases hst
      clear hfr sS hSl hn hf l1 hS hrt hbM haM hst hD
      rcases hsc with h1 | ⟨h1, h2⟩ | ⟨h1, h2, h3⟩
      · have g1 : ((b[0].toNat : Int) == 46) = true := by rw [h1]; rfl
        have g0 : ¬ 48 ≤ b[0].toNat := by rw [h1]; decide
        clear h1 hdn
        go_enter Try.func5, Try.ntmps5
        go_wp2_with (first | (go_at_call 7; first | ((with_reducible refine (HT.out _ (by assumption)).mono ?_); rintro e w' ⟨rfl, hK⟩)) | (go_at_call 18; first | ((with_reducible refine (HR.out _ (by assumption)).mono ?_); rintro e w' ⟨rfl, hK⟩) | ((with_reducible refine (HX.out _ (by assumption)).mono ?_); rintro e w' ⟨rfl, hK⟩)) | (go_at_call 15; first | ((with_reducible refine (HW.out _ (by assumption)).mono ?_); rintro e w' ⟨rfl, hK⟩)) | (go_at_call 11; first | ((with_reducible refine (HL.out _ (by assumption)).mono ?_); rintro e w' ⟨rfl, hK⟩)))
        go_ret
        exact ⟨rfl, by assumption⟩
      · have g1 : ((b[0].toNat : Int) == 46) = false := beqN (n := 46) (by decide) h1
        have g2 : ((b[0].toNat : Int) == 101) = true := by rw [h2]; rfl
        have g0 : ¬ b[0].toNat ≤ 57 := by rw [h2]; decide
        clear h1 h2 hdn
        go_enter Try.func5, Try.ntmps5
        go_wp2_with (first | (go_at_call 7; first | ((with_reducible refine (HT.out _ (by assumption)).mono ?_); rintro e w' ⟨rfl, hK⟩)) | (go_at_call 18; first | ((with_reducible refine (HR.out _ (by assumption)).mono ?_); rintro e w' ⟨rfl, hK⟩) | ((with_reducible refine (HX.out _ (by assumption)).mono ?_); rintro e w' ⟨rfl, hK⟩)) | (go_at_call 15; first | ((with_reducible refine (HW.out _ (by assumption)).mono ?_); rintro e w' ⟨rfl, hK⟩)) | (go_at_call 11; first | ((with_reducible refine (HL.out _ (by assumption)).mono ?_); rintro e w' ⟨rfl, hK⟩)))
        go_ret
        exact ⟨rfl, by assumption⟩
      · have g1 : ((b[0].toNat : Int) == 46) = false := beqN (n := 46) (by decide) h1
        have g2 : ((b[0].toNat : Int) == 101) = false := beqN (n := 101) (by decide) h2
        have g3 : ((b[0].toNat : Int) == 69) = true := by rw [h3]; rfl
        have g0 : ¬ b[0].toNat ≤ 57 := by rw [h3]; decide
        clear h1 h2 h3 hdn
        go_enter Try.func5, Try.ntmps5
        go_wp2_with (first | (go_at_call 7; first | ((with_reducible refine (HT.out _ (by assumption)).mono ?_); rintro e w' ⟨rfl, hK⟩)) | (go_at_call 18; first | ((with_reducible refine (HR.out _ (by assumption)).mono ?_); rintro e w' ⟨rfl, hK⟩) | ((with_reducible refine (HX.out _ (by assumption)).mono ?_); rintro e w' ⟨rfl, hK⟩)) | (go_at_call 15; first | ((with_reducible refine (HW.out _ (by assumption)).mono ?_); rintro e w' ⟨rfl, hK⟩)) | (go_at_call 11; first | ((with_reducible refine (HL.out _ (by assumption)).mono ?_); rintro e w' ⟨rfl, hK⟩)))
        go_ret
        exact ⟨rfl, by assumption⟩
    | false =>
      have hfree : freeB b.data.toList = true := by rw [hfr, hD, hst]; rfl
      obtain ⟨h1, h2, h3⟩ := stop_none hst
      have g1 : ((b[0].toNat : Int) == 46) = false := beqN (n := 46) (by decide) h1
      have g2 : ((b[0].toNat : Int) == 101) = false := beqN (n := 101) (by decide) h2
      have g3 : ((b[0].toNat : Int) == 69) = false := beqN (n := 69) (by decide) h3
      have hsc : scanL (a ++ S ++ b).data.toList (a.size : Int) = (n, ((a.size + S.size : Nat) : Int), 0) := by
        have h := scan_text n hn a.data.toList b.data.toList hfree
        rw [toList_length, ← sS] at h
        rw [data_app, data_app, hSl, scanL_nat _ _ (by rw [List.length_append, List.length_append, toList_length]; omega)]
        exact h
      have HSc := scan_at (s := a ++ S ++ b) (by rw [size_app, size_app]; unfold maxLen; omega) hsc w
      have hen : ((a.size + S.size : Nat) : Int) = (a.size : Int) + S.size := by omega
      rw [hen] at HSc
      have z1 : (a ++ S).size = a.size + S.size := size_app _ _
      have z2 : (a.size : Int) + S.size ≤ 417 := by omega
      clear hsc hen hfree sS hSl hn hf l1 hS hrt hbM haM
      clear h1 h2 h3 hst hD hfr
      rcases hdn with g0 | g0
      · have g0' : ¬ 48 ≤ b[0].toNat := by omega
        go_enter Try.func5, Try.ntmps5
        go_wp2_with (first | (go_at_call 7; first | ((with_reducible refine (HT.out _ (by assumption)).mono ?_); rintro e w' ⟨rfl, hK⟩)) | (go_at_call 18; first | ((with_reducible refine (HR.out _ (by assumption)).mono ?_); rintro e w' ⟨rfl, hK⟩) | ((with_reducible refine (HX.out _ (by assumption)).mono ?_); rintro e w' ⟨rfl, hK⟩)) | (go_at_call 15; first | ((with_reducible refine (HW.out _ (by assumption)).mono ?_); rintro e w' ⟨rfl, hK⟩)) | (go_at_call 16; first | ((with_reducible refine (HSc.out _ (by assumption)).mono ?_); rintro e w' ⟨rfl, hK⟩)) | (go_at_call 11; first | ((with_reducible refine (HL.out _ (by assumption)).mono ?_); rintro e w' ⟨rfl, hK⟩)))
        go_ret
        exact ⟨rfl, by assumption⟩
      · have g0' : ¬ b[0].toNat ≤ 57 := by omega
        go_enter Try.func5, Try.ntmps5
        go_wp2_with (first | (go_at_call 7; first | ((with_reducible refine (HT.out _ (by assumption)).mono ?_); rintro e w' ⟨rfl, hK⟩)) | (go_at_call 18; first | ((with_reducible refine (HR.out _ (by assumption)).mono ?_); rintro e w' ⟨rfl, hK⟩) | ((with_reducible refine (HX.out _ (by assumption)).mono ?_); rintro e w' ⟨rfl, hK⟩)) | (go_at_call 15; first | ((with_reducible refine (HW.out _ (by assumption)).mono ?_); rintro e w' ⟨rfl, hK⟩)) | (go_at_call 16; first | ((with_reducible refine (HSc.out _ (by assumption)).mono ?_); rintro e w' ⟨rfl, hK⟩)) | (go_at_call 11; first | ((with_reducible refine (HL.out _ (by assumption)).mono ?_); rintro e w' ⟨rfl, hK⟩)))
        go_ret
        exact ⟨rfl, by assumption⟩

set_option maxHeartbeats 8000000 in
set_option maxRecDepth 100000 in
theorem back_false_0 (n m : Int) (a b : ByteArray) (w : World) (ha : a.size ≤ 400) (hb : b.size ≤ 400) (hn : fitB n = true) (hm : fitB m = false) (hr : ∃ k, readL b.data.toList = (k, 0)) :
    Calls Try.prog 5 #[.int .i64 n, .int .i64 m, .string a, .string b] w fun e w' => e = .returned (.bool true) ∧ KB w w' := by
  have hK0 : KB w w := Below.refl _ _
  have HW := wakes_at w
  have hbM : b.size ≤ maxLen := by unfold maxLen; omega
  have haM : a.size ≤ maxLen := by unfold maxLen; omega
  have hf := fitB_iff.1 hn
  have e1 : decide (-9007199254740992 ≤ n) = true := decide_eq_true hf.1
  have e2 : decide (n ≤ 9007199254740992) = true := decide_eq_true hf.2
  have l1 := txt_len n
  have hrt := read_text n hn
  obtain ⟨S, hS⟩ : ∃ S : ByteArray, (⟨(txt n).toArray⟩ : ByteArray) = S := ⟨_, rfl⟩
  have sS : S.size = (txt n).length := by rw [← hS, size_arr]
  have hSl : S.data.toList = txt n := by rw [← hS]
  have HT := text_at (n := n) (S := S) (E := 0) hS (by rw [hn]; rfl) w
  have HX := read_at (s := S) (x := n) (e := 0) (by unfold maxLen; omega) (by rw [hSl]; exact hrt) w
  have HL : Hid (∀ w1, KB w w1 → Calls Try.prog 11 #[.int .i64 n] w1 fun e w' => e = .returned (.int .i64 S.size) ∧ KB w w') := Lib.hid fun w1 hK => Calls.kb hK (by have := len_any n w1; rw [sS]; exact this)
  have s17 : S.size ≤ 17 := by omega
  obtain ⟨k, hrd⟩ := hr
  obtain ⟨hkf, hkt⟩ := text_read _ _ hrd
  have HR := read_at hbM hrd w
  have HK := text_at (n := k) (S := b) (E := 0) (ba_list _ _ hkt) (by rw [hkf]; rfl) w
  clear hrd hkf hkt
  obtain ⟨T, hT⟩ : ∃ S : ByteArray, (⟨(txt m).toArray⟩ : ByteArray) = S := ⟨_, rfl⟩
  have HM := text_at (n := m) (S := T) (E := 20) hT (by rw [hm]; rfl) w
  clear hT hm
  by_cases hz : b.size = 0
  · have hfree : freeB b.data.toList = true := by
      have : b.data.toList = [] := List.length_eq_zero_iff.1 (by rw [toList_length]; exact hz)
      rw [this]; rfl
    have hsc : scanL (a ++ S ++ b).data.toList (a.size : Int) = (n, ((a.size + S.size : Nat) : Int), 0) := by
      have h := scan_text n hn a.data.toList b.data.toList hfree
      rw [toList_length, ← sS] at h
      rw [data_app, data_app, hSl, scanL_nat _ _ (by rw [List.length_append, List.length_append, toList_length]; omega)]
      exact h
    have HSc := scan_at (s := a ++ S ++ b) (by rw [size_app, size_app]; unfold maxLen; omega) hsc w
    have hen : ((a.size + S.size : Nat) : Int) = (a.size : Int) + S.size := by omega
    rw [hen] at HSc
    have z1 : (a ++ S).size = a.size + S.size := size_app _ _
    have z2 : (a.size : Int) + S.size ≤ 417 := by omega
    clear hsc hen hfree sS hSl hn hf l1 hS hrt hbM haM
    go_enter Try.func5, Try.ntmps5
    go_wp2_with (first | (go_at_call 7; first | ((with_reducible refine (HT.out _ (by assumption)).mono ?_); rintro e w' ⟨rfl, hK⟩) | ((with_reducible refine (HK.out _ (by assumption)).mono ?_); rintro e w' ⟨rfl, hK⟩) | ((with_reducible refine (HM.out _ (by assumption)).mono ?_); rintro e w' ⟨rfl, hK⟩)) | (go_at_call 18; first | ((with_reducible refine (HR.out _ (by assumption)).mono ?_); rintro e w' ⟨rfl, hK⟩) | ((with_reducible refine (HX.out _ (by assumption)).mono ?_); rintro e w' ⟨rfl, hK⟩)) | (go_at_call 15; first | ((with_reducible refine (HW.out _ (by assumption)).mono ?_); rintro e w' ⟨rfl, hK⟩)) | (go_at_call 16; first | ((with_reducible refine (HSc.out _ (by assumption)).mono ?_); rintro e w' ⟨rfl, hK⟩)) | (go_at_call 11; first | ((with_reducible refine (HL.out _ (by assumption)).mono ?_); rintro e w' ⟨rfl, hK⟩)))
    go_ret
    exact ⟨rfl, by assumption⟩
  · have hpos : 0 < b.size := by omega
    have hg0 := toList_getD b 0 hpos
    have hcons : ∃ t, b.data.toList = b[0] :: t := by
      match hb0 : b.data.toList with
      | [] => have := toList_length b; rw [hb0] at this; simp at this; omega
      | c :: t => rw [hb0] at hg0; exact ⟨t, by rw [← hg0]; rfl⟩
    obtain ⟨t, hcons⟩ := hcons
    have hfr : freeB b.data.toList = (!isD b[0] && !stopB b[0]) := by rw [hcons]; rfl
    clear hz hg0 hcons
    by_cases c1 : 48 ≤ b[0].toNat ∧ b[0].toNat ≤ 57
    · obtain ⟨c1, c2⟩ := c1
      clear hfr sS hSl hn hf l1 hS hrt hbM haM
      go_enter Try.func5, Try.ntmps5
      go_wp2_with (first | (go_at_call 7; first | ((with_reducible refine (HT.out _ (by assumption)).mono ?_); rintro e w' ⟨rfl, hK⟩) | ((with_reducible refine (HK.out _ (by assumption)).mono ?_); rintro e w' ⟨rfl, hK⟩) | ((with_reducible refine (HM.out _ (by assumption)).mono ?_); rintro e w' ⟨rfl, hK⟩)) | (go_at_call 18; first | ((with_reducible refine (HR.out _ (by assumption)).mono ?_); rintro e w' ⟨rfl, hK⟩) | ((with_reducible refine (HX.out _ (by assumption)).mono ?_); rintro e w' ⟨rfl, hK⟩)) | (go_at_call 15; first | ((with_reducible refine (HW.out _ (by assumption)).mono ?_); rintro e w' ⟨rfl, hK⟩)) | (go_at_call 11; first | ((with_reducible refine (HL.out _ (by assumption)).mono ?_); rintro e w' ⟨rfl, hK⟩)))
      go_ret
      exact ⟨rfl, by assumption⟩
    have hD : isD b[0] = false := by
      cases h : isD b[0] with
      | true => exact absurd (isD_iff.1 h) c1
      | false => rfl
    have hdn : b[0].toNat < 48 ∨ 57 < b[0].toNat := by omega
    clear c1
    cases hst : stopB b[0] with
    | true =>
      have hsc := stop_cases hst
      clear hfr sS hSl hn hf l1 hS hrt hbM haM hst hD
      rcases hsc with h1 | ⟨h1, h2⟩ | ⟨h1, h2, h3⟩
      · have g1 : ((b[0].toNat : Int) == 46) = true := by rw [h1]; rfl
        have g0 : ¬ 48 ≤ b[0].toNat := by rw [h1]; decide
        clear h1 hdn
        go_enter Try.func5, Try.ntmps5
        go_wp2_with (first | (go_at_call 7; first | ((with_reducible refine (HT.out _ (by assumption)).mono ?_); rintro e w' ⟨rfl, hK⟩) | ((with_reducible refine (HK.out _ (by assumption)).mono ?_); rintro e w' ⟨rfl, hK⟩) | ((with_reducible refine (HM.out _ (by assumption)).mono ?_); rintro e w' ⟨rfl, hK⟩)) | (go_at_call 18; first | ((with_reducible refine (HR.out _ (by assumption)).mono ?_); rintro e w' ⟨rfl, hK⟩) | ((with_reducible refine (HX.out _ (by assumption)).mono ?_); rintro e w' ⟨rfl, hK⟩)) | (go_at_call 15; first | ((with_reducible refine (HW.out _ (by assumption)).mono ?_); rintro e w' ⟨rfl, hK⟩)) | (go_at_call 11; first | ((with_reducible refine (HL.out _ (by assumption)).mono ?_); rintro e w' ⟨rfl, hK⟩)))
        go_ret
        exact ⟨rfl, by assumption⟩
      · have g1 : ((b[0].toNat : Int) == 46) = false := beqN (n := 46) (by decide) h1
        have g2 : ((b[0].toNat : Int) == 101) = true := by rw [h2]; rfl
        have g0 : ¬ b[0].toNat ≤ 57 := by rw [h2]; decide
        clear h1 h2 hdn
        go_enter Try.func5, Try.ntmps5
        go_wp2_with (first | (go_at_call 7; first | ((with_reducible refine (HT.out _ (by assumption)).mono ?_); rintro e w' ⟨rfl, hK⟩) | ((with_reducible refine (HK.out _ (by assumption)).mono ?_); rintro e w' ⟨rfl, hK⟩) | ((with_reducible refine (HM.out _ (by assumption)).mono ?_); rintro e w' ⟨rfl, hK⟩)) | (go_at_call 18; first | ((with_reducible refine (HR.out _ (by assumption)).mono ?_); rintro e w' ⟨rfl, hK⟩) | ((with_reducible refine (HX.out _ (by assumption)).mono ?_); rintro e w' ⟨rfl, hK⟩)) | (go_at_call 15; first | ((with_reducible refine (HW.out _ (by assumption)).mono ?_); rintro e w' ⟨rfl, hK⟩)) | (go_at_call 11; first | ((with_reducible refine (HL.out _ (by assumption)).mono ?_); rintro e w' ⟨rfl, hK⟩)))
        go_ret
        exact ⟨rfl, by assumption⟩
      · have g1 : ((b[0].toNat : Int) == 46) = false := beqN (n := 46) (by decide) h1
        have g2 : ((b[0].toNat : Int) == 101) = false := beqN (n := 101) (by decide) h2
        have g3 : ((b[0].toNat : Int) == 69) = true := by rw [h3]; rfl
        have g0 : ¬ b[0].toNat ≤ 57 := by rw [h3]; decide
        clear h1 h2 h3 hdn
        go_enter Try.func5, Try.ntmps5
        go_wp2_with (first | (go_at_call 7; first | ((with_reducible refine (HT.out _ (by assumption)).mono ?_); rintro e w' ⟨rfl, hK⟩) | ((with_reducible refine (HK.out _ (by assumption)).mono ?_); rintro e w' ⟨rfl, hK⟩) | ((with_reducible refine (HM.out _ (by assumption)).mono ?_); rintro e w' ⟨rfl, hK⟩)) | (go_at_call 18; first | ((with_reducible refine (HR.out _ (by assumption)).mono ?_); rintro e w' ⟨rfl, hK⟩) | ((with_reducible refine (HX.out _ (by assumption)).mono ?_); rintro e w' ⟨rfl, hK⟩)) | (go_at_call 15; first | ((with_reducible refine (HW.out _ (by assumption)).mono ?_); rintro e w' ⟨rfl, hK⟩)) | (go_at_call 11; first | ((with_reducible refine (HL.out _ (by assumption)).mono ?_); rintro e w' ⟨rfl, hK⟩)))
        go_ret
        exact ⟨rfl, by assumption⟩
    | false =>
      have hfree : freeB b.data.toList = true := by rw [hfr, hD, hst]; rfl
      obtain ⟨h1, h2, h3⟩ := stop_none hst
      have g1 : ((b[0].toNat : Int) == 46) = false := beqN (n := 46) (by decide) h1
      have g2 : ((b[0].toNat : Int) == 101) = false := beqN (n := 101) (by decide) h2
      have g3 : ((b[0].toNat : Int) == 69) = false := beqN (n := 69) (by decide) h3
      have hsc : scanL (a ++ S ++ b).data.toList (a.size : Int) = (n, ((a.size + S.size : Nat) : Int), 0) := by
        have h := scan_text n hn a.data.toList b.data.toList hfree
        rw [toList_length, ← sS] at h
        rw [data_app, data_app, hSl, scanL_nat _ _ (by rw [List.length_append, List.length_append, toList_length]; omega)]
        exact h
      have HSc := scan_at (s := a ++ S ++ b) (by rw [size_app, size_app]; unfold maxLen; omega) hsc w
      have hen : ((a.size + S.size : Nat) : Int) = (a.size : Int) + S.size := by omega
      rw [hen] at HSc
      have z1 : (a ++ S).size = a.size + S.size := size_app _ _
      have z2 : (a.size : Int) + S.size ≤ 417 := by omega
      clear hsc hen hfree sS hSl hn hf l1 hS hrt hbM haM
      clear h1 h2 h3 hst hD hfr
      rcases hdn with g0 | g0
      · have g0' : ¬ 48 ≤ b[0].toNat := by omega
        go_enter Try.func5, Try.ntmps5
        go_wp2_with (first | (go_at_call 7; first | ((with_reducible refine (HT.out _ (by assumption)).mono ?_); rintro e w' ⟨rfl, hK⟩) | ((with_reducible refine (HK.out _ (by assumption)).mono ?_); rintro e w' ⟨rfl, hK⟩) | ((with_reducible refine (HM.out _ (by assumption)).mono ?_); rintro e w' ⟨rfl, hK⟩)) | (go_at_call 18; first | ((with_reducible refine (HR.out _ (by assumption)).mono ?_); rintro e w' ⟨rfl, hK⟩) | ((with_reducible refine (HX.out _ (by assumption)).mono ?_); rintro e w' ⟨rfl, hK⟩)) | (go_at_call 15; first | ((with_reducible refine (HW.out _ (by assumption)).mono ?_); rintro e w' ⟨rfl, hK⟩)) | (go_at_call 16; first | ((with_reducible refine (HSc.out _ (by assumption)).mono ?_); rintro e w' ⟨rfl, hK⟩)) | (go_at_call 11; first | ((with_reducible refine (HL.out _ (by assumption)).mono ?_); rintro e w' ⟨rfl, hK⟩)))
        go_ret
        exact ⟨rfl, by assumption⟩
      · have g0' : ¬ b[0].toNat ≤ 57 := by omega
        go_enter Try.func5, Try.ntmps5
        go_wp2_with (first | (go_at_call 7; first | ((with_reducible refine (HT.out _ (by assumption)).mono ?_); rintro e w' ⟨rfl, hK⟩) | ((with_reducible refine (HK.out _ (by assumption)).mono ?_); rintro e w' ⟨rfl, hK⟩) | ((with_reducible refine (HM.out _ (by assumption)).mono ?_); rintro e w' ⟨rfl, hK⟩)) | (go_at_call 18; first | ((with_reducible refine (HR.out _ (by assumption)).mono ?_); rintro e w' ⟨rfl, hK⟩) | ((with_reducible refine (HX.out _ (by assumption)).mono ?_); rintro e w' ⟨rfl, hK⟩)) | (go_at_call 15; first | ((with_reducible refine (HW.out _ (by assumption)).mono ?_); rintro e w' ⟨rfl, hK⟩)) | (go_at_call 16; first | ((with_reducible refine (HSc.out _ (by assumption)).mono ?_); rintro e w' ⟨rfl, hK⟩)) | (go_at_call 11; first | ((with_reducible refine (HL.out _ (by assumption)).mono ?_); rintro e w' ⟨rfl, hK⟩)))
        go_ret
        exact ⟨rfl, by assumption⟩

set_option maxHeartbeats 8000000 in
set_option maxRecDepth 100000 in
theorem back_false_1 (n m : Int) (a b : ByteArray) (w : World) (ha : a.size ≤ 400) (hb : b.size ≤ 400) (hn : fitB n = true) (hm : fitB m = false) (hr : readL b.data.toList = (0, 20)) :
    Calls Try.prog 5 #[.int .i64 n, .int .i64 m, .string a, .string b] w fun e w' => e = .returned (.bool true) ∧ KB w w' := by
  have hK0 : KB w w := Below.refl _ _
  have HW := wakes_at w
  have hbM : b.size ≤ maxLen := by unfold maxLen; omega
  have haM : a.size ≤ maxLen := by unfold maxLen; omega
  have hf := fitB_iff.1 hn
  have e1 : decide (-9007199254740992 ≤ n) = true := decide_eq_true hf.1
  have e2 : decide (n ≤ 9007199254740992) = true := decide_eq_true hf.2
  have l1 := txt_len n
  have hrt := read_text n hn
  obtain ⟨S, hS⟩ : ∃ S : ByteArray, (⟨(txt n).toArray⟩ : ByteArray) = S := ⟨_, rfl⟩
  have sS : S.size = (txt n).length := by rw [← hS, size_arr]
  have hSl : S.data.toList = txt n := by rw [← hS]
  have HT := text_at (n := n) (S := S) (E := 0) hS (by rw [hn]; rfl) w
  have HX := read_at (s := S) (x := n) (e := 0) (by unfold maxLen; omega) (by rw [hSl]; exact hrt) w
  have HL : Hid (∀ w1, KB w w1 → Calls Try.prog 11 #[.int .i64 n] w1 fun e w' => e = .returned (.int .i64 S.size) ∧ KB w w') := Lib.hid fun w1 hK => Calls.kb hK (by have := len_any n w1; rw [sS]; exact this)
  have s17 : S.size ≤ 17 := by omega
  have HR := read_at hbM hr w
  clear hr
  obtain ⟨T, hT⟩ : ∃ S : ByteArray, (⟨(txt m).toArray⟩ : ByteArray) = S := ⟨_, rfl⟩
  have HM := text_at (n := m) (S := T) (E := 20) hT (by rw [hm]; rfl) w
  clear hT hm
  by_cases hz : b.size = 0
  · have hfree : freeB b.data.toList = true := by
      have : b.data.toList = [] := List.length_eq_zero_iff.1 (by rw [toList_length]; exact hz)
      rw [this]; rfl
    have hsc : scanL (a ++ S ++ b).data.toList (a.size : Int) = (n, ((a.size + S.size : Nat) : Int), 0) := by
      have h := scan_text n hn a.data.toList b.data.toList hfree
      rw [toList_length, ← sS] at h
      rw [data_app, data_app, hSl, scanL_nat _ _ (by rw [List.length_append, List.length_append, toList_length]; omega)]
      exact h
    have HSc := scan_at (s := a ++ S ++ b) (by rw [size_app, size_app]; unfold maxLen; omega) hsc w
    have hen : ((a.size + S.size : Nat) : Int) = (a.size : Int) + S.size := by omega
    rw [hen] at HSc
    have z1 : (a ++ S).size = a.size + S.size := size_app _ _
    have z2 : (a.size : Int) + S.size ≤ 417 := by omega
    clear hsc hen hfree sS hSl hn hf l1 hS hrt hbM haM
    go_enter Try.func5, Try.ntmps5
    go_wp2_with (first | (go_at_call 7; first | ((with_reducible refine (HT.out _ (by assumption)).mono ?_); rintro e w' ⟨rfl, hK⟩) | ((with_reducible refine (HM.out _ (by assumption)).mono ?_); rintro e w' ⟨rfl, hK⟩)) | (go_at_call 18; first | ((with_reducible refine (HR.out _ (by assumption)).mono ?_); rintro e w' ⟨rfl, hK⟩) | ((with_reducible refine (HX.out _ (by assumption)).mono ?_); rintro e w' ⟨rfl, hK⟩)) | (go_at_call 15; first | ((with_reducible refine (HW.out _ (by assumption)).mono ?_); rintro e w' ⟨rfl, hK⟩)) | (go_at_call 16; first | ((with_reducible refine (HSc.out _ (by assumption)).mono ?_); rintro e w' ⟨rfl, hK⟩)) | (go_at_call 11; first | ((with_reducible refine (HL.out _ (by assumption)).mono ?_); rintro e w' ⟨rfl, hK⟩)))
    go_ret
    exact ⟨rfl, by assumption⟩
  · have hpos : 0 < b.size := by omega
    have hg0 := toList_getD b 0 hpos
    have hcons : ∃ t, b.data.toList = b[0] :: t := by
      match hb0 : b.data.toList with
      | [] => have := toList_length b; rw [hb0] at this; simp at this; omega
      | c :: t => rw [hb0] at hg0; exact ⟨t, by rw [← hg0]; rfl⟩
    obtain ⟨t, hcons⟩ := hcons
    have hfr : freeB b.data.toList = (!isD b[0] && !stopB b[0]) := by rw [hcons]; rfl
    clear hz hg0 hcons
    by_cases c1 : 48 ≤ b[0].toNat ∧ b[0].toNat ≤ 57
    · obtain ⟨c1, c2⟩ := c1
      clear hfr sS hSl hn hf l1 hS hrt hbM haM
      go_enter Try.func5, Try.ntmps5
      go_wp2_with (first | (go_at_call 7; first | ((with_reducible refine (HT.out _ (by assumption)).mono ?_); rintro e w' ⟨rfl, hK⟩) | ((with_reducible refine (HM.out _ (by assumption)).mono ?_); rintro e w' ⟨rfl, hK⟩)) | (go_at_call 18; first | ((with_reducible refine (HR.out _ (by assumption)).mono ?_); rintro e w' ⟨rfl, hK⟩) | ((with_reducible refine (HX.out _ (by assumption)).mono ?_); rintro e w' ⟨rfl, hK⟩)) | (go_at_call 15; first | ((with_reducible refine (HW.out _ (by assumption)).mono ?_); rintro e w' ⟨rfl, hK⟩)) | (go_at_call 11; first | ((with_reducible refine (HL.out _ (by assumption)).mono ?_); rintro e w' ⟨rfl, hK⟩)))
      go_ret
      exact ⟨rfl, by assumption⟩
    have hD : isD b[0] = false := by
      cases h : isD b[0] with
      | true => exact absurd (isD_iff.1 h) c1
      | false => rfl
    have hdn : b[0].toNat < 48 ∨ 57 < b[0].toNat := by omega
    clear c1
    cases hst : stopB b[0] with
    | true =>
      have hsc := stop_cases hst
      clear hfr sS hSl hn hf l1 hS hrt hbM haM hst hD
      rcases hsc with h1 | ⟨h1, h2⟩ | ⟨h1, h2, h3⟩
      · have g1 : ((b[0].toNat : Int) == 46) = true := by rw [h1]; rfl
        have g0 : ¬ 48 ≤ b[0].toNat := by rw [h1]; decide
        clear h1 hdn
        go_enter Try.func5, Try.ntmps5
        go_wp2_with (first | (go_at_call 7; first | ((with_reducible refine (HT.out _ (by assumption)).mono ?_); rintro e w' ⟨rfl, hK⟩) | ((with_reducible refine (HM.out _ (by assumption)).mono ?_); rintro e w' ⟨rfl, hK⟩)) | (go_at_call 18; first | ((with_reducible refine (HR.out _ (by assumption)).mono ?_); rintro e w' ⟨rfl, hK⟩) | ((with_reducible refine (HX.out _ (by assumption)).mono ?_); rintro e w' ⟨rfl, hK⟩)) | (go_at_call 15; first | ((with_reducible refine (HW.out _ (by assumption)).mono ?_); rintro e w' ⟨rfl, hK⟩)) | (go_at_call 11; first | ((with_reducible refine (HL.out _ (by assumption)).mono ?_); rintro e w' ⟨rfl, hK⟩)))
        go_ret
        exact ⟨rfl, by assumption⟩
      · have g1 : ((b[0].toNat : Int) == 46) = false := beqN (n := 46) (by decide) h1
        have g2 : ((b[0].toNat : Int) == 101) = true := by rw [h2]; rfl
        have g0 : ¬ b[0].toNat ≤ 57 := by rw [h2]; decide
        clear h1 h2 hdn
        go_enter Try.func5, Try.ntmps5
        go_wp2_with (first | (go_at_call 7; first | ((with_reducible refine (HT.out _ (by assumption)).mono ?_); rintro e w' ⟨rfl, hK⟩) | ((with_reducible refine (HM.out _ (by assumption)).mono ?_); rintro e w' ⟨rfl, hK⟩)) | (go_at_call 18; first | ((with_reducible refine (HR.out _ (by assumption)).mono ?_); rintro e w' ⟨rfl, hK⟩) | ((with_reducible refine (HX.out _ (by assumption)).mono ?_); rintro e w' ⟨rfl, hK⟩)) | (go_at_call 15; first | ((with_reducible refine (HW.out _ (by assumption)).mono ?_); rintro e w' ⟨rfl, hK⟩)) | (go_at_call 11; first | ((with_reducible refine (HL.out _ (by assumption)).mono ?_); rintro e w' ⟨rfl, hK⟩)))
        go_ret
        exact ⟨rfl, by assumption⟩
      · have g1 : ((b[0].toNat : Int) == 46) = false := beqN (n := 46) (by decide) h1
        have g2 : ((b[0].toNat : Int) == 101) = false := beqN (n := 101) (by decide) h2
        have g3 : ((b[0].toNat : Int) == 69) = true := by rw [h3]; rfl
        have g0 : ¬ b[0].toNat ≤ 57 := by rw [h3]; decide
        clear h1 h2 h3 hdn
        go_enter Try.func5, Try.ntmps5
        go_wp2_with (first | (go_at_call 7; first | ((with_reducible refine (HT.out _ (by assumption)).mono ?_); rintro e w' ⟨rfl, hK⟩) | ((with_reducible refine (HM.out _ (by assumption)).mono ?_); rintro e w' ⟨rfl, hK⟩)) | (go_at_call 18; first | ((with_reducible refine (HR.out _ (by assumption)).mono ?_); rintro e w' ⟨rfl, hK⟩) | ((with_reducible refine (HX.out _ (by assumption)).mono ?_); rintro e w' ⟨rfl, hK⟩)) | (go_at_call 15; first | ((with_reducible refine (HW.out _ (by assumption)).mono ?_); rintro e w' ⟨rfl, hK⟩)) | (go_at_call 11; first | ((with_reducible refine (HL.out _ (by assumption)).mono ?_); rintro e w' ⟨rfl, hK⟩)))
        go_ret
        exact ⟨rfl, by assumption⟩
    | false =>
      have hfree : freeB b.data.toList = true := by rw [hfr, hD, hst]; rfl
      obtain ⟨h1, h2, h3⟩ := stop_none hst
      have g1 : ((b[0].toNat : Int) == 46) = false := beqN (n := 46) (by decide) h1
      have g2 : ((b[0].toNat : Int) == 101) = false := beqN (n := 101) (by decide) h2
      have g3 : ((b[0].toNat : Int) == 69) = false := beqN (n := 69) (by decide) h3
      have hsc : scanL (a ++ S ++ b).data.toList (a.size : Int) = (n, ((a.size + S.size : Nat) : Int), 0) := by
        have h := scan_text n hn a.data.toList b.data.toList hfree
        rw [toList_length, ← sS] at h
        rw [data_app, data_app, hSl, scanL_nat _ _ (by rw [List.length_append, List.length_append, toList_length]; omega)]
        exact h
      have HSc := scan_at (s := a ++ S ++ b) (by rw [size_app, size_app]; unfold maxLen; omega) hsc w
      have hen : ((a.size + S.size : Nat) : Int) = (a.size : Int) + S.size := by omega
      rw [hen] at HSc
      have z1 : (a ++ S).size = a.size + S.size := size_app _ _
      have z2 : (a.size : Int) + S.size ≤ 417 := by omega
      clear hsc hen hfree sS hSl hn hf l1 hS hrt hbM haM
      clear h1 h2 h3 hst hD hfr
      rcases hdn with g0 | g0
      · have g0' : ¬ 48 ≤ b[0].toNat := by omega
        go_enter Try.func5, Try.ntmps5
        go_wp2_with (first | (go_at_call 7; first | ((with_reducible refine (HT.out _ (by assumption)).mono ?_); rintro e w' ⟨rfl, hK⟩) | ((with_reducible refine (HM.out _ (by assumption)).mono ?_); rintro e w' ⟨rfl, hK⟩)) | (go_at_call 18; first | ((with_reducible refine (HR.out _ (by assumption)).mono ?_); rintro e w' ⟨rfl, hK⟩) | ((with_reducible refine (HX.out _ (by assumption)).mono ?_); rintro e w' ⟨rfl, hK⟩)) | (go_at_call 15; first | ((with_reducible refine (HW.out _ (by assumption)).mono ?_); rintro e w' ⟨rfl, hK⟩)) | (go_at_call 16; first | ((with_reducible refine (HSc.out _ (by assumption)).mono ?_); rintro e w' ⟨rfl, hK⟩)) | (go_at_call 11; first | ((with_reducible refine (HL.out _ (by assumption)).mono ?_); rintro e w' ⟨rfl, hK⟩)))
        go_ret
        exact ⟨rfl, by assumption⟩
      · have g0' : ¬ b[0].toNat ≤ 57 := by omega
        go_enter Try.func5, Try.ntmps5
        go_wp2_with (first | (go_at_call 7; first | ((with_reducible refine (HT.out _ (by assumption)).mono ?_); rintro e w' ⟨rfl, hK⟩) | ((with_reducible refine (HM.out _ (by assumption)).mono ?_); rintro e w' ⟨rfl, hK⟩)) | (go_at_call 18; first | ((with_reducible refine (HR.out _ (by assumption)).mono ?_); rintro e w' ⟨rfl, hK⟩) | ((with_reducible refine (HX.out _ (by assumption)).mono ?_); rintro e w' ⟨rfl, hK⟩)) | (go_at_call 15; first | ((with_reducible refine (HW.out _ (by assumption)).mono ?_); rintro e w' ⟨rfl, hK⟩)) | (go_at_call 16; first | ((with_reducible refine (HSc.out _ (by assumption)).mono ?_); rintro e w' ⟨rfl, hK⟩)) | (go_at_call 11; first | ((with_reducible refine (HL.out _ (by assumption)).mono ?_); rintro e w' ⟨rfl, hK⟩)))
        go_ret
        exact ⟨rfl, by assumption⟩

theorem back_any (n m : Int) (a b : ByteArray) (w : World) {p q : Prop} (_ : p) (_ : q) (ha : a.size ≤ maxLen) (hb : b.size ≤ maxLen) :
    Calls Try.prog 5 #[.int .i64 n, .int .i64 m, .string a, .string b] w fun e w' => e = .returned (.bool true) ∧ Below w.heap.size w w' := by
  refine Calls.mono (R := fun e w' => e = .returned (.bool true) ∧ KB w w') ?_ fun e w' h => h
  by_cases hl : 400 < a.size ∨ 400 < b.size
  · exact back_long n m a b w ha hb hl
  have ha' : a.size ≤ 400 := by omega
  have hb' : b.size ≤ 400 := by omega
  rcases readL_forms b.data.toList with hr | hr
  · cases hn : fitB n with
    | false => exact back_no0 n m a b w ha' hb' hn hr
    | true =>
      cases hm : fitB m with
      | false => exact back_false_0 n m a b w ha' hb' hn hm hr
      | true =>
        by_cases hnm : n = m
        · exact back_true2_0 n m a b w ha' hb' hn hnm hr
        · exact back_true1_0 n m a b w ha' hb' hn hm hnm hr
  · cases hn : fitB n with
    | false => exact back_no1 n m a b w ha' hb' hn hr
    | true =>
      cases hm : fitB m with
      | false => exact back_false_1 n m a b w ha' hb' hn hm hr
      | true =>
        by_cases hnm : n = m
        · exact back_true2_1 n m a b w ha' hb' hn hnm hr
        · exact back_true1_1 n m a b w ha' hb' hn hm hnm hr
end Go.Proofs.Ytgbbbcojeaolbaa
