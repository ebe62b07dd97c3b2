/-
  The statements' helper 'wakes'; the statements NumberTells and NumberScans: the call returns true, and writes nothing that was there.
-/
import Derived.Test.YtgbbbcojeaolbaaNRScan
set_option linter.unusedVariables false
namespace Go.Proofs.Ytgbbbcojeaolbaa
open Go.RowKit

theorem wake1 : scanV (scanL (ByteArray.mk #[45, 49, 50, 44]).data.toList 0) = .tuple #[.int .i64 (-12), .int .i64 3, .int .i64 0] := by kernel_rfl
theorem wake2 : scanV (scanL (ByteArray.mk #[48, 49, 50]).data.toList 0) = .tuple #[.int .i64 0, .int .i64 1, .int .i64 20] := by kernel_rfl
theorem wake3 : scanV (scanL (ByteArray.mk #[53, 46, 48]).data.toList 0) = .tuple #[.int .i64 0, .int .i64 1, .int .i64 20] := by kernel_rfl
theorem wake4 : readV (readL (ByteArray.mk #[45, 48]).data.toList) = .tuple #[.int .i64 0, .int .i64 20] := by kernel_rfl
set_option maxHeartbeats 2000000 in
set_option maxRecDepth 100000 in
theorem wakes_any (w : World) : Calls Try.prog 15 #[] w fun e w' => e = .returned (.bool true) ∧ w = w' := by
  have h1 := scan_any ⟨#[45, 49, 50, 44]⟩ (by decide) 0 w
  have h2 := scan_any ⟨#[48, 49, 50]⟩ (by decide) 0 w
  have h3 := scan_any ⟨#[53, 46, 48]⟩ (by decide) 0 w
  have h4 := read_any ⟨#[45, 48]⟩ (by decide) w
  rw [wake1] at h1
  rw [wake2] at h2
  rw [wake3] at h3
  rw [wake4] at h4
  have H1 := Lib.hid h1
  have H2 := Lib.hid h2
  have H3 := Lib.hid h3
  have H4 := Lib.hid h4
  clear h1 h2 h3 h4
  go_enter Try.func15, Try.ntmps15
  go_wp2_with (first | (go_at_call 16; first | ((with_reducible refine H1.out.mono ?_); rintro e w' ⟨rfl, rfl⟩) | ((with_reducible refine H2.out.mono ?_); rintro e w' ⟨rfl, rfl⟩) | ((with_reducible refine H3.out.mono ?_); rintro e w' ⟨rfl, rfl⟩)) | (go_at_call 18; (with_reducible refine H4.out.mono ?_); rintro e w' ⟨rfl, rfl⟩))
  go_ret
  exact ⟨rfl, rfl⟩

def KB (w w' : World) : Prop := Below w.heap.size w w'
theorem Calls.kb {f : Nat} {args : Array Value} {w0 w : World} {v : Value} (hK : KB w0 w) (h : Calls Try.prog f args w fun e w' => e = .returned v ∧ Below w.heap.size w w') : Calls Try.prog f args w fun e w' => e = .returned v ∧ KB w0 w' :=
  h.mono fun _ _ ⟨he, hb⟩ => ⟨he, Below.trans hK (hb.mono hK.size)⟩
theorem Calls.k0 {f : Nat} {args : Array Value} {w0 w : World} {v : Value} (hK : KB w0 w) (h : Calls Try.prog f args w fun e w' => e = .returned v ∧ w = w') : Calls Try.prog f args w fun e w' => e = .returned v ∧ KB w0 w' :=
  h.mono fun _ _ ⟨he, hb⟩ => ⟨he, hb ▸ hK⟩
theorem fits_any (n : Int) (w : World) : Calls Try.prog 9 #[.int .i64 n] w fun e w' => e = .returned (.bool (fitB n)) ∧ w = w' := by
  cases h : fitB n with
  | true => exact fits_yes n h w
  | false => exact fits_no n h w
theorem rfits_any (n : Int) (w : World) : Calls Try.prog 10 #[.int .i64 n] w fun e w' => e = .returned (.bool (fitB n)) ∧ w = w' := by
  cases h : fitB n with
  | true => exact rfits_yes n h w
  | false => exact rfits_no n h w

set_option maxHeartbeats 4000000 in
set_option maxRecDepth 100000 in
theorem tells_any (n : Int) (c : UInt8) (w : World) :
    Calls Try.prog 3 #[.int .i64 n, .int .u8 c.toNat] w fun e w' => e = .returned (.bool true) ∧ Below w.heap.size w w' := by
  refine Calls.mono (R := fun e w' => e = .returned (.bool true) ∧ KB w w') ?_ fun e w' h => h
  have hK0 : KB w w := Below.refl _ _
  have hl := txt_len n
  obtain ⟨S, hS⟩ : ∃ S : ByteArray, (⟨(txt n).toArray⟩ : ByteArray) = S := ⟨_, rfl⟩
  obtain ⟨E, hE⟩ : ∃ E, errN (fitB n) = E := ⟨_, rfl⟩
  obtain ⟨L, hL⟩ : ∃ L : Int, ((txt n).length : Int) = L := ⟨_, rfl⟩
  obtain ⟨F, hF⟩ : ∃ F, fitB n = F := ⟨_, rfl⟩
  obtain ⟨D, hD⟩ : ∃ D, isD c = D := ⟨_, rfl⟩
  have H1 : Hid (∀ w1, KB w w1 → Calls Try.prog 7 #[.int .i64 n] w1 fun e w' => e = .returned (.tuple #[.string S, .int .i64 E]) ∧ KB w w') := Lib.hid fun w1 hK => Calls.kb hK (by have := text_any n w1; rw [hS, hE] at this; exact this)
  have H2 : Hid (∀ w1, KB w w1 → Calls Try.prog 8 #[.int .i64 n] w1 fun e w' => e = .returned (.tuple #[.string S, .int .i64 E]) ∧ KB w w') := Lib.hid fun w1 hK => Calls.kb hK (by have := rtext_any n w1; rw [hS, hE] at this; exact this)
  have H3 : Hid (∀ w1, KB w w1 → Calls Try.prog 9 #[.int .i64 n] w1 fun e w' => e = .returned (.bool F) ∧ KB w w') := Lib.hid fun w1 hK => Calls.k0 hK (hF ▸ fits_any n w1)
  have H4 : Hid (∀ w1, KB w w1 → Calls Try.prog 10 #[.int .i64 n] w1 fun e w' => e = .returned (.bool F) ∧ KB w w') := Lib.hid fun w1 hK => Calls.k0 hK (hF ▸ rfits_any n w1)
  have H5 : Hid (∀ w1, KB w w1 → Calls Try.prog 11 #[.int .i64 n] w1 fun e w' => e = .returned (.int .i64 L) ∧ KB w w') := Lib.hid fun w1 hK => Calls.kb hK (hL ▸ len_any n w1)
  have H6 : Hid (∀ w1, KB w w1 → Calls Try.prog 12 #[.int .i64 n] w1 fun e w' => e = .returned (.int .i64 L) ∧ KB w w') := Lib.hid fun w1 hK => Calls.kb hK (hL ▸ rlen_any n w1)
  have H7 : Hid (∀ w1, KB w w1 → Calls Try.prog 13 #[.int .u8 c.toNat] w1 fun e w' => e = .returned (.bool D) ∧ KB w w') := Lib.hid fun w1 hK => Calls.k0 hK (hD ▸ digit_any c w1)
  have H8 : Hid (∀ w1, KB w w1 → Calls Try.prog 14 #[.int .u8 c.toNat] w1 fun e w' => e = .returned (.bool D) ∧ KB w w') := Lib.hid fun w1 hK => Calls.k0 hK (hD ▸ rdigit_any c w1)
  have H9 : Hid (∀ w1, KB w w1 → Calls Try.prog 15 #[] w1 fun e w' => e = .returned (.bool true) ∧ KB w w') := Lib.hid fun w1 hK => Calls.k0 hK (wakes_any w1)
  have hs : S.size ≤ 17 := by rw [← hS, size_arr]; exact hl
  clear hS hE hL hF hD hl
  go_enter Try.func3, Try.ntmps3
  go_wp2_with (first | (go_at_call 7; (with_reducible refine (H1.out _ (by assumption)).mono ?_); rintro e w' ⟨rfl, hK⟩) | (go_at_call 8; (with_reducible refine (H2.out _ (by assumption)).mono ?_); rintro e w' ⟨rfl, hK⟩) | (go_at_call 9; (with_reducible refine (H3.out _ (by assumption)).mono ?_); rintro e w' ⟨rfl, hK⟩) | (go_at_call 10; (with_reducible refine (H4.out _ (by assumption)).mono ?_); rintro e w' ⟨rfl, hK⟩) | (go_at_call 11; (with_reducible refine (H5.out _ (by assumption)).mono ?_); rintro e w' ⟨rfl, hK⟩) | (go_at_call 12; (with_reducible refine (H6.out _ (by assumption)).mono ?_); rintro e w' ⟨rfl, hK⟩) | (go_at_call 13; (with_reducible refine (H7.out _ (by assumption)).mono ?_); rintro e w' ⟨rfl, hK⟩) | (go_at_call 14; (with_reducible refine (H8.out _ (by assumption)).mono ?_); rintro e w' ⟨rfl, hK⟩) | (go_at_call 15; (with_reducible refine (H9.out _ (by assumption)).mono ?_); rintro e w' ⟨rfl, hK⟩))
  go_ret
  exact ⟨rfl, by assumption⟩

set_option maxHeartbeats 4000000 in
set_option maxRecDepth 100000 in
theorem scans_long (s : ByteArray) (at_ : Int) (w : World) (hs : s.size ≤ maxLen) (h : 400 < s.size) :
    Calls Try.prog 4 #[.string s, .int .i64 at_] w fun e w' => e = .returned (.bool true) ∧ Below w.heap.size w w' := by
  have HW := Lib.hid (wakes_any w)
  have hs9 : s.size ≤ 9223372036854775807 := by unfold maxLen at hs; omega
  clear hs
  go_enter Try.func4, Try.ntmps4
  go_wp2_with (go_at_call 15; refine HW.out.mono ?_; rintro e w' ⟨rfl, rfl⟩)
  go_ret
  exact ⟨rfl, Below.refl _ _⟩
set_option maxHeartbeats 4000000 in
set_option maxRecDepth 100000 in
theorem scans_short (s : ByteArray) (at_ : Int) (w : World) (hs : s.size ≤ 400) :
    Calls Try.prog 4 #[.string s, .int .i64 at_] w fun e w' => e = .returned (.bool true) ∧ Below w.heap.size w w' := by
  have hM : s.size ≤ maxLen := by unfold maxLen; omega
  obtain ⟨n, en, e, hsc⟩ : ∃ n en e, scanL s.data.toList at_ = (n, en, e) := ⟨_, _, _, rfl⟩
  obtain ⟨r, f, hrd⟩ : ∃ r f, readL s.data.toList = (r, f) := ⟨_, _, rfl⟩
  have h1 := scan_any s hM at_ w
  have h2 := rscan_any s hM at_ w
  have h3 := read_any s hM w
  have h4 := rread_any s hM w
  rw [hsc] at h1 h2
  rw [hrd] at h3 h4
  unfold scanV at h1 h2
  unfold readV at h3 h4
  have H1 := Lib.hid h1
  have H2 := Lib.hid h2
  have H3 := Lib.hid h3
  have H4 := Lib.hid h4
  have HW := Lib.hid (wakes_any w)
  have hs9 : ¬ 400 < s.size := by omega
  clear h1 h2 h3 h4 hsc hrd hM
  go_enter Try.func4, Try.ntmps4
  go_wp2_with (first | (go_at_call 16; (with_reducible refine H1.out.mono ?_); rintro e w' ⟨rfl, rfl⟩) | (go_at_call 17; (with_reducible refine H2.out.mono ?_); rintro e w' ⟨rfl, rfl⟩) | (go_at_call 18; (with_reducible refine H3.out.mono ?_); rintro e w' ⟨rfl, rfl⟩) | (go_at_call 19; (with_reducible refine H4.out.mono ?_); rintro e w' ⟨rfl, rfl⟩) | (go_at_call 15; (with_reducible refine HW.out.mono ?_); rintro e w' ⟨rfl, rfl⟩))
  go_ret
  exact ⟨rfl, Below.refl _ _⟩
theorem scans_any (s : ByteArray) (at_ : Int) (w : World) (hs : s.size ≤ maxLen) {p : Prop} (_ : p) :
    Calls Try.prog 4 #[.string s, .int .i64 at_] w fun e w' => e = .returned (.bool true) ∧ Below w.heap.size w w' := by
  by_cases h : 400 < s.size
  · exact scans_long s at_ w hs h
  · exact scans_short s at_ w (by omega)
theorem tells_row (n : Int) (c : UInt8) (w : World) {p : Prop} (_ : p) :
    Calls Try.prog 3 #[.int .i64 n, .int .u8 c.toNat] w fun e w' => e = .returned (.bool true) ∧ Below w.heap.size w w' := tells_any n c w
end Go.Proofs.Ytgbbbcojeaolbaa
