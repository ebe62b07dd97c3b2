/-
  Contracts of Fits, Digit, digits, Text, Len, of the reference of package number.
-/
import Derived.Test.YtgbbbcojeaolbaaNText
set_option linter.unusedVariables false
namespace Go.Proofs.Ytgbbbcojeaolbaa
open Go.RowKit

theorem rfits_yes (n : Int) (h : fitB n = true) (w : World) : Calls Try.prog 10 #[.int .i64 n] w fun e w' => e = .returned (.bool true) ∧ w = w' := by
  obtain ⟨h1, h2⟩ := fitB_iff.1 h
  clear h
  go_enter Try.func10, Try.ntmps10
  go_wp2
  go_ret
  exact ⟨by simp <;> omega, rfl⟩
theorem rfits_no (n : Int) (h : fitB n = false) (w : World) : Calls Try.prog 10 #[.int .i64 n] w fun e w' => e = .returned (.bool false) ∧ w = w' := by
  have h' : ¬ (-9007199254740992 ≤ n ∧ n ≤ 9007199254740992) := fun e => by rw [fitB_iff.2 e] at h; cases h
  clear h
  by_cases h1 : -9007199254740992 ≤ n <;> by_cases h2 : n ≤ 9007199254740992 <;> first | (exfalso; omega) | skip
  all_goals
    clear h'
    go_enter Try.func10, Try.ntmps10
    go_wp2
    go_ret
    exact ⟨by simp <;> omega, rfl⟩
theorem rdigit_any (c : UInt8) (w : World) : Calls Try.prog 14 #[.int .u8 c.toNat] w fun e w' => e = .returned (.bool (isD c)) ∧ w = w' := by
  have e : isD c = (decide (48 ≤ c.toNat) && decide (c.toNat ≤ 57)) := rfl
  have E := Lib.hid e
  clear e
  by_cases h1 : 48 ≤ c.toNat <;> by_cases h2 : c.toNat ≤ 57 <;> first | (exfalso; omega) | skip
  all_goals
    go_enter Try.func14, Try.ntmps14
    go_wp2
    go_ret
    exact ⟨by rw [E.out]; simp [*] <;> omega, rfl⟩
theorem rdigit_yes (c : UInt8) (h : isD c = true) (w : World) : Calls Try.prog 14 #[.int .u8 c.toNat] w fun e w' => e = .returned (.bool true) ∧ w = w' := h ▸ rdigit_any c w
theorem rdigit_no (c : UInt8) (h : isD c = false) (w : World) : Calls Try.prog 14 #[.int .u8 c.toNat] w fun e w' => e = .returned (.bool false) ∧ w = w' := h ▸ rdigit_any c w

theorem ba_app (a b : List UInt8) : ((⟨a.toArray⟩ : ByteArray) ++ (⟨b.toArray⟩ : ByteArray)) = ⟨(a ++ b).toArray⟩ := by
  apply ByteArray.ext
  rw [ByteArray.data_append]
  simp
theorem ret_str {a b : ByteArray} (h : a = b) : Ending.returned (.string a) = .returned (.string b) := by rw [h]
theorem ret_str2 {a b : ByteArray} {v : Value} (h : a = b) : Ending.returned (.tuple #[.string a, v]) = .returned (.tuple #[.string b, v]) := by rw [h]
theorem conv_one (w : World) (d : Nat) (h : d < 10) :
    (convert 37 9 (.slice (some ⟨w.heap.size, 0, none⟩) 1 1)).run Try.prog (w.alloc (.cells #[.int .u8 (48 + (d : Int))] 5)) = .ok (.string ⟨[UInt8.ofNat (48 + d)].toArray⟩) (w.alloc (.cells #[.int .u8 (48 + (d : Int))] 5)) := by
  refine run_convert_bytes_back (P := Try.prog) _ 37 9 5 ⟨w.heap.size, 0, none⟩ 1 [UInt8.ofNat (48 + d)] Try.underlying37 Try.underlying5 Try.underlying9 (fun j hj => ?_)
  match j, hj with
  | 0, _ =>
    simp only [List.getElem_cons_zero]
    rw [ofD h]
    simp [Addr.add]

set_option maxRecDepth 100000 in
set_option maxHeartbeats 1000000 in
theorem rdig_one (n : Nat) (h : n < 10) (w : World) :
    Calls Try.prog 21 #[.int .i64 n] w fun e w' => e = .returned (.string ⟨(digs n).toArray⟩) ∧ Below w.heap.size w w' := by
  have HD := Lib.hid (digs_lt h)
  have hcv := conv_one w n h
  obtain ⟨S, hS⟩ : ∃ S : ByteArray, S = ⟨[UInt8.ofNat (48 + n)].toArray⟩ := ⟨_, rfl⟩
  rw [← hS] at hcv
  have HS := Lib.hid hS
  clear hS
  go_enter Try.func21, Try.ntmps21
  go_wp2_with fail
  go_ret
  exact ⟨by rw [HD.out, HS.out]; rfl, (Below.refl _ _).alloc (Nat.le_refl _) _⟩
set_option maxRecDepth 100000 in
set_option maxHeartbeats 1000000 in
theorem rdig_any (k : Nat) : ∀ (n : Nat) (w : World), n ≤ k → n ≤ 9007199254740992 →
    Calls Try.prog 21 #[.int .i64 n] w fun e w' => e = .returned (.string ⟨(digs n).toArray⟩) ∧ Below w.heap.size w w' := by
  induction k with
  | zero => intro n w hk hn; exact rdig_one n (by omega) w
  | succ k ih =>
    intro n w hk hn
    by_cases h10 : n < 10
    · exact rdig_one n h10 w
    have HD := Lib.hid (digs_ge h10)
    obtain ⟨q, hqq⟩ : ∃ q, q = n / 10 := ⟨_, rfl⟩
    have hq : (n : Int) / 10 = (q : Int) := by omega
    obtain ⟨d, hd⟩ : ∃ d, d = n % 10 := ⟨_, rfl⟩
    have hm : (n : Int) % 10 = (d : Int) := by omega
    have hd10 : d < 10 := by omega
    have h9 : ¬ (n : Int) < 10 := by omega
    have hn0 : 0 ≤ (n : Int) := by omega
    have hn1 : (n : Int) ≤ 9007199254740992 := by omega
    have HI := Lib.hid (ih q w (by omega) (by omega))
    rw [← hqq, ← hd] at HD
    have l1 := digs_len q 16 (by decide) (by omega)
    have s1 := size_arr (digs q)
    have s2 := size_arr (digs d)
    have l2 := digs_len d 16 (by decide) (by omega)
    have hdd := digs_lt hd10
    have HE : Hid (digs n = digs q ++ digs d) := Lib.hid (by rw [HD.out, hdd])
    obtain ⟨Q, hQ⟩ : ∃ S : ByteArray, S = ⟨(digs q).toArray⟩ := ⟨_, rfl⟩
    obtain ⟨D, hD⟩ : ∃ S : ByteArray, S = ⟨(digs d).toArray⟩ := ⟨_, rfl⟩
    have HJ := Lib.hid (fun w => rdig_one d hd10 w)
    rw [← hQ] at HI s1
    have HJ2 : Hid (∀ w, Calls Try.prog 21 #[.int .i64 d] w fun e w' => e = .returned (.string D) ∧ Below w.heap.size w w') := Lib.hid (by rw [hD]; exact HJ.out)
    rw [← hD] at s2
    have b1 : Q.size ≤ 16 := by omega
    have b2 : D.size ≤ 16 := by omega
    have HQ := Lib.hid hQ
    have HDD := Lib.hid hD
    clear ih HD hqq hd hdd HJ hQ hD l1 l2 s1 s2 h10 hk hn
    go_enter Try.func21, Try.ntmps21
    go_wp2_with (go_at_call 21; first | ((with_reducible refine HI.out.mono ?_); rintro e w2 ⟨rfl, hb⟩) | ((with_reducible refine (HJ2.out _).mono ?_); rintro e w3 ⟨rfl, hb3⟩))
    go_ret
    refine ⟨?_, hb.trans (hb3.mono hb.size)⟩
    rw [HE.out, HQ.out, HDD.out]
    exact ret_str (ba_app _ _)
set_option maxHeartbeats 600000 in
theorem rtext_any (n : Int) (w : World) :
    Calls Try.prog 8 #[.int .i64 n] w fun e w' => e = .returned (.tuple #[.string ⟨(txt n).toArray⟩, .int .i64 (errN (fitB n))]) ∧ Below w.heap.size w w' := by
  cases h : fitB n with
  | false =>
    have H := Lib.hid h
    have HT := Lib.hid (txt_no h)
    clear h
    go_enter Try.func8, Try.ntmps8
    go_wp2_with (go_at_call 10; refine (rfits_no _ H.out _).mono ?_; rintro e w' ⟨rfl, rfl⟩)
    go_ret2
    exact ⟨by rw [HT.out]; rfl, Below.refl _ _⟩
  | true =>
    have hf := fitB_iff.1 h
    by_cases h0 : n < 0
    · have HT := Lib.hid (txt_neg h h0)
      obtain ⟨k, hk⟩ : ∃ k : Nat, n = -(k : Int) := ⟨(-n).toNat, by omega⟩
      subst hk
      have hneg : wrap64 (-(-(k : Int))) = (k : Int) := by rw [Int.neg_neg]; unfold wrap64; omega
      have h1 : IntKind.i64.wrap (-(-(k : Int))) = (k : Int) := by rw [Int.neg_neg]; exact IntWalk.i64_in _ (by omega)
      have h0k : 0 < k := by omega
      have hk1 : k ≤ 9007199254740992 := by omega
      have HR := Lib.hid (rdig_any k k w (Nat.le_refl _) (by omega))
      have l1 := digs_len k 16 (by decide) (by omega)
      have s1 := size_arr (digs k)
      obtain ⟨Q, hQ⟩ : ∃ S : ByteArray, S = ⟨(digs k).toArray⟩ := ⟨_, rfl⟩
      rw [← hQ] at HR s1
      have b1 : Q.size ≤ 16 := by omega
      have HQ := Lib.hid hQ
      have H := Lib.hid h
      clear h hf h0 l1 s1 hQ
      go_enter Try.func8, Try.ntmps8
      go_wp2_with (first | (go_at_call 10; refine (rfits_yes _ H.out _).mono ?_; rintro e w' ⟨rfl, rfl⟩) | (go_at_call 21; (with_reducible refine HR.out.mono ?_); rintro e w2 ⟨rfl, hb⟩))
      go_ret2
      refine ⟨?_, hb⟩
      rw [HT.out, HQ.out, Int.natAbs_neg]
      exact ret_str2 (ba_app [45] _)
    · have HT := Lib.hid (txt_pos h h0)
      obtain ⟨k, hk⟩ : ∃ k : Nat, n = (k : Int) := ⟨n.toNat, by omega⟩
      subst hk
      have HR := Lib.hid (rdig_any k k w (Nat.le_refl _) (by omega))
      have l1 := digs_len k 16 (by decide) (by omega)
      have s1 := size_arr (digs k)
      obtain ⟨Q, hQ⟩ : ∃ S : ByteArray, S = ⟨(digs k).toArray⟩ := ⟨_, rfl⟩
      rw [← hQ] at HR s1
      have b1 : Q.size ≤ 16 := by omega
      have HQ := Lib.hid hQ
      have H := Lib.hid h
      clear h hf l1 s1 hQ
      go_enter Try.func8, Try.ntmps8
      go_wp2_with (first | (go_at_call 10; refine (rfits_yes _ H.out _).mono ?_; rintro e w' ⟨rfl, rfl⟩) | (go_at_call 21; (with_reducible refine HR.out.mono ?_); rintro e w2 ⟨rfl, hb⟩))
      go_ret2
      refine ⟨?_, hb⟩
      rw [HT.out, HQ.out]
      rfl
set_option maxHeartbeats 1000000 in
theorem rlen_any (n : Int) (w : World) :
    Calls Try.prog 12 #[.int .i64 n] w fun e w' => e = .returned (.int .i64 (txt n).length) ∧ Below w.heap.size w w' := by
  have HT := Lib.hid (rtext_any n w)
  have hs := size_arr (txt n)
  obtain ⟨S, hS⟩ : ∃ S : ByteArray, S = ⟨(txt n).toArray⟩ := ⟨_, rfl⟩
  rw [← hS] at HT hs
  have HS := Lib.hid hs
  clear hs hS
  go_enter Try.func12, Try.ntmps12
  go_wp2_with (go_at_call 8; refine HT.out.mono ?_; rintro e w2 ⟨rfl, hb⟩)
  go_ret
  exact ⟨by rw [← HS.out]; rfl, hb⟩
end Go.Proofs.Ytgbbbcojeaolbaa
