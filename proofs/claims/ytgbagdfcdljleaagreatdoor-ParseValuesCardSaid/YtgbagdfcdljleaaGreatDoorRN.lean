/-
  Contracts of Fits, Digit, digits, Text, Len, of the reference of package number. · The contracts of Scan and Read, of the reference of package number.
-/
import Derived.Test.YtgbagdfcdljleaaGreatDoorNA
import Derived.Test.YtgbagdfcdljleaaGreatDoorNScan
set_option linter.unusedVariables false
set_option linter.unusedSimpArgs false
namespace Go.Proofs.YtgbagdfcdljleaaGreatDoor.Nu
open Go.RowKit

theorem rdigit_any (c : UInt8) (w : World) : Calls Tryz.prog 17 #[.int .u8 c.toNat] w fun e w' => e = .returned (.bool (isD c)) ∧ w = w' := by
  have e : isD c = (decide (48 ≤ c.toNat) && decide (c.toNat ≤ 57)) := rfl
  have E := Lib.hid e
  clear e
  by_cases h1 : 48 ≤ c.toNat <;> by_cases h2 : c.toNat ≤ 57 <;> first | (exfalso; omega) | skip
  all_goals
    go_enter Tryz.func17, Tryz.ntmps17
    go_wp2
    go_ret
    exact ⟨by rw [E.out]; simp [*] <;> omega, rfl⟩
theorem rdigit_yes (c : UInt8) (h : isD c = true) (w : World) : Calls Tryz.prog 17 #[.int .u8 c.toNat] w fun e w' => e = .returned (.bool true) ∧ w = w' := h ▸ rdigit_any c w
theorem rdigit_no (c : UInt8) (h : isD c = false) (w : World) : Calls Tryz.prog 17 #[.int .u8 c.toNat] w fun e w' => e = .returned (.bool false) ∧ w = w' := h ▸ rdigit_any c w

theorem ba_app (a b : List UInt8) : ((⟨a.toArray⟩ : ByteArray) ++ (⟨b.toArray⟩ : ByteArray)) = ⟨(a ++ b).toArray⟩ := by
  apply ByteArray.ext
  rw [ByteArray.data_append]
  simp
theorem ret_str {a b : ByteArray} (h : a = b) : Ending.returned (.string a) = .returned (.string b) := by rw [h]
theorem ret_str2 {a b : ByteArray} {v : Value} (h : a = b) : Ending.returned (.tuple #[.string a, v]) = .returned (.tuple #[.string b, v]) := by rw [h]
theorem conv_one (w : World) (d : Nat) (h : d < 10) :
    (convert 57 9 (.slice (some ⟨w.heap.size, 0, none⟩) 1 1)).run Tryz.prog (w.alloc (.cells #[.int .u8 (48 + (d : Int))] 5)) = .ok (.string ⟨[UInt8.ofNat (48 + d)].toArray⟩) (w.alloc (.cells #[.int .u8 (48 + (d : Int))] 5)) := by
  refine run_convert_bytes_back (P := Tryz.prog) _ 57 9 5 ⟨w.heap.size, 0, none⟩ 1 [UInt8.ofNat (48 + d)] Tryz.underlying57 Tryz.underlying5 Tryz.underlying9 (fun j hj => ?_)
  match j, hj with
  | 0, _ =>
    simp only [List.getElem_cons_zero]
    rw [ofD h]
    simp [Addr.add]

end Go.Proofs.YtgbagdfcdljleaaGreatDoor.Nu

namespace Go.Proofs.YtgbagdfcdljleaaGreatDoor.Nu
open Go.RowKit

set_option maxRecDepth 100000 in
set_option maxHeartbeats 2000000 in
theorem rscan_low (s : ByteArray) (at_ : Int) (h : at_ < 0) (w : World) :
    Calls Tryz.prog 18 #[.string s, .int .i64 at_] w fun e w' => e = .returned (scanV (scanL s.data.toList at_)) ∧ w = w' := by
  have HS : Hid (scanL s.data.toList at_ = (0, 0, 2)) := Lib.hid (by unfold scanL; rw [if_pos (.inl h)])
  go_enter Tryz.func18, Tryz.ntmps18
  go_wp2_with fail
  go_ret3
  exact ⟨by rw [HS.out]; rfl, rfl⟩
set_option maxRecDepth 100000 in
set_option maxHeartbeats 2000000 in
theorem rscan_high (s : ByteArray) (hs : s.size ≤ maxLen) (at_ : Int) (h0 : 0 ≤ at_) (h : (s.size : Int) < at_) (w : World) :
    Calls Tryz.prog 18 #[.string s, .int .i64 at_] w fun e w' => e = .returned (scanV (scanL s.data.toList at_)) ∧ w = w' := by
  unfold maxLen at hs
  have HS : Hid (scanL s.data.toList at_ = (0, 0, 2)) := Lib.hid (by unfold scanL; rw [if_pos (.inr (by rw [toList_length]; exact h))])
  have h0' : ¬ at_ < 0 := by omega
  go_enter Tryz.func18, Tryz.ntmps18
  go_wp2_with fail
  go_ret3
  exact ⟨by rw [HS.out]; rfl, rfl⟩

/-- What the loop of the reference's Scan keeps: V: the digits' value so far; v, b: the capped number, and whether it is too great. -/
def capB (V v : Nat) (b : Bool) : Prop := (b = true ∧ 9007199254740992 < V ∧ v = 9007199254740992) ∨ (b = false ∧ V = v ∧ v ≤ 9007199254740992)
theorem capB_le {V v : Nat} {b : Bool} (h : capB V v b) : v ≤ 9007199254740992 := by
  rcases h with ⟨_, _, h⟩ | ⟨_, _, h⟩ <;> omega
theorem capB_big {V v d : Nat} {b : Bool} (h : capB V v b) (hx : 9007199254740992 < v * 10 + d) : capB (V * 10 + d) 9007199254740992 true := by
  rcases h with ⟨_, h1, h2⟩ | ⟨_, h1, h2⟩
  · exact .inl ⟨rfl, by omega, rfl⟩
  · exact .inl ⟨rfl, by omega, rfl⟩
theorem capB_fit {V v d : Nat} {b : Bool} (h : capB V v b) (hx : v * 10 + d ≤ 9007199254740992) : b = false ∧ capB (V * 10 + d) (v * 10 + d) false := by
  rcases h with ⟨_, h1, h2⟩ | ⟨h0, h1, h2⟩
  · omega
  · exact ⟨h0, .inr ⟨rfl, by omega, by omega⟩⟩
theorem capB_wL {l : List UInt8} {f v : Nat} {b : Bool} (h : capB (val (dig l f)) v b) : wL (dig l f) = if b then (0, false) else ((v : Int), true) := by
  unfold wL
  rcases h with ⟨rfl, h1, h2⟩ | ⟨rfl, h1, h2⟩
  · rw [if_neg (by omega)]; rfl
  · rw [h1, if_pos h2]; rfl
theorem dig_snoc (s : ByteArray) (f j : Nat) (hj : j < (dig s.data.toList f).length) (h : f + j < s.size) :
    val ((dig s.data.toList f).take (j + 1)) = val ((dig s.data.toList f).take j) * 10 + (s[f + j].toNat - 48) := by
  have e : (dig s.data.toList f)[j] = s[f + j] := by
    have h1 : (dig s.data.toList f)[j]? = s.data.toList[f + j]? := by
      rw [dig_take, List.getElem?_take, if_pos hj, List.getElem?_drop]
    rw [List.getElem?_eq_getElem hj, toList_getElem s _ h] at h1
    exact Option.some.inj h1
  rw [List.take_succ_eq_append_getElem hj, val_snoc, e]
theorem beqN {c : UInt8} {n : Nat} (hn : n < 256) (h : c ≠ UInt8.ofNat n) : ((c.toNat : Int) == (n : Int)) = false := by
  rw [beq_eq_false_iff_ne]; intro e
  refine h (UInt8.toNat_inj.1 ?_)
  rw [UInt8.toNat_ofNat']; omega
theorem misL_zero {l : List UInt8} {f d : Nat} (h : d = 0) : misL l f d = ((f : Int), true) := by unfold misL; rw [if_pos h]
theorem misL_lead {l : List UInt8} {f d : Nat} (h : 1 < d) (h2 : l.getD f 0 = 48) : misL l f d = ((f : Int) + 1, true) := by unfold misL; rw [if_neg (by omega), if_pos ⟨h2, h⟩]
theorem misL_stop {l : List UInt8} {f d : Nat} (h : d ≠ 0) (h2 : ¬ (l.getD f 0 = 48 ∧ 1 < d)) (h3 : stopB (l.getD (f + d) 0) = true) : misL l f d = (((f + d : Nat) : Int), true) := by unfold misL; rw [if_neg h, if_neg h2, if_pos h3]; simp
theorem misL_no {l : List UInt8} {f d : Nat} (h : d ≠ 0) (h2 : ¬ (l.getD f 0 = 48 ∧ 1 < d)) (h3 : stopB (l.getD (f + d) 0) = false) : misL l f d = (0, false) := by unfold misL; rw [if_neg h, if_neg h2, h3]; rfl
theorem stop_cases {c : UInt8} (h : stopB c = true) : c = 46 ∨ (c ≠ 46 ∧ c = 101) ∨ (c ≠ 46 ∧ c ≠ 101 ∧ c = 69) := by
  by_cases h1 : c = 46
  · exact .inl h1
  by_cases h2 : c = 101
  · exact .inr (.inl ⟨h1, h2⟩)
  refine .inr (.inr ⟨h1, h2, ?_⟩)
  simpa [stopB, h1, h2] using h
theorem stop_none {c : UInt8} (h : stopB c = false) : c ≠ 46 ∧ c ≠ 101 ∧ c ≠ 69 := by simpa [stopB, and_assoc] using h

set_option maxRecDepth 100000 in
set_option maxHeartbeats 8000000 in
theorem rscan_false (s : ByteArray) (hs : s.size ≤ maxLen) (k : Nat) (hk : k ≤ s.size) (hm : s.data.toList.getD k 0 ≠ 45) (w : World) :
    Calls Tryz.prog 18 #[.string s, .int .i64 k] w fun e w' => e = .returned (scanV (scanB s.data.toList k false k)) ∧ w = w' := by
  have h45 : ∀ h : k < s.size, (((s[k]'h).toNat : Int) == 45) = false := fun h => by
    rw [toList_getD s k h] at hm
    exact beqN (n := 45) (by decide) hm
  have H45 := Lib.hid h45
  clear h45
  obtain ⟨f, hf⟩ : ∃ f, k = f := ⟨_, rfl⟩
  subst hf
  have hfs : k ≤ s.size := hk
  have hM9 := Lib.hid hs
  unfold maxLen at hs
  obtain ⟨d, hd⟩ : ∃ d, d = (dig s.data.toList k).length := ⟨_, rfl⟩
  have hdl := dig_le s.data.toList k
  rw [← hd, toList_length] at hdl
  have hfd : k + d ≤ s.size := by omega
  obtain ⟨hF1, hF2⟩ := dig_facts s k
  rw [← hd] at hF1
  have HF1 := Lib.hid hF1
  have HF2 : Hid (∀ h : k + d < s.size, isD (s[k + d]'h) = false) := Lib.hid (by subst hd; exact hF2)
  have HSn : Hid (∀ j, j < d → ∀ h : k + j < s.size, val ((dig s.data.toList k).take (j + 1)) = val ((dig s.data.toList k).take j) * 10 + (s[k + j].toNat - 48)) := Lib.hid (by subst hd; exact dig_snoc s k)
  obtain ⟨en, hen⟩ : ∃ en : Nat, en = k + d := ⟨_, rfl⟩
  have hen1 : en ≤ s.size := by omega
  have hen2 : k ≤ en := by omega
  have HTk : Hid ((dig s.data.toList k).take d = dig s.data.toList k) := Lib.hid (by rw [hd]; exact List.take_length)
  have HD := Lib.hid hd
  have HE := Lib.hid hen
  have hk1 : ¬ (s.size : Int) < k := by omega
  have hk0 : ¬ (k : Int) < 0 := by omega
  clear hm hF1 hF2 hd hdl hfd hen
  by_cases hks : k < s.size
  · have h45 := H45.out hks
    clear H45
    go_enter Tryz.func18, Tryz.ntmps18
    go_wp2
    go_loop [7, 10, 11] (fun v n g => ∃ (q x : Nat) (b : Bool), k ≤ q ∧ q ≤ en ∧ v = .int .i64 q ∧ n = .int .i64 x ∧ g = .bool b ∧ x ≤ 9007199254740992 ∧ Hid (capB (val ((dig s.data.toList k).take (q - k))) x b) ∧ Hid (k + 1 < q → s.data.toList.getD k 0 ≠ 48)) (fun v _ _ => en - (intOf v).toNat)
    case atStart => exact ⟨k, 0, false, by omega, by omega, rfl, rfl, rfl, by omega, Lib.hid (by rw [Nat.sub_self]; exact .inr ⟨rfl, rfl, by omega⟩), Lib.hid (fun h => by omega)⟩
    case round =>
      obtain ⟨q, x, b, hq1, hq2, rfl, rfl, rfl, hx, hcap, hlead⟩ := hrel
      by_cases hlt : q < en
      · obtain ⟨hqs, hdq⟩ : ∃ h : q < s.size, isD (s[q]'h) = true := by
          obtain ⟨h, h2⟩ := HF1.out (q - k) (by have := HE.out; omega)
          have e : k + (q - k) = q := by omega
          simp only [e] at h h2
          exact ⟨h, h2⟩
        have hsn : val ((dig s.data.toList k).take (q + 1 - k)) = val ((dig s.data.toList k).take (q - k)) * 10 + ((s[q]'hqs).toNat - 48) := by
          have e : k + (q - k) = q := by omega
          have e2 : q + 1 - k = q - k + 1 := by omega
          rw [e2, HSn.out (q - k) (by have := HE.out; omega) (by omega)]
          simp only [e]
        have hfz : k < s.size := by omega
        have hg := toList_getD s k hfz
        have hc := isD_iff.1 hdq
        obtain ⟨c0, c1⟩ := hc
        obtain ⟨dd, hdd⟩ : ∃ dd : Nat, dd = s[q].toNat - 48 := ⟨_, rfl⟩
        have hdi : (s[q].toNat : Int) - 48 = (dd : Int) := by omega
        rw [← hdd] at hsn
        have HDQ := Lib.hid hdq
        have d9 : dd ≤ 9 := by omega
        by_cases hl : q = k + 1 ∧ s[k] = 48
        · obtain ⟨rfl, h48⟩ := hl
          have HMis := Lib.hid (misL_lead (l := s.data.toList) (f := k) (d := d) (by have := HE.out; omega) (by rw [hg]; exact h48))
          have HS := Lib.hid (scanB_bad (k := k) (m := false) HD.out HMis.out)
          have hz : ((s[k].toNat : Int) == 48) = true := by rw [h48]; rfl
          have hi : (((k + 1 : Nat) : Int) == (k : Int) + 1) = true := by rw [beq_iff_eq]; omega
          clear hsn hdq hg h48 hdd hcap hlead
          go_wp2_with (go_at_call 17; refine (rdigit_yes _ HDQ.out _).mono ?_; rintro e w' ⟨rfl, rfl⟩)
          go_ret3
          exact ⟨by rw [HS.out]; rfl, rfl⟩
        have HL : Hid (k + 1 < q + 1 → s.data.toList.getD k 0 ≠ 48) := Lib.hid (fun h => by
          by_cases e : q = k + 1
          · rw [hg]; exact fun h2 => hl ⟨e, h2⟩
          · exact hlead.out (by omega))
        have two : (((q : Int) == (k : Int) + 1) = false) ∨ (((q : Int) == (k : Int) + 1) = true ∧ ((s[k].toNat : Int) == 48) = false) := by
          by_cases e : q = k + 1
          · exact .inr ⟨by rw [beq_iff_eq]; omega, beqN (n := 48) (by decide) (fun h2 => hl ⟨e, h2⟩)⟩
          · exact .inl (by rw [beq_eq_false_iff_ne]; omega)
        by_cases ho : 9007199254740992 < x * 10 + dd
        · have HC := Lib.hid (capB_big hcap.out ho)
          rw [← hsn] at HC
          have hgt : (9007199254740992 : Int) < (x : Int) * 10 + dd := by omega
          clear hsn hdq hg hdd hcap hlead hl
          rcases two with h1 | ⟨h1, h2⟩
          all_goals
            go_wp2_with (go_at_call 17; refine (rdigit_yes _ HDQ.out _).mono ?_; rintro e w' ⟨rfl, rfl⟩)
            go_round
            case rel => exact ⟨q + 1, 9007199254740992, true, by omega, by omega, by go_num, rfl, rfl, by omega, HC, HL⟩
            case measure => simp [intOf]; omega
        · obtain ⟨rfl, hc2⟩ := capB_fit hcap.out (by omega : x * 10 + dd ≤ 9007199254740992)
          have HC := Lib.hid hc2
          rw [← hsn] at HC
          have hgt : ¬ (9007199254740992 : Int) < (x : Int) * 10 + dd := by omega
          clear hsn hdq hg hdd hcap hlead hl hc2
          rcases two with h1 | ⟨h1, h2⟩
          all_goals
            go_wp2_with (go_at_call 17; refine (rdigit_yes _ HDQ.out _).mono ?_; rintro e w' ⟨rfl, rfl⟩)
            go_round
            case rel => exact ⟨q + 1, x * 10 + dd, false, by omega, by omega, by go_num, by go_num, rfl, by omega, HC, HL⟩
            case measure => simp [intOf]; omega
      · obtain rfl : q = en := by omega
        have hnd : ∀ h : q < s.size, isD (s[q]'h) = false := by
          have e := HE.out
          subst e
          exact HF2.out
        have hcap2 : capB (val (dig s.data.toList k)) x b := by
          have h := hcap.out
          rw [show q - k = d by have := HE.out; omega, HTk.out] at h
          exact h
        have HWl := Lib.hid (capB_wL hcap2)
        have HN : Hid (¬ (s.data.toList.getD k 0 = 48 ∧ 1 < d)) := Lib.hid (fun h => hlead.out (by have := HE.out; omega) h.1)
        clear hcap hcap2 hlead
        by_cases d0 : d = 0
        · have HMis := Lib.hid (misL_zero (l := s.data.toList) (f := k) d0)
          have HS := Lib.hid (scanB_bad (k := k) (m := false) HD.out HMis.out)
          obtain rfl : k = q := by have := HE.out; omega
          clear d0
          by_cases hqs : k < s.size
          · have HDQ := Lib.hid (hnd hqs)
            clear hnd
            go_wp2_with (go_at_call 17; refine (rdigit_no _ HDQ.out _).mono ?_; rintro e w' ⟨rfl, rfl⟩)
            go_ret3
            exact ⟨by rw [HS.out]; rfl, rfl⟩
          · exact absurd hks hqs
        have hne : ((q : Int) == (k : Int)) = false := by rw [beq_eq_false_iff_ne]; have := HE.out; omega
        have hD0 := Lib.hid d0
        clear d0
        by_cases hqs : q < s.size
        · have hge : s.data.toList.getD (k + d) 0 = s[q] := by
            rw [← HE.out]; exact toList_getD s q hqs
          have HDQ := Lib.hid (hnd hqs)
          clear hnd
          cases hst : stopB s[q] with
          | true =>
            have HMis := Lib.hid (misL_stop hD0.out HN.out (by rw [hge]; exact hst))
            rw [← HE.out] at HMis
            have HS := Lib.hid (scanB_bad (k := k) (m := false) HD.out HMis.out)
            have hsc := stop_cases hst
            clear hge hst
            rcases hsc with h1 | ⟨h1, h2⟩ | ⟨h1, h2, h3⟩
            · have e1 : ((s[q].toNat : Int) == 46) = true := by rw [h1]; rfl
              clear h1
              go_wp2_with (go_at_call 17; refine (rdigit_no _ HDQ.out _).mono ?_; rintro e w' ⟨rfl, rfl⟩)
              go_ret3
              exact ⟨by rw [HS.out]; rfl, rfl⟩
            · have e1 : ((s[q].toNat : Int) == 46) = false := beqN (n := 46) (by decide) h1
              have e2 : ((s[q].toNat : Int) == 101) = true := by rw [h2]; rfl
              clear h1 h2
              go_wp2_with (go_at_call 17; refine (rdigit_no _ HDQ.out _).mono ?_; rintro e w' ⟨rfl, rfl⟩)
              go_ret3
              exact ⟨by rw [HS.out]; rfl, rfl⟩
            · have e1 : ((s[q].toNat : Int) == 46) = false := beqN (n := 46) (by decide) h1
              have e2 : ((s[q].toNat : Int) == 101) = false := beqN (n := 101) (by decide) h2
              have e3 : ((s[q].toNat : Int) == 69) = true := by rw [h3]; rfl
              clear h1 h2 h3
              go_wp2_with (go_at_call 17; refine (rdigit_no _ HDQ.out _).mono ?_; rintro e w' ⟨rfl, rfl⟩)
              go_ret3
              exact ⟨by rw [HS.out]; rfl, rfl⟩
          | false =>
            have HMis := Lib.hid (misL_no hD0.out HN.out (by rw [hge]; exact hst))
            obtain ⟨h1, h2, h3⟩ := stop_none hst
            have e1 : ((s[q].toNat : Int) == 46) = false := beqN (n := 46) (by decide) h1
            have e2 : ((s[q].toNat : Int) == 101) = false := beqN (n := 101) (by decide) h2
            have e3 : ((s[q].toNat : Int) == 69) = false := beqN (n := 69) (by decide) h3
            clear h1 h2 h3 hge hst
            cases b with
            | true =>
              have HS := Lib.hid (scanB_big (k := k) (m := false) HD.out HMis.out HWl.out)
              go_wp2_with (go_at_call 17; refine (rdigit_no _ HDQ.out _).mono ?_; rintro e w' ⟨rfl, rfl⟩)
              go_ret3
              exact ⟨by rw [HS.out]; rfl, rfl⟩
            | false =>
              have HS := Lib.hid (scanB_pos (k := k) HD.out HMis.out HWl.out)
              rw [← HE.out] at HS
              go_wp2_with (go_at_call 17; refine (rdigit_no _ HDQ.out _).mono ?_; rintro e w' ⟨rfl, rfl⟩)
              go_ret3
              exact ⟨by rw [HS.out]; rfl, rfl⟩
        · have hge : s.data.toList.getD (k + d) 0 = 0 := by
            rw [← HE.out]; exact toList_getD_end s q (by omega)
          have HMis := Lib.hid (misL_no hD0.out HN.out (by rw [hge]; rfl))
          clear hnd hge
          cases b with
          | true =>
            have HS := Lib.hid (scanB_big (k := k) (m := false) HD.out HMis.out HWl.out)
            go_wp2_with fail
            go_ret3
            exact ⟨by rw [HS.out]; rfl, rfl⟩
          | false =>
            have HS := Lib.hid (scanB_pos (k := k) HD.out HMis.out HWl.out)
            rw [← HE.out] at HS
            go_wp2_with fail
            go_ret3
            exact ⟨by rw [HS.out]; rfl, rfl⟩
  · clear H45
    go_enter Tryz.func18, Tryz.ntmps18
    go_wp2
    go_loop [7, 10, 11] (fun v n g => ∃ (q x : Nat) (b : Bool), k ≤ q ∧ q ≤ en ∧ v = .int .i64 q ∧ n = .int .i64 x ∧ g = .bool b ∧ x ≤ 9007199254740992 ∧ Hid (capB (val ((dig s.data.toList k).take (q - k))) x b) ∧ Hid (k + 1 < q → s.data.toList.getD k 0 ≠ 48)) (fun v _ _ => en - (intOf v).toNat)
    case atStart => exact ⟨k, 0, false, by omega, by omega, rfl, rfl, rfl, by omega, Lib.hid (by rw [Nat.sub_self]; exact .inr ⟨rfl, rfl, by omega⟩), Lib.hid (fun h => by omega)⟩
    case round =>
      obtain ⟨q, x, b, hq1, hq2, rfl, rfl, rfl, hx, hcap, hlead⟩ := hrel
      have HMis := Lib.hid (misL_zero (l := s.data.toList) (f := k) (d := d) (by have := HE.out; omega))
      have HS := Lib.hid (scanB_bad (k := k) (m := false) HD.out HMis.out)
      obtain rfl : k = q := by omega
      clear hcap hlead
      go_wp2_with fail
      go_ret3
      exact ⟨by rw [HS.out]; rfl, rfl⟩

set_option maxRecDepth 100000 in
set_option maxHeartbeats 8000000 in
theorem rscan_true (s : ByteArray) (hs : s.size ≤ maxLen) (k : Nat) (hk : k ≤ s.size) (hm : s.data.toList.getD k 0 = 45) (w : World) :
    Calls Tryz.prog 18 #[.string s, .int .i64 k] w fun e w' => e = .returned (scanV (scanB s.data.toList k true (k + 1))) ∧ w = w' := by
  have hk2 : k < s.size := by
    rcases Nat.lt_or_ge k s.size with h | h
    · exact h
    · rw [toList_getD_end s k h] at hm; exact absurd hm (by decide)
  obtain ⟨f, hf⟩ : ∃ f, f = k + 1 := ⟨_, rfl⟩
  rw [← hf]
  have hfi : (k : Int) + 1 = (f : Int) := by omega
  have hfs : f ≤ s.size := by omega
  rw [toList_getD s k hk2] at hm
  have h45 : ((s[k].toNat : Int) == 45) = true := by rw [hm]; rfl
  have hM9 := Lib.hid hs
  unfold maxLen at hs
  obtain ⟨d, hd⟩ : ∃ d, d = (dig s.data.toList f).length := ⟨_, rfl⟩
  have hdl := dig_le s.data.toList f
  rw [← hd, toList_length] at hdl
  have hfd : f + d ≤ s.size := by omega
  obtain ⟨hF1, hF2⟩ := dig_facts s f
  rw [← hd] at hF1
  have HF1 := Lib.hid hF1
  have HF2 : Hid (∀ h : f + d < s.size, isD (s[f + d]'h) = false) := Lib.hid (by subst hd; exact hF2)
  have HSn : Hid (∀ j, j < d → ∀ h : f + j < s.size, val ((dig s.data.toList f).take (j + 1)) = val ((dig s.data.toList f).take j) * 10 + (s[f + j].toNat - 48)) := Lib.hid (by subst hd; exact dig_snoc s f)
  obtain ⟨en, hen⟩ : ∃ en : Nat, en = f + d := ⟨_, rfl⟩
  have hen1 : en ≤ s.size := by omega
  have hen2 : f ≤ en := by omega
  have HTk : Hid ((dig s.data.toList f).take d = dig s.data.toList f) := Lib.hid (by rw [hd]; exact List.take_length)
  have HD := Lib.hid hd
  have HE := Lib.hid hen
  have hk1 : ¬ (s.size : Int) < k := by omega
  have hk0 : ¬ (k : Int) < 0 := by omega
  clear hm hF1 hF2 hd hdl hfd hen hf
  go_enter Tryz.func18, Tryz.ntmps18
  go_wp2
  go_loop [7, 10, 11] (fun v n g => ∃ (q x : Nat) (b : Bool), f ≤ q ∧ q ≤ en ∧ v = .int .i64 q ∧ n = .int .i64 x ∧ g = .bool b ∧ x ≤ 9007199254740992 ∧ Hid (capB (val ((dig s.data.toList f).take (q - f))) x b) ∧ Hid (f + 1 < q → s.data.toList.getD f 0 ≠ 48)) (fun v _ _ => en - (intOf v).toNat)
  case atStart => exact ⟨f, 0, false, by omega, by omega, rfl, rfl, rfl, by omega, Lib.hid (by rw [Nat.sub_self]; exact .inr ⟨rfl, rfl, by omega⟩), Lib.hid (fun h => by omega)⟩
  case round =>
    obtain ⟨q, x, b, hq1, hq2, rfl, rfl, rfl, hx, hcap, hlead⟩ := hrel
    by_cases hlt : q < en
    · obtain ⟨hqs, hdq⟩ : ∃ h : q < s.size, isD (s[q]'h) = true := by
        obtain ⟨h, h2⟩ := HF1.out (q - f) (by have := HE.out; omega)
        have e : f + (q - f) = q := by omega
        simp only [e] at h h2
        exact ⟨h, h2⟩
      have hsn : val ((dig s.data.toList f).take (q + 1 - f)) = val ((dig s.data.toList f).take (q - f)) * 10 + ((s[q]'hqs).toNat - 48) := by
        have e : f + (q - f) = q := by omega
        have e2 : q + 1 - f = q - f + 1 := by omega
        rw [e2, HSn.out (q - f) (by have := HE.out; omega) (by omega)]
        simp only [e]
      have hfz : f < s.size := by omega
      have hg := toList_getD s f hfz
      have hc := isD_iff.1 hdq
      obtain ⟨c0, c1⟩ := hc
      obtain ⟨dd, hdd⟩ : ∃ dd : Nat, dd = s[q].toNat - 48 := ⟨_, rfl⟩
      have hdi : (s[q].toNat : Int) - 48 = (dd : Int) := by omega
      rw [← hdd] at hsn
      have HDQ := Lib.hid hdq
      have d9 : dd ≤ 9 := by omega
      by_cases hl : q = f + 1 ∧ s[f] = 48
      · obtain ⟨rfl, h48⟩ := hl
        have HMis := Lib.hid (misL_lead (l := s.data.toList) (f := f) (d := d) (by have := HE.out; omega) (by rw [hg]; exact h48))
        have HS := Lib.hid (scanB_bad (k := k) (m := true) HD.out HMis.out)
        have hz : ((s[f].toNat : Int) == 48) = true := by rw [h48]; rfl
        have hi : (((f + 1 : Nat) : Int) == (f : Int) + 1) = true := by rw [beq_iff_eq]; omega
        clear hsn hdq hg h48 hdd hcap hlead
        go_wp2_with (go_at_call 17; refine (rdigit_yes _ HDQ.out _).mono ?_; rintro e w' ⟨rfl, rfl⟩)
        go_ret3
        exact ⟨by rw [HS.out]; rfl, rfl⟩
      have HL : Hid (f + 1 < q + 1 → s.data.toList.getD f 0 ≠ 48) := Lib.hid (fun h => by
        by_cases e : q = f + 1
        · rw [hg]; exact fun h2 => hl ⟨e, h2⟩
        · exact hlead.out (by omega))
      have two : (((q : Int) == (f : Int) + 1) = false) ∨ (((q : Int) == (f : Int) + 1) = true ∧ ((s[f].toNat : Int) == 48) = false) := by
        by_cases e : q = f + 1
        · exact .inr ⟨by rw [beq_iff_eq]; omega, beqN (n := 48) (by decide) (fun h2 => hl ⟨e, h2⟩)⟩
        · exact .inl (by rw [beq_eq_false_iff_ne]; omega)
      by_cases ho : 9007199254740992 < x * 10 + dd
      · have HC := Lib.hid (capB_big hcap.out ho)
        rw [← hsn] at HC
        have hgt : (9007199254740992 : Int) < (x : Int) * 10 + dd := by omega
        clear hsn hdq hg hdd hcap hlead hl
        rcases two with h1 | ⟨h1, h2⟩
        all_goals
          go_wp2_with (go_at_call 17; refine (rdigit_yes _ HDQ.out _).mono ?_; rintro e w' ⟨rfl, rfl⟩)
          go_round
          case rel => exact ⟨q + 1, 9007199254740992, true, by omega, by omega, by go_num, rfl, rfl, by omega, HC, HL⟩
          case measure => simp [intOf]; omega
      · obtain ⟨rfl, hc2⟩ := capB_fit hcap.out (by omega : x * 10 + dd ≤ 9007199254740992)
        have HC := Lib.hid hc2
        rw [← hsn] at HC
        have hgt : ¬ (9007199254740992 : Int) < (x : Int) * 10 + dd := by omega
        clear hsn hdq hg hdd hcap hlead hl hc2
        rcases two with h1 | ⟨h1, h2⟩
        all_goals
          go_wp2_with (go_at_call 17; refine (rdigit_yes _ HDQ.out _).mono ?_; rintro e w' ⟨rfl, rfl⟩)
          go_round
          case rel => exact ⟨q + 1, x * 10 + dd, false, by omega, by omega, by go_num, by go_num, rfl, by omega, HC, HL⟩
          case measure => simp [intOf]; omega
    · obtain rfl : q = en := by omega
      have hnd : ∀ h : q < s.size, isD (s[q]'h) = false := by
        have e := HE.out
        subst e
        exact HF2.out
      have hcap2 : capB (val (dig s.data.toList f)) x b := by
        have h := hcap.out
        rw [show q - f = d by have := HE.out; omega, HTk.out] at h
        exact h
      have HWl := Lib.hid (capB_wL hcap2)
      have HN : Hid (¬ (s.data.toList.getD f 0 = 48 ∧ 1 < d)) := Lib.hid (fun h => hlead.out (by have := HE.out; omega) h.1)
      clear hcap hcap2 hlead
      by_cases d0 : d = 0
      · have HMis := Lib.hid (misL_zero (l := s.data.toList) (f := f) d0)
        have HS := Lib.hid (scanB_bad (k := k) (m := true) HD.out HMis.out)
        obtain rfl : f = q := by have := HE.out; omega
        clear d0
        by_cases hqs : f < s.size
        · have HDQ := Lib.hid (hnd hqs)
          clear hnd
          go_wp2_with (go_at_call 17; refine (rdigit_no _ HDQ.out _).mono ?_; rintro e w' ⟨rfl, rfl⟩)
          go_ret3
          exact ⟨by rw [HS.out]; rfl, rfl⟩
        · clear hnd
          go_wp2_with fail
          go_ret3
          exact ⟨by rw [HS.out]; rfl, rfl⟩
      have hne : ((q : Int) == (f : Int)) = false := by rw [beq_eq_false_iff_ne]; have := HE.out; omega
      have hD0 := Lib.hid d0
      clear d0
      by_cases hqs : q < s.size
      · have hge : s.data.toList.getD (f + d) 0 = s[q] := by
          rw [← HE.out]; exact toList_getD s q hqs
        have HDQ := Lib.hid (hnd hqs)
        clear hnd
        cases hst : stopB s[q] with
        | true =>
          have HMis := Lib.hid (misL_stop hD0.out HN.out (by rw [hge]; exact hst))
          rw [← HE.out] at HMis
          have HS := Lib.hid (scanB_bad (k := k) (m := true) HD.out HMis.out)
          have hsc := stop_cases hst
          clear hge hst
          rcases hsc with h1 | ⟨h1, h2⟩ | ⟨h1, h2, h3⟩
          · have e1 : ((s[q].toNat : Int) == 46) = true := by rw [h1]; rfl
            clear h1
            go_wp2_with (go_at_call 17; refine (rdigit_no _ HDQ.out _).mono ?_; rintro e w' ⟨rfl, rfl⟩)
            go_ret3
            exact ⟨by rw [HS.out]; rfl, rfl⟩
          · have e1 : ((s[q].toNat : Int) == 46) = false := beqN (n := 46) (by decide) h1
            have e2 : ((s[q].toNat : Int) == 101) = true := by rw [h2]; rfl
            clear h1 h2
            go_wp2_with (go_at_call 17; refine (rdigit_no _ HDQ.out _).mono ?_; rintro e w' ⟨rfl, rfl⟩)
            go_ret3
            exact ⟨by rw [HS.out]; rfl, rfl⟩
          · have e1 : ((s[q].toNat : Int) == 46) = false := beqN (n := 46) (by decide) h1
            have e2 : ((s[q].toNat : Int) == 101) = false := beqN (n := 101) (by decide) h2
            have e3 : ((s[q].toNat : Int) == 69) = true := by rw [h3]; rfl
            clear h1 h2 h3
            go_wp2_with (go_at_call 17; refine (rdigit_no _ HDQ.out _).mono ?_; rintro e w' ⟨rfl, rfl⟩)
            go_ret3
            exact ⟨by rw [HS.out]; rfl, rfl⟩
        | false =>
          have HMis := Lib.hid (misL_no hD0.out HN.out (by rw [hge]; exact hst))
          obtain ⟨h1, h2, h3⟩ := stop_none hst
          have e1 : ((s[q].toNat : Int) == 46) = false := beqN (n := 46) (by decide) h1
          have e2 : ((s[q].toNat : Int) == 101) = false := beqN (n := 101) (by decide) h2
          have e3 : ((s[q].toNat : Int) == 69) = false := beqN (n := 69) (by decide) h3
          clear h1 h2 h3 hge hst
          cases b with
          | true =>
            have HS := Lib.hid (scanB_big (k := k) (m := true) HD.out HMis.out HWl.out)
            go_wp2_with (go_at_call 17; refine (rdigit_no _ HDQ.out _).mono ?_; rintro e w' ⟨rfl, rfl⟩)
            go_ret3
            exact ⟨by rw [HS.out]; rfl, rfl⟩
          | false =>
            by_cases hx0 : x = 0
            · subst hx0
              have HS := Lib.hid (scanB_zero (k := k) HD.out HMis.out HWl.out)
              go_wp2_with (go_at_call 17; refine (rdigit_no _ HDQ.out _).mono ?_; rintro e w' ⟨rfl, rfl⟩)
              go_ret3
              exact ⟨by rw [HS.out]; rfl, rfl⟩
            · obtain ⟨hs1, hx1, hx2⟩ := scanB_neg (k := k) HD.out HMis.out HWl.out (by omega)
              have HS := Lib.hid hs1
              rw [← HE.out] at HS
              have hxb : ((x : Int) == 0) = false := by rw [beq_eq_false_iff_ne]; omega
              clear hs1
              go_wp2_with (go_at_call 17; refine (rdigit_no _ HDQ.out _).mono ?_; rintro e w' ⟨rfl, rfl⟩)
              go_ret3
              exact ⟨by rw [HS.out]; rfl, rfl⟩
      · have hge : s.data.toList.getD (f + d) 0 = 0 := by
          rw [← HE.out]; exact toList_getD_end s q (by omega)
        have HMis := Lib.hid (misL_no hD0.out HN.out (by rw [hge]; rfl))
        clear hnd hge
        cases b with
        | true =>
          have HS := Lib.hid (scanB_big (k := k) (m := true) HD.out HMis.out HWl.out)
          go_wp2_with fail
          go_ret3
          exact ⟨by rw [HS.out]; rfl, rfl⟩
        | false =>
          by_cases hx0 : x = 0
          · subst hx0
            have HS := Lib.hid (scanB_zero (k := k) HD.out HMis.out HWl.out)
            go_wp2_with fail
            go_ret3
            exact ⟨by rw [HS.out]; rfl, rfl⟩
          · obtain ⟨hs1, hx1, hx2⟩ := scanB_neg (k := k) HD.out HMis.out HWl.out (by omega)
            have HS := Lib.hid hs1
            rw [← HE.out] at HS
            have hxb : ((x : Int) == 0) = false := by rw [beq_eq_false_iff_ne]; omega
            clear hs1
            go_wp2_with fail
            go_ret3
            exact ⟨by rw [HS.out]; rfl, rfl⟩

theorem rscan_any (s : ByteArray) (hs : s.size ≤ maxLen) (at_ : Int) (w : World) :
    Calls Tryz.prog 18 #[.string s, .int .i64 at_] w fun e w' => e = .returned (scanV (scanL s.data.toList at_)) ∧ w = w' := by
  by_cases h0 : at_ < 0
  · exact rscan_low s at_ h0 w
  by_cases h1 : (s.size : Int) < at_
  · exact rscan_high s hs at_ (by omega) h1 w
  obtain ⟨k, rfl⟩ : ∃ k : Nat, at_ = (k : Int) := ⟨at_.toNat, by omega⟩
  have e : scanL s.data.toList (k : Int) = scanN s.data.toList k := by
    unfold scanL
    rw [if_neg (by rw [toList_length]; omega)]
    rfl
  rw [e]
  unfold scanN
  by_cases hm : s.data.toList.getD k 0 = 45
  · rw [if_pos hm]
    exact rscan_true s hs k (by omega) hm w
  · rw [if_neg hm]
    exact rscan_false s hs k (by omega) hm w
end Go.Proofs.YtgbagdfcdljleaaGreatDoor.Nu
