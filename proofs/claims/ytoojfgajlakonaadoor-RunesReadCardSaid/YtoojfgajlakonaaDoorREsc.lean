/-
  The reference's escape.
-/
import Derived.Test.YtoojfgajlakonaaDoorRFour
import Derived.Test.YtoojfgajlakonaaDoorRBytes
import Derived.Test.YtoojfgajlakonaaDoorUqP
set_option linter.unusedVariables false
namespace Go.Proofs.YtoojfgajlakonaaDoor
open Go.RowKit Go.Shelf

def escV : Option (Nat × Nat) → Value
  | none => .tuple #[.string ⟨#[]⟩, .int .i64 0]
  | some x => .tuple #[.string ⟨(Lib.encodeRune (x.1 : Int)).toArray⟩, .int .i64 (x.2 : Nat)]

theorem getD_drop (l : List UInt8) (q i : Nat) : (l.drop q).getD i 0 = l.getD (q + i) 0 := by
  rw [List.getD, List.getD, List.getElem?_drop]
theorem unitL_four (l : List UInt8) (q : Nat) : unitL (l.drop q) = if l.getD q 0 = 92 ∧ l.getD (q + 1) 0 = 117 then fourO l (q + 2) else none := by
  by_cases h6 : q + 6 ≤ l.length
  · rw [unitL_long (by rw [List.length_drop]; omega), getD_drop, getD_drop, Nat.add_zero, List.drop_drop]
    unfold fourO
    rw [if_pos (by omega : q + 2 + 4 ≤ l.length)]
  · rw [unitL_short (by rw [List.length_drop]; omega)]
    unfold fourO
    rw [if_neg (by omega : ¬ q + 2 + 4 ≤ l.length)]
    split <;> rfl
theorem fourO_lt {l : List UInt8} {q n : Nat} (h : fourO l q = some n) : n < 65536 ∧ q + 4 ≤ l.length := by
  unfold fourO at h
  split at h
  · have := parse16_lt _ _ _ h
    have hl : ((l.drop q).take 4).length = 4 := by rw [List.length_take, List.length_drop]; omega
    rw [hl] at this
    exact ⟨by simpa using this, by assumption⟩
  · cases h

section
variable {l : List UInt8} {p : Nat} (h0 : l.getD p 0 = 92) (h1 : l.getD (p + 1) 0 = 117)
include h0 h1
theorem long_none (h : fourO l (p + 2) = none) : longL (l.drop p) = none := by
  unfold longL; rw [unitL_four, if_pos ⟨h0, h1⟩, h]
theorem long_snd {u : Nat} (h : fourO l (p + 2) = some u) (hs : isSnd u = true) : longL (l.drop p) = none := by
  have hf : isFst u = false := by
    unfold isSnd at hs; unfold isFst
    simp only [Bool.and_eq_true, decide_eq_true_eq] at hs
    rw [decide_eq_false (by omega : ¬ u ≤ 56319), Bool.and_false]
  unfold longL; rw [unitL_four, if_pos ⟨h0, h1⟩, h]; simp only [hf, hs, if_true, Bool.false_eq_true, if_false]
theorem long_one {u : Nat} (h : fourO l (p + 2) = some u) (hf : isFst u = false) (hs : isSnd u = false) : longL (l.drop p) = some (u, 6) := by
  unfold longL; rw [unitL_four, if_pos ⟨h0, h1⟩, h]; simp only [hf, hs, Bool.false_eq_true, if_false]
theorem long_no2 {u : Nat} (h : fourO l (p + 2) = some u) (hf : isFst u = true) (h2 : ¬ (l.getD (p + 6) 0 = 92 ∧ l.getD (p + 7) 0 = 117)) : longL (l.drop p) = none := by
  unfold longL; rw [unitL_four, if_pos ⟨h0, h1⟩, h]; simp only [hf, if_true]
  rw [List.drop_drop, unitL_four, if_neg h2]
theorem long_two {u : Nat} (h : fourO l (p + 2) = some u) (hf : isFst u = true) (h2 : l.getD (p + 6) 0 = 92 ∧ l.getD (p + 7) 0 = 117) :
    longL (l.drop p) = match fourO l (p + 8) with | none => none | some v => if isSnd v then some (65536 + (u - 55296) * 1024 + (v - 56320), 12) else none := by
  unfold longL; rw [unitL_four, if_pos ⟨h0, h1⟩, h]; simp only [hf, if_true]
  rw [List.drop_drop, unitL_four, if_pos h2]
  rfl
end
theorem esc_long {l : List UInt8} {p : Nat} (hl : p + 1 < l.length) (h1 : l.getD (p + 1) 0 = 117) : escL (l.drop p) = longL (l.drop p) := by
  rw [escL_eq (by rw [List.length_drop]; omega), getD_drop, if_pos h1]
theorem esc_mean {l : List UInt8} {p c : Nat} (hl : p + 1 < l.length) (h1 : (l.getD (p + 1) 0).toNat = c) (hc : c ≠ 117) : escL (l.drop p) = if meanN c ≠ 0 then some (meanN c, 2) else none := by
  rw [escL_eq (by rw [List.length_drop]; omega), getD_drop, if_neg (fun e => by rw [e] at h1; exact hc (by rw [← h1]; rfl)), h1]
theorem ext_one (s : ByteArray) (p : Nat) (h : p + 1 < s.size) : s.extract (p + 1) (p + 2) = ⟨#[s[p + 1]]⟩ := by
  apply ByteArray.ext
  apply Array.ext'
  have := Lib.extract_toList s (p + 1) (p + 2)
  rw [show (s.extract (p + 1) (p + 2)).data.toList = (s.extract (p + 1) (p + 2)).toList from (Lib.toList_data _).symm, this]
  show _ = [s[p + 1]]
  rw [show p + 2 - (p + 1) = 0 + 1 by omega, take_cons s (p + 1) 0 h, List.take_zero]

set_option maxRecDepth 100000 in
set_option maxHeartbeats 2000000 in
theorem resc_short (s : ByteArray) (p : Nat) (hp : p < s.size) (h : s.size ≤ p + 1) (hs : s.size ≤ 2000) (w : World) :
    Calls Tryd.prog 36 #[.string s, .int .i64 p] w fun e w' => e = .returned (escV (escL (s.data.toList.drop p))) ∧ Below w.heap.size w w' := by
  rw [escL_short (by rw [drop_len]; omega)]
  unfold escV
  go_enter Tryd.func36, Tryd.ntmps36
  go_wp2_with fail
  go_ret2
  exact ⟨rfl, Below.refl _ _⟩

set_option maxRecDepth 100000 in
set_option maxHeartbeats 4000000 in
theorem resc_letter (s : ByteArray) (p : Nat) (h : p + 1 < s.size) (hs : s.size ≤ 2000) (h117 : (s[p + 1]'h).toNat ≠ 117) (w : World) :
    Calls Tryd.prog 36 #[.string s, .int .i64 p] w fun e w' => e = .returned (escV (escL (s.data.toList.drop p))) ∧ Below w.heap.size w w' := by
  have hx := ext_one s p h
  have hg : s.data.toList.getD (p + 1) 0 = s[p + 1]'h := by rw [List.getD, toList_getElem s (p + 1) h]; rfl
  have he := esc_mean (l := s.data.toList) (p := p) (c := (s[p + 1]'h).toNat) (by rw [toList_length]; exact h) (by rw [hg]) h117
  rw [he]
  clear he hg
  obtain ⟨c, hc⟩ : ∃ c, s[p + 1]'h = c := ⟨_, rfl⟩
  have hc' : (s[p + 1]'h).toNat = c.toNat := by rw [hc]
  rw [hc] at hx
  rw [hc'] at h117 ⊢
  have hcc := c.toNat_lt
  clear hc
  by_cases e34 : c.toNat = 34
  · obtain rfl : c = 34 := UInt8.toNat_inj.1 e34
    have hr : escV (if meanN ((34 : UInt8).toNat) ≠ 0 then some (meanN ((34 : UInt8).toNat), 2) else none) = .tuple #[.string ⟨#[34]⟩, .int .i64 2] := by kernel_rfl
    rw [hr]
    have hc2 : (s[p + 1]'h).toNat = 34 := hc'
    clear hr hc' h117 e34 hcc
    go_enter Tryd.func36, Tryd.ntmps36
    go_wp2_with fail
    go_ret2
    exact ⟨by first | rfl | (rw [hx]; rfl), Below.refl _ _⟩
  have n34 : ((c.toNat : Int) == 34) = false := by rw [beq_eq_false_iff_ne]; omega
  by_cases e92 : c.toNat = 92
  · obtain rfl : c = 92 := UInt8.toNat_inj.1 e92
    have hr : escV (if meanN ((92 : UInt8).toNat) ≠ 0 then some (meanN ((92 : UInt8).toNat), 2) else none) = .tuple #[.string ⟨#[92]⟩, .int .i64 2] := by kernel_rfl
    rw [hr]
    have hc2 : (s[p + 1]'h).toNat = 92 := hc'
    clear hr hc' h117 e92 hcc
    go_enter Tryd.func36, Tryd.ntmps36
    go_wp2_with fail
    go_ret2
    exact ⟨by first | rfl | (rw [hx]; rfl), Below.refl _ _⟩
  have n92 : ((c.toNat : Int) == 92) = false := by rw [beq_eq_false_iff_ne]; omega
  by_cases e47 : c.toNat = 47
  · obtain rfl : c = 47 := UInt8.toNat_inj.1 e47
    have hr : escV (if meanN ((47 : UInt8).toNat) ≠ 0 then some (meanN ((47 : UInt8).toNat), 2) else none) = .tuple #[.string ⟨#[47]⟩, .int .i64 2] := by kernel_rfl
    rw [hr]
    have hc2 : (s[p + 1]'h).toNat = 47 := hc'
    clear hr hc' h117 e47 hcc
    go_enter Tryd.func36, Tryd.ntmps36
    go_wp2_with fail
    go_ret2
    exact ⟨by first | rfl | (rw [hx]; rfl), Below.refl _ _⟩
  have n47 : ((c.toNat : Int) == 47) = false := by rw [beq_eq_false_iff_ne]; omega
  by_cases e98 : c.toNat = 98
  · obtain rfl : c = 98 := UInt8.toNat_inj.1 e98
    have hr : escV (if meanN ((98 : UInt8).toNat) ≠ 0 then some (meanN ((98 : UInt8).toNat), 2) else none) = .tuple #[.string ⟨#[8]⟩, .int .i64 2] := by kernel_rfl
    rw [hr]
    have hc2 : (s[p + 1]'h).toNat = 98 := hc'
    clear hr hc' h117 e98 hcc
    go_enter Tryd.func36, Tryd.ntmps36
    go_wp2_with fail
    go_ret2
    exact ⟨by first | rfl | (rw [hx]; rfl), Below.refl _ _⟩
  have n98 : ((c.toNat : Int) == 98) = false := by rw [beq_eq_false_iff_ne]; omega
  by_cases e102 : c.toNat = 102
  · obtain rfl : c = 102 := UInt8.toNat_inj.1 e102
    have hr : escV (if meanN ((102 : UInt8).toNat) ≠ 0 then some (meanN ((102 : UInt8).toNat), 2) else none) = .tuple #[.string ⟨#[12]⟩, .int .i64 2] := by kernel_rfl
    rw [hr]
    have hc2 : (s[p + 1]'h).toNat = 102 := hc'
    clear hr hc' h117 e102 hcc
    go_enter Tryd.func36, Tryd.ntmps36
    go_wp2_with fail
    go_ret2
    exact ⟨by first | rfl | (rw [hx]; rfl), Below.refl _ _⟩
  have n102 : ((c.toNat : Int) == 102) = false := by rw [beq_eq_false_iff_ne]; omega
  by_cases e110 : c.toNat = 110
  · obtain rfl : c = 110 := UInt8.toNat_inj.1 e110
    have hr : escV (if meanN ((110 : UInt8).toNat) ≠ 0 then some (meanN ((110 : UInt8).toNat), 2) else none) = .tuple #[.string ⟨#[10]⟩, .int .i64 2] := by kernel_rfl
    rw [hr]
    have hc2 : (s[p + 1]'h).toNat = 110 := hc'
    clear hr hc' h117 e110 hcc
    go_enter Tryd.func36, Tryd.ntmps36
    go_wp2_with fail
    go_ret2
    exact ⟨by first | rfl | (rw [hx]; rfl), Below.refl _ _⟩
  have n110 : ((c.toNat : Int) == 110) = false := by rw [beq_eq_false_iff_ne]; omega
  by_cases e114 : c.toNat = 114
  · obtain rfl : c = 114 := UInt8.toNat_inj.1 e114
    have hr : escV (if meanN ((114 : UInt8).toNat) ≠ 0 then some (meanN ((114 : UInt8).toNat), 2) else none) = .tuple #[.string ⟨#[13]⟩, .int .i64 2] := by kernel_rfl
    rw [hr]
    have hc2 : (s[p + 1]'h).toNat = 114 := hc'
    clear hr hc' h117 e114 hcc
    go_enter Tryd.func36, Tryd.ntmps36
    go_wp2_with fail
    go_ret2
    exact ⟨by first | rfl | (rw [hx]; rfl), Below.refl _ _⟩
  have n114 : ((c.toNat : Int) == 114) = false := by rw [beq_eq_false_iff_ne]; omega
  by_cases e116 : c.toNat = 116
  · obtain rfl : c = 116 := UInt8.toNat_inj.1 e116
    have hr : escV (if meanN ((116 : UInt8).toNat) ≠ 0 then some (meanN ((116 : UInt8).toNat), 2) else none) = .tuple #[.string ⟨#[9]⟩, .int .i64 2] := by kernel_rfl
    rw [hr]
    have hc2 : (s[p + 1]'h).toNat = 116 := hc'
    clear hr hc' h117 e116 hcc
    go_enter Tryd.func36, Tryd.ntmps36
    go_wp2_with fail
    go_ret2
    exact ⟨by first | rfl | (rw [hx]; rfl), Below.refl _ _⟩
  have n116 : ((c.toNat : Int) == 116) = false := by rw [beq_eq_false_iff_ne]; omega
  have n117 : ((c.toNat : Int) == 117) = false := by rw [beq_eq_false_iff_ne]; omega
  have hm : meanN c.toNat = 0 := by
    unfold meanN
    rw [if_neg e47, if_neg e98, if_neg e116, if_neg e110, if_neg e102, if_neg e114, if_neg e34, if_neg e92]
  rw [hm, if_neg (by simp)]
  unfold escV
  clear hm e47 e98 e116 e110 e102 e114 e34 e92 h117 hx
  go_enter Tryd.func36, Tryd.ntmps36
  go_wp2_with fail
  go_ret2
  exact ⟨rfl, Below.refl _ _⟩

set_option maxRecDepth 100000 in
set_option maxHeartbeats 4000000 in
theorem resc_u (s : ByteArray) (p : Nat) (h : p + 1 < s.size) (hs : s.size ≤ 2000) (h92 : s.data.toList.getD p 0 = 92) (h117 : s[p + 1]'h = 117) (w : World) :
    Calls Tryd.prog 36 #[.string s, .int .i64 p] w fun e w' => e = .returned (escV (escL (s.data.toList.drop p))) ∧ Below w.heap.size w w' := by
  have hg : s.data.toList.getD (p + 1) 0 = 117 := by rw [List.getD, toList_getElem s (p + 1) h]; exact h117
  rw [esc_long (l := s.data.toList) (p := p) (by rw [toList_length]; exact h) hg]
  have hc : (s[p + 1]'h).toNat = 117 := by rw [h117]; rfl
  obtain ⟨z, hz⟩ : ∃ z, s.size = z := ⟨_, rfl⟩
  have hp1 : ¬ (z : Int) ≤ (p : Int) + 1 := by omega
  have h4a := rfour_any s (p + 2) (by omega) hs
  have h4b := rfour_any s (p + 8) (by omega) hs
  rw [show ((p + 2 : Nat) : Int) = (p : Int) + 2 by omega] at h4a
  rw [show ((p + 8 : Nat) : Int) = (p : Int) + 8 by omega] at h4b
  cases hU : fourO s.data.toList (p + 2) with
  | none =>
    rw [long_none h92 hg hU]
    rw [hU] at h4a
    simp only [fourI, escV] at h4a ⊢
    have HA := Lib.hid h4a
    clear h4a h4b hU hg h92 h117
    go_enter Tryd.func36, Tryd.ntmps36
    go_wp2_with (go_at_call 43; refine (HA.out _).mono ?_; rintro e w' ⟨rfl, rfl⟩)
    go_ret2
    exact ⟨rfl, Below.refl _ _⟩
  | some u =>
    have hu := (fourO_lt hU).1
    rw [hU] at h4a
    simp only [fourI] at h4a
    have HA := Lib.hid h4a
    clear h4a
    have u0 : decide ((u : Int) < 0) = false := decide_eq_false (by omega)
    cases hsn : isSnd u with
    | true =>
      rw [long_snd h92 hg hU hsn]
      unfold isSnd at hsn
      simp only [Bool.and_eq_true, decide_eq_true_eq] at hsn
      have u1 : decide ((56320 : Int) ≤ (u : Int)) = true := decide_eq_true (by omega)
      have u2 : decide ((u : Int) ≤ 57343) = true := decide_eq_true (by omega)
      simp only [escV]
      clear h4b hU hg h92 h117 hsn hu
      go_enter Tryd.func36, Tryd.ntmps36
      go_wp2_with (go_at_call 43; refine (HA.out _).mono ?_; rintro e w' ⟨rfl, rfl⟩)
      go_ret2
      exact ⟨rfl, Below.refl _ _⟩
    | false =>
      cases hfs : isFst u with
      | false =>
        rw [long_one h92 hg hU hfs hsn]
        unfold isSnd at hsn
        unfold isFst at hfs
        have hr : u < 55296 ∨ 57343 < u := by
          by_cases q1 : 55296 ≤ u
          · by_cases q2 : u ≤ 56319
            · rw [decide_eq_true q1, decide_eq_true q2] at hfs; cases hfs
            · by_cases q3 : u ≤ 57343
              · rw [decide_eq_true (by omega : 56320 ≤ u), decide_eq_true q3] at hsn; cases hsn
              · omega
          · omega
        have HB := Lib.hid (rbytes_any u (by omega) hr)
        simp only [escV]
        clear h4b hU hg h92 h117 hsn hfs
        rcases hr with hr | hr
        · have u1 : decide ((56320 : Int) ≤ (u : Int)) = false := decide_eq_false (by omega)
          have u2 : decide ((u : Int) < 55296) = true := decide_eq_true (by omega)
          clear hr hu
          go_enter Tryd.func36, Tryd.ntmps36
          go_wp2_with (first | (go_at_call 43; refine (HA.out _).mono ?_; rintro e w' ⟨rfl, rfl⟩) | (go_at_call 44; refine (HB.out _).mono ?_; rintro e w' ⟨rfl, hb⟩))
          go_ret2
          exact ⟨rfl, hb⟩
        · have u1 : decide ((56320 : Int) ≤ (u : Int)) = true := decide_eq_true (by omega)
          have u2 : decide ((u : Int) ≤ 57343) = false := decide_eq_false (by omega)
          have u3 : decide ((u : Int) < 55296) = false := decide_eq_false (by omega)
          have u4 : decide ((57343 : Int) < (u : Int)) = true := decide_eq_true (by omega)
          clear hr hu
          go_enter Tryd.func36, Tryd.ntmps36
          go_wp2_with (first | (go_at_call 43; refine (HA.out _).mono ?_; rintro e w' ⟨rfl, rfl⟩) | (go_at_call 44; refine (HB.out _).mono ?_; rintro e w' ⟨rfl, hb⟩))
          go_ret2
          exact ⟨rfl, hb⟩
      | true =>
        have hfs' : 55296 ≤ u ∧ u ≤ 56319 := by
          unfold isFst at hfs
          simpa using hfs
        obtain ⟨a, ha⟩ : ∃ a, u - 55296 = a := ⟨_, rfl⟩
        have a1 : a < 1024 := by omega
        have a2 : (u : Int) - 55296 = (a : Int) := by omega
        have u1 : decide ((56320 : Int) ≤ (u : Int)) = false := decide_eq_false (by omega)
        have u3 : decide ((u : Int) < 55296) = false := decide_eq_false (by omega)
        have u4 : decide ((57343 : Int) < (u : Int)) = false := decide_eq_false (by omega)
        by_cases h7 : s.size ≤ p + 7
        · have hno : longL (s.data.toList.drop p) = none := long_no2 h92 hg hU hfs (by
            rintro ⟨_, e⟩
            rw [List.getD, List.getElem?_eq_none (by rw [toList_length]; exact h7)] at e
            cases e)
          rw [hno]
          simp only [escV]
          have h7' : (z : Int) ≤ (p : Int) + 7 := by omega
          clear h4b hU hg h92 h117 hsn hfs hu hno hfs' ha a1 a2
          go_enter Tryd.func36, Tryd.ntmps36
          go_wp2_with (go_at_call 43; refine (HA.out _).mono ?_; rintro e w' ⟨rfl, rfl⟩)
          go_ret2
          exact ⟨rfl, Below.refl _ _⟩
        have k6 : p + 6 < s.size := by omega
        have k7 : p + 7 < s.size := by omega
        have i6a : (0 : Int) ≤ (p : Int) + 6 := by omega
        have i6b : (p : Int) + 6 < (z : Int) := by omega
        have i7a : (0 : Int) ≤ (p : Int) + 7 := by omega
        have i7b : (p : Int) + 7 < (z : Int) := by omega
        have h7' : ¬ (z : Int) ≤ (p : Int) + 7 := by omega
        have g6 : s.data.toList.getD (p + 6) 0 = s[p + 6]'k6 := by rw [List.getD, toList_getElem s (p + 6) k6]; rfl
        have g7 : s.data.toList.getD (p + 7) 0 = s[p + 7]'k7 := by rw [List.getD, toList_getElem s (p + 7) k7]; rfl
        by_cases e6 : s[p + 6]'k6 = 92
        · by_cases e7 : s[p + 7]'k7 = 117
          · have n6 : (((s[p + 6]'k6).toNat : Int) != 92) = false := by rw [e6]; rfl
            have n7 : (((s[p + 7]'k7).toNat : Int) != 117) = false := by rw [e7]; rfl
            rw [long_two h92 hg hU hfs ⟨by rw [g6, e6], by rw [g7, e7]⟩]
            cases hV : fourO s.data.toList (p + 8) with
            | none =>
              rw [hV] at h4b
              simp only [fourI, escV] at h4b ⊢
              have HB := Lib.hid h4b
              clear h4b hU hg h92 h117 hsn hfs hu hfs' ha a1 a2 g6 g7 e6 e7 hV h7
              go_enter Tryd.func36, Tryd.ntmps36
              go_wp2_with fail
              refine (HA.out _).mono ?_
              rintro e w' ⟨rfl, rfl⟩
              go_wp2_with (with_reducible change wpList _ _ _ (⟨some 62, _, _, _, _, _⟩ :: _) _ _; clear u0 u1 u3 u4; go_wp2_with fail)
              refine (HB.out _).mono ?_
              rintro e w' ⟨rfl, rfl⟩
              go_wp2_with fail
              go_ret2
              exact ⟨rfl, Below.refl _ _⟩
            | some v =>
              have hv := (fourO_lt hV).1
              rw [hV] at h4b
              simp only [fourI] at h4b ⊢
              have HB := Lib.hid h4b
              cases hvs : isSnd v with
              | false =>
                simp only [Bool.false_eq_true, if_false, escV]
                have hr : (v : Int) < 56320 ∨ (57343 : Int) < (v : Int) := by
                  unfold isSnd at hvs
                  by_cases q1 : 56320 ≤ v
                  · by_cases q2 : v ≤ 57343
                    · rw [decide_eq_true q1, decide_eq_true q2] at hvs; cases hvs
                    · omega
                  · omega
                clear h4b hU hg h92 h117 hsn hfs hu hfs' ha a1 a2 hv g6 g7 e6 e7 hV h7 hvs
                rcases hr with hr | hr
                · have hr1 := decide_eq_true hr
                  clear hr
                  go_enter Tryd.func36, Tryd.ntmps36
                  go_wp2_with fail
                  refine (HA.out _).mono ?_
                  rintro e w' ⟨rfl, rfl⟩
                  go_wp2_with (with_reducible change wpList _ _ _ (⟨some 62, _, _, _, _, _⟩ :: _) _ _; clear u0 u1 u3 u4; go_wp2_with fail)
                  refine (HB.out _).mono ?_
                  rintro e w' ⟨rfl, rfl⟩
                  go_wp2_with fail
                  go_ret2
                  exact ⟨rfl, Below.refl _ _⟩
                · have hr2 : decide ((v : Int) < 56320) = false := decide_eq_false (by omega)
                  have hr1 := decide_eq_true hr
                  clear hr
                  go_enter Tryd.func36, Tryd.ntmps36
                  go_wp2_with fail
                  refine (HA.out _).mono ?_
                  rintro e w' ⟨rfl, rfl⟩
                  go_wp2_with (with_reducible change wpList _ _ _ (⟨some 62, _, _, _, _, _⟩ :: _) _ _; clear u0 u1 u3 u4; go_wp2_with fail)
                  refine (HB.out _).mono ?_
                  rintro e w' ⟨rfl, rfl⟩
                  go_wp2_with fail
                  go_ret2
                  exact ⟨rfl, Below.refl _ _⟩
              | true =>
                simp only [if_true, escV]
                unfold isSnd at hvs
                simp only [Bool.and_eq_true, decide_eq_true_eq] at hvs
                obtain ⟨R, hR⟩ : ∃ R, 65536 + (u - 55296) * 1024 + (v - 56320) = R := ⟨_, rfl⟩
                rw [hR]
                have v1 : decide ((v : Int) < 56320) = false := decide_eq_false (by omega)
                have v2 : decide ((57343 : Int) < (v : Int)) = false := decide_eq_false (by omega)
                have hRe : 65536 + 1024 * (a : Int) + (v : Int) - 56320 = (R : Int) := by omega
                have hRb : R ≤ 1114111 := by omega
                have HY := Lib.hid (rbytes_any R hRb (.inr (by omega)))
                have HX := Lib.hid (show a < 1024 ∧ (u : Int) - 55296 = (a : Int) ∧ v < 65536 ∧ 65536 + 1024 * (a : Int) + (v : Int) - 56320 = (R : Int) ∧ R ≤ 1114111 from ⟨a1, a2, hv, hRe, hRb⟩)
                clear h4b hU hg h92 h117 hsn hfs hu hfs' ha a1 a2 hv hRe hRb g6 g7 e6 e7 hV h7 hvs hR
                go_enter Tryd.func36, Tryd.ntmps36
                go_wp2_with fail
                refine (HA.out _).mono ?_
                rintro e w' ⟨rfl, rfl⟩
                go_wp2_with (with_reducible change wpList _ _ _ (⟨some 62, _, _, _, _, _⟩ :: _) _ _; clear u0 u1 u3 u4; go_wp2_with fail)
                refine (HB.out _).mono ?_
                rintro e w' ⟨rfl, rfl⟩
                obtain ⟨x1, x2, x3, x4, x5⟩ := HX.out
                go_wp2_with fail
                refine (HY.out _).mono ?_
                rintro e w' ⟨rfl, hb⟩
                go_wp2_with fail
                go_ret2
                exact ⟨rfl, hb⟩
          · have hno : longL (s.data.toList.drop p) = none := long_no2 h92 hg hU hfs (fun e => e7 (by rw [← g7]; exact e.2))
            rw [hno]
            simp only [escV]
            have n6 : (((s[p + 6]'k6).toNat : Int) != 92) = false := by rw [e6]; rfl
            have n7 : (((s[p + 7]'k7).toNat : Int) != 117) = true := by rw [bne_iff_ne]; intro e; exact e7 (UInt8.toNat_inj.1 (by rw [show (117 : UInt8).toNat = 117 from rfl]; omega))
            clear h4b hU hg h92 h117 hsn hfs hu hno hfs' ha a1 a2 g6 g7 e6 e7 h7
            go_enter Tryd.func36, Tryd.ntmps36
            go_wp2_with (go_at_call 43; refine (HA.out _).mono ?_; rintro e w' ⟨rfl, rfl⟩)
            go_ret2
            exact ⟨rfl, Below.refl _ _⟩
        · have hno : longL (s.data.toList.drop p) = none := long_no2 h92 hg hU hfs (fun e => e6 (by rw [← g6]; exact e.1))
          rw [hno]
          simp only [escV]
          have n6 : (((s[p + 6]'k6).toNat : Int) != 92) = true := by rw [bne_iff_ne]; intro e; exact e6 (UInt8.toNat_inj.1 (by rw [show (92 : UInt8).toNat = 92 from rfl]; omega))
          clear h4b hU hg h92 h117 hsn hfs hu hno hfs' ha a1 a2 g6 g7 e6 h7
          go_enter Tryd.func36, Tryd.ntmps36
          go_wp2_with (go_at_call 43; refine (HA.out _).mono ?_; rintro e w' ⟨rfl, rfl⟩)
          go_ret2
          exact ⟨rfl, Below.refl _ _⟩

theorem resc_any (s : ByteArray) (p : Nat) (hp : p < s.size) (hs : s.size ≤ 2000) (h92 : s[p]'hp = 92) (w : World) :
    Calls Tryd.prog 36 #[.string s, .int .i64 p] w fun e w' => e = .returned (escV (escL (s.data.toList.drop p))) ∧ Below w.heap.size w w' := by
  by_cases h : s.size ≤ p + 1
  · exact resc_short s p hp h hs w
  · have h1 : p + 1 < s.size := by omega
    by_cases h117 : s[p + 1]'h1 = 117
    · exact resc_u s p h1 hs (by rw [List.getD, toList_getElem s p hp]; exact h92) h117 w
    · exact resc_letter s p h1 hs (fun e => h117 (UInt8.toNat_inj.1 e)) w
end Go.Proofs.YtoojfgajlakonaaDoor
