/-
  The reference's escape. · How a text is written, byte by byte. Plain. · The contract of the reference's Quote. · The contract of the reference's Unquote.
-/
import Derived.Test.YtgbagdfcdljleaaGreatDoorRA
import Derived.Test.YtgbagdfcdljleaaGreatDoorUqP
import Derived.Test.YtgbagdfcdljleaaGreatDoorWk
import Derived.Test.YtgbagdfcdljleaaGreatDoorBld
import Derived.Deep.AppendLies
import Derived.Laws.IdiomStrings
import Derived.Laws.OwnMore
import Derived.Laws.BytesArg
set_option linter.unusedVariables false
set_option linter.unusedSimpArgs false
namespace Go.Proofs.YtgbagdfcdljleaaGreatDoor.Ru
open Go.RowKit Go.Shelf

def escV : Option (Nat × Nat) → Value
  | none => .tuple #[.string ⟨#[]⟩, .int .i64 0]
  | some x => .tuple #[.string ⟨(Lib.encodeRune (x.1 : Int)).toArray⟩, .int .i64 (x.2 : Nat)]

theorem getD_drop (l : List UInt8) (q i : Nat) : (l.drop q).getD i 0 = l.getD (q + i) 0 := by
  rw [List.getD, List.getD, List.getElem?_drop]
theorem unitL_four (l : List UInt8) (q : Nat) : unitL (l.drop q) = if l.getD q 0 = 92 ∧ l.getD (q + 1) 0 = 117 then fourO l (q + 2) else none := by
  by_cases h6 : q + 6 ≤ l.length
  · rw [unitL_long (by rw [List.length_drop]; omega), getD_drop, getD_drop, Nat.add_zero, List.drop_drop]
    unfold fourO
    rw [if_pos (by omega : q + 2 + 4 ≤ l.length)]
  · rw [unitL_short (by rw [List.length_drop]; omega)]
    unfold fourO
    rw [if_neg (by omega : ¬ q + 2 + 4 ≤ l.length)]
    split <;> rfl
theorem fourO_lt {l : List UInt8} {q n : Nat} (h : fourO l q = some n) : n < 65536 ∧ q + 4 ≤ l.length := by
  unfold fourO at h
  split at h
  · have := parse16_lt _ _ _ h
    have hl : ((l.drop q).take 4).length = 4 := by rw [List.length_take, List.length_drop]; omega
    rw [hl] at this
    exact ⟨by simpa using this, by assumption⟩
  · cases h

section
variable {l : List UInt8} {p : Nat} (h0 : l.getD p 0 = 92) (h1 : l.getD (p + 1) 0 = 117)
include h0 h1
theorem long_none (h : fourO l (p + 2) = none) : longL (l.drop p) = none := by
  unfold longL; rw [unitL_four, if_pos ⟨h0, h1⟩, h]
theorem long_snd {u : Nat} (h : fourO l (p + 2) = some u) (hs : isSnd u = true) : longL (l.drop p) = none := by
  have hf : isFst u = false := by
    unfold isSnd at hs; unfold isFst
    simp only [Bool.and_eq_true, decide_eq_true_eq] at hs
    rw [decide_eq_false (by omega : ¬ u ≤ 56319), Bool.and_false]
  unfold longL; rw [unitL_four, if_pos ⟨h0, h1⟩, h]; simp only [hf, hs, if_true, Bool.false_eq_true, if_false]
theorem long_one {u : Nat} (h : fourO l (p + 2) = some u) (hf : isFst u = false) (hs : isSnd u = false) : longL (l.drop p) = some (u, 6) := by
  unfold longL; rw [unitL_four, if_pos ⟨h0, h1⟩, h]; simp only [hf, hs, Bool.false_eq_true, if_false]
theorem long_no2 {u : Nat} (h : fourO l (p + 2) = some u) (hf : isFst u = true) (h2 : ¬ (l.getD (p + 6) 0 = 92 ∧ l.getD (p + 7) 0 = 117)) : longL (l.drop p) = none := by
  unfold longL; rw [unitL_four, if_pos ⟨h0, h1⟩, h]; simp only [hf, if_true]
  rw [List.drop_drop, unitL_four, if_neg h2]
theorem long_two {u : Nat} (h : fourO l (p + 2) = some u) (hf : isFst u = true) (h2 : l.getD (p + 6) 0 = 92 ∧ l.getD (p + 7) 0 = 117) :
    longL (l.drop p) = match fourO l (p + 8) with | none => none | some v => if isSnd v then some (65536 + (u - 55296) * 1024 + (v - 56320), 12) else none := by
  unfold longL; rw [unitL_four, if_pos ⟨h0, h1⟩, h]; simp only [hf, if_true]
  rw [List.drop_drop, unitL_four, if_pos h2]
  rfl
end
theorem esc_long {l : List UInt8} {p : Nat} (hl : p + 1 < l.length) (h1 : l.getD (p + 1) 0 = 117) : escL (l.drop p) = longL (l.drop p) := by
  rw [escL_eq (by rw [List.length_drop]; omega), getD_drop, if_pos h1]
theorem esc_mean {l : List UInt8} {p c : Nat} (hl : p + 1 < l.length) (h1 : (l.getD (p + 1) 0).toNat = c) (hc : c ≠ 117) : escL (l.drop p) = if meanN c ≠ 0 then some (meanN c, 2) else none := by
  rw [escL_eq (by rw [List.length_drop]; omega), getD_drop, if_neg (fun e => by rw [e] at h1; exact hc (by rw [← h1]; rfl)), h1]
theorem ext_one (s : ByteArray) (p : Nat) (h : p + 1 < s.size) : s.extract (p + 1) (p + 2) = ⟨#[s[p + 1]]⟩ := by
  apply ByteArray.ext
  apply Array.ext'
  have := Lib.extract_toList s (p + 1) (p + 2)
  rw [show (s.extract (p + 1) (p + 2)).data.toList = (s.extract (p + 1) (p + 2)).toList from (Lib.toList_data _).symm, this]
  show _ = [s[p + 1]]
  rw [show p + 2 - (p + 1) = 0 + 1 by omega, take_cons s (p + 1) 0 h, List.take_zero]

set_option maxRecDepth 100000 in
set_option maxHeartbeats 2000000 in
theorem resc_short (s : ByteArray) (p : Nat) (hp : p < s.size) (h : s.size ≤ p + 1) (hs : s.size ≤ 20000) (w : World) :
    Calls Tryz.prog 28 #[.string s, .int .i64 p] w fun e w' => e = .returned (escV (escL (s.data.toList.drop p))) ∧ Below w.heap.size w w' := by
  rw [escL_short (by rw [drop_len]; omega)]
  unfold escV
  go_enter Tryz.func28, Tryz.ntmps28
  go_wp2_with fail
  go_ret2
  exact ⟨rfl, Below.refl _ _⟩

set_option maxRecDepth 100000 in
set_option maxHeartbeats 4000000 in
theorem resc_letter (s : ByteArray) (p : Nat) (h : p + 1 < s.size) (hs : s.size ≤ 20000) (h117 : (s[p + 1]'h).toNat ≠ 117) (w : World) :
    Calls Tryz.prog 28 #[.string s, .int .i64 p] w fun e w' => e = .returned (escV (escL (s.data.toList.drop p))) ∧ Below w.heap.size w w' := by
  have hx := ext_one s p h
  have hg : s.data.toList.getD (p + 1) 0 = s[p + 1]'h := by rw [List.getD, toList_getElem s (p + 1) h]; rfl
  have he := esc_mean (l := s.data.toList) (p := p) (c := (s[p + 1]'h).toNat) (by rw [toList_length]; exact h) (by rw [hg]) h117
  rw [he]
  clear he hg
  obtain ⟨c, hc⟩ : ∃ c, s[p + 1]'h = c := ⟨_, rfl⟩
  have hc' : (s[p + 1]'h).toNat = c.toNat := by rw [hc]
  rw [hc] at hx
  rw [hc'] at h117 ⊢
  have hcc := c.toNat_lt
  clear hc
  by_cases e34 : c.toNat = 34
  · obtain rfl : c = 34 := UInt8.toNat_inj.1 e34
    have hr : escV (if meanN ((34 : UInt8).toNat) ≠ 0 then some (meanN ((34 : UInt8).toNat), 2) else none) = .tuple #[.string ⟨#[34]⟩, .int .i64 2] := by kernel_rfl
    rw [hr]
    have hc2 : (s[p + 1]'h).toNat = 34 := hc'
    clear hr hc' h117 e34 hcc
    go_enter Tryz.func28, Tryz.ntmps28
    go_wp2_with fail
    go_ret2
    exact ⟨by first | rfl | (rw [hx]; rfl), Below.refl _ _⟩
  have n34 : ((c.toNat : Int) == 34) = false := by rw [beq_eq_false_iff_ne]; omega
  by_cases e92 : c.toNat = 92
  · obtain rfl : c = 92 := UInt8.toNat_inj.1 e92
    have hr : escV (if meanN ((92 : UInt8).toNat) ≠ 0 then some (meanN ((92 : UInt8).toNat), 2) else none) = .tuple #[.string ⟨#[92]⟩, .int .i64 2] := by kernel_rfl
    rw [hr]
    have hc2 : (s[p + 1]'h).toNat = 92 := hc'
    clear hr hc' h117 e92 hcc
    go_enter Tryz.func28, Tryz.ntmps28
    go_wp2_with fail
    go_ret2
    exact ⟨by first | rfl | (rw [hx]; rfl), Below.refl _ _⟩
  have n92 : ((c.toNat : Int) == 92) = false := by rw [beq_eq_false_iff_ne]; omega
  by_cases e47 : c.toNat = 47
  · obtain rfl : c = 47 := UInt8.toNat_inj.1 e47
    have hr : escV (if meanN ((47 : UInt8).toNat) ≠ 0 then some (meanN ((47 : UInt8).toNat), 2) else none) = .tuple #[.string ⟨#[47]⟩, .int .i64 2] := by kernel_rfl
    rw [hr]
    have hc2 : (s[p + 1]'h).toNat = 47 := hc'
    clear hr hc' h117 e47 hcc
    go_enter Tryz.func28, Tryz.ntmps28
    go_wp2_with fail
    go_ret2
    exact ⟨by first | rfl | (rw [hx]; rfl), Below.refl _ _⟩
  have n47 : ((c.toNat : Int) == 47) = false := by rw [beq_eq_false_iff_ne]; omega
  by_cases e98 : c.toNat = 98
  · obtain rfl : c = 98 := UInt8.toNat_inj.1 e98
    have hr : escV (if meanN ((98 : UInt8).toNat) ≠ 0 then some (meanN ((98 : UInt8).toNat), 2) else none) = .tuple #[.string ⟨#[8]⟩, .int .i64 2] := by kernel_rfl
    rw [hr]
    have hc2 : (s[p + 1]'h).toNat = 98 := hc'
    clear hr hc' h117 e98 hcc
    go_enter Tryz.func28, Tryz.ntmps28
    go_wp2_with fail
    go_ret2
    exact ⟨by first | rfl | (rw [hx]; rfl), Below.refl _ _⟩
  have n98 : ((c.toNat : Int) == 98) = false := by rw [beq_eq_false_iff_ne]; omega
  by_cases e102 : c.toNat = 102
  · obtain rfl : c = 102 := UInt8.toNat_inj.1 e102
    have hr : escV (if meanN ((102 : UInt8).toNat) ≠ 0 then some (meanN ((102 : UInt8).toNat), 2) else none) = .tuple #[.string ⟨#[12]⟩, .int .i64 2] := by kernel_rfl
    rw [hr]
    have hc2 : (s[p + 1]'h).toNat = 102 := hc'
    clear hr hc' h117 e102 hcc
    go_enter Tryz.func28, Tryz.ntmps28
    go_wp2_with fail
    go_ret2
    exact ⟨by first | rfl | (rw [hx]; rfl), Below.refl _ _⟩
  have n102 : ((c.toNat : Int) == 102) = false := by rw [beq_eq_false_iff_ne]; omega
  by_cases e110 : c.toNat = 110
  · obtain rfl : c = 110 := UInt8.toNat_inj.1 e110
    have hr : escV (if meanN ((110 : UInt8).toNat) ≠ 0 then some (meanN ((110 : UInt8).toNat), 2) else none) = .tuple #[.string ⟨#[10]⟩, .int .i64 2] := by kernel_rfl
    rw [hr]
    have hc2 : (s[p + 1]'h).toNat = 110 := hc'
    clear hr hc' h117 e110 hcc
    go_enter Tryz.func28, Tryz.ntmps28
    go_wp2_with fail
    go_ret2
    exact ⟨by first | rfl | (rw [hx]; rfl), Below.refl _ _⟩
  have n110 : ((c.toNat : Int) == 110) = false := by rw [beq_eq_false_iff_ne]; omega
  by_cases e114 : c.toNat = 114
  · obtain rfl : c = 114 := UInt8.toNat_inj.1 e114
    have hr : escV (if meanN ((114 : UInt8).toNat) ≠ 0 then some (meanN ((114 : UInt8).toNat), 2) else none) = .tuple #[.string ⟨#[13]⟩, .int .i64 2] := by kernel_rfl
    rw [hr]
    have hc2 : (s[p + 1]'h).toNat = 114 := hc'
    clear hr hc' h117 e114 hcc
    go_enter Tryz.func28, Tryz.ntmps28
    go_wp2_with fail
    go_ret2
    exact ⟨by first | rfl | (rw [hx]; rfl), Below.refl _ _⟩
  have n114 : ((c.toNat : Int) == 114) = false := by rw [beq_eq_false_iff_ne]; omega
  by_cases e116 : c.toNat = 116
  · obtain rfl : c = 116 := UInt8.toNat_inj.1 e116
    have hr : escV (if meanN ((116 : UInt8).toNat) ≠ 0 then some (meanN ((116 : UInt8).toNat), 2) else none) = .tuple #[.string ⟨#[9]⟩, .int .i64 2] := by kernel_rfl
    rw [hr]
    have hc2 : (s[p + 1]'h).toNat = 116 := hc'
    clear hr hc' h117 e116 hcc
    go_enter Tryz.func28, Tryz.ntmps28
    go_wp2_with fail
    go_ret2
    exact ⟨by first | rfl | (rw [hx]; rfl), Below.refl _ _⟩
  have n116 : ((c.toNat : Int) == 116) = false := by rw [beq_eq_false_iff_ne]; omega
  have n117 : ((c.toNat : Int) == 117) = false := by rw [beq_eq_false_iff_ne]; omega
  have hm : meanN c.toNat = 0 := by
    unfold meanN
    rw [if_neg e47, if_neg e98, if_neg e116, if_neg e110, if_neg e102, if_neg e114, if_neg e34, if_neg e92]
  rw [hm, if_neg (by simp)]
  unfold escV
  clear hm e47 e98 e116 e110 e102 e114 e34 e92 h117 hx
  go_enter Tryz.func28, Tryz.ntmps28
  go_wp2_with fail
  go_ret2
  exact ⟨rfl, Below.refl _ _⟩

set_option maxRecDepth 100000 in
set_option maxHeartbeats 4000000 in
theorem resc_u (s : ByteArray) (p : Nat) (h : p + 1 < s.size) (hs : s.size ≤ 20000) (h92 : s.data.toList.getD p 0 = 92) (h117 : s[p + 1]'h = 117) (w : World) :
    Calls Tryz.prog 28 #[.string s, .int .i64 p] w fun e w' => e = .returned (escV (escL (s.data.toList.drop p))) ∧ Below w.heap.size w w' := by
  have hg : s.data.toList.getD (p + 1) 0 = 117 := by rw [List.getD, toList_getElem s (p + 1) h]; exact h117
  rw [esc_long (l := s.data.toList) (p := p) (by rw [toList_length]; exact h) hg]
  have hc : (s[p + 1]'h).toNat = 117 := by rw [h117]; rfl
  obtain ⟨z, hz⟩ : ∃ z, s.size = z := ⟨_, rfl⟩
  have hp1 : ¬ (z : Int) ≤ (p : Int) + 1 := by omega
  have h4a := rfour_any s (p + 2) (by omega) hs
  have h4b := rfour_any s (p + 8) (by omega) hs
  rw [show ((p + 2 : Nat) : Int) = (p : Int) + 2 by omega] at h4a
  rw [show ((p + 8 : Nat) : Int) = (p : Int) + 8 by omega] at h4b
  cases hU : fourO s.data.toList (p + 2) with
  | none =>
    rw [long_none h92 hg hU]
    rw [hU] at h4a
    simp only [fourI, escV] at h4a ⊢
    have HA := Lib.hid h4a
    clear h4a h4b hU hg h92 h117
    go_enter Tryz.func28, Tryz.ntmps28
    go_wp2_with (go_at_call 47; refine (HA.out _).mono ?_; rintro e w' ⟨rfl, rfl⟩)
    go_ret2
    exact ⟨rfl, Below.refl _ _⟩
  | some u =>
    have hu := (fourO_lt hU).1
    rw [hU] at h4a
    simp only [fourI] at h4a
    have HA := Lib.hid h4a
    clear h4a
    have u0 : decide ((u : Int) < 0) = false := decide_eq_false (by omega)
    cases hsn : isSnd u with
    | true =>
      rw [long_snd h92 hg hU hsn]
      unfold isSnd at hsn
      simp only [Bool.and_eq_true, decide_eq_true_eq] at hsn
      have u1 : decide ((56320 : Int) ≤ (u : Int)) = true := decide_eq_true (by omega)
      have u2 : decide ((u : Int) ≤ 57343) = true := decide_eq_true (by omega)
      simp only [escV]
      clear h4b hU hg h92 h117 hsn hu
      go_enter Tryz.func28, Tryz.ntmps28
      go_wp2_with (go_at_call 47; refine (HA.out _).mono ?_; rintro e w' ⟨rfl, rfl⟩)
      go_ret2
      exact ⟨rfl, Below.refl _ _⟩
    | false =>
      cases hfs : isFst u with
      | false =>
        rw [long_one h92 hg hU hfs hsn]
        unfold isSnd at hsn
        unfold isFst at hfs
        have hr : u < 55296 ∨ 57343 < u := by
          by_cases q1 : 55296 ≤ u
          · by_cases q2 : u ≤ 56319
            · rw [decide_eq_true q1, decide_eq_true q2] at hfs; cases hfs
            · by_cases q3 : u ≤ 57343
              · rw [decide_eq_true (by omega : 56320 ≤ u), decide_eq_true q3] at hsn; cases hsn
              · omega
          · omega
        have HB := Lib.hid (rbytes_any u (by omega) hr)
        simp only [escV]
        clear h4b hU hg h92 h117 hsn hfs
        rcases hr with hr | hr
        · have u1 : decide ((56320 : Int) ≤ (u : Int)) = false := decide_eq_false (by omega)
          have u2 : decide ((u : Int) < 55296) = true := decide_eq_true (by omega)
          clear hr hu
          go_enter Tryz.func28, Tryz.ntmps28
          go_wp2_with (first | (go_at_call 47; refine (HA.out _).mono ?_; rintro e w' ⟨rfl, rfl⟩) | (go_at_call 48; refine (HB.out _).mono ?_; rintro e w' ⟨rfl, hb⟩))
          go_ret2
          exact ⟨rfl, hb⟩
        · have u1 : decide ((56320 : Int) ≤ (u : Int)) = true := decide_eq_true (by omega)
          have u2 : decide ((u : Int) ≤ 57343) = false := decide_eq_false (by omega)
          have u3 : decide ((u : Int) < 55296) = false := decide_eq_false (by omega)
          have u4 : decide ((57343 : Int) < (u : Int)) = true := decide_eq_true (by omega)
          clear hr hu
          go_enter Tryz.func28, Tryz.ntmps28
          go_wp2_with (first | (go_at_call 47; refine (HA.out _).mono ?_; rintro e w' ⟨rfl, rfl⟩) | (go_at_call 48; refine (HB.out _).mono ?_; rintro e w' ⟨rfl, hb⟩))
          go_ret2
          exact ⟨rfl, hb⟩
      | true =>
        have hfs' : 55296 ≤ u ∧ u ≤ 56319 := by
          unfold isFst at hfs
          simpa using hfs
        obtain ⟨a, ha⟩ : ∃ a, u - 55296 = a := ⟨_, rfl⟩
        have a1 : a < 1024 := by omega
        have a2 : (u : Int) - 55296 = (a : Int) := by omega
        have u1 : decide ((56320 : Int) ≤ (u : Int)) = false := decide_eq_false (by omega)
        have u3 : decide ((u : Int) < 55296) = false := decide_eq_false (by omega)
        have u4 : decide ((57343 : Int) < (u : Int)) = false := decide_eq_false (by omega)
        by_cases h7 : s.size ≤ p + 7
        · have hno : longL (s.data.toList.drop p) = none := long_no2 h92 hg hU hfs (by
            rintro ⟨_, e⟩
            rw [List.getD, List.getElem?_eq_none (by rw [toList_length]; exact h7)] at e
            cases e)
          rw [hno]
          simp only [escV]
          have h7' : (z : Int) ≤ (p : Int) + 7 := by omega
          clear h4b hU hg h92 h117 hsn hfs hu hno hfs' ha a1 a2
          go_enter Tryz.func28, Tryz.ntmps28
          go_wp2_with (go_at_call 47; refine (HA.out _).mono ?_; rintro e w' ⟨rfl, rfl⟩)
          go_ret2
          exact ⟨rfl, Below.refl _ _⟩
        have k6 : p + 6 < s.size := by omega
        have k7 : p + 7 < s.size := by omega
        have i6a : (0 : Int) ≤ (p : Int) + 6 := by omega
        have i6b : (p : Int) + 6 < (z : Int) := by omega
        have i7a : (0 : Int) ≤ (p : Int) + 7 := by omega
        have i7b : (p : Int) + 7 < (z : Int) := by omega
        have h7' : ¬ (z : Int) ≤ (p : Int) + 7 := by omega
        have g6 : s.data.toList.getD (p + 6) 0 = s[p + 6]'k6 := by rw [List.getD, toList_getElem s (p + 6) k6]; rfl
        have g7 : s.data.toList.getD (p + 7) 0 = s[p + 7]'k7 := by rw [List.getD, toList_getElem s (p + 7) k7]; rfl
        by_cases e6 : s[p + 6]'k6 = 92
        · by_cases e7 : s[p + 7]'k7 = 117
          · have n6 : (((s[p + 6]'k6).toNat : Int) != 92) = false := by rw [e6]; rfl
            have n7 : (((s[p + 7]'k7).toNat : Int) != 117) = false := by rw [e7]; rfl
            rw [long_two h92 hg hU hfs ⟨by rw [g6, e6], by rw [g7, e7]⟩]
            cases hV : fourO s.data.toList (p + 8) with
            | none =>
              rw [hV] at h4b
              simp only [fourI, escV] at h4b ⊢
              have HB := Lib.hid h4b
              clear h4b hU hg h92 h117 hsn hfs hu hfs' ha a1 a2 g6 g7 e6 e7 hV h7
              go_enter Tryz.func28, Tryz.ntmps28
              go_wp2_with fail
              refine (HA.out _).mono ?_
              rintro e w' ⟨rfl, rfl⟩
              go_wp2_with (with_reducible change wpList _ _ _ (⟨some 62, _, _, _, _, _⟩ :: _) _ _; clear u0 u1 u3 u4; go_wp2_with fail)
              refine (HB.out _).mono ?_
              rintro e w' ⟨rfl, rfl⟩
              go_wp2_with fail
              go_ret2
              exact ⟨rfl, Below.refl _ _⟩
            | some v =>
              have hv := (fourO_lt hV).1
              rw [hV] at h4b
              simp only [fourI] at h4b ⊢
              have HB := Lib.hid h4b
              cases hvs : isSnd v with
              | false =>
                simp only [Bool.false_eq_true, if_false, escV]
                have hr : (v : Int) < 56320 ∨ (57343 : Int) < (v : Int) := by
                  unfold isSnd at hvs
                  by_cases q1 : 56320 ≤ v
                  · by_cases q2 : v ≤ 57343
                    · rw [decide_eq_true q1, decide_eq_true q2] at hvs; cases hvs
                    · omega
                  · omega
                clear h4b hU hg h92 h117 hsn hfs hu hfs' ha a1 a2 hv g6 g7 e6 e7 hV h7 hvs
                rcases hr with hr | hr
                · have hr1 := decide_eq_true hr
                  clear hr
                  go_enter Tryz.func28, Tryz.ntmps28
                  go_wp2_with fail
                  refine (HA.out _).mono ?_
                  rintro e w' ⟨rfl, rfl⟩
                  go_wp2_with (with_reducible change wpList _ _ _ (⟨some 62, _, _, _, _, _⟩ :: _) _ _; clear u0 u1 u3 u4; go_wp2_with fail)
                  refine (HB.out _).mono ?_
                  rintro e w' ⟨rfl, rfl⟩
                  go_wp2_with fail
                  go_ret2
                  exact ⟨rfl, Below.refl _ _⟩
                · have hr2 : decide ((v : Int) < 56320) = false := decide_eq_false (by omega)
                  have hr1 := decide_eq_true hr
                  clear hr
                  go_enter Tryz.func28, Tryz.ntmps28
                  go_wp2_with fail
                  refine (HA.out _).mono ?_
                  rintro e w' ⟨rfl, rfl⟩
                  go_wp2_with (with_reducible change wpList _ _ _ (⟨some 62, _, _, _, _, _⟩ :: _) _ _; clear u0 u1 u3 u4; go_wp2_with fail)
                  refine (HB.out _).mono ?_
                  rintro e w' ⟨rfl, rfl⟩
                  go_wp2_with fail
                  go_ret2
                  exact ⟨rfl, Below.refl _ _⟩
              | true =>
                simp only [if_true, escV]
                unfold isSnd at hvs
                simp only [Bool.and_eq_true, decide_eq_true_eq] at hvs
                obtain ⟨R, hR⟩ : ∃ R, 65536 + (u - 55296) * 1024 + (v - 56320) = R := ⟨_, rfl⟩
                rw [hR]
                have v1 : decide ((v : Int) < 56320) = false := decide_eq_false (by omega)
                have v2 : decide ((57343 : Int) < (v : Int)) = false := decide_eq_false (by omega)
                have hRe : 65536 + 1024 * (a : Int) + (v : Int) - 56320 = (R : Int) := by omega
                have hRb : R ≤ 1114111 := by omega
                have HY := Lib.hid (rbytes_any R hRb (.inr (by omega)))
                have HX := Lib.hid (show a < 1024 ∧ (u : Int) - 55296 = (a : Int) ∧ v < 65536 ∧ 65536 + 1024 * (a : Int) + (v : Int) - 56320 = (R : Int) ∧ R ≤ 1114111 from ⟨a1, a2, hv, hRe, hRb⟩)
                clear h4b hU hg h92 h117 hsn hfs hu hfs' ha a1 a2 hv hRe hRb g6 g7 e6 e7 hV h7 hvs hR
                go_enter Tryz.func28, Tryz.ntmps28
                go_wp2_with fail
                refine (HA.out _).mono ?_
                rintro e w' ⟨rfl, rfl⟩
                go_wp2_with (with_reducible change wpList _ _ _ (⟨some 62, _, _, _, _, _⟩ :: _) _ _; clear u0 u1 u3 u4; go_wp2_with fail)
                refine (HB.out _).mono ?_
                rintro e w' ⟨rfl, rfl⟩
                obtain ⟨x1, x2, x3, x4, x5⟩ := HX.out
                go_wp2_with fail
                refine (HY.out _).mono ?_
                rintro e w' ⟨rfl, hb⟩
                go_wp2_with fail
                go_ret2
                exact ⟨rfl, hb⟩
          · have hno : longL (s.data.toList.drop p) = none := long_no2 h92 hg hU hfs (fun e => e7 (by rw [← g7]; exact e.2))
            rw [hno]
            simp only [escV]
            have n6 : (((s[p + 6]'k6).toNat : Int) != 92) = false := by rw [e6]; rfl
            have n7 : (((s[p + 7]'k7).toNat : Int) != 117) = true := by rw [bne_iff_ne]; intro e; exact e7 (UInt8.toNat_inj.1 (by rw [show (117 : UInt8).toNat = 117 from rfl]; omega))
            clear h4b hU hg h92 h117 hsn hfs hu hno hfs' ha a1 a2 g6 g7 e6 e7 h7
            go_enter Tryz.func28, Tryz.ntmps28
            go_wp2_with (go_at_call 47; refine (HA.out _).mono ?_; rintro e w' ⟨rfl, rfl⟩)
            go_ret2
            exact ⟨rfl, Below.refl _ _⟩
        · have hno : longL (s.data.toList.drop p) = none := long_no2 h92 hg hU hfs (fun e => e6 (by rw [← g6]; exact e.1))
          rw [hno]
          simp only [escV]
          have n6 : (((s[p + 6]'k6).toNat : Int) != 92) = true := by rw [bne_iff_ne]; intro e; exact e6 (UInt8.toNat_inj.1 (by rw [show (92 : UInt8).toNat = 92 from rfl]; omega))
          clear h4b hU hg h92 h117 hsn hfs hu hno hfs' ha a1 a2 g6 g7 e6 h7
          go_enter Tryz.func28, Tryz.ntmps28
          go_wp2_with (go_at_call 47; refine (HA.out _).mono ?_; rintro e w' ⟨rfl, rfl⟩)
          go_ret2
          exact ⟨rfl, Below.refl _ _⟩

theorem resc_any (s : ByteArray) (p : Nat) (hp : p < s.size) (hs : s.size ≤ 20000) (h92 : s[p]'hp = 92) (w : World) :
    Calls Tryz.prog 28 #[.string s, .int .i64 p] w fun e w' => e = .returned (escV (escL (s.data.toList.drop p))) ∧ Below w.heap.size w w' := by
  by_cases h : s.size ≤ p + 1
  · exact resc_short s p hp h hs w
  · have h1 : p + 1 < s.size := by omega
    by_cases h117 : s[p + 1]'h1 = 117
    · exact resc_u s p h1 hs (by rw [List.getD, toList_getElem s p hp]; exact h92) h117 w
    · exact resc_letter s p h1 hs (fun e => h117 (UInt8.toNat_inj.1 e)) w
end Go.Proofs.YtgbagdfcdljleaaGreatDoor.Ru

namespace Go.Proofs.YtgbagdfcdljleaaGreatDoor.Ru
open Go.Lib

def qB (c : UInt8) : List UInt8 := if shortN c.toNat ≠ 0 then [92, (shortN c.toNat).toUInt8] else if c.toNat < 32 then [92, 117, 48, 48, hexd (c.toNat / 16), hexd (c.toNat % 16)] else [c]

theorem shortN_big {r : Nat} (h : 128 ≤ r) : shortN r = 0 := by
  unfold shortN
  repeat rw [if_neg (by omega)]
theorem qB_big {c : UInt8} (h : 128 ≤ c.toNat) : qB c = [c] := by
  unfold qB
  rw [shortN_big h, if_neg (by simp), if_neg (by omega)]
theorem qB_flat : ∀ (l : List UInt8), (∀ c ∈ l, 128 ≤ c.toNat) → l.flatMap qB = l
  | [], _ => rfl
  | c :: t, h => by
    rw [List.flatMap_cons, qB_big (h c (by simp)), qB_flat t fun x hx => h x (by simp [hx])]; rfl
theorem enc_big (r : Nat) (h : 128 ≤ r) (h2 : r ≤ 1114111) (hv : r < 55296 ∨ 57343 < r) : ∀ c ∈ encodeRune (r : Int), 128 ≤ c.toNat := by
  intro c hc
  unfold encodeRune at hc
  obtain ⟨x, hx, rfl⟩ := List.mem_map.1 hc
  have hb : 128 ≤ x ∧ x < 256 := by
    unfold encodeRuneZ at hx
    rw [if_neg (by omega)] at hx
    split at hx
    · simp only [List.mem_cons, List.not_mem_nil, or_false] at hx; omega
    · split at hx
      · simp only [List.mem_cons, List.not_mem_nil, or_false] at hx; omega
      · split at hx
        · simp only [List.mem_cons, List.not_mem_nil, or_false] at hx; omega
        · simp only [List.mem_cons, List.not_mem_nil, or_false] at hx; omega
  rw [u8n _ (by omega)]
  omega
theorem quoteB_step {l : List UInt8} (h0 : l ≠ []) (hb : bad l = false) : (l.take (decodeL l).2).flatMap qB = qRune (decodeL l).1 := by
  have hr := decodeL_rune l
  have hval := decodeL_valid l
  by_cases h : (decodeL l).1 < 128
  · obtain ⟨t, ht, hk⟩ := head_ascii h0 hb rfl h
    generalize (decodeL l).1 = r at *
    rw [hk, ht]
    have e : (r.toUInt8).toNat = r := u8n r (by omega)
    simp only [List.take_succ_cons, List.take_zero, List.flatMap_cons, List.flatMap_nil, List.append_nil]
    unfold qB qRune
    rw [e]
    split
    · rfl
    · split
      · rfl
      · unfold encodeRune
        rw [encodeRuneZ_one (by omega) (by omega)]
        simp
  · obtain ⟨e1, e2⟩ := take_append_enc h0 hb
    rw [← e1]
    generalize (decodeL l).1 = r at *
    rw [qB_flat _ (enc_big r (by omega) hr hval)]
    unfold qRune
    rw [shortN_big (by omega), if_neg (by simp), if_neg (by omega)]
theorem quoteB {l : List UInt8} (hv : validD l = true) : l.flatMap qB = bodyL l := by
  refine valid_ind (P := fun l => l.flatMap qB = bodyL l) rfl ?_ l.length l (Nat.le_refl _) hv
  intro l h0 hb hv ih
  rw [bodyL_step h0 hb, ← ih, ← quoteB_step h0 hb, ← List.flatMap_append, List.take_append_drop]
end Go.Proofs.YtgbagdfcdljleaaGreatDoor.Ru

namespace Go.Proofs.YtgbagdfcdljleaaGreatDoor.Ru
open Go.RowKit Go.Shelf

def accL (l : List UInt8) (k : Nat) : List UInt8 := 34 :: (l.take k).flatMap qB
theorem accL_snoc (s : ByteArray) (k : Nat) (h : k < s.size) : accL s.data.toList (k + 1) = accL s.data.toList k ++ qB s[k] := by
  unfold accL
  rw [take_snoc s k h, List.flatMap_append]
  simp
theorem shortN_none {r : Nat} (h1 : r ≠ 34) (h2 : r ≠ 92) (h3 : r ≠ 8) (h4 : r ≠ 9) (h5 : r ≠ 10) (h6 : r ≠ 12) (h7 : r ≠ 13) : shortN r = 0 := by
  unfold shortN
  rw [if_neg h3, if_neg h4, if_neg h5, if_neg h6, if_neg h7, if_neg h1, if_neg h2]
theorem qB_len (c : UInt8) : (qB c).length ≤ 6 := by
  unfold qB
  split
  · simp
  · split <;> simp
theorem accL_len (l : List UInt8) (k : Nat) : (accL l k).length ≤ 1 + 6 * k := by
  unfold accL
  rw [List.length_cons]
  have := flat_le qB 6 qB_len (l.take k)
  rw [List.length_take] at this
  have h2 : 6 * min k l.length ≤ 6 * k := Nat.mul_le_mul_left 6 (Nat.min_le_left _ _)
  omega
/-- Between two rounds: the row of bytes, and what lay below. -/
def RQ (w : World) (A : List UInt8) (v : Value) (W : World) : Prop := W.ownsRow w.heap.size 5 1 v A.length (Lib.byteCells A) ∧ Below w.heap.size w W
theorem RQ.step {w W W' : World} {A news : List UInt8} {v v' : Value} {o : Obj} {n : Nat} {cs : List Value} (h : RQ w A v W) (hown : W'.ownsRow w.heap.size 5 1 v' (A.length + n) (Lib.byteCells A ++ cs)) (hg : (W.alloc o).grownBy W' v.ownBlock)
    (hn : news.length = n) (hc : Lib.byteCells news = cs) : RQ w (A ++ news) v' W' := by
  refine ⟨?_, ?_⟩
  · rw [List.length_append, byteCells_append, hn, hc]
    exact hown
  · exact (h.2.alloc (by have := h.2.size; omega) _).grown hg (by have := h.2.size; simp; omega) (fun k hk => (h.1.lt k hk).1)

end Go.Proofs.YtgbagdfcdljleaaGreatDoor.Ru

namespace Go.Proofs.YtgbagdfcdljleaaGreatDoor.Ru
open Go.RowKit Go.Shelf

theorem conv_row (W : World) (B : Nat) (v : Value) (acc : List UInt8) (h : W.ownsRow B 5 1 v acc.length (Lib.byteCells acc)) :
    (convert 57 9 v).run Tryz.prog W = .ok (.string ⟨acc.toArray⟩) W := by
  rcases h.2 with ⟨rfl, h0⟩ | ⟨g, cap, cur, rfl, _⟩
  · have e : acc = [] := List.eq_nil_of_length_eq_zero h0
    subst e
    exact run_convert_bytes_nil (P := Tryz.prog) (w := W) 57 5 Tryz.underlying57 Tryz.underlying5 0 0 9 Tryz.underlying9
  · exact run_convert_bytes_back (P := Tryz.prog) W 57 9 5 ⟨g, 0, none⟩ cap acc Tryz.underlying57 Tryz.underlying5 Tryz.underlying9 (fun j hj => by
      have := h.cells (g := g) rfl j _ (List.getElem?_eq_getElem (by simpa [Lib.byteCells] using hj))
      rw [this]
      simp only [Lib.byteCells, List.getElem_map])

/-- Between two rounds. -/
def RU (w : World) (acc : List UInt8) (v : Value) (W : World) : Prop := W.ownsRow w.heap.size 5 1 v acc.length (Lib.byteCells acc) ∧ Below w.heap.size w W
theorem RU.step {w W W' : World} {acc : List UInt8} {S : ByteArray} {v v' : Value} (h : RU w acc v W) (hown : W'.ownsRow w.heap.size 5 1 v' (acc.length + S.size) (Lib.byteCells acc ++ Lib.strCells S)) (hg : W.grownBy W' v.ownBlock) : RU w (acc ++ S.data.toList) v' W' := by
  refine ⟨?_, h.2.grown hg h.2.size (fun k hk => (h.1.lt k hk).1)⟩
  rw [List.length_append, toList_length, byteCells_append]
  exact hown
theorem RU.below {w W W' : World} {acc : List UInt8} {v : Value} (h : RU w acc v W) (hb : Below W.heap.size W W') : RU w acc v W' :=
  ⟨h.1.kept (grown_of_below hb) (by cases v.ownBlock <;> simp), h.2.trans (hb.mono h.2.size)⟩
theorem head_cons (s : ByteArray) (q : Nat) (h : q < s.size) : s.data.toList.drop q = s[q] :: s.data.toList.drop (q + 1) := by
  rw [List.drop_eq_getElem_cons (by rw [toList_length]; exact h)]; rfl
theorem dec_ascii (s : ByteArray) (q : Nat) (h : q < s.size) (hc : (s[q]'h).toNat < 128) : bad (s.data.toList.drop q) = false ∧ Lib.decodeL (s.data.toList.drop q) = ((s[q]'h).toNat, 1) := by
  rw [head_cons s q h]
  exact ⟨bad_ascii _ hc, Lib.decodeL_ascii _ _ hc⟩
theorem dec_big (s : ByteArray) (q : Nat) (h : q < s.size) (hc : ¬ (s[q]'h).toNat < 128) (hb : bad (s.data.toList.drop q) = false) : 128 ≤ (Lib.decodeL (s.data.toList.drop q)).1 := by
  obtain ⟨r, hr⟩ : ∃ r, (Lib.decodeL (s.data.toList.drop q)).1 = r := ⟨_, rfl⟩
  rw [hr]
  rcases Nat.lt_or_ge r 128 with h1 | h1
  · obtain ⟨t, ht, _⟩ := head_ascii (drop_ne s q h) hb hr h1
    rw [head_cons s q h] at ht
    have := (List.cons.inj ht).1
    rw [this, u8n _ (by omega)] at hc
    omega
  · exact h1
theorem ext_take (s : ByteArray) (q n : Nat) : (s.extract q (q + n)).data.toList = (s.data.toList.drop q).take n := by
  have := Lib.extract_toList s q (q + n)
  rw [show (s.extract q (q + n)).data.toList = (s.extract q (q + n)).toList from (Lib.toList_data _).symm, this, Nat.add_sub_cancel_left]

set_option maxRecDepth 100000 in
set_option maxHeartbeats 2000000 in
theorem runq_arg (s : ByteArray) (at' : Int) (h : at' < 0 ∨ (s.size : Int) < at') (hs : s.size ≤ 20000) (w : World) :
    Calls Tryz.prog 19 #[.string s, .int .i64 at'] w fun e w' => e = .returned (ansV ([], 0, 2)) ∧ Below w.heap.size w w' := by
  unfold ansV
  by_cases h0 : at' < 0
  · clear h
    go_enter Tryz.func19, Tryz.ntmps19
    go_wp2_with fail
    go_ret3
    exact ⟨rfl, Below.refl _ _⟩
  · have h1 : (s.size : Int) < at' := by omega
    clear h
    go_enter Tryz.func19, Tryz.ntmps19
    go_wp2_with fail
    go_ret3
    exact ⟨rfl, Below.refl _ _⟩

set_option maxRecDepth 100000 in
set_option maxHeartbeats 2000000 in
theorem runq_noquote (s : ByteArray) (p : Nat) (hp : p ≤ s.size) (h : p = s.size ∨ s.data.toList.getD p 0 ≠ 34) (hs : s.size ≤ 20000) (w : World) :
    Calls Tryz.prog 19 #[.string s, .int .i64 p] w fun e w' => e = .returned (ansV ([], p, 10)) ∧ Below w.heap.size w w' := by
  unfold ansV
  by_cases h0 : p = s.size
  · have h1 : ((p : Int) == (s.size : Int)) = true := by rw [beq_iff_eq]; omega
    clear h h0
    go_enter Tryz.func19, Tryz.ntmps19
    go_wp2_with fail
    go_ret3
    exact ⟨rfl, Below.refl _ _⟩
  · have h1 : ((p : Int) == (s.size : Int)) = false := by rw [beq_eq_false_iff_ne]; omega
    have hlt : p < s.size := by omega
    have h2 : (((s[p]'hlt).toNat : Int) != 34) = true := by
      have hne := h.resolve_left h0
      rw [List.getD, toList_getElem s p hlt] at hne
      rw [bne_iff_ne]
      intro e
      exact hne (UInt8.toNat_inj.1 (by simpa using (by omega : (s[p]'hlt).toNat = 34)))
    clear h h0
    go_enter Tryz.func19, Tryz.ntmps19
    go_wp2_with fail
    go_ret3
    exact ⟨rfl, Below.refl _ _⟩

set_option maxRecDepth 100000 in
set_option maxHeartbeats 8000000 in
theorem runq_yes (s : ByteArray) (p : Nat) (hp : p < s.size) (h : s[p]'hp = 34) (hs : s.size ≤ 20000) (w : World) :
    Calls Tryz.prog 19 #[.string s, .int .i64 p] w fun e w' => e = .returned (ansV (unqL s.data.toList p)) ∧ Below w.heap.size w w' := by
  obtain ⟨R, hR⟩ : ∃ R, unqL s.data.toList p = R := ⟨_, rfl⟩
  have hU := unqL_uqR s.data.toList p s.size (by rw [toList_length]; exact Nat.le_refl _)
  rw [hR] at hU ⊢
  have HU := Lib.hid hU.symm
  have h1 : ((p : Int) == (s.size : Int)) = false := by rw [beq_eq_false_iff_ne]; omega
  have h2 : (((s[p]'hp).toNat : Int) != 34) = false := by rw [h]; rfl
  have hp0 : decide ((p : Int) < 0) = false := decide_eq_false (by omega)
  have hp1 : decide (s.size < p) = false := decide_eq_false (by omega)
  clear hU hR h
  unfold ansV
  obtain ⟨i0, hi, hz0, hz1, hz2⟩ := info_parts infoByte
  go_enter Tryz.func19, Tryz.ntmps19
  go_wp2_with fail
  go_loopw [1, 7] (fun a v wr => ∃ (q f : Nat) (acc : List UInt8), q ≤ s.size ∧ a = .int .i64 q ∧ RU w acc v wr ∧ acc.length ≤ 4 * q ∧ s.size < q + f ∧ uqR f (s.data.toList.drop q) q acc = R) (fun a v _ => s.size - (intOf a).toNat)
  case atStart => exact ⟨p + 1, s.size + 1, [], by omega, by go_num, ⟨World.ownsRow_nil _ _ _ _, Below.refl _ _⟩, by simp, by omega, HU.out⟩
  case round =>
    obtain ⟨q, f, acc, hq, rfl, hown, hal, hf, hu⟩ := hrel
    by_cases hlt : q < s.size
    · obtain ⟨f, rfl⟩ : ∃ g, f = g + 1 := ⟨f - 1, by omega⟩
      have hne := drop_ne s q hlt
      rw [uqR, if_neg hne] at hu
      obtain ⟨c, hc⟩ : ∃ c, (s[q]'hlt).toNat = c := ⟨_, rfl⟩
      by_cases e34 : c = 34
      · obtain ⟨hb, hd⟩ := dec_ascii s q hlt (by omega)
        rw [hb, hd, hc] at hu
        simp only [Bool.false_eq_true, if_false, e34, if_true] at hu
        subst hu
        have hcv := conv_row _ _ _ acc hown.1
        have HB := Lib.hid hown.2
        subst e34
        clear hown hb hd hne
        go_wp2_with fail
        go_ret3
        exact ⟨rfl, HB.out⟩
      have n34 : ((c : Int) == 34) = false := by rw [beq_eq_false_iff_ne]; omega
      by_cases e92 : c = 92
      · obtain ⟨hb, hd⟩ := dec_ascii s q hlt (by omega)
        have hE := resc_any s q hlt hs (UInt8.toNat_inj.1 (by rw [hc, e92]; rfl)) wr
        rw [hb, hd, hc] at hu
        simp only [Bool.false_eq_true, if_false, e92, if_true] at hu
        rw [if_neg (by omega), if_neg (by omega)] at hu
        cases hL : escL (s.data.toList.drop q) with
        | none =>
          rw [hL] at hu hE
          simp only [escV] at hu hE
          subst hu
          have HE := Lib.hid hE
          have HB := Lib.hid hown.2
          subst e92
          clear hown hb hd hne hE hL
          go_wp2_with (go_at_call 28; refine HE.out.mono ?_; rintro e w' ⟨rfl, hb⟩)
          go_ret3
          exact ⟨rfl, HB.out.trans (hb.mono HB.out.size)⟩
        | some y =>
          rw [hL] at hu hE
          simp only [escV] at hu hE
          obtain ⟨y1, k⟩ := y
          have hy := escL_rune hL
          have hle := (escL_ascii hL (fun x hx => by
            rw [head_cons s q hlt] at hx
            simp only [List.take_succ_cons, List.take_zero, List.mem_cons, List.not_mem_nil, or_false] at hx
            subst hx; omega)).1
          rw [drop_len] at hle
          have hel := enc_le y1
          dsimp only at hu hE hy hle
          obtain ⟨S, hS⟩ : ∃ S : ByteArray, S = ⟨(Lib.encodeRune (y1 : Int)).toArray⟩ := ⟨_, rfl⟩
          rw [← hS] at hE
          have hSd : S.data.toList = Lib.encodeRune (y1 : Int) := by rw [hS]
          have hSz : S.size ≤ 4 := by rw [← toList_length, hSd]; exact hel
          rw [← hSd, List.drop_drop] at hu
          have HE := Lib.hid hE
          have HU2 := Lib.hid hu
          have hk0 : ((k : Int) == 0) = false := by rw [beq_eq_false_iff_ne]; omega
          have hk1 : 1 ≤ k := by omega
          have hk2 : q + k ≤ s.size := by omega
          subst e92
          clear hb hd hne hE hL hu hS hy hel hle
          go_wp2_with fail
          refine HE.out.mono ?_
          rintro e w5 ⟨rfl, hb5⟩
          have hown5 := hown.below hb5
          clear hown
          go_wp2_with (at_builtin; refine Lib.wpList_append_own_string _ rfl _ _ 57 9 rfl w.heap.size 5 i0 Tryz.underlying57 Tryz.underlying9 hi hz0 hz1 hz2 _ _ _ rfl hown5.1 S rfl ?c3 ?c4 ?c5 ?_)
          case c3 => unfold maxLen; omega
          case c4 => omega
          case c5 => exact hown5.2.size
          intro v' w1 hown' hgrow _
          have hR := hown5.step hown' hgrow
          have hSd' := toList_length S
          clear hown' hgrow hown5 hb5
          go_wp2_with fail
          go_roundw
          case rel => exact ⟨q + k, f, acc ++ S.data.toList, by omega, by go_num, hR, by rw [List.length_append]; omega, by omega, HU2.out⟩
          case measure => simp [intOf]; omega
      have n92 : ((c : Int) == 92) = false := by rw [beq_eq_false_iff_ne]; omega
      have hO := one_at s q hlt (by omega) wr
      cases hb : bad (s.data.toList.drop q) with
      | true =>
        rw [hb] at hu
        simp only [if_true] at hu
        subst hu
        rw [bad_size s q hlt hb] at hO
        have HO := Lib.hid hO
        have HB := Lib.hid hown.2
        clear hown hO hb hne e34 e92
        by_cases h32 : c < 32
        · have i32 : (c : Int) < 32 := by omega
          go_wp2_with (go_at_call 29; refine HO.out.mono ?_; rintro e w' ⟨rfl, rfl⟩; unfold pairV)
          go_ret3
          exact ⟨rfl, HB.out⟩
        · have i32 : ¬ (c : Int) < 32 := by omega
          go_wp2_with (go_at_call 29; refine HO.out.mono ?_; rintro e w' ⟨rfl, rfl⟩; unfold pairV)
          go_ret3
          exact ⟨rfl, HB.out⟩
      | false =>
        rw [hb] at hu
        simp only [Bool.false_eq_true, if_false] at hu
        rw [oneL_good hne hb] at hO
        have hw := Lib.decodeL_width (s.data.toList.drop q)
        have hl := Lib.decodeL_le (s.data.toList.drop q) hne
        rw [drop_len] at hl
        obtain ⟨te, tl⟩ := take_append_enc hne hb
        by_cases h32 : c < 32
        · obtain ⟨_, hd⟩ := dec_ascii s q hlt (by omega)
          rw [hd, hc] at hu
          rw [if_neg e34, if_pos h32] at hu
          subst hu
          obtain ⟨d1, d2⟩ := Lib.decodeL (s.data.toList.drop q)
          unfold pairV at hO
          have HO := Lib.hid hO
          have HB := Lib.hid hown.2
          have i32 : (c : Int) < 32 := by omega
          clear hown hO hb hne e34 e92 hd te tl hw hl
          go_wp2_with (go_at_call 29; refine HO.out.mono ?_; rintro e w' ⟨rfl, rfl⟩)
          go_ret3
          exact ⟨rfl, HB.out⟩
        · have hr : (Lib.decodeL (s.data.toList.drop q)).1 ≠ 34 ∧ ¬ (Lib.decodeL (s.data.toList.drop q)).1 < 32 ∧ (Lib.decodeL (s.data.toList.drop q)).1 ≠ 92 := by
            by_cases h128 : c < 128
            · obtain ⟨_, hd⟩ := dec_ascii s q hlt (by omega)
              rw [hd, hc]
              exact ⟨e34, h32, e92⟩
            · have := dec_big s q hlt (by omega) hb
              omega
          rw [if_neg hr.1, if_neg hr.2.1, if_neg hr.2.2, te, List.drop_drop] at hu
          generalize Lib.decodeL (s.data.toList.drop q) = d at *
          obtain ⟨r, k⟩ := d
          dsimp only at hu hw hl te tl hr hO
          unfold pairV at hO
          dsimp only at hO
          obtain ⟨S, hS⟩ : ∃ S : ByteArray, S = s.extract q (q + k) := ⟨_, rfl⟩
          have hSd : S.data.toList = (s.data.toList.drop q).take k := by rw [hS, ext_take]
          have hSl := toList_length S
          have hSz : S.size ≤ 4 := by
            have := enc_le r
            rw [te, ← hSd] at this
            omega
          rw [← hSd] at hu
          have HO := Lib.hid hO
          have HU2 := Lib.hid hu
          have hk0 : ((k : Int) == 0) = false := by rw [beq_eq_false_iff_ne]; omega
          have hk1 : 1 ≤ k := by omega
          have hk2 : q + k ≤ s.size := by omega
          have HSe := Lib.hid hS.symm
          have HkS : Hid (S.size = k) := Lib.hid (by rw [hS, ByteArray.size_extract]; omega)
          have i32 : decide ((c : Int) < 32) = false := decide_eq_false (by omega)
          have j1 : (q : Int) ≤ (q : Int) + (k : Int) := by omega
          have j2 : (q : Int) + (k : Int) ≤ (s.size : Int) := by omega
          have j3 : q ≤ q + k := by omega
          clear hO hb hne e34 e92 te tl hw hl hr hu hS hSd
          go_wp2_with fail
          refine HO.out.mono ?_
          rintro e w5 ⟨rfl, rfl⟩
          go_wp2_with (at_builtin; refine Lib.wpList_append_own_string _ rfl _ _ 57 9 rfl w.heap.size 5 i0 Tryz.underlying57 Tryz.underlying9 hi hz0 hz1 hz2 _ _ _ rfl hown.1 (s.extract q (q + k)) rfl ?d3 ?d4 ?d5 ?_)
          case d3 => rw [HSe.out]; unfold maxLen; omega
          case d4 => rw [HSe.out]; omega
          case d5 => exact hown.2.size
          intro v' w1 hown' hgrow _
          rw [HSe.out] at hown'
          have hR := hown.step (S := S) (by rw [HkS.out]; exact hown') hgrow
          clear hown' hgrow hown
          go_wp2_with fail
          go_roundw
          case rel => exact ⟨q + k, f, acc ++ S.data.toList, by omega, by go_num, hR, by rw [List.length_append]; omega, by omega, HU2.out⟩
          case measure => simp [intOf]; omega
    · have hke : q = s.size := by omega
      subst hke
      obtain ⟨f, rfl⟩ : ∃ g, f = g + 1 := ⟨f - 1, by omega⟩
      rw [uqR, if_pos (List.drop_eq_nil_of_le (by rw [toList_length]; omega))] at hu
      subst hu
      have HB := Lib.hid hown.2
      clear hown
      go_wp2_with fail
      go_ret3
      exact ⟨rfl, HB.out⟩

theorem runq_any (s : ByteArray) (at' : Int) (hs : s.size ≤ 20000) (w : World) :
    Calls Tryz.prog 19 #[.string s, .int .i64 at'] w fun e w' => e = .returned (ansV (unqI s.data.toList at')) ∧ Below w.heap.size w w' := by
  unfold unqI
  rw [toList_length]
  split
  · rename_i h
    exact runq_arg s at' h hs w
  · rename_i h
    obtain ⟨p, rfl⟩ : ∃ p : Nat, at' = p := ⟨at'.toNat, by omega⟩
    rw [Int.toNat_natCast]
    have hp : p ≤ s.size := by omega
    split
    · rename_i h2
      exact runq_noquote s p hp h2 hs w
    · rename_i h2
      have h3 : p < s.size := by omega
      refine runq_yes s p h3 ?_ hs w
      have h4 : s.data.toList.getD p 0 = 34 := Decidable.not_not.1 fun e => h2 (.inr e)
      rw [List.getD, toList_getElem s p h3] at h4
      exact h4
end Go.Proofs.YtgbagdfcdljleaaGreatDoor.Ru
