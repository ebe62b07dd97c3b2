/-
  Contracts of strconv.ParseUint at four bytes, base 16, 16 bits; of unit, joiner, long, escape, of package runes.
-/
import Derived.Test.YtgbagdfcdljleaaGreatDoorG1
import Derived.Lib.ConvBytes
import Derived.Lib.SmallJoins
import Derived.Laws.Strings3
import Derived.Laws.Closers25
import Derived.Laws.Closers25b
import Derived.BigCall
import Derived.BigGuard
set_option linter.unusedVariables false
set_option linter.unusedSimpArgs false
namespace Go.Proofs.YtgbagdfcdljleaaGreatDoor.Ru
open Go.RowKit Go.Shelf Go.Maps

/-- The value of a hexadecimal digit; 16: it is none. -/
def hexv (c : Nat) : Nat := if 48 ≤ c ∧ c ≤ 57 then c - 48 else if 97 ≤ c ∧ c ≤ 102 then c - 87 else if 65 ≤ c ∧ c ≤ 70 then c - 55 else 16
def parse16 : Nat → List UInt8 → Option Nat
  | acc, [] => some acc
  | acc, c :: t => if hexv c.toNat < 16 then parse16 (acc * 16 + hexv c.toNat) t else none
def uintRes : Option Nat → Value
  | some n => .tuple #[.int .u64 n, .nilIface]
  | none => .tuple #[.int .u64 0, .iface 118 (.int .i64 2)]

set_option maxRecDepth 100000 in
theorem or32 : ∀ X : Fin 256, bits .or .u8 ((X.val : Nat) : Int) 32 = (((X.val ||| 32 : Nat)) : Int) := by decide
set_option maxRecDepth 100000 in
theorem or32_lo : ∀ X : Fin 256, 97 ≤ X.val → X.val ≤ 122 → X.val ||| 32 = X.val := by decide
set_option maxRecDepth 100000 in
theorem or32_up : ∀ X : Fin 256, 65 ≤ X.val → X.val ≤ 90 → X.val ||| 32 = X.val + 32 := by decide
set_option maxRecDepth 100000 in
theorem or32_no : ∀ X : Fin 256, ¬ (97 ≤ X.val ∧ X.val ≤ 122) → ¬ (65 ≤ X.val ∧ X.val ≤ 90) → ¬ (97 ≤ X.val ||| 32 ∧ X.val ||| 32 ≤ 122) := by decide
set_option maxRecDepth 100000 in
theorem or32_le : ∀ X : Fin 256, X.val ||| 32 ≤ 255 := by decide

theorem lower_any (c : Nat) (hc : c < 256) (w : World) : Calls Tryz.prog 85 #[.int .u8 c] w fun e w' => e = .returned (.int .u8 ((c ||| 32 : Nat) : Int)) ∧ w' = w := by
  have h := Tryz.internal_strconv_lower c w
  rw [or32 ⟨c, hc⟩] at h
  exact h

set_option maxHeartbeats 4000000 in
set_option maxRecDepth 100000 in
theorem parse16_any (t : ByteArray) (hne : t.size ≠ 0) (hmax : t.size ≤ 4) (w : World) :
    Calls Tryz.prog 83 #[.string t, .int .i64 16, .int .i64 16] w fun e w' => e = .returned (uintRes (parse16 0 t.data.toList)) ∧ w' = Lib.bytesWorld w 5 t := by
  have hemp : t.toList.isEmpty = false := by
    rw [← decide_eq_emptyBytes]
    exact decide_eq_false (fun h => hne (by rw [h]; rfl))
  have hcv := Lib.run_convert_string_bytes (P := Tryz.prog) w 9 57 5 t (u := .string) Tryz.underlying9 Tryz.underlying57 Tryz.underlying5
  have hB : ∀ j, j < t.size → (Lib.bytesWorld w 5 t).cell? ⟨w.heap.size, j, none⟩ = some (.int .u8 (t.data.toList.getD j 0).toNat) := fun j hj => Lib.bytesWorld_cell w 5 t j hj
  obtain ⟨W1, hW1⟩ : ∃ W1, W1 = Lib.bytesWorld w 5 t := ⟨_, rfl⟩
  rw [← hW1] at hcv hB ⊢
  clear hW1
  obtain ⟨bs, hL⟩ : ∃ bs, bs = t.data.toList := ⟨_, rfl⟩
  have hLn : bs.length = t.size := by rw [hL, Lib.size_eq]
  rw [← hL] at hB ⊢
  clear hL
  have hmv : IntKind.u64.wrap (IntKind.u64.wrap 65536 - 1) = 65535 := by
    rw [IntKind.wrap_u64, IntKind.wrap_u64]
    decide
  have hx16 : ∀ x, hexv x ≤ 16 := fun x => by unfold hexv; (repeat' split) <;> omega
  go_enter Tryz.func83, Tryz.ntmps83
  go_wp2
  go_loop [12, 13, 101] (fun vu vn vi => ∃ (k acc : Nat) (a : Int), vu = .bool false ∧ vn = .int .u64 a ∧ vi = .int .i64 k ∧ k ≤ t.size ∧ Hid (a = (acc : Int) ∧ acc < 16 ^ k ∧ parse16 0 bs = parse16 acc (bs.drop k)))
    (fun _ _ vi => t.size - (intOf vi).toNat)
  case atStart => exact ⟨0, 0, 0, rfl, rfl, rfl, by omega, rfl, by decide, rfl⟩
  case round =>
    obtain ⟨k, acc, a, rfl, rfl, rfl, hk, hh⟩ := hrel
    obtain ⟨ha, hacc, hdec⟩ := hh.out
    clear hh
    by_cases hkn : k < t.size
    · have hp : 16 ^ k ≤ 4096 ∧ 16 ^ (k + 1) = 16 ^ k * 16 := by
        refine ⟨?_, Nat.pow_succ ..⟩
        have : k ≤ 3 := by omega
        exact Nat.le_trans (Nat.pow_le_pow_right (by decide) this) (by decide)
      obtain ⟨hp1, hp2⟩ := hp
      have a0 : 0 ≤ a := by omega
      have a1 : a ≤ 4095 := by omega
      have hc := hB k hkn
      have hdrop : bs.drop k = bs[k]'(by omega) :: bs.drop (k + 1) := List.drop_eq_getElem_cons (by omega)
      have hget : bs.getD k 0 = bs[k]'(by omega) := by simp [List.getD, List.getElem?_eq_getElem (show k < bs.length by omega)]
      rw [hdrop] at hdec
      rw [hget] at hc
      generalize bs[k]'(by omega) = c at hc hdec
      have hc256 : c.toNat < 256 := c.toNat_lt
      clear hB hdrop hget
      have hlow := Lib.hid (lower_any c.toNat hc256)
      have fin : ∀ d : Nat, hexv c.toNat = d → d < 16 → Hid (a * 16 + (d : Int) = ((acc * 16 + d : Nat) : Int) ∧ acc * 16 + d < 16 ^ (k + 1) ∧ parse16 0 bs = parse16 (acc * 16 + d) (bs.drop (k + 1))) := by
        intro d hd h16
        refine Lib.hid ⟨by omega, by rw [hp2]; omega, ?_⟩
        rw [hdec]
        simp [parse16, hd, h16]
      by_cases hdig : 48 ≤ c.toNat ∧ c.toNat ≤ 57
      · obtain ⟨hd0, hd1⟩ := hdig
        have HN := fin (c.toNat - 48) (by unfold hexv; rw [if_pos ⟨hd0, hd1⟩]) (by omega)
        clear fin hdec ha hacc hp1 hp2 hx16
        go_wp2
        refine ⟨⟨k + 1, acc * 16 + (c.toNat - 48), a * 16 + ((c.toNat - 48 : Nat) : Int), rfl, ?_, (by first | rfl | (congr 1; omega)), by omega, HN⟩, by simp [intOf]; omega⟩
        congr 1; omega
      · have hv0 := bits_lo_u8 .or 95 32       -- at '_' the walk writes the byte out
        have hv1 := bits_hi_u8 .or 95 32
        by_cases hlo : 97 ≤ c.toNat ∧ c.toNat ≤ 122
        · have e1 := or32_lo ⟨c.toNat, hc256⟩ hlo.1 hlo.2
          dsimp only at e1
          rw [e1] at hlow
          by_cases hf : c.toNat ≤ 102
          · have HN := fin (c.toNat - 87) (by unfold hexv; rw [if_neg hdig, if_pos ⟨hlo.1, hf⟩]) (by omega)
            obtain ⟨hl0, hl1⟩ := hlo
            have hnd : 57 < c.toNat := by omega
            clear fin hdec ha hacc hp1 hp2 hx16 e1 hdig
            go_wp2_with (go_at_call 85; refine (hlow.out _).mono ?_; rintro e w' ⟨rfl, rfl⟩)
            refine ⟨⟨k + 1, acc * 16 + (c.toNat - 87), a * 16 + ((c.toNat - 87 : Nat) : Int), rfl, ?_, (by first | rfl | (congr 1; omega)), by omega, HN⟩, by simp [intOf]; omega⟩
            congr 1; omega
          · have hF : parse16 acc (c :: bs.drop (k + 1)) = none := by
              have : hexv c.toNat = 16 := by unfold hexv; rw [if_neg hdig, if_neg (by omega), if_neg (by omega)]
              simp [parse16, this]
            have HF := Lib.hid (hdec.trans hF)
            obtain ⟨hl0, hl1⟩ := hlo
            have hnd : 57 < c.toNat := by omega
            have hge : 103 ≤ c.toNat := by omega
            clear fin hdec ha hacc hp1 hp2 hx16 e1 hdig hf hF
            go_wp2_with (go_at_call 85; refine (hlow.out _).mono ?_; rintro e w' ⟨rfl, rfl⟩)
            go_ret2
            exact ⟨by rw [HF.out]; rfl, rfl⟩
        · by_cases hup : 65 ≤ c.toNat ∧ c.toNat ≤ 90
          · have e1 := or32_up ⟨c.toNat, hc256⟩ hup.1 hup.2
            dsimp only at e1
            rw [e1] at hlow
            by_cases hf : c.toNat ≤ 70
            · have HN := fin (c.toNat - 55) (by unfold hexv; rw [if_neg hdig, if_neg (by omega), if_pos ⟨hup.1, hf⟩]) (by omega)
              obtain ⟨hl0, hl1⟩ := hup
              clear fin hdec ha hacc hp1 hp2 hx16 e1 hdig hlo
              go_wp2_with (go_at_call 85; refine (hlow.out _).mono ?_; rintro e w' ⟨rfl, rfl⟩)
              refine ⟨⟨k + 1, acc * 16 + (c.toNat - 55), a * 16 + ((c.toNat - 55 : Nat) : Int), rfl, ?_, (by first | rfl | (congr 1; omega)), by omega, HN⟩, by simp [intOf]; omega⟩
              congr 1; omega
            · have hF : parse16 acc (c :: bs.drop (k + 1)) = none := by
                have : hexv c.toNat = 16 := by unfold hexv; rw [if_neg hdig, if_neg (by omega), if_neg (by omega)]
                simp [parse16, this]
              have HF := Lib.hid (hdec.trans hF)
              obtain ⟨hl0, hl1⟩ := hup
              have hge : 71 ≤ c.toNat := by omega
              clear fin hdec ha hacc hp1 hp2 hx16 e1 hdig hf hF hlo
              go_wp2_with (go_at_call 85; refine (hlow.out _).mono ?_; rintro e w' ⟨rfl, rfl⟩)
              go_ret2
              exact ⟨by rw [HF.out]; rfl, rfl⟩
          · have e1 := or32_no ⟨c.toNat, hc256⟩ hlo hup
            have e2 := or32_le ⟨c.toNat, hc256⟩
            dsimp only at e1 e2
            generalize c.toNat ||| 32 = z at hlow e1 e2
            have hF : parse16 acc (c :: bs.drop (k + 1)) = none := by
              have : hexv c.toNat = 16 := by unfold hexv; rw [if_neg hdig, if_neg (by omega), if_neg (by omega)]
              simp [parse16, this]
            have HF := Lib.hid (hdec.trans hF)
            clear fin hdec ha hacc hp1 hp2 hx16 hF hlo hup
            have h95 : ((c.toNat : Int) == 95) = true ∨ ((c.toNat : Int) == 95) = false := by cases h : ((c.toNat : Int) == 95) <;> simp
            have hz : z < 97 ∨ 122 < z := by omega
            have hd3 : c.toNat < 48 ∨ (48 ≤ c.toNat ∧ 57 < c.toNat) := by omega
            clear e1 hdig
            rcases h95 with h95 | h95 <;> rcases hz with hz | hz <;> rcases hd3 with hd3 | ⟨hd3, hd4⟩
            all_goals
              go_wp2_with (go_at_call 85; refine (hlow.out _).mono ?_; rintro e w' ⟨rfl, rfl⟩)
              go_ret2
              exact ⟨by rw [HF.out]; rfl, rfl⟩
    · have hkk : k = t.size := by omega
      subst hkk
      have hF : parse16 acc (bs.drop t.size) = some acc := by rw [List.drop_eq_nil_of_le (by omega)]; rfl
      rw [hF] at hdec
      subst ha
      have HF := Lib.hid hdec
      clear hacc hF hdec hx16
      go_wp2
      go_ret2
      exact ⟨by rw [HF.out]; rfl, rfl⟩
end Go.Proofs.YtgbagdfcdljleaaGreatDoor.Ru
