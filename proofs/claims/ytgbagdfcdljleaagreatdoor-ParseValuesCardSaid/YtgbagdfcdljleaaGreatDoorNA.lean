/-
  The closure of number.Text that writes the digits one behind another, by a contract of its own; the digits of the reference. · Contracts of Fits, Digit, Text, Len, of package number. · Contracts of misplaced and worth, of package number. · The contract of worth, of package number.
-/
import Derived.Test.YtgbagdfcdljleaaGreatDoorProg
import Derived.Test.YtgbagdfcdljleaaGreatDoorGB
import Derived.WalkKit
import Derived.ProofKit
import Derived.Below
import Derived.Handy
import Derived.Deep.QuietTactic
import Derived.BigQuiet
import Derived.Lib.Hide
import Derived.Laws.IdiomStrings
import Derived.Laws.OwnMore
import Derived.Lib.AppendIntMem
import Derived.Laws.EntriesVeiled
import Derived.IntWalk
import Derived.Test.YtgbagdfcdljleaaGreatDoorShelf
set_option linter.unusedVariables false
set_option linter.unusedSimpArgs false
namespace Go.Proofs.YtgbagdfcdljleaaGreatDoor.Nu
open Go.RowKit

theorem infoByte : (Tryz.prog.info? 5).map (fun i => (i.zero, i.size, i.bytes)) = some (some (.int .u8 0), 1, 1) := by kernel_rfl
theorem byteCells_app (a b : List UInt8) : Lib.byteCells (a ++ b) = Lib.byteCells a ++ Lib.byteCells b := by simp [Lib.byteCells]
theorem byteCell_digit {d : Nat} (h : d < 10) : Lib.byteCells [UInt8.ofNat (48 + d)] = [.int .u8 (48 + (d : Int))] := by
  simp only [Lib.byteCells, List.map_cons, List.map_nil]
  rw [ofD h]; rfl

end Go.Proofs.YtgbagdfcdljleaaGreatDoor.Nu

namespace Go.Proofs.YtgbagdfcdljleaaGreatDoor.Nu
open Go.RowKit

theorem digit_any (c : UInt8) (w : World) : Calls Tryz.prog 35 #[.int .u8 c.toNat] w fun e w' => e = .returned (.bool (isD c)) ∧ w = w' := by
  have e : isD c = (decide (48 ≤ c.toNat) && decide (c.toNat ≤ 57)) := rfl
  have E := Lib.hid e
  clear e
  by_cases h1 : 48 ≤ c.toNat <;> by_cases h2 : c.toNat ≤ 57 <;> first | (exfalso; omega) | skip
  all_goals
    go_enter Tryz.func35, Tryz.ntmps35
    go_wp2
    go_ret
    exact ⟨by rw [E.out]; simp [*] <;> omega, rfl⟩
theorem digit_yes (c : UInt8) (h : isD c = true) (w : World) : Calls Tryz.prog 35 #[.int .u8 c.toNat] w fun e w' => e = .returned (.bool true) ∧ w = w' := h ▸ digit_any c w
theorem digit_no (c : UInt8) (h : isD c = false) (w : World) : Calls Tryz.prog 35 #[.int .u8 c.toNat] w fun e w' => e = .returned (.bool false) ∧ w = w' := h ▸ digit_any c w

/-- What Text answers. -/
def errN (b : Bool) : Int := if b then 0 else 20
theorem size_arr (l : List UInt8) : ByteArray.size ⟨l.toArray⟩ = l.length := by simp [ByteArray.size]
end Go.Proofs.YtgbagdfcdljleaaGreatDoor.Nu

namespace Go.Proofs.YtgbagdfcdljleaaGreatDoor.Nu
open Go.RowKit

theorem toList_length (s : ByteArray) : s.data.toList.length = s.size := by rw [Array.length_toList]; rfl
theorem toList_getElem (s : ByteArray) (k : Nat) (h : k < s.size) : s.data.toList[k]? = some s[k] := by
  rw [List.getElem?_eq_getElem (by rw [toList_length]; exact h)]; rfl
theorem toList_getD (s : ByteArray) (k : Nat) (h : k < s.size) : s.data.toList.getD k 0 = s[k] := by
  rw [List.getD, toList_getElem s k h]; rfl
theorem toList_getD_end (s : ByteArray) (k : Nat) (h : s.size ≤ k) : s.data.toList.getD k 0 = 0 := by
  rw [List.getD, List.getElem?_eq_none (by rw [toList_length]; exact h)]; rfl
theorem take_snoc (s : ByteArray) (k : Nat) (h : k < s.size) : s.data.toList.take (k + 1) = s.data.toList.take k ++ [s[k]] := by
  rw [List.take_succ_eq_append_getElem (by simpa using h)]; rfl
theorem u8back (c : UInt8) : ((c.toNat : Int)).toNat.toUInt8 = c := by simp
def dotE : ByteArray := ⟨#[46, 101, 69]⟩
theorem idx_yes (c : UInt8) (h : stopB c = true) (w : World) : Calls Tryz.prog 69 #[.string ⟨#[46, 101, 69]⟩, .int .u8 c.toNat] w fun e w' => (∃ i : Int, 0 ≤ i ∧ e = .returned (.int .i64 i)) ∧ w = w' := by
  refine (Tryz.strings_IndexByte ⟨#[46, 101, 69]⟩ c.toNat w).mono ?_
  rintro e w' ⟨rfl, rfl⟩
  refine ⟨⟨_, ?_, rfl⟩, rfl⟩
  rw [u8back]
  have h' : c = 46 ∨ c = 101 ∨ c = 69 := by simpa [stopB, or_assoc] using h
  rcases h' with rfl | rfl | rfl <;> decide
theorem idx_no (c : UInt8) (h : stopB c = false) (w : World) : Calls Tryz.prog 69 #[.string ⟨#[46, 101, 69]⟩, .int .u8 c.toNat] w fun e w' => e = .returned (.int .i64 (-1)) ∧ w = w' := by
  refine (Tryz.strings_IndexByte ⟨#[46, 101, 69]⟩ c.toNat w).mono ?_
  rintro e w' ⟨rfl, rfl⟩
  refine ⟨?_, rfl⟩
  rw [u8back]
  have h' : c ≠ 46 ∧ c ≠ 101 ∧ c ≠ 69 := by simpa [stopB, and_assoc] using h
  obtain ⟨h1, h2, h3⟩ := h'
  have : Lib.indexByte [46, 101, 69] c = -1 := by
    simp [Lib.indexByte, Ne.symm h1, Ne.symm h2, Ne.symm h3]
  show Ending.returned (.int .i64 (Lib.indexByte [46, 101, 69] c)) = _
  rw [this]

def misV (p : Int × Bool) : Value := .tuple #[.int .i64 p.1, .bool p.2]
set_option maxRecDepth 100000 in
set_option maxHeartbeats 2000000 in
theorem mis_any (s : ByteArray) (f d : Nat) (hfd : f + d ≤ s.size) (hs : s.size ≤ maxLen) (w : World) :
    Calls Tryz.prog 59 #[.string s, .int .i64 f, .int .i64 ((f + d : Nat) : Int)] w fun e w' => e = .returned (misV (misL s.data.toList f d)) ∧ w = w' := by
  unfold maxLen at hs
  by_cases d0 : d = 0
  · have HM : Hid (misL s.data.toList f d = ((f : Int), true)) := Lib.hid (by unfold misL; rw [if_pos d0])
    have hq : ((f : Int) == ((f + d : Nat) : Int)) = true := by rw [beq_iff_eq]; omega
    clear d0
    go_enter Tryz.func59, Tryz.ntmps59
    go_wp2_with fail
    go_ret2
    exact ⟨by rw [HM.out]; rfl, rfl⟩
  have hf : f < s.size := by omega
  have hg := toList_getD s f hf
  obtain ⟨e, he⟩ : ∃ e : Nat, e = f + d := ⟨_, rfl⟩
  have HE := Lib.hid he
  rw [← he]
  have hq : ((f : Int) == (e : Int)) = false := by rw [beq_eq_false_iff_ne]; omega
  have hse : e ≤ s.size := by omega
  have hfe : f < e := by omega
  by_cases h1 : s[f] = 48 ∧ 1 < d
  · have HM : Hid (misL s.data.toList f d = ((f : Int) + 1, true)) := Lib.hid (by unfold misL; rw [if_neg d0, hg, if_pos h1])
    have h48 : ((s[f].toNat : Int) == 48) = true := by rw [h1.1]; rfl
    have hgt : 1 < (e : Int) - f := by omega
    clear d0 hg he h1 hfd
    go_enter Tryz.func59, Tryz.ntmps59
    go_wp2_with fail
    go_ret2
    exact ⟨by rw [HM.out]; rfl, rfl⟩
  have rest : ∀ (b : Bool) (hb : ((s[f].toNat : Int) == 48) = b) (g : b = true → ¬ (1 : Int) < (e : Int) - f), Calls Tryz.prog 59 #[.string s, .int .i64 f, .int .i64 e] w fun e w' => e = .returned (misV (misL s.data.toList f d)) ∧ w = w' := by
    intro b hb g
    by_cases hlt : e < s.size
    · have hge := toList_getD s e hlt
      have HI1 := Lib.hid (idx_yes s[e])
      have HI2 := Lib.hid (idx_no s[e])
      cases hst : stopB s[e] with
      | true =>
        have HM : Hid (misL s.data.toList f d = ((e : Int), true)) := Lib.hid (by unfold misL; rw [if_neg d0, hg, if_neg h1, ← he, hge, hst, if_pos rfl, he, Int.natCast_add])
        have HS := Lib.hid hst
        clear d0 hg he h1 hfd hge hst
        cases b with
        | true =>
          have g' := g rfl
          clear g
          go_enter Tryz.func59, Tryz.ntmps59
          go_wp2_with (go_at_call 69; refine (HI1.out HS.out _).mono ?_; rintro e w' ⟨⟨i, hi, rfl⟩, rfl⟩)
          go_ret2
          exact ⟨by rw [HM.out]; rfl, rfl⟩
        | false =>
          clear g
          go_enter Tryz.func59, Tryz.ntmps59
          go_wp2_with (go_at_call 69; refine (HI1.out HS.out _).mono ?_; rintro e w' ⟨⟨i, hi, rfl⟩, rfl⟩)
          go_ret2
          exact ⟨by rw [HM.out]; rfl, rfl⟩
      | false =>
        have HM : Hid (misL s.data.toList f d = (0, false)) := Lib.hid (by unfold misL; rw [if_neg d0, hg, if_neg h1, ← he, hge, hst, if_neg (by simp)])
        have HS := Lib.hid hst
        clear d0 hg he h1 hfd hge hst
        cases b with
        | true =>
          have g' := g rfl
          clear g
          go_enter Tryz.func59, Tryz.ntmps59
          go_wp2_with (go_at_call 69; refine (HI2.out HS.out _).mono ?_; rintro e w' ⟨rfl, rfl⟩)
          go_ret2
          exact ⟨by rw [HM.out]; rfl, rfl⟩
        | false =>
          clear g
          go_enter Tryz.func59, Tryz.ntmps59
          go_wp2_with (go_at_call 69; refine (HI2.out HS.out _).mono ?_; rintro e w' ⟨rfl, rfl⟩)
          go_ret2
          exact ⟨by rw [HM.out]; rfl, rfl⟩
    · have hge := toList_getD_end s e (by omega)
      have HM : Hid (misL s.data.toList f d = (0, false)) := Lib.hid (by unfold misL; rw [if_neg d0, hg, if_neg h1, ← he, hge, if_neg (by decide)])
      clear d0 hg he h1 hfd hge
      cases b with
      | true =>
        have g' := g rfl
        clear g
        go_enter Tryz.func59, Tryz.ntmps59
        go_wp2_with fail
        go_ret2
        exact ⟨by rw [HM.out]; rfl, rfl⟩
      | false =>
        clear g
        go_enter Tryz.func59, Tryz.ntmps59
        go_wp2_with fail
        go_ret2
        exact ⟨by rw [HM.out]; rfl, rfl⟩
  by_cases hx : s[f] = 48
  · exact rest true (by rw [hx]; rfl) (fun _ => by have : ¬ 1 < d := fun e => h1 ⟨hx, e⟩; omega)
  · exact rest false (by rw [beq_eq_false_iff_ne]; intro e; exact hx (UInt8.toNat_inj.1 (by have : (48 : UInt8).toNat = 48 := rfl; omega))) (fun h => by cases h)
end Go.Proofs.YtgbagdfcdljleaaGreatDoor.Nu

namespace Go.Proofs.YtgbagdfcdljleaaGreatDoor.Nu
open Go.RowKit

theorem val_snoc_at (s : ByteArray) (k : Nat) (h : k < s.size) : val (s.data.toList.take (k + 1)) = val (s.data.toList.take k) * 10 + (s[k].toNat - 48) := by
  rw [take_snoc s k h, val_snoc]
theorem all_at (s : ByteArray) (ha : s.data.toList.all isD = true) (k : Nat) (h : k < s.size) : 48 ≤ s[k].toNat ∧ s[k].toNat ≤ 57 := by
  have := List.all_eq_true.1 ha s[k] (by
    have e := toList_getElem s k h
    exact List.mem_of_getElem? e)
  exact isD_iff.1 this

set_option maxRecDepth 100000 in
set_option maxHeartbeats 2000000 in
theorem worth_any (s : ByteArray) (hs : s.size ≤ maxLen) (ha : s.data.toList.all isD = true) (w : World) :
    Calls Tryz.prog 60 #[.string s] w fun e w' => e = .returned (misV (wL s.data.toList)) ∧ w = w' := by
  unfold maxLen at hs
  have HA := Lib.hid (all_at s ha)
  have HV := Lib.hid (val_snoc_at s)
  have HT := Lib.hid (val_take_le s.data.toList)
  have hall : s.data.toList.take s.size = s.data.toList := List.take_of_length_le (by rw [toList_length]; omega)
  have HF := Lib.hid hall
  clear ha hall
  go_enter Tryz.func60, Tryz.ntmps60
  go_wp2
  go_loop [2, 8] (fun n i => ∃ k v : Nat, k ≤ s.size ∧ i = .int .i64 k ∧ n = .int .i64 v ∧ v ≤ 9007199254740992 ∧ Hid (val (s.data.toList.take k) = v)) (fun _ i => s.size - (intOf i).toNat)
  case atStart => exact ⟨0, 0, by omega, rfl, rfl, by omega, Lib.hid rfl⟩
  case round =>
    obtain ⟨k, v, hk, rfl, rfl, hv, hval⟩ := hrel
    by_cases hlt : k < s.size
    · obtain ⟨c0, c1⟩ := HA.out k hlt
      have hsn := HV.out k hlt
      rw [hval.out] at hsn
      obtain ⟨d, hd⟩ : ∃ d : Nat, d = s[k].toNat - 48 := ⟨_, rfl⟩
      rw [← hd] at hsn
      have hdi : (s[k].toNat : Int) - 48 = (d : Int) := by omega
      have d9 : d ≤ 9 := by omega
      obtain ⟨q, hq⟩ : ∃ q : Nat, q = (9007199254740992 - d) / 10 := ⟨_, rfl⟩
      have hqi : (9007199254740992 - (d : Int)) / 10 = (q : Int) := by omega
      by_cases ho : q < v
      · have hgt : (q : Int) < v := by omega
        have hbig : 9007199254740992 < val (s.data.toList.take (k + 1)) := by rw [hsn]; omega
        have HW : Hid (wL s.data.toList = (0, false)) := Lib.hid (by unfold wL; rw [if_neg (by have := HT.out (k + 1); omega)])
        clear hbig hsn hd hq hval
        go_wp2
        go_ret2
        exact ⟨by rw [HW.out]; rfl, rfl⟩
      · have hgt : ¬ (q : Int) < v := by omega
        have hle : v * 10 + d ≤ 9007199254740992 := by omega
        have HN : Hid (val (s.data.toList.take (k + 1)) = v * 10 + d) := Lib.hid hsn
        clear hsn hd hq hval
        go_wp2
        go_round
        case rel => exact ⟨k + 1, v * 10 + d, by omega, by go_num, by go_num, by omega, HN⟩
        case measure => simp [intOf]; omega
    · have HW : Hid (wL s.data.toList = ((v : Int), true)) := Lib.hid (by
        have e : k = s.size := by omega
        have h2 := hval.out
        rw [e, HF.out] at h2
        unfold wL
        rw [h2, if_pos hv])
      clear hval
      go_wp2
      go_ret2
      exact ⟨by rw [HW.out]; rfl, rfl⟩
end Go.Proofs.YtgbagdfcdljleaaGreatDoor.Nu
