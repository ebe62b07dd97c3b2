/-
  Contracts of misplaced and worth, of package number.
-/
import Derived.Test.YtgbbbcojeaolbaaNText
import Derived.Test.YtgbbbcojeaolbaaShelf
set_option linter.unusedVariables false
namespace Go.Proofs.Ytgbbbcojeaolbaa
open Go.RowKit

theorem toList_length (s : ByteArray) : s.data.toList.length = s.size := by rw [Array.length_toList]; rfl
theorem toList_getElem (s : ByteArray) (k : Nat) (h : k < s.size) : s.data.toList[k]? = some s[k] := by
  rw [List.getElem?_eq_getElem (by rw [toList_length]; exact h)]; rfl
theorem toList_getD (s : ByteArray) (k : Nat) (h : k < s.size) : s.data.toList.getD k 0 = s[k] := by
  rw [List.getD, toList_getElem s k h]; rfl
theorem toList_getD_end (s : ByteArray) (k : Nat) (h : s.size ≤ k) : s.data.toList.getD k 0 = 0 := by
  rw [List.getD, List.getElem?_eq_none (by rw [toList_length]; exact h)]; rfl
theorem take_snoc (s : ByteArray) (k : Nat) (h : k < s.size) : s.data.toList.take (k + 1) = s.data.toList.take k ++ [s[k]] := by
  rw [List.take_succ_eq_append_getElem (by simpa using h)]; rfl
theorem u8back (c : UInt8) : ((c.toNat : Int)).toNat.toUInt8 = c := by simp
def dotE : ByteArray := ⟨#[46, 101, 69]⟩
theorem idx_yes (c : UInt8) (h : stopB c = true) (w : World) : Calls Try.prog 26 #[.string ⟨#[46, 101, 69]⟩, .int .u8 c.toNat] w fun e w' => (∃ i : Int, 0 ≤ i ∧ e = .returned (.int .i64 i)) ∧ w = w' := by
  refine (Try.strings_IndexByte ⟨#[46, 101, 69]⟩ c.toNat w).mono ?_
  rintro e w' ⟨rfl, rfl⟩
  refine ⟨⟨_, ?_, rfl⟩, rfl⟩
  rw [u8back]
  have h' : c = 46 ∨ c = 101 ∨ c = 69 := by simpa [stopB, or_assoc] using h
  rcases h' with rfl | rfl | rfl <;> decide
theorem idx_no (c : UInt8) (h : stopB c = false) (w : World) : Calls Try.prog 26 #[.string ⟨#[46, 101, 69]⟩, .int .u8 c.toNat] w fun e w' => e = .returned (.int .i64 (-1)) ∧ w = w' := by
  refine (Try.strings_IndexByte ⟨#[46, 101, 69]⟩ c.toNat w).mono ?_
  rintro e w' ⟨rfl, rfl⟩
  refine ⟨?_, rfl⟩
  rw [u8back]
  have h' : c ≠ 46 ∧ c ≠ 101 ∧ c ≠ 69 := by simpa [stopB, and_assoc] using h
  obtain ⟨h1, h2, h3⟩ := h'
  have : Lib.indexByte [46, 101, 69] c = -1 := by
    simp [Lib.indexByte, Ne.symm h1, Ne.symm h2, Ne.symm h3]
  show Ending.returned (.int .i64 (Lib.indexByte [46, 101, 69] c)) = _
  rw [this]

def misV (p : Int × Bool) : Value := .tuple #[.int .i64 p.1, .bool p.2]
set_option maxRecDepth 100000 in
set_option maxHeartbeats 2000000 in
theorem mis_any (s : ByteArray) (f d : Nat) (hfd : f + d ≤ s.size) (hs : s.size ≤ maxLen) (w : World) :
    Calls Try.prog 23 #[.string s, .int .i64 f, .int .i64 ((f + d : Nat) : Int)] w fun e w' => e = .returned (misV (misL s.data.toList f d)) ∧ w = w' := by
  unfold maxLen at hs
  by_cases d0 : d = 0
  · have HM : Hid (misL s.data.toList f d = ((f : Int), true)) := Lib.hid (by unfold misL; rw [if_pos d0])
    have hq : ((f : Int) == ((f + d : Nat) : Int)) = true := by rw [beq_iff_eq]; omega
    clear d0
    go_enter Try.func23, Try.ntmps23
    go_wp2_with fail
    go_ret2
    exact ⟨by rw [HM.out]; rfl, rfl⟩
  have hf : f < s.size := by omega
  have hg := toList_getD s f hf
  obtain ⟨e, he⟩ : ∃ e : Nat, e = f + d := ⟨_, rfl⟩
  have HE := Lib.hid he
  rw [← he]
  have hq : ((f : Int) == (e : Int)) = false := by rw [beq_eq_false_iff_ne]; omega
  have hse : e ≤ s.size := by omega
  have hfe : f < e := by omega
  by_cases h1 : s[f] = 48 ∧ 1 < d
  · have HM : Hid (misL s.data.toList f d = ((f : Int) + 1, true)) := Lib.hid (by unfold misL; rw [if_neg d0, hg, if_pos h1])
    have h48 : ((s[f].toNat : Int) == 48) = true := by rw [h1.1]; rfl
    have hgt : 1 < (e : Int) - f := by omega
    clear d0 hg he h1 hfd
    go_enter Try.func23, Try.ntmps23
    go_wp2_with fail
    go_ret2
    exact ⟨by rw [HM.out]; rfl, rfl⟩
  have rest : ∀ (b : Bool) (hb : ((s[f].toNat : Int) == 48) = b) (g : b = true → ¬ (1 : Int) < (e : Int) - f), Calls Try.prog 23 #[.string s, .int .i64 f, .int .i64 e] w fun e w' => e = .returned (misV (misL s.data.toList f d)) ∧ w = w' := by
    intro b hb g
    by_cases hlt : e < s.size
    · have hge := toList_getD s e hlt
      have HI1 := Lib.hid (idx_yes s[e])
      have HI2 := Lib.hid (idx_no s[e])
      cases hst : stopB s[e] with
      | true =>
        have HM : Hid (misL s.data.toList f d = ((e : Int), true)) := Lib.hid (by unfold misL; rw [if_neg d0, hg, if_neg h1, ← he, hge, hst, if_pos rfl, he, Int.natCast_add])
        have HS := Lib.hid hst
        clear d0 hg he h1 hfd hge hst
        cases b with
        | true =>
          have g' := g rfl
          clear g
          go_enter Try.func23, Try.ntmps23
          go_wp2_with (go_at_call 26; refine (HI1.out HS.out _).mono ?_; rintro e w' ⟨⟨i, hi, rfl⟩, rfl⟩)
          go_ret2
          exact ⟨by rw [HM.out]; rfl, rfl⟩
        | false =>
          clear g
          go_enter Try.func23, Try.ntmps23
          go_wp2_with (go_at_call 26; refine (HI1.out HS.out _).mono ?_; rintro e w' ⟨⟨i, hi, rfl⟩, rfl⟩)
          go_ret2
          exact ⟨by rw [HM.out]; rfl, rfl⟩
      | false =>
        have HM : Hid (misL s.data.toList f d = (0, false)) := Lib.hid (by unfold misL; rw [if_neg d0, hg, if_neg h1, ← he, hge, hst, if_neg (by simp)])
        have HS := Lib.hid hst
        clear d0 hg he h1 hfd hge hst
        cases b with
        | true =>
          have g' := g rfl
          clear g
          go_enter Try.func23, Try.ntmps23
          go_wp2_with (go_at_call 26; refine (HI2.out HS.out _).mono ?_; rintro e w' ⟨rfl, rfl⟩)
          go_ret2
          exact ⟨by rw [HM.out]; rfl, rfl⟩
        | false =>
          clear g
          go_enter Try.func23, Try.ntmps23
          go_wp2_with (go_at_call 26; refine (HI2.out HS.out _).mono ?_; rintro e w' ⟨rfl, rfl⟩)
          go_ret2
          exact ⟨by rw [HM.out]; rfl, rfl⟩
    · have hge := toList_getD_end s e (by omega)
      have HM : Hid (misL s.data.toList f d = (0, false)) := Lib.hid (by unfold misL; rw [if_neg d0, hg, if_neg h1, ← he, hge, if_neg (by decide)])
      clear d0 hg he h1 hfd hge
      cases b with
      | true =>
        have g' := g rfl
        clear g
        go_enter Try.func23, Try.ntmps23
        go_wp2_with fail
        go_ret2
        exact ⟨by rw [HM.out]; rfl, rfl⟩
      | false =>
        clear g
        go_enter Try.func23, Try.ntmps23
        go_wp2_with fail
        go_ret2
        exact ⟨by rw [HM.out]; rfl, rfl⟩
  by_cases hx : s[f] = 48
  · exact rest true (by rw [hx]; rfl) (fun _ => by have : ¬ 1 < d := fun e => h1 ⟨hx, e⟩; omega)
  · exact rest false (by rw [beq_eq_false_iff_ne]; intro e; exact hx (UInt8.toNat_inj.1 (by have : (48 : UInt8).toNat = 48 := rfl; omega))) (fun h => by cases h)
end Go.Proofs.Ytgbbbcojeaolbaa
