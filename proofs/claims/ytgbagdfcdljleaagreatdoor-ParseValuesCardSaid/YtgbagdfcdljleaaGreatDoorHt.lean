/-
  Parse's walk: digits, numbers and texts as values; where nothing can begin.
-/
import Derived.Test.YtgbagdfcdljleaaGreatDoorHs
set_option linter.unusedVariables false
set_option linter.unusedSimpArgs false
namespace Go.Proofs.YtgbagdfcdljleaaGreatDoor
open Go.RowKit Go.Maps

theorem Digit_any (c : UInt8) (w : World) : Calls Tryz.prog 35 #[.int .u8 c.toNat] w fun e w' => e = .returned (.bool (Nu.isD c)) ∧ w' = w := by
  have h : Nu.isD c = (decide ((48 : Int) ≤ (c.toNat : Int)) && decide ((c.toNat : Int) ≤ (57 : Int))) := by
    unfold Nu.isD
    congr 1
    · exact decide_eq_decide.2 (by omega)
    · exact decide_eq_decide.2 (by omega)
  rw [h]
  by_cases h1 : 48 ≤ c.toNat <;> by_cases h2 : c.toNat ≤ 57
  all_goals
    clear h
    go_enter Tryz.func35, Tryz.ntmps35
    go_wp2
    all_goals
      go_ret
      exact ⟨by first | rfl | (apply ret_bool; simp <;> omega) | simp [h1, h2], rfl⟩
set_option maxRecDepth 100000 in
theorem Num_any (n : Int) (w : World) : Calls Tryz.prog 36 #[.int .i64 n] w fun e w' => e = .returned (.agg #[.int .i8 2, .bool false, .int .i64 n, .string ⟨#[]⟩, .slice none 0 0, .slice none 0 0]) ∧ Below w.heap.size w w' := by
  go_enter Tryz.func36, Tryz.ntmps36
  go_wp2
  refine bodyPost_ret (v := .agg #[.int .i8 2, .bool false, .int .i64 n, .string ⟨#[]⟩, .slice none 0 0, .slice none 0 0]) (by simp [results, Tryz.results36, go_sem]) rfl ?_
  exact ⟨rfl, by go_grown⟩
set_option maxRecDepth 100000 in
theorem Text_any (t : ByteArray) (w : World) : Calls Tryz.prog 38 #[.string t] w fun e w' => e = .returned (.agg #[.int .i8 3, .bool false, .int .i64 0, .string t, .slice none 0 0, .slice none 0 0]) ∧ Below w.heap.size w w' := by
  go_enter Tryz.func38, Tryz.ntmps38
  go_wp2
  refine bodyPost_ret (v := .agg #[.int .i8 3, .bool false, .int .i64 0, .string t, .slice none 0 0, .slice none 0 0]) (by simp [results, Tryz.results38, go_sem]) rfl ?_
  exact ⟨rfl, by go_grown⟩
theorem isVa_leaf {W : World} (kd : Int) (bo : Bool) (nu : Int) (te : ByteArray) (h1 : -128 ≤ kd ∧ kd ≤ 127) (h2 : -9223372036854775808 ≤ nu ∧ nu ≤ 9223372036854775807) (h3 : te.size ≤ maxLen) :
    isVa W (fun _ => False) (.mk kd bo nu te [] []) (.agg #[.int .i8 kd, .bool bo, .int .i64 nu, .string te, .slice none 0 0, .slice none 0 0]) := by
  unfold isVa
  refine ⟨_, _, rfl, h1, h2, h3, ⟨⟨0, 0, none⟩, 0, ⟨none, rfl, Nat.le_refl _, by unfold maxLen; omega, fun h => absurd h (by decide)⟩, fun h => absurd h (by decide), by unfold isVas; trivial⟩, ⟨⟨0, 0, none⟩, 0, ⟨none, rfl, Nat.le_refl _, by unfold maxLen; omega, fun h => absurd h (by decide)⟩, fun h => absurd h (by decide), fun i hi => absurd hi (by simp)⟩⟩
section
variable {W0 W W' : World} {b : Nat} {s : ByteArray} {d : Int} {k : Nat} {op : List Fm} {ov : Value} {ys : List Value} {B : Nat → Prop}
/-- A leaf is handed back by way of a box. -/
theorem StepR.leaf {Wb : World} {v : V} {c0 c1 c2 c3 c4 c5 : Value} (h : PW W0 b s d k op ov ys B W) {q0 : Nat} (o : Off W0 b ov B q0) (hva : isVa W (fun _ => False) v (.agg #[c0, c1, c2, c3, c4, c5])) (hF : Frm W0 b ov B Wb ov B W) (hN : Wb.heap.size ≤ q0) :
    StepR W0 b s d ov B Wb (.ok (.got v k op)) (.returned (.tuple #[.agg #[c0, c1, c2, c3, c4, c5], .bool true])) ((((((W.setCell ⟨q0, 0, none⟩ c0).setCell ⟨q0, 1, none⟩ c1).setCell ⟨q0, 2, none⟩ c2).setCell ⟨q0, 3, none⟩ c3).setCell ⟨q0, 4, none⟩ c4).setCell ⟨q0, 5, none⟩ c5) :=
  StepR.got6 h o hva (fun _ e => e.elim) (fun _ e => e.elim) hF hN
end
end Go.Proofs.YtgbagdfcdljleaaGreatDoor
