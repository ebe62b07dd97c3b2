/-
  slices.Index of keys: where a key comes first.
-/
import Derived.Test.YtdbfpojgaalfmaaDoorTG
import Derived.Test.YtdbfpojgaalfmaaDoorDF
set_option linter.unusedVariables false
namespace Go.Proofs.YtdbfpojgaalfmaaDoor
open Go.RowKit Go.Shelf

def IdxAt (ks : List ByteArray) (key : ByteArray) (i : Int) : Prop :=
  (∃ j, ∃ h : j < ks.length, i = (j : Int) ∧ ks[j] = key ∧ ∀ q, q < j → ks[q]? ≠ some key) ∨ (i = -1 ∧ ∀ q, q < ks.length → ks[q]? ≠ some key)

set_option maxRecDepth 100000 in
set_option maxHeartbeats 2000000 in
theorem index_any (ks : List ByteArray) (v : Value) (key : ByteArray) (w : World) (hl : ks.length ≤ 1000000) (h : isK w ks v) :
    Calls Tryd.prog 43 #[v, .string key] w fun e w' => (∃ i : Int, e = .returned (.int .i64 i) ∧ IdxAt ks key i) ∧ w' = w := by
  obtain ⟨a, cap, ⟨o, rfl, hc1, hc2, ho⟩, hks⟩ := h
  unfold maxLen at hc2
  have HK := Lib.hid hks
  clear hks
  go_enter Tryd.func43, Tryd.ntmps43
  go_wp2_with fail
  go_loop [8] (fun i => ∃ (j : Nat), j ≤ ks.length ∧ i = .int .i64 j ∧ Hid (∀ q, q < j → ks[q]? ≠ some key)) (fun i => ks.length - (intOf i).toNat)
  case atStart => exact ⟨0, by omega, rfl, Lib.hid (fun q h => absurd h (by omega))⟩
  case round =>
    obtain ⟨j, hj, rfl, hA⟩ := hrel
    by_cases hlt : j < ks.length
    · obtain rfl := ho (by omega)
      have hcell := (HK.out j hlt).1
      have e1 : ks[j]? = some ks[j] := List.getElem?_eq_getElem hlt
      by_cases hK : ks[j] = key
      · have HI : Hid (IdxAt ks key j) := Lib.hid (.inl ⟨j, hlt, rfl, hK, hA.out⟩)
        rw [hK] at hcell
        clear hK e1 hA
        go_wp2_with fail
        go_ret
        exact ⟨⟨_, rfl, HI.out⟩, rfl⟩
      · have HN : Hid (∀ q, q < j + 1 → ks[q]? ≠ some key) := Lib.hid (fun q h => by
          by_cases e : q = j
          · subst e; rw [e1]; exact fun e => hK (Option.some.inj e)
          · exact hA.out q (by omega))
        have f1 := beq_toList (Ne.symm hK)
        generalize ks[j] = K at *
        clear e1 hA hK
        go_wp2_with fail
        go_round
        case rel => exact ⟨j + 1, by omega, by go_num, HN⟩
        case measure => simp [intOf]; omega
    · have HI : Hid (IdxAt ks key (-1)) := Lib.hid (.inr ⟨rfl, fun q hq => hA.out q (by omega)⟩)
      clear hA
      go_wp2_with fail
      go_ret
      exact ⟨⟨_, rfl, HI.out⟩, rfl⟩
end Go.Proofs.YtdbfpojgaalfmaaDoor
