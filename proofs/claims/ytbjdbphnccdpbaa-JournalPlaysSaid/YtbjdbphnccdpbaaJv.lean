/-
  great.
-/
import Derived.Test.YtbjdbphnccdpbaaJu
import Derived.Test.YtbjdbphnccdpbaaJs
set_option linter.unusedVariables false
namespace Go.Proofs.Ytbjdbphnccdpbaa
open Go.RowKit Go.Shelf Go.Lib Go.Deep

set_option maxRecDepth 100000 in
set_option maxHeartbeats 8000000 in
theorem great_any (v : Value) (l : List AC) (a : Addr) (cap : Nat) (w : World) (hv : slv v l.length a cap) (hl : isAs w l a) : Calls Try.prog 6 #[v] w fun e w' => ∃ bb : Bool, e = .returned (.bool bb) ∧ Hid (Below w.heap.size w w') := by
  obtain ⟨o, rfl, hc1, hc2, ho⟩ := hv
  unfold maxLen at hc2
  have HL := Lib.hid hl
  have HO := Lib.hid ho
  clear hl ho
  go_enter Try.func6, Try.ntmps6
  go_wp2_with fail
  go_loopw [3, 4] (fun n i wr => ∃ (j : Nat) (k : Int), j ≤ l.length ∧ i = .int .i64 j ∧ n = .int .i64 k ∧ Hid (Below w.heap.size w wr)) (fun _ i _ => l.length - (intOf i).toNat)
  case atStart => exact ⟨0, 0, by omega, rfl, rfl, Lib.hid (Below.refl _ _)⟩
  case round =>
    obtain ⟨j, k, hj, rfl, rfl, hB⟩ := hrel
    by_cases hlt : j < l.length
    · have hlt' : (j : Int) < (l.length : Int) := by omega
      by_cases h2 : j ≤ 100
      · obtain rfl := HO.out (by omega)
        obtain ⟨c1, c2, g0, g1, g2, g3, h3, h4⟩ := as_later HL.out hB.out j hlt
        obtain ⟨ob, cb, rfl, hb1, hb2⟩ := h3.form
        have HSZ : Hid (∀ W, Below wr.heap.size wr W → Calls Try.prog 21 #[c2] W fun e w' => ∃ n : Int, e = .returned (.int .i64 n) ∧ W = w') := Lib.hid fun W hW => size_any _ _ W ((h4.below hB.out).below hW)
        obtain ⟨ol, al, cl, rfl, hl1, hl2, _⟩ := h4
        unfold maxLen at hb2 hl2
        have HBd := Lib.hid hB.out.drew
        have HBd2 : Hid (Below wr.heap.size wr wr.drew) := Lib.hid (Below.refl _ _).drew
        generalize l[j] = X at *
        have h2' : (j : Int) ≤ 100 := by omega
        obtain ⟨mm, hmm⟩ : ∃ mm : Int, (if (1048576 : Int) < (X.b.length : Int) then (1048576 : Int) else (X.b.length : Int)) = mm := ⟨_, rfl⟩
        obtain ⟨mm2, hmm2⟩ : ∃ mm2 : Nat, (if 1048576 < X.b.length then 1048576 else X.b.length) = mm2 := ⟨_, rfl⟩
        have g1d : wr.drew.cell? ⟨(a.add (j * 4)).block, (a.add (j * 4)).off + 1, none⟩ = some (.slice ob X.b.length cb) := g1
        have g2d : wr.drew.cell? ⟨(a.add (j * 4)).block, (a.add (j * 4)).off + 2, none⟩ = some (.slice ol X.L.length cl) := g2
        clear g0 g3 h3
        by_cases h5 : 200 < X.L.length
        · have t5 : decide ((200 : Int) < (X.L.length : Int)) = true := decide_eq_true (by omega)
          have t5' : decide (200 < X.L.length) = true := decide_eq_true h5
          clear h5
          go_wp2_with fail
          go_region_with (go_at_call 21; go_loud (refine (HSZ.out _ (by first | exact Below.refl _ _ | exact HBd2.out)).mono ?_); rintro e w2 ⟨nn, rfl, rfl⟩)
          all_goals go_wp2_with fail
          all_goals go_ret
          all_goals exact ⟨true, rfl, HBd⟩
        · have t5 : decide ((200 : Int) < (X.L.length : Int)) = false := decide_eq_false (by omega)
          have t5' : decide (200 < X.L.length) = false := decide_eq_false h5
          clear h5
          go_wp2_with fail
          go_region_with (go_at_call 21; go_loud (refine (HSZ.out _ (by first | exact Below.refl _ _ | exact HBd2.out)).mono ?_); rintro e w2 ⟨nn, rfl, rfl⟩)
          all_goals go_wp2_with fail
          all_goals go_roundw
          all_goals first
            | exact ⟨j + 1, _, by omega, by go_num, rfl, HBd⟩
            | (simp [intOf]; omega)
      · have h2' : decide ((j : Int) ≤ 100) = false := decide_eq_false (by omega)
        have h2'' : decide (j ≤ 100) = false := decide_eq_false (by omega)
        have t6 : decide ((100 : Int) < (l.length : Int)) = true := decide_eq_true (by omega)
        have t6' : decide (100 < l.length) = true := decide_eq_true (by omega)
        go_wp2_with fail
        go_ret
        exact ⟨_, rfl, hB⟩
    · obtain rfl : j = l.length := by omega
      have hlt' : decide ((l.length : Int) < (l.length : Int)) = false := decide_eq_false (by omega)
      by_cases h6 : 100 < l.length
      · have t6 : decide ((100 : Int) < (l.length : Int)) = true := decide_eq_true (by omega)
        have t6' : decide (100 < l.length) = true := decide_eq_true (by omega)
        clear h6
        go_wp2_with fail
        go_ret
        exact ⟨_, rfl, hB⟩
      · have t6 : decide ((100 : Int) < (l.length : Int)) = false := decide_eq_false (by omega)
        have t6' : decide (100 < l.length) = false := decide_eq_false (by omega)
        clear h6
        go_wp2_with fail
        go_ret
        exact ⟨_, rfl, hB⟩
end Go.Proofs.Ytbjdbphnccdpbaa
