/-
  The reference's frames: Same.
-/
import Derived.Test.YtbjdbphnccdpbaaFb
set_option linter.unusedVariables false
namespace Go.Proofs.Ytbjdbphnccdpbaa
open Go.RowKit Go.Shelf Go.Lib Go.Deep

/-- string(b) of bytes that are read. -/
theorem run_strF (w : World) (x : List UInt8) (o : Option Addr) (n c : Nat) (h : rd w x (.slice o n c)) : (convert 27 9 (.slice o n c)).run Try.prog w = .ok (.string ⟨x.toArray⟩) w := by
  obtain ⟨o', a, c', hv, h1, h2, h3, h4⟩ := h
  cases hv
  rcases Nat.eq_zero_or_pos x.length with h0 | h0
  · obtain rfl : x = [] := List.eq_nil_of_length_eq_zero h0
    cases o with
    | none => exact run_convert_bytes_nil w 27 5 Try.underlying27 Try.underlying5 0 c _ Try.underlying9
    | some a => exact run_convert_bytes_back w 27 9 5 a c [] Try.underlying27 Try.underlying5 Try.underlying9 (fun j hj => absurd hj (by simp))
  · rw [h3 h0]
    refine run_convert_bytes_back w 27 9 5 a c x Try.underlying27 Try.underlying5 Try.underlying9 (fun j hj => h4 j _ ?_)
    simp [byteCells, List.getElem?_eq_getElem hj]
/-- A row of rows of bytes. -/
def rds (W : World) (L : List (List UInt8)) (v : Value) : Prop :=
  ∃ o a cap, v = .slice o L.length cap ∧ L.length ≤ cap ∧ cap ≤ maxLen ∧ (0 < L.length → o = some a) ∧ ∀ i (h : i < L.length), ∃ ob cb, W.cell? (a.add i) = some (.slice ob L[i].length cb) ∧ rd W L[i] (.slice ob L[i].length cb)
theorem rds.below {W W' : World} {L : List (List UInt8)} {v : Value} (h : rds W L v) (hb : Below W.heap.size W W') : rds W' L v := by
  obtain ⟨o, a, cap, h1, h2, h3, h4, h5⟩ := h
  refine ⟨o, a, cap, h1, h2, h3, h4, fun i hi => ?_⟩
  obtain ⟨ob, cb, q1, q2⟩ := h5 i hi
  exact ⟨ob, cb, (Fr.of_below (B := fun _ => False) hb).cell _ _ (fun h => h) q1, q2.below hb⟩
theorem SC.rds {w : World} {x : List UInt8} {v : Value} {L : List (List UInt8)} {rest : List UInt8} {bv : Value} {W : World} (h : SC w x v L rest bv W) : rds W L v := by
  obtain ⟨xs, s1, s2, _⟩ := h
  rcases s1.2 with ⟨rfl, h0⟩ | ⟨g, cap, cur, rfl, hb, hg, r1, r2, r3, r4⟩
  · have : L = [] := List.eq_nil_of_length_eq_zero h0
    subst this
    exact ⟨none, ⟨0, 0, none⟩, 0, rfl, Nat.le_refl _, by unfold maxLen; omega, fun h => absurd h (by simp), fun i h => absurd h (by simp)⟩
  · refine ⟨some ⟨g, 0, none⟩, ⟨g, 0, none⟩, cap, rfl, r1, r2, fun _ => rfl, fun i hi => ?_⟩
    obtain ⟨c, q1, q2⟩ := s2 i hi
    obtain ⟨oc, cc, rfl, _⟩ := q2.form
    exact ⟨oc, cc, s1.cells (g := g) rfl i _ q1, q2.rd⟩

set_option maxRecDepth 100000 in
set_option maxHeartbeats 8000000 in
theorem rsame_any (L M : List (List UInt8)) (v u : Value) (w : World) (hv : rds w L v) (hu : rds w M u) : Calls Try.prog 17 #[v, u] w fun e w' => e = .returned (.bool (decide (L = M))) ∧ Hid (Below w.heap.size w w') := by
  obtain ⟨o, a, cap, rfl, hc1, hc2, ho, hL⟩ := hv
  obtain ⟨o2, a2, cap2, rfl, hd1, hd2, ho2, hM⟩ := hu
  unfold maxLen at hc2 hd2
  have HL := Lib.hid hL
  have HM := Lib.hid hM
  have HO := Lib.hid ho
  have HO2 := Lib.hid ho2
  clear hL hM ho ho2
  by_cases hlen : L.length = M.length
  · have t0 : ((L.length : Int) != (M.length : Int)) = false := by simp [hlen]
    have HLEN := Lib.hid hlen
    clear hlen
    go_enter Try.func17, Try.ntmps17
    go_wp2_with fail
    go_loopw [5] (fun i wr => ∃ j : Nat, j ≤ L.length ∧ i = .int .i64 j ∧ Hid (L.take j = M.take j) ∧ Hid (Below w.heap.size w wr)) (fun i _ => L.length - (intOf i).toNat)
    case atStart => exact ⟨0, by omega, rfl, Lib.hid (by simp), Lib.hid (Below.refl _ _)⟩
    case round =>
      obtain ⟨j, hj, rfl, hT, hB⟩ := hrel
      by_cases hlt : j < L.length
      · obtain rfl := HO.out (by omega)
        obtain rfl := HO2.out (by have := HLEN.out; omega)
        have hlt2 : j < M.length := by have := HLEN.out; omega
        obtain ⟨ob, cb, q1, q2⟩ := HL.out j hlt
        obtain ⟨ob2, cb2, q3, q4⟩ := HM.out j hlt2
        have g1 := (Fr.of_below (B := fun _ => False) hB.out).cell _ _ (fun h => h) q1
        have g2 := (Fr.of_below (B := fun _ => False) hB.out).cell _ _ (fun h => h) q3
        have k1 := fun W (hW : Below w.heap.size w W) => run_strF W _ ob _ cb (q2.below hW)
        have k2 := fun W (hW : Below w.heap.size w W) => run_strF W _ ob2 _ cb2 (q4.below hW)
        have hTE := Lib.hid (show L.take (j + 1) = M.take (j + 1) ↔ L[j] = M[j] by
          rw [List.take_succ_eq_append_getElem hlt, List.take_succ_eq_append_getElem hlt2, hT.out]
          exact ⟨fun h => by simpa using List.append_cancel_left h, fun h => by rw [h]⟩)
        have hNE := Lib.hid (show L[j] ≠ M[j] → L ≠ M from fun h e => h (by subst e; rfl))
        have hlt' : (j : Int) < (L.length : Int) := by omega
        generalize L[j] = X at *
        generalize M[j] = Y at *
        have kk1 := k1 wr hB.out
        have kk2 := k2 wr hB.out
        have kd1 := k1 wr.drew hB.out.drew
        have kd2 := k2 wr.drew hB.out.drew
        clear k1 k2 q1 q2 q3 q4
        have hlt3 : (j : Int) < (M.length : Int) := by omega
        have hBd := Lib.hid hB.out.drew
        by_cases hXY : X = Y
        · have tq : (X == Y) = true := by simp [hXY]
          have HT := Lib.hid (hTE.out.2 hXY)
          clear hXY
          go_wp2_with fail
          go_region
          all_goals go_wp2_with fail
          all_goals go_roundw
          case rel => exact ⟨j + 1, by omega, by go_num, HT, hBd⟩
          case measure => simp [intOf]; omega
        · have tq : (X == Y) = false := by simpa using hXY
          have HN2 := Lib.hid (hNE.out hXY)
          clear hXY
          go_wp2_with fail
          go_region
          all_goals go_wp2_with fail
          all_goals go_ret
          all_goals exact ⟨by rw [decide_eq_false HN2.out]; rfl, hBd⟩
      · obtain rfl : j = L.length := by omega
        have HE : Hid (L = M) := Lib.hid (by
          have := hT.out
          rw [List.take_length, HLEN.out, List.take_length] at this
          exact this)
        have hlt' : decide ((L.length : Int) < (L.length : Int)) = false := decide_eq_false (by omega)
        go_wp2_with fail
        go_ret
        exact ⟨by rw [decide_eq_true HE.out]; rfl, hB⟩
  · have t0 : ((L.length : Int) != (M.length : Int)) = true := by
      rw [bne_iff_ne]
      omega
    have HN2 : Hid (L ≠ M) := Lib.hid (fun e => hlen (by rw [e]))
    clear hlen
    go_enter Try.func17, Try.ntmps17
    go_wp2_with fail
    go_ret
    exact ⟨by rw [decide_eq_false HN2.out]; rfl, Lib.hid (Below.refl _ _)⟩
end Go.Proofs.Ytbjdbphnccdpbaa
