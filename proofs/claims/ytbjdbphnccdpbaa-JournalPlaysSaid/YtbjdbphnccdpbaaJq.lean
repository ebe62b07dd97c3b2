/-
  The program's journal: Open of no disk, Rows.
-/
import Derived.Test.YtbjdbphnccdpbaaJp
set_option linter.unusedVariables false
namespace Go.Proofs.Ytbjdbphnccdpbaa
open Go.RowKit Go.Shelf Go.Lib Go.Deep

set_option maxRecDepth 100000 in
set_option maxHeartbeats 8000000 in
theorem jopen_nil (w : World) : Calls Try.prog 15 #[.pointer none] w fun e w' => e = .returned (.tuple #[.slice none 0 0, .int .i64 0, .int .i64 1]) ∧ Hid (Below w.heap.size w w') := by
  have HC : Hid (∀ W, ((((w.alloc (.cells #[.pointer none] 25)).alloc (.cells #[.slice none 0 0] 28)).alloc (.cells #[.int .i64 0] 3)).alloc (.cells #[.slice none 0 0] 27)).alloc (.cells (rowO w.heap.size) 37) = W →
      Calls Try.prog 27 #[.slice (some ⟨w.heap.size + 4, 0, none⟩) 2 2] W fun e w' => e = .returned (.int .i64 1) ∧ Hid (Boxed w' (w.heap.size + 1) 28 (.slice none 0 0) ∧ Boxed w' (w.heap.size + 2) 3 (.int .i64 0) ∧ Below w.heap.size w w')) := Lib.hid fun W hW => by
    obtain ⟨k0, k1, k2, k3, k4, k5⟩ := box5 w _ _ _ _ _ _ _ _ _ _ W hW
    refine (first_deeds 2 ⟨w.heap.size + 4, 0, none⟩ gO (lO w.heap.size) (fun k W' => k = 0 ∧ W' = W) (fun i W' => i = 1 ∧ Boxed W' (w.heap.size + 1) 28 (.slice none 0 0) ∧ Boxed W' (w.heap.size + 2) 3 (.int .i64 0) ∧ Below w.heap.size w W') W (by omega) (fun k hk W' hJ => ?_) enters_O (fun k hk W' hJ => ?_) ⟨rfl, rfl⟩).mono ?_
    · obtain ⟨rfl, rfl⟩ := hJ
      exact row_cell k5 _ rfl
    · obtain ⟨rfl, rfl⟩ := hJ
      refine (jo1_nil _ k1 k4 k1.lt).mono ?_
      rintro e W2 ⟨rfl, hq⟩
      exact ⟨1, rfl, .inr ⟨by omega, rfl, hq.out.boxed k2 (by omega), hq.out.boxed k3 (by omega), k0.trans (hq.out.below (fun k hk => by omega) k0.size)⟩⟩
    · rintro e w' ⟨i, rfl, hq⟩
      rcases hq.out with ⟨rfl, h4, _⟩ | ⟨_, rfl, h5⟩
      · exact absurd h4 (by omega)
      · exact ⟨rfl, Lib.hid h5⟩
  have HFIN : Hid (∀ W, Boxed W (w.heap.size + 1) 28 (.slice none 0 0) ∧ Boxed W (w.heap.size + 2) 3 (.int .i64 0) ∧ Below w.heap.size w W → W.cell? ⟨w.heap.size + 1, 0, none⟩ = some (.slice none 0 0) ∧ W.frozen? ⟨w.heap.size + 1, 0, none⟩ = false ∧ W.cell? ⟨w.heap.size + 1 + 1, 0, none⟩ = some (.int .i64 0) ∧ W.frozen? ⟨w.heap.size + 1 + 1, 0, none⟩ = false ∧
      (∀ W9, (W.setCell ⟨w.heap.size + 1, 0, none⟩ (.slice none 0 0)).setCell ⟨w.heap.size + 1 + 1, 0, none⟩ (.int .i64 0) = W9 → W9.cell? ⟨w.heap.size + 1, 0, none⟩ = some (.slice none 0 0) ∧ W9.cell? ⟨w.heap.size + 1 + 1, 0, none⟩ = some (.int .i64 0) ∧ Hid (Below w.heap.size w W9))) := Lib.hid fun W hJ => by
    obtain ⟨q1, q2, q3⟩ := hJ
    refine ⟨q1.cell, q1.frozen, q2.cell, q2.frozen, fun W9 hW9 => ?_⟩
    have hF : Fr (fun k => k = w.heap.size + 1 ∨ k = w.heap.size + 1 + 1) W W9 := by
      rw [← hW9]
      exact (Fr.set (B := fun k => k = w.heap.size + 1 ∨ k = w.heap.size + 1 + 1) W _ 0 _ (.inl rfl)).trans (Fr.set _ (w.heap.size + 1 + 1) 0 _ (.inr rfl))
    have c1 : Boxed W9 (w.heap.size + 1) 28 (.slice none 0 0) := by rw [← hW9]; exact (q1.set _).other (B' := w.heap.size + 2) (by omega) _
    have c2 : Boxed W9 (w.heap.size + 2) 3 (.int .i64 0) := by rw [← hW9]; exact (q2.other (B' := w.heap.size + 1) (by omega) _).set _
    exact ⟨c1.cell, c2.cell, Lib.hid (q3.trans (hF.below (fun k hk => by omega) q3.size))⟩
  go_enter Try.func15, Try.ntmps15
  go_wp2_with (go_at_call 27; go_loud (refine (HC.out _ rfl).mono ?_))
  rintro e w2 ⟨rfl, hq⟩
  obtain ⟨y1, y2, y3, y4, y5⟩ := HFIN.out _ hq.out
  have Y5 := Lib.hid y5
  clear hq y5 HC HFIN
  go_wp2_with fail
  obtain ⟨z1, z2, z3⟩ := Y5.out _ rfl
  generalize (w2.setCell ⟨w.heap.size + 1, 0, none⟩ (.slice none 0 0)).setCell ⟨w.heap.size + 1 + 1, 0, none⟩ (.int .i64 0) = W9 at *
  refine bodyPost_ret (v := .tuple #[.slice none 0 0, .int .i64 0, .int .i64 1]) ?_ rfl ⟨rfl, z3⟩
  simp [results, Try.results15, go_sem, z1, z2]

/-- What Rows answers. -/
def roL (s : DS) : List (List UInt8) := (scanL (byD s)).1
theorem rdz_nil (base : Nat) (W : World) : rdz base W [] (.slice none 0 0) := ⟨none, ⟨0, 0, none⟩, 0, rfl, Nat.le_refl _, by unfold maxLen; omega, fun h => absurd h (by simp), fun _ => .inl rfl, fun i h => absurd h (by simp)⟩
set_option maxRecDepth 100000 in
set_option maxHeartbeats 8000000 in
theorem jrows_any {base b : Nat} {s : DS} {v : Value} (w : World) (h : Dk 52 base b s v w) :
    Calls Try.prog 19 #[.pointer (some ⟨b, 0, none⟩)] w fun e w' => ∃ o c, e = .returned (.tuple #[.slice o (roL s).length c, .int .i64 (beD s)]) ∧ Hid (rdz w.heap.size w' (roL s) (.slice o (roL s).length c) ∧ Below w.heap.size w w') := by
  have HB := Lib.hid (bytes_own w h)
  have hl : (byD s).length ≤ 4000000 := by
    have := h.1
    unfold byD
    split
    · simp
    · omega
  by_cases hE : beD s = 0
  · have HS : Hid (∀ W o c, Hid (ow w.heap.size W (.slice o (byD s).length c) (byD s) ∧ Below w.heap.size w W) → Calls Try.prog 48 #[.slice o (byD s).length c] W fun e w' => ∃ o c T, e = .returned (.tuple #[.slice o (roL s).length c, .int .i64 T]) ∧ Hid (rdz w.heap.size w' (roL s) (.slice o (roL s).length c) ∧ Below w.heap.size w w')) := Lib.hid fun W o c hq =>
      (pscan_any (byD s) _ W hq.out.1.rd hq.out.1.fit hl).mono fun e w' ⟨o, c, h1, h2⟩ => ⟨o, c, _, h1, Lib.hid ⟨h2.out.1.mono hq.out.2.size, hq.out.2.trans (h2.out.2.mono hq.out.2.size)⟩⟩
    rw [hE] at HB ⊢
    generalize byD s = X at *
    generalize roL s = L at *
    clear h hl hE
    go_enter Try.func19, Try.ntmps19
    go_wp2_with first
      | (go_at_call 9; refine HB.out.mono ?_; rintro e w2 ⟨o2, c2, rfl, hq⟩)
      | (go_at_call 48; go_loud (refine (HS.out _ _ _ hq).mono ?_); rintro e w3 ⟨o3, c3, T3, rfl, HQ⟩)
    go_ret2
    exact ⟨o3, c3, rfl, HQ⟩
  · obtain ⟨d1, d2⟩ := be_down hE
    have e1 : roL s = [] := by unfold roL byD; rw [if_pos d1, scan_nil]
    have e3 : byD s = [] := by unfold byD; rw [if_pos d1]
    rw [e3, d2] at HB
    rw [e1, d2]
    clear h hl hE d1 d2 e1 e3
    go_enter Try.func19, Try.ntmps19
    go_wp2_with (go_at_call 9; refine HB.out.mono ?_; rintro e w2 ⟨o2, c2, rfl, hq⟩)
    go_ret2
    exact ⟨none, 0, rfl, Lib.hid ⟨rdz_nil _ _, hq.out.2⟩⟩
set_option maxRecDepth 100000 in
set_option maxHeartbeats 4000000 in
theorem jrows_nil (w : World) : Calls Try.prog 19 #[.pointer none] w fun e w' => e = .returned (.tuple #[.slice none 0 0, .int .i64 1]) ∧ Hid (Below w.heap.size w w') := by
  have HB := Lib.hid (bytes_nil w)
  go_enter Try.func19, Try.ntmps19
  go_wp2_with (go_at_call 9; refine HB.out.mono ?_; rintro e w2 ⟨rfl, hq⟩)
  go_ret2
  exact ⟨rfl, Lib.hid hq⟩
end Go.Proofs.Ytbjdbphnccdpbaa
