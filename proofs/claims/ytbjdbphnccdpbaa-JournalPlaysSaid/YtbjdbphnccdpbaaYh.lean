/-
  The program's disk: Cut, Arm, Crash, Up, Down, Len.
-/
import Derived.Test.YtbjdbphnccdpbaaYg
set_option linter.unusedVariables false
namespace Go.Proofs.Ytbjdbphnccdpbaa
open Go.RowKit Go.Shelf Go.Lib Go.Deep

set_option maxRecDepth 100000 in
set_option maxHeartbeats 4000000 in
theorem cut1_any {base b Nn Nd : Nat} {s : DS} {v : Value} {n : Int} (w : World) (h : Dk 52 base b s v w) (hdn : s.dn = false)
    (hb : Boxed w Nn 3 (.int .i64 n)) (hd : Boxed w Nd 25 (.pointer (some ⟨b, 0, none⟩))) :
    Calls Try.prog 65 #[.pointer (some ⟨Nn, 0, none⟩), .pointer (some ⟨Nd, 0, none⟩)] w fun e w' => ∃ i, e = .returned (.int .i64 i) ∧ (i = (cutD s n).1 ∧ DR 52 base b v w (cutD s n).2 w') := by
  have hr : cutD s n = if n < 0 ∨ (s.f.length : Int) < n then (2, s) else wrD s (s.f.take n.toNat) s.f := by unfold cutD; rw [if_neg (by simp [hdn])]
  rw [hr]
  have b1 := hb.cell
  have b2 := hd.cell
  obtain ⟨c0, _⟩ := h.cells
  obtain ⟨ov, cv, rfl, hv1, hv2, _⟩ := h.2.2.2.2.form
  have eg1 := enters_of Try.func66 (by kernel_rfl) rfl
  have eg2 := enters_of Try.func53 (by kernel_rfl) rfl
  have HD : Hid (∀ w1, Below w.heap.size w w1 → DR 52 base b (.slice ov s.f.length cv) w s w1) := Lib.hid fun w1 hb1 => h.same hb1
  by_cases h1 : n < 0
  · rw [if_pos (.inl h1)]
    have ht : decide (n < 0) = true := decide_eq_true h1
    clear h hb hd hr hv1 hv2 h1 eg1 eg2
    go_enter Try.func65, Try.ntmps65
    go_wp2_with fail
    go_quiet (fail)
    go_wp2_with fail
    go_ret
    exact ⟨2, rfl, rfl, HD.out _ (below_drewN (Below.refl _ _) _)⟩
  by_cases h2 : (s.f.length : Int) < n
  · rw [if_pos (.inr h2)]
    have ht : decide (n < 0) = false := decide_eq_false h1
    clear h hb hd hr hv1 hv2 h1 eg1 eg2
    go_enter Try.func65, Try.ntmps65
    go_wp2_with fail
    go_quiet (fail)
    go_wp2_with fail
    go_ret
    exact ⟨2, rfl, rfl, HD.out _ (below_drewN (Below.refl _ _) _)⟩
  · rw [if_neg (by omega)]
    have ht : decide (n < 0) = false := decide_eq_false h1
    obtain ⟨m, rfl⟩ : ∃ m : Nat, n = (m : Int) := ⟨n.toNat, by omega⟩
    rw [Int.toNat_natCast]
    have HC : Hid (∀ w1, Below w.heap.size w w1 → Calls Try.prog 51 #[.pointer (some ⟨b, 0, none⟩), .func (.func 66) #[] #[.pointer (some ⟨Nd, 0, none⟩), .pointer (some ⟨Nn, 0, none⟩)], .func (.func 53) #[] #[]] w1 fun e w' => e = .returned (.int .i64 (wrD s (s.f.take m) s.f).1) ∧ Hid (DR 52 base b (.slice ov s.f.length cv) w (wrD s (s.f.take m) s.f).2 w')) := Lib.hid fun w1 hb1 => by
      have hk := h.below hb1
      refine (write_any (x := s.f.take m) (y := s.f) #[.pointer (some ⟨Nd, 0, none⟩), .pointer (some ⟨Nn, 0, none⟩)] #[] w1 hk hdn eg1 eg2 (fun _ => cut11_any w1 hk (by omega) ((Fr.of_below (B := fun _ => False) hb1).boxed hb (fun h => h)) ((Fr.of_below (B := fun _ => False) hb1).boxed hd (fun h => h))) (fun _ _ => unchanged_dr w1 hk)).mono ?_
      rintro e w' ⟨rfl, hq⟩
      exact ⟨rfl, Lib.hid (hq.out.from hb1)⟩
    generalize wrD s (s.f.take m) s.f = r at HC ⊢
    have h2' : ¬ (s.f.length : Int) < (m : Int) := h2
    clear h hb hd hr hv1 hv2 h1 eg1 eg2
    go_enter Try.func65, Try.ntmps65
    go_wp2_with fail
    go_quiet (fail)
    go_wp2_with (go_at_call 51; refine (HC.out _ (below_drewN (Below.refl _ _) _)).mono ?_)
    first | rintro e w2 rfl hq | rintro e w2 ⟨rfl, hq⟩
    go_wp2_with fail
    go_ret
    exact ⟨_, rfl, rfl, hq.out⟩
set_option maxRecDepth 100000 in
set_option maxHeartbeats 1000000 in
theorem cut_any {base b : Nat} {s : DS} {v : Value} (n : Int) (w : World) (h : Dk 52 base b s v w) :
    Calls Try.prog 49 #[.pointer (some ⟨b, 0, none⟩), .int .i64 n] w (DQ 52 base b v w (cutD s n)) := by
  obtain ⟨k1, k2, k3⟩ := box2 w 25 3 (.pointer (some ⟨b, 0, none⟩)) (.int .i64 n)
  have eg := enters_of Try.func65 (by kernel_rfl) rfl
  have HC := Lib.hid (deed_any (r := cutD s n) 65 #[.pointer (some ⟨w.heap.size + 1, 0, none⟩), .pointer (some ⟨w.heap.size, 0, none⟩)] w _ h k1 eg (fun hd => by unfold cutD; rw [if_pos hd])
    (fun hd => cut1_any _ (h.below k1) hd k3 k2))
  clear h k1 k2 k3 eg
  go_enter Try.func49, Try.ntmps49
  go_wp2_with (go_at_call 24; refine HC.out.mono ?_)
  first | rintro e w2 rfl hq | rintro e w2 ⟨rfl, hq⟩
  go_wp2_with fail
  go_ret
  exact hq.out
set_option maxRecDepth 100000 in
set_option maxHeartbeats 1000000 in
theorem cut_nil (n : Int) (w : World) :
    Calls Try.prog 49 #[.pointer none, .int .i64 n] w fun e w' => e = .returned (.int .i64 1) ∧ Below w.heap.size w w' := by
  have HC := Lib.hid (deed_nil 65 #[.pointer (some ⟨w.heap.size + 1, 0, none⟩), .pointer (some ⟨w.heap.size, 0, none⟩)] ((w.alloc (.cells #[.pointer none] 25)).alloc (.cells #[.int .i64 n] 3)))
  have HB := Lib.hid (box2 w 25 3 (.pointer none) (.int .i64 n)).1
  go_enter Try.func49, Try.ntmps49
  go_wp2_with (go_at_call 24; refine HC.out.mono ?_)
  rintro e w2 ⟨rfl, rfl⟩
  go_wp2_with fail
  go_ret
  exact ⟨rfl, HB.out⟩

set_option maxRecDepth 100000 in
set_option maxHeartbeats 4000000 in
theorem arm1_any {base b Nn Nd : Nat} {s : DS} {v : Value} {n : Int} (w : World) (h : Dk 52 base b s v w) (hdn : s.dn = false)
    (hb : Boxed w Nn 3 (.int .i64 n)) (hd : Boxed w Nd 25 (.pointer (some ⟨b, 0, none⟩))) :
    Calls Try.prog 43 #[.pointer (some ⟨Nn, 0, none⟩), .pointer (some ⟨Nd, 0, none⟩)] w fun e w' => ∃ i, e = .returned (.int .i64 i) ∧ (i = (armD s n).1 ∧ DR 52 base b v w (armD s n).2 w') := by
  have hr : armD s n = if n < 0 then (2, s) else (0, ⟨s.f, s.dn, some n.toNat⟩) := by unfold armD; rw [if_neg (by simp [hdn])]
  rw [hr]
  have b1 := hb.cell
  have b2 := hd.cell
  obtain ⟨_, _, c2, ⟨k, c3, _⟩, hf⟩ := h.cells
  have f2 := hf 2
  have f3 := hf 3
  by_cases h1 : n < 0
  · rw [if_pos h1]
    have HD : Hid (DR 52 base b v w s w) := Lib.hid (h.same (Below.refl _ _))
    clear h hb hd hr hf
    go_enter Try.func43, Try.ntmps43
    go_wp2_with fail
    go_ret
    exact ⟨2, rfl, rfl, HD.out⟩
  · rw [if_neg h1]
    have key : Hid (∀ w1 w2 : World, Below w.heap.size w w1 → w2.heap[b]? = ((w1.setCell ⟨b, 2, none⟩ (.bool true)).setCell ⟨b, 3, none⟩ (.int .i64 n)).heap[b]? → Fr (fun k => k = b) w1 w2 → DR 52 base b v w ⟨s.f, s.dn, some n.toNat⟩ w2) := Lib.hid fun w1 w2 hb1 h2 hF => by
      have hk := h.below hb1
      refine ⟨v, hk.upd _ ⟨s.f, s.dn, some n.toNat⟩ hF rfl ?_, .inl rfl, (Fr.of_below hb1).trans (hF.mono fun k _ e => .inl e)⟩
      obtain ⟨_, _, _, ⟨k, hk, _⟩, _⟩ := hk
      refine ⟨n, ?_, by omega, fun m hm => ?_⟩
      · rw [h2]; simp [World.setCell, Array.getElem?_modify, hk]
      · cases hm; omega
    clear h hb hd hr hf
    go_enter Try.func43, Try.ntmps43
    go_wp2_with fail
    go_region
    all_goals go_wp2_with fail
    all_goals go_ret
    all_goals exact ⟨0, rfl, rfl, key.out w _ (Below.refl _ _) rfl (((Fr.set (B := fun k => k = b) w b 2 _ rfl).trans (Fr.set _ b 3 _ rfl)).trans (Fr.of_below (Below.refl _ _).drew))⟩
set_option maxRecDepth 100000 in
set_option maxHeartbeats 1000000 in
theorem arm_any {base b : Nat} {s : DS} {v : Value} (n : Int) (w : World) (h : Dk 52 base b s v w) :
    Calls Try.prog 12 #[.pointer (some ⟨b, 0, none⟩), .int .i64 n] w (DQ 52 base b v w (armD s n)) := by
  obtain ⟨k1, k2, k3⟩ := box2 w 25 3 (.pointer (some ⟨b, 0, none⟩)) (.int .i64 n)
  have eg := enters_of Try.func43 (by kernel_rfl) rfl
  have HC := Lib.hid (deed_any (r := armD s n) 43 #[.pointer (some ⟨w.heap.size + 1, 0, none⟩), .pointer (some ⟨w.heap.size, 0, none⟩)] w _ h k1 eg (fun hd => by unfold armD; rw [if_pos hd])
    (fun hd => arm1_any _ (h.below k1) hd k3 k2))
  clear h k1 k2 k3 eg
  go_enter Try.func12, Try.ntmps12
  go_wp2_with (go_at_call 24; refine HC.out.mono ?_)
  first | rintro e w2 rfl hq | rintro e w2 ⟨rfl, hq⟩
  go_wp2_with fail
  go_ret
  exact hq.out
set_option maxRecDepth 100000 in
set_option maxHeartbeats 1000000 in
theorem arm_nil (n : Int) (w : World) :
    Calls Try.prog 12 #[.pointer none, .int .i64 n] w fun e w' => e = .returned (.int .i64 1) ∧ Below w.heap.size w w' := by
  have HC := Lib.hid (deed_nil 43 #[.pointer (some ⟨w.heap.size + 1, 0, none⟩), .pointer (some ⟨w.heap.size, 0, none⟩)] ((w.alloc (.cells #[.pointer none] 25)).alloc (.cells #[.int .i64 n] 3)))
  have HB := Lib.hid (box2 w 25 3 (.pointer none) (.int .i64 n)).1
  go_enter Try.func12, Try.ntmps12
  go_wp2_with (go_at_call 24; refine HC.out.mono ?_)
  rintro e w2 ⟨rfl, rfl⟩
  go_wp2_with fail
  go_ret
  exact ⟨rfl, HB.out⟩

set_option maxRecDepth 100000 in
set_option maxHeartbeats 4000000 in
theorem crash1_any {base b Nd : Nat} {s : DS} {v : Value} (w : World) (h : Dk 52 base b s v w) (hdn : s.dn = false) (hd : Boxed w Nd 25 (.pointer (some ⟨b, 0, none⟩))) :
    Calls Try.prog 44 #[.pointer (some ⟨Nd, 0, none⟩)] w fun e w' => ∃ i, e = .returned (.int .i64 i) ∧ (i = (crashD s).1 ∧ DR 52 base b v w (crashD s).2 w') := by
  have hr : crashD s = (0, ⟨s.f, true, none⟩) := by unfold crashD; rw [if_neg (by simp [hdn])]
  rw [hr]
  have b2 := hd.cell
  have HC := Lib.hid (fall_any w h)
  clear h hd
  go_enter Try.func44, Try.ntmps44
  go_wp2_with (go_at_call 45; refine HC.out.mono ?_)
  rintro e w2 ⟨rfl, hk, hF⟩
  have HQ : Hid (DR 52 base b v w ⟨s.f, true, none⟩ w2) := Lib.hid ⟨v, hk, .inl rfl, hF.mono fun k _ e => .inl e⟩
  clear hk hF
  go_wp2_with fail
  go_ret
  exact ⟨0, rfl, rfl, HQ.out⟩
set_option maxRecDepth 100000 in
set_option maxHeartbeats 1000000 in
theorem crash_any {base b : Nat} {s : DS} {v : Value} (w : World) (h : Dk 52 base b s v w) :
    Calls Try.prog 13 #[.pointer (some ⟨b, 0, none⟩)] w (DQ 52 base b v w (crashD s)) := by
  obtain ⟨k1, k2⟩ := box1 w 25 (.pointer (some ⟨b, 0, none⟩))
  have eg := enters_of Try.func44 (by kernel_rfl) rfl
  have HC := Lib.hid (deed_any (r := crashD s) 44 #[.pointer (some ⟨w.heap.size, 0, none⟩)] w _ h k1 eg (fun hd => by unfold crashD; rw [if_pos hd])
    (fun hd => crash1_any _ (h.below k1) hd k2))
  clear h k1 k2 eg
  go_enter Try.func13, Try.ntmps13
  go_wp2_with (go_at_call 24; refine HC.out.mono ?_)
  first | rintro e w2 rfl hq | rintro e w2 ⟨rfl, hq⟩
  go_wp2_with fail
  go_ret
  exact hq.out
set_option maxRecDepth 100000 in
set_option maxHeartbeats 1000000 in
theorem crash_nil (w : World) :
    Calls Try.prog 13 #[.pointer none] w fun e w' => e = .returned (.int .i64 1) ∧ Below w.heap.size w w' := by
  have HC := Lib.hid (deed_nil 44 #[.pointer (some ⟨w.heap.size, 0, none⟩)] (w.alloc (.cells #[.pointer none] 25)))
  have HB := Lib.hid (box1 w 25 (.pointer none)).1
  go_enter Try.func13, Try.ntmps13
  go_wp2_with (go_at_call 24; refine HC.out.mono ?_)
  rintro e w2 ⟨rfl, rfl⟩
  go_wp2_with fail
  go_ret
  exact ⟨rfl, HB.out⟩

set_option maxRecDepth 100000 in
set_option maxHeartbeats 1000000 in
theorem up_any {base b : Nat} {s : DS} {v : Value} (w : World) (h : Dk 52 base b s v w) :
    Calls Try.prog 14 #[.pointer (some ⟨b, 0, none⟩)] w (DQ 52 base b v w (upD s)) := by
  obtain ⟨_, c1, _, _, hf⟩ := h.cells
  have f1 := hf 1
  cases hdn : s.dn
  · have hr : upD s = (2, s) := by unfold upD; rw [if_neg (by simp [hdn])]
    rw [hr]
    rw [hdn] at c1
    have HQ := Lib.hid (DQ.none (n := 2) h (Below.refl _ _))
    clear h hf hdn hr
    go_enter Try.func14, Try.ntmps14
    go_wp2_with fail
    go_ret
    exact HQ.out
  · have hr : upD s = (0, ⟨s.f, false, s.ar⟩) := by unfold upD; rw [if_pos hdn]
    rw [hr]
    rw [hdn] at c1
    have HQ : Hid (DQ 52 base b v w (0, ⟨s.f, false, s.ar⟩) (.returned (.int .i64 0)) (w.setCell ⟨b, 1, none⟩ (.bool false))) := Lib.hid (by
      have hF := Fr.set (B := fun k => k = b) w b 1 (.bool false) rfl
      refine ⟨rfl, v, h.upd _ _ hF rfl ?_, .inl rfl, hF.mono fun k _ e => .inl e⟩
      obtain ⟨_, _, _, ⟨k, hk, hk2⟩, _⟩ := h
      exact ⟨k, by simp [World.setCell, Array.getElem?_modify, hk], hk2⟩)
    clear h hf hdn hr
    go_enter Try.func14, Try.ntmps14
    go_wp2_with fail
    go_ret
    exact HQ.out
set_option maxRecDepth 100000 in
theorem up_nil (w : World) : Calls Try.prog 14 #[.pointer none] w fun e w' => e = .returned (.int .i64 1) ∧ w = w' := by
  go_enter Try.func14, Try.ntmps14
  go_wp2_with fail
  go_ret
  exact ⟨rfl, rfl⟩
set_option maxRecDepth 100000 in
set_option maxHeartbeats 1000000 in
theorem down_any {base b : Nat} {s : DS} {v : Value} (w : World) (h : Dk 52 base b s v w) :
    Calls Try.prog 23 #[.pointer (some ⟨b, 0, none⟩)] w fun e w' => e = .returned (.bool s.dn) ∧ w = w' := by
  have c1 := h.cells.2.1
  clear h
  go_enter Try.func23, Try.ntmps23
  go_wp2_with fail
  go_ret
  exact ⟨rfl, rfl⟩
set_option maxRecDepth 100000 in
theorem down_nil (w : World) : Calls Try.prog 23 #[.pointer none] w fun e w' => e = .returned (.bool true) ∧ w = w' := by
  go_enter Try.func23, Try.ntmps23
  go_wp2_with fail
  go_ret
  exact ⟨rfl, rfl⟩
end Go.Proofs.Ytbjdbphnccdpbaa
