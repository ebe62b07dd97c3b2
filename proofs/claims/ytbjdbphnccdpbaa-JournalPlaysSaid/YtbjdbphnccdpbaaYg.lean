/-
  The program's disk: Swap, Cut, Arm, Crash.
-/
import Derived.Test.YtbjdbphnccdpbaaYf
set_option linter.unusedVariables false
namespace Go.Proofs.Ytbjdbphnccdpbaa
open Go.RowKit Go.Shelf Go.Lib Go.Deep

/-- A write by a function that may do the whole, the other leaving the file: of a disk that is up. -/
theorem write_any {base b g g2 : Nat} {s : DS} {v : Value} {x y : List UInt8} (lb lb2 : Array Value) (w : World) (h : Dk 52 base b s v w) (hdn : s.dn = false) (eg : ∀ args w, (callFunc g args).run Try.prog w = .ok (.enter g args) w) (eg2 : ∀ args w, (callFunc g2 args).run Try.prog w = .ok (.enter g2 args) w)
    (h1 : s.ar = none → Calls Try.prog g lb w fun e w' => e = .returned (.tuple #[]) ∧ DR 52 base b v w ⟨x, s.dn, s.ar⟩ w')
    (h2 : ∀ m, s.ar = some m → Calls Try.prog g2 lb2 w fun e w' => e = .returned (.tuple #[]) ∧ DR 52 base b v w ⟨y, s.dn, s.ar⟩ w') :
    Calls Try.prog 51 #[.pointer (some ⟨b, 0, none⟩), .func (.func g) #[] lb, .func (.func g2) #[] lb2] w fun e w' => e = .returned (.int .i64 (wrD s x y).1) ∧ Hid (DR 52 base b v w (wrD s x y).2 w') := by
  rcases har : s.ar with _ | m
  · have hw : wrD s x y = (0, ⟨x, false, none⟩) := by unfold wrD; rw [har]
    rw [hw]
    refine (write_whole b _ _ _ w eg (by have := h.cells.2.2.1; rw [har] at this; exact this) (h1 har)).mono ?_
    rintro e w' ⟨rfl, hq⟩
    rw [hdn, har] at hq
    exact ⟨rfl, Lib.hid hq⟩
  · have hw : wrD s x y = (60, ⟨y, true, none⟩) := by unfold wrD; rw [har]
    rw [hw]
    refine (write_torn (base := base) (s := ⟨y, s.dn, s.ar⟩) b _ _ _ w eg2 (by have := h.cells.2.2.1; rw [har] at this; exact this) (R := fun v' w' => (v'.ownBlock = v.ownBlock ∨ ∀ k, v'.ownBlock = some k → w.heap.size ≤ k) ∧ Fr (Fp b v) w w') (h2 m har)).mono ?_
    rintro e w' ⟨rfl, v', w2, hk, ⟨hq1, hq2⟩, hq3⟩
    exact ⟨rfl, Lib.hid (DR.fell (s := s) hk hq1 hq2 hq3)⟩
theorem unchanged_dr {base b : Nat} {s : DS} {v : Value} (w : World) (h : Dk 52 base b s v w) : Calls Try.prog 53 #[] w fun e w' => e = .returned (.tuple #[]) ∧ DR 52 base b v w ⟨s.f, s.dn, s.ar⟩ w' := by
  refine (unchanged_any w).mono ?_
  rintro e w' ⟨rfl, rfl⟩
  exact ⟨rfl, h.same (Below.refl _ _)⟩

set_option maxRecDepth 100000 in
set_option maxHeartbeats 4000000 in
theorem swap1_any {base b Nb Nd : Nat} {s : DS} {v u : Value} {x : List UInt8} (w : World) (h : Dk 52 base b s v w) (hbase : base ≤ w.heap.size) (hdn : s.dn = false) (hx : rd w x u)
    (hb : Boxed w Nb 27 u) (hd : Boxed w Nd 25 (.pointer (some ⟨b, 0, none⟩))) :
    Calls Try.prog 50 #[.pointer (some ⟨Nb, 0, none⟩), .pointer (some ⟨Nd, 0, none⟩)] w fun e w' => ∃ i, e = .returned (.int .i64 i) ∧ (i = (swapD s x).1 ∧ DR 52 base b v w (swapD s x).2 w') := by
  have hr : swapD s x = if 1048576 < x.length then (3, s) else wrD s x s.f := by unfold swapD; rw [if_neg (by simp [hdn])]
  rw [hr]
  obtain ⟨ou, au, cu, rfl, hc1, hc2, hc3⟩ := id hx
  have b1 := hb.cell
  have b2 := hd.cell
  have eg1 := enters_of Try.func52 (by kernel_rfl) rfl
  have eg2 := enters_of Try.func53 (by kernel_rfl) rfl
  by_cases hlong : 1048576 < x.length
  · rw [if_pos hlong]
    have ht : (1048576 : Int) < (x.length : Int) := by omega
    have HD : Hid (DR 52 base b v w s w) := Lib.hid (h.same (Below.refl _ _))
    clear h hbase hx hb hd hr hc1 hc2 hc3
    go_enter Try.func50, Try.ntmps50
    go_wp2_with fail
    go_ret
    exact ⟨3, rfl, rfl, HD.out⟩
  · rw [if_neg hlong]
    have ht : ¬ (1048576 : Int) < (x.length : Int) := by omega
    have HC := Lib.hid (write_any (x := x) (y := s.f) #[.pointer (some ⟨Nb, 0, none⟩), .pointer (some ⟨Nd, 0, none⟩)] #[] w h hdn eg1 eg2 (fun _ => swap11_any w h hbase hx (by omega) hb hd) (fun _ _ => unchanged_dr w h))
    generalize wrD s x s.f = r at HC ⊢
    clear h hbase hx hb hd hr hc1 hc2 hc3 eg1 eg2
    go_enter Try.func50, Try.ntmps50
    go_wp2_with (go_at_call 51; refine HC.out.mono ?_)
    first | rintro e w2 rfl hq | rintro e w2 ⟨rfl, hq⟩
    go_wp2_with fail
    go_ret
    exact ⟨_, rfl, rfl, hq.out⟩
set_option maxRecDepth 100000 in
set_option maxHeartbeats 1000000 in
theorem swap_any {base b : Nat} {s : DS} {v u : Value} {x : List UInt8} (w : World) (h : Dk 52 base b s v w) (hbase : base ≤ w.heap.size) (hx : rd w x u) :
    Calls Try.prog 18 #[.pointer (some ⟨b, 0, none⟩), u] w (DQ 52 base b v w (swapD s x)) := by
  obtain ⟨k1, k2, k3⟩ := box2 w 25 27 (.pointer (some ⟨b, 0, none⟩)) u
  have eg := enters_of Try.func50 (by kernel_rfl) rfl
  have HC := Lib.hid (deed_any (r := swapD s x) 50 #[.pointer (some ⟨w.heap.size + 1, 0, none⟩), .pointer (some ⟨w.heap.size, 0, none⟩)] w _ h k1 eg (fun hd => by unfold swapD; rw [if_pos hd])
    (fun hd => swap1_any _ (h.below k1) (Nat.le_trans hbase k1.size) hd (hx.below k1) k3 k2))
  obtain ⟨ou, au, cu, rfl, _⟩ := hx
  clear h hbase k1 k2 k3 eg
  go_enter Try.func18, Try.ntmps18
  go_wp2_with (go_at_call 24; refine HC.out.mono ?_)
  first | rintro e w2 rfl hq | rintro e w2 ⟨rfl, hq⟩
  go_wp2_with fail
  go_ret
  exact hq.out
set_option maxRecDepth 100000 in
set_option maxHeartbeats 1000000 in
theorem swap_nil {u : Value} {x : List UInt8} (w : World) (hx : rd w x u) :
    Calls Try.prog 18 #[.pointer none, u] w fun e w' => e = .returned (.int .i64 1) ∧ Below w.heap.size w w' := by
  have HC := Lib.hid (deed_nil 50 #[.pointer (some ⟨w.heap.size + 1, 0, none⟩), .pointer (some ⟨w.heap.size, 0, none⟩)] ((w.alloc (.cells #[.pointer none] 25)).alloc (.cells #[u] 27)))
  have HB := Lib.hid (box2 w 25 27 (.pointer none) u).1
  obtain ⟨ou, au, cu, rfl, _⟩ := hx
  go_enter Try.func18, Try.ntmps18
  go_wp2_with (go_at_call 24; refine HC.out.mono ?_)
  rintro e w2 ⟨rfl, rfl⟩
  go_wp2_with fail
  go_ret
  exact ⟨rfl, HB.out⟩

set_option maxRecDepth 100000 in
set_option maxHeartbeats 4000000 in
theorem cut11_any {base b Nn Nd : Nat} {s : DS} {v : Value} {n : Nat} (w : World) (h : Dk 52 base b s v w) (hn : n ≤ s.f.length)
    (hb : Boxed w Nn 3 (.int .i64 n)) (hd : Boxed w Nd 25 (.pointer (some ⟨b, 0, none⟩))) :
    Calls Try.prog 66 #[.pointer (some ⟨Nd, 0, none⟩), .pointer (some ⟨Nn, 0, none⟩)] w fun e w' => e = .returned (.tuple #[]) ∧ DR 52 base b v w ⟨s.f.take n, s.dn, s.ar⟩ w' := by
  have b1 := hb.cell
  have b2 := hd.cell
  obtain ⟨c0, _, _, _, hf⟩ := h.cells
  have f0 := hf 0
  obtain ⟨ov, cv, rfl, hv1, hv2, _⟩ := h.2.2.2.2.form
  have hnc : (n : Int) ≤ (cv : Int) := by omega
  have STEP : Hid (∀ w1, Below w.heap.size w w1 → Hid (DR 52 base b (.slice ov s.f.length cv) w ⟨s.f.take n, s.dn, s.ar⟩ (w1.setCell ⟨b, 0, none⟩ (.slice ov n n)))) := Lib.hid fun w1 hb1 => Lib.hid (by
    have h1 := h.below hb1
    have hl := h.1
    refine ⟨_, h1.file (by rw [List.length_take]; omega) (h1.2.2.2.2.cut n n hn (Nat.le_refl _) (by omega)), .inl ?_, (Fr.of_below hb1).trans (Fr.set w1 b 0 _ (.inl rfl))⟩
    cases ov <;> rfl)
  clear h hb hd hf hn hv1 hv2
  go_enter Try.func66, Try.ntmps66
  go_wp2_with fail
  go_region
  all_goals (go_end0; exact ⟨rfl, (STEP.out _ (by go_grown)).out⟩)
end Go.Proofs.Ytbjdbphnccdpbaa
