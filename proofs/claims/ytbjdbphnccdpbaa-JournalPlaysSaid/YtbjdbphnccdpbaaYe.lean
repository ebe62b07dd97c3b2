/-
  The program's disk: Append.
-/
import Derived.Test.YtbjdbphnccdpbaaYd
set_option linter.unusedVariables false
namespace Go.Proofs.Ytbjdbphnccdpbaa
open Go.RowKit Go.Shelf Go.Lib Go.Deep

theorem DR.fell {t : TypeId} {base b : Nat} {v v' : Value} {w w1 w' : World} {s s' : DS} (h1 : Dk t base b s' v' w') (h2 : v'.ownBlock = v.ownBlock ∨ ∀ k, v'.ownBlock = some k → w.heap.size ≤ k) (h3 : Fr (Fp b v) w w1) (h4 : Fr (fun k => k = b) w1 w') : DR t base b v w s' w' :=
  ⟨v', h1, h2, h3.trans (h4.mono fun k _ hk => .inl hk)⟩
theorem fp_box {t t' : TypeId} {base b N : Nat} {s : DS} {v x : Value} {w : World} (h : Dk t base b s v w) (hN : Boxed w N t' x) (h1 : t' ≠ t) (h2 : t' ≠ 5) : ¬ Fp b v N := by
  rintro (rfl | hk)
  · obtain ⟨_, _, _, ⟨k, hk, _⟩, _⟩ := h
    rw [show w.heap[N]? = _ from hN] at hk
    cases hk
  · obtain ⟨_, _, cur, hc⟩ := h.2.2.2.2.lt N hk
    rw [show w.heap[N]? = _ from hN] at hc
    cases hc
    exact h2 rfl

set_option maxRecDepth 100000 in
set_option maxHeartbeats 4000000 in
theorem app1_any {base b Nb Nd : Nat} {s : DS} {v u : Value} {x : List UInt8} (w : World) (h : Dk 52 base b s v w) (hbase : base ≤ w.heap.size) (hdn : s.dn = false) (hx : rd w x u)
    (hb : Boxed w Nb 27 u) (hd : Boxed w Nd 25 (.pointer (some ⟨b, 0, none⟩))) :
    Calls Try.prog 58 #[.pointer (some ⟨Nb, 0, none⟩), .pointer (some ⟨Nd, 0, none⟩)] w fun e w' => ∃ i, e = .returned (.int .i64 i) ∧ (i = (appD s x).1 ∧ DR 52 base b v w (appD s x).2 w') := by
  have hr : appD s x = if 1048576 < s.f.length + x.length then (3, s) else wrD s (s.f ++ x) (s.f ++ x.take (s.ar.getD 0)) := by unfold appD; rw [if_neg (by simp [hdn])]
  rw [hr]
  have hfl := h.1
  obtain ⟨c0, c1, c2, _⟩ := h.cells
  obtain ⟨ov, cv, rfl, hv1, hv2, _⟩ := h.2.2.2.2.form
  obtain ⟨ou, au, cu, rfl, hc1, hc2, hc3⟩ := id hx
  have b1 := hb.cell
  have b2 := hd.cell
  have eg1 := enters_of Try.func59 (by kernel_rfl) rfl
  have eg2 := enters_of Try.func60 (by kernel_rfl) rfl
  have hxl : (x.length : Int) ≤ 9223372036854775807 := by unfold maxLen at hc2; omega
  have hsub : IntKind.i64.wrap (1048576 - (s.f.length : Int)) = 1048576 - (s.f.length : Int) := by go_unwrap
  by_cases hlong : 1048576 < s.f.length + x.length
  · rw [if_pos hlong]
    have ht : (1048576 : Int) - (s.f.length : Int) < (x.length : Int) := by omega
    have HD : Hid (∀ w1, Below w.heap.size w w1 → DR 52 base b (.slice ov s.f.length cv) w s w1) := Lib.hid fun w1 hb1 => h.same hb1
    clear h hbase hx hb hd hlong hr hfl hv1 hv2 hc1 hc2 hc3
    go_enter Try.func58, Try.ntmps58
    go_wp2_with fail
    go_quiet (fail)
    go_wp2_with fail
    go_ret
    exact ⟨3, rfl, rfl, HD.out _ (below_drewN (Below.refl _ _) _)⟩
  · rw [if_neg hlong]
    have ht : ¬ (1048576 : Int) - (s.f.length : Int) < (x.length : Int) := by omega
    have hF : Hid (∀ w1, Below w.heap.size w w1 → Boxed w1 Nb 27 (.slice ou x.length cu) ∧ Boxed w1 Nd 25 (.pointer (some ⟨b, 0, none⟩))) := Lib.hid fun w1 hb1 => ⟨(Fr.of_below (B := fun _ => False) hb1).boxed hb (fun h => h), (Fr.of_below (B := fun _ => False) hb1).boxed hd (fun h => h)⟩
    rcases har : s.ar with _ | m
    · have hw : wrD s (s.f ++ x) (s.f ++ x.take ((none : Option Nat).getD 0)) = (0, ⟨s.f ++ x, false, none⟩) := by unfold wrD; rw [har]
      rw [hw]
      have HC : Hid (∀ w1, Below w.heap.size w w1 → Calls Try.prog 51 #[.pointer (some ⟨b, 0, none⟩), .func (.func 59) #[] #[.pointer (some ⟨Nd, 0, none⟩), .pointer (some ⟨Nb, 0, none⟩)], .func (.func 60) #[] #[.pointer (some ⟨Nd, 0, none⟩), .pointer (some ⟨Nb, 0, none⟩)]] w1 fun e w' => e = .returned (.int .i64 0) ∧ Hid (DR 52 base b (.slice ov s.f.length cv) w ⟨s.f ++ x, false, none⟩ w')) := Lib.hid fun w1 hb1 => by
        have h1 := h.below hb1
        refine (write_whole b _ _ _ w1 eg1 (by have := h1.cells.2.2.1; rw [har] at this; exact this) (app11_any w1 h1 (Nat.le_trans hbase hb1.size) (hx.below hb1) (by omega) (hF.out w1 hb1).1 (hF.out w1 hb1).2)).mono ?_
        rintro e w' ⟨rfl, hq⟩
        refine ⟨rfl, Lib.hid ?_⟩
        have := hq.from hb1
        rw [hdn, har] at this
        exact this
      clear h hbase hx hb hd hlong hr hfl hv1 hv2 hc1 hc2 hc3 hF eg1 eg2
      go_enter Try.func58, Try.ntmps58
      go_wp2_with fail
      go_quiet (fail)
      go_wp2_with (go_at_call 51; refine (HC.out _ (below_drewN (Below.refl _ _) _)).mono ?_)
      rintro e w2 ⟨rfl, hq⟩
      go_wp2_with fail
      go_ret
      exact ⟨0, rfl, rfl, hq.out⟩
    · have hw : wrD s (s.f ++ x) (s.f ++ x.take ((some m).getD 0)) = (60, ⟨s.f ++ x.take m, true, none⟩) := by unfold wrD; rw [har]; rfl
      rw [hw]
      have HC : Hid (∀ w1, Below w.heap.size w w1 → Calls Try.prog 51 #[.pointer (some ⟨b, 0, none⟩), .func (.func 59) #[] #[.pointer (some ⟨Nd, 0, none⟩), .pointer (some ⟨Nb, 0, none⟩)], .func (.func 60) #[] #[.pointer (some ⟨Nd, 0, none⟩), .pointer (some ⟨Nb, 0, none⟩)]] w1 fun e w' => e = .returned (.int .i64 60) ∧ Hid (DR 52 base b (.slice ov s.f.length cv) w ⟨s.f ++ x.take m, true, none⟩ w')) := Lib.hid fun w1 hb1 => by
        have h1 := h.below hb1
        refine (write_torn (base := base) (s := ⟨s.f ++ x.take m, s.dn, s.ar⟩) b _ _ _ w1 eg2 (by have := h1.cells.2.2.1; rw [har] at this; exact this) (R := fun v' w' => (v'.ownBlock = (Value.slice ov s.f.length cv).ownBlock ∨ ∀ k, v'.ownBlock = some k → w1.heap.size ≤ k) ∧ Fr (Fp b (Value.slice ov s.f.length cv)) w1 w') (app12_any w1 h1 (Nat.le_trans hbase hb1.size) (hx.below hb1) (by omega) har (hF.out w1 hb1).1 (hF.out w1 hb1).2)).mono ?_
        rintro e w' ⟨rfl, v', w2, hk, ⟨hq1, hq2⟩, hq3⟩
        exact ⟨rfl, Lib.hid (DR.from (DR.fell (s := s) hk hq1 hq2 hq3) hb1)⟩
      clear h hbase hx hb hd hlong hr hfl hv1 hv2 hc1 hc2 hc3 hF eg1 eg2
      go_enter Try.func58, Try.ntmps58
      go_wp2_with fail
      go_quiet (fail)
      go_wp2_with (go_at_call 51; refine (HC.out _ (below_drewN (Below.refl _ _) _)).mono ?_)
      rintro e w2 ⟨rfl, hq⟩
      go_wp2_with fail
      go_ret
      exact ⟨60, rfl, rfl, hq.out⟩
end Go.Proofs.Ytbjdbphnccdpbaa
