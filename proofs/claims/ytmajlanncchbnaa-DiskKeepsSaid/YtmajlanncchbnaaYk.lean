/-
  The reference's disk: Append, Swap, Cut, Arm, Crash, Up, Down, Len, Bytes, Copy.
-/
import Derived.Test.YtmajlanncchbnaaYj
set_option linter.unusedVariables false
namespace Go.Proofs.Ytmajlanncchbnaa
open Go.RowKit Go.Shelf Go.Lib Go.Deep


set_option maxRecDepth 100000 in
set_option maxHeartbeats 4000000 in
theorem rapp_whole {base b : Nat} {s : DS} {v u : Value} {x : List UInt8} (w : World) (h : Dk 46 base b s v w) (hbase : base ≤ w.heap.size) (hx : ∀ W, Fr (fun k => k = b) w W → rd W x u) (hdn : s.dn = false) (hlong : ¬ 1048576 < s.f.length + x.length) (har : s.ar = none) :
    Calls Try.prog 35 #[.pointer (some ⟨b, 0, none⟩), u] w (DQ 46 base b v w (appD s x)) := by
  have hr : appD s x = (0, ⟨s.f ++ x, false, none⟩) := by unfold appD; rw [if_neg (by simp [hdn]), if_neg hlong]; unfold wrD; rw [har]
  rw [hr]
  obtain ⟨ou, au, cu, rfl, hu1, hu2, _⟩ := hx w (Fr.refl _ _)
  have e0 : beD s = 0 := by unfold beD; rw [if_neg (by simp [hdn])]
  have HN := Lib.hid (rno_any w h)
  rw [e0] at HN
  have HT := Lib.hid (rtorn_any w h)
  have e1 : s.ar.isSome = false := by rw [har]; rfl
  have e2 : tornD s = s := by unfold tornD; rw [if_neg (by simp [e1])]
  rw [e1, e2] at HT
  obtain ⟨c0, _, _, ⟨k, c3, _⟩, _⟩ := h.cells
  have hfl := h.1
  obtain ⟨ov, cv, rfl, hv1, hv2, _⟩ := h.2.2.2.2.form
  have hq : ∃ q : Int, (if (x.length : Int) < k then (x.length : Int) else k) = q := ⟨_, rfl⟩
  obtain ⟨q, hq⟩ := hq
  have ht : decide ((1048576 : Int) < (x.length : Int)) = false := decide_eq_false (by omega)
  have ht2 : decide (1048576 < x.length) = false := decide_eq_false (by omega)
  have hs : IntKind.i64.wrap ((s.f.length : Int) + (x.length : Int)) = (s.f.length : Int) + (x.length : Int) := by go_unwrap
  have ht3 : decide ((1048576 : Int) < (s.f.length : Int) + (x.length : Int)) = false := decide_eq_false (by omega)
  have HXX := Lib.hid hx
  have HL : Hid (s.f.length + x.length ≤ 1048576) := Lib.hid (by omega)
  have HBS := Lib.hid hbase
  clear h hx hlong hu1 hu2 hv1 hv2 hfl hbase
  go_enter Try.func35, Try.ntmps35
  go_wp2_with (go_at_call 49; refine HN.out.mono ?_)
  rintro e w2 ⟨rfl, rfl⟩
  go_wp2_with (go_at_call 50; refine HT.out.mono ?_)
  rintro e w2 ⟨rfl, hk⟩
  have c0 := hk.out.1.cells.1
  have hb2 := hk.out.2.size
  go_wp2_with (at_builtin; refine wpList_app_ow rfl _ _ rfl base (.slice ov s.f.length cv) (.slice ou x.length cu) s.f x rfl rfl hk.out.1.2.2.2.2 (HXX.out _ hk.out.2) (by have := HL.out; omega) (Nat.le_trans HBS.out hb2) ?_)
  intro o1 c1 w3 own2 gr2 at2
  obtain ⟨y1, y2, y3⟩ := hk.out.1.appended (by rw [List.length_append]; exact HL.out) gr2 own2 at2
  have HQ : Hid (DR 46 base b (.slice ov s.f.length cv) w ⟨s.f ++ x, false, none⟩ (w3.setCell ⟨b, 0, none⟩ (.slice o1 (s.f.length + x.length) c1))) := Lib.hid (by
    obtain ⟨v', q1, q2, q3⟩ := y3
    rw [hdn, har] at q1
    exact ⟨v', q1, q2.imp id (fun h k hk => Nat.le_trans hb2 (h k hk)), (hk.out.2.mono fun k _ e => .inl e).trans q3⟩)
  clear own2 gr2 at2 y3 hk hb2
  go_wp2_with fail
  go_ret
  exact ⟨rfl, HQ.out⟩
set_option maxRecDepth 100000 in
set_option maxHeartbeats 4000000 in
theorem rapp_torn {base b m : Nat} {s : DS} {v u : Value} {x : List UInt8} (w : World) (h : Dk 46 base b s v w) (hbase : base ≤ w.heap.size) (hx : ∀ W, Fr (fun k => k = b) w W → rd W x u) (hdn : s.dn = false) (hlong : ¬ 1048576 < s.f.length + x.length) (har : s.ar = some m) :
    Calls Try.prog 35 #[.pointer (some ⟨b, 0, none⟩), u] w (DQ 46 base b v w (appD s x)) := by
  have hr : appD s x = (60, ⟨s.f ++ x.take m, true, none⟩) := by unfold appD; rw [if_neg (by simp [hdn]), if_neg hlong]; unfold wrD; rw [har]; rfl
  rw [hr]
  obtain ⟨ou, au, cu, rfl, hu1, hu2, _⟩ := hx w (Fr.refl _ _)
  have e0 : beD s = 0 := by unfold beD; rw [if_neg (by simp [hdn])]
  have HN := Lib.hid (rno_any w h)
  rw [e0] at HN
  have HT := Lib.hid (rtorn_any w h)
  have e1 : s.ar.isSome = true := by rw [har]; rfl
  have e2 : tornD s = ⟨s.f, true, none⟩ := by unfold tornD; rw [if_pos e1]
  rw [e1, e2] at HT
  obtain ⟨c0, _, _, ⟨k, c3, _, hk3⟩, _⟩ := h.cells
  obtain rfl := hk3 m har
  have hfl := h.1
  obtain ⟨ov, cv, rfl, hv1, hv2, _⟩ := h.2.2.2.2.form
  obtain ⟨q, hq, hqx, hqt⟩ : ∃ q : Nat, (if x.length < m then (x.length : Int) else (m : Int)) = (q : Int) ∧ q ≤ x.length ∧ x.take m = x.take q := by
    by_cases hlt : x.length < m
    · exact ⟨x.length, by rw [if_pos (by omega)], Nat.le_refl _, by rw [List.take_of_length_le (by omega), List.take_of_length_le (Nat.le_refl _)]⟩
    · exact ⟨m, by rw [if_neg (by omega)], by omega, rfl⟩
  rw [hqt]
  have hql : (x.take q).length = q := by rw [List.length_take]; omega
  have ht : decide ((1048576 : Int) < (x.length : Int)) = false := decide_eq_false (by omega)
  have ht2 : decide (1048576 < x.length) = false := decide_eq_false (by omega)
  have hs : IntKind.i64.wrap ((s.f.length : Int) + (x.length : Int)) = (s.f.length : Int) + (x.length : Int) := by go_unwrap
  have ht3 : decide ((1048576 : Int) < (s.f.length : Int) + (x.length : Int)) = false := decide_eq_false (by omega)
  have hqc : (q : Int) ≤ (cu : Int) := by omega
  have HXX : Hid (∀ W, Fr (fun k => k = b) w W → rd W (x.take q) (.slice ou q cu)) := Lib.hid fun W hW => (hx W hW).cut q cu hqx (by omega) hu2
  have HL : Hid (s.f.length + x.length ≤ 1048576) := Lib.hid (by omega)
  have HQL := Lib.hid hql
  have HQX := Lib.hid hqx
  have HBS := Lib.hid hbase
  clear h hx hlong hu1 hu2 hv1 hv2 hfl hbase hql hqx hqt hk3
  go_enter Try.func35, Try.ntmps35
  go_wp2_with (go_at_call 49; refine HN.out.mono ?_)
  rintro e w2 ⟨rfl, rfl⟩
  go_wp2_with (go_at_call 50; refine HT.out.mono ?_)
  rintro e w2 ⟨rfl, hk⟩
  have c0 := hk.out.1.cells.1
  have hb2 := Lib.hid hk.out.2.size
  have STEP : Hid (∀ w1 w' o' c', Below w2.heap.size w2 w1 → ow base w' (.slice o' (s.f.length + q) c') (s.f ++ x.take q) → w1.grownBy w' (Value.slice ov s.f.length cv).ownBlock → ((Value.slice o' (s.f.length + q) c').ownBlock = (Value.slice ov s.f.length cv).ownBlock ∨ (Value.slice o' (s.f.length + q) c').ownBlock = some w1.heap.size) →
      w'.cell? ⟨b, 0, none⟩ = some (.slice ov s.f.length cv) ∧ w'.frozen? ⟨b, 0, none⟩ = false ∧ Hid (DR 46 base b (.slice ov s.f.length cv) w ⟨s.f ++ x.take q, true, none⟩ (w'.setCell ⟨b, 0, none⟩ (.slice o' (s.f.length + q) c')))) := Lib.hid (by
    intro w1 w' o' c' hb1 own gr at'
    obtain ⟨q1, q2, q3⟩ := (hk.out.1.below hb1).appended (by have := HL.out; have := HQL.out; have := HQX.out; rw [List.length_append]; show s.f.length + _ ≤ _; omega) gr own at'
    obtain ⟨v', y1, y2, y3⟩ := q3.from hb1
    exact ⟨q1, q2, Lib.hid ⟨v', y1, y2.imp id (fun h k hk => Nat.le_trans hb2.out (h k hk)), (hk.out.2.mono fun k _ e => .inl e).trans y3⟩⟩)
  have HOW := Lib.hid hk.out.1.2.2.2.2
  have HRD := Lib.hid (HXX.out _ hk.out.2)
  clear hk
  go_wp2_with fail
  go_region_law (refine step_app_ow rfl (.tmp 39) (.tmp 42) rfl base (.slice ov s.f.length cv) (.slice ou q cu) s.f (x.take q) (by simp [Act.eval]) (by simp [Act.eval]) (ow_rd_below HOW.out (by go_grown)) (HRD.out.below (by go_grown)) (by have := HL.out; rw [HQL.out]; have := HQX.out; omega) (by have := HBS.out; have := hb2.out; simp; omega) ?_; rw [HQL.out]; intro o1 c1 w3 own2 gr2 at2; obtain ⟨y1, y2, y3⟩ := STEP.out _ _ _ _ (by go_grown) own2 gr2 at2)
  all_goals (go_wp2_with fail; go_ret; exact ⟨rfl, y3.out⟩)
end Go.Proofs.Ytmajlanncchbnaa
