/-
  The program's disk: Append's functions.
-/
import Derived.Test.YtbjdbphnccdpbaaYc
import Derived.WalkSmall
import Derived.Handy
set_option linter.unusedVariables false
namespace Go.Proofs.Ytbjdbphnccdpbaa
open Go.RowKit Go.Shelf Go.Lib Go.Deep

/-- What a write on a disk leaves in memory. -/
def DR (t : TypeId) (base b : Nat) (v : Value) (w : World) (s : DS) (w' : World) : Prop :=
  ∃ v', Dk t base b s v' w' ∧ (v'.ownBlock = v.ownBlock ∨ ∀ k, v'.ownBlock = some k → w.heap.size ≤ k) ∧ Fr (Fp b v) w w'
theorem DR.from {t : TypeId} {base b : Nat} {v : Value} {w w1 w' : World} {s : DS} (h : DR t base b v w1 s w') (hb : Below w.heap.size w w1) : DR t base b v w s w' := by
  obtain ⟨v', h2, h3, h4⟩ := h
  exact ⟨v', h2, h3.imp id (fun h k hk => Nat.le_trans hb.size (h k hk)), (Fr.of_below hb).trans h4⟩
theorem Dk.same {t : TypeId} {base b : Nat} {s : DS} {v : Value} {w w' : World} (h : Dk t base b s v w) (hb : Below w.heap.size w w') : DR t base b v w s w' := ⟨v, h.below hb, .inl rfl, Fr.of_below hb⟩
/-- Behind an append: the row is stored. -/
theorem Dk.appended {t : TypeId} {base b : Nat} {s : DS} {v v2 : Value} {x : List UInt8} {w w' : World} (h : Dk t base b s v w) (hx : x.length ≤ 1048576) (gr : w.grownBy w' v.ownBlock) (own : ow base w' v2 x)
    (at' : v2.ownBlock = v.ownBlock ∨ v2.ownBlock = some w.heap.size) : w'.cell? ⟨b, 0, none⟩ = some v ∧ w'.frozen? ⟨b, 0, none⟩ = false ∧ DR t base b v w ⟨x, s.dn, s.ar⟩ (w'.setCell ⟨b, 0, none⟩ v2) := by
  have hne := h.ne
  have hF : Fr (fun k => v.ownBlock = some k) w w' := Fr.grown gr fun r hr => hr
  have h0 := h
  obtain ⟨h1, h2, h3, ⟨k, h4, h6⟩, h5⟩ := h
  have hb : w'.heap[b]? = some (.cells #[v, .bool s.dn, .bool s.ar.isSome, .int .i64 k] t (0, 0)) := hF.2 b _ h4 hne
  have hne2 : v2.ownBlock ≠ some b := by
    rcases at' with e | e
    · rw [e]; exact hne
    · rw [e]; intro e2; have := h0.lt; simp at e2; omega
  refine ⟨by simp [World.cell?, hb], by simp [World.frozen?, hb], v2, ⟨hx, h2, h3, ⟨k, by simp [World.setCell, Array.getElem?_modify, hb], h6⟩, own.keep fun j o hj ho => (Fr.set (B := fun k => k = b) w' b 0 v2 rfl).2 j o ho (fun e => by subst e; exact hne2 hj)⟩, ?_, ?_⟩
  · rcases at' with e | e
    · exact .inl e
    · exact .inr fun j hj => by rw [e] at hj; simp at hj; omega
  · exact (hF.mono fun j _ hj => .inr hj).trans (Fr.set w' b 0 v2 (.inl rfl))

set_option maxRecDepth 100000 in
set_option maxHeartbeats 4000000 in
theorem app11_any {base b Nb Nd : Nat} {s : DS} {v u : Value} {x : List UInt8} (w : World) (h : Dk 52 base b s v w) (hbase : base ≤ w.heap.size) (hx : rd w x u) (hl : s.f.length + x.length ≤ 1048576)
    (hb : Boxed w Nb 27 u) (hd : Boxed w Nd 25 (.pointer (some ⟨b, 0, none⟩))) :
    Calls Try.prog 59 #[.pointer (some ⟨Nd, 0, none⟩), .pointer (some ⟨Nb, 0, none⟩)] w fun e w' => e = .returned (.tuple #[]) ∧ DR 52 base b v w ⟨s.f ++ x, s.dn, s.ar⟩ w' := by
  obtain ⟨c0, _⟩ := h.cells
  obtain ⟨ov, cv, rfl, _⟩ := h.2.2.2.2.form
  obtain ⟨ou, au, cu, rfl, _⟩ := id hx
  have b1 := hb.cell
  have b2 := hd.cell
  have HK := Lib.hid h
  have HX := Lib.hid hx
  have HB := Lib.hid hbase
  have HL := Lib.hid hl
  have STEP : Hid (∀ w1 w' o' c', Below w.heap.size w w1 → ow base w' (.slice o' (s.f.length + x.length) c') (s.f ++ x) → w1.grownBy w' (Value.slice ov s.f.length cv).ownBlock → ((Value.slice o' (s.f.length + x.length) c').ownBlock = (Value.slice ov s.f.length cv).ownBlock ∨ (Value.slice o' (s.f.length + x.length) c').ownBlock = some w1.heap.size) →
      w'.cell? ⟨Nd, 0, none⟩ = some (.pointer (some ⟨b, 0, none⟩)) ∧ w'.cell? ⟨b, 0, none⟩ = some (.slice ov s.f.length cv) ∧ w'.frozen? ⟨b, 0, none⟩ = false ∧ Hid (DR 52 base b (.slice ov s.f.length cv) w ⟨s.f ++ x, s.dn, s.ar⟩ (w'.setCell ⟨b, 0, none⟩ (.slice o' (s.f.length + x.length) c')))) := Lib.hid (by
    intro w1 w' o' c' hb1 own gr at'
    obtain ⟨q1, q2, q3⟩ := (h.below hb1).appended (by rw [List.length_append]; exact hl) gr own at'
    have hd1 : Boxed w1 Nd 25 (.pointer (some ⟨b, 0, none⟩)) := (Fr.of_below (B := fun _ => False) hb1).boxed hd (fun h => h)
    refine ⟨(hd1.kept gr (fun e => ?_)).cell, q1, q2, Lib.hid (q3.from hb1)⟩
    obtain ⟨_, _, cur, hc⟩ := (h.below hb1).2.2.2.2.lt Nd e.symm
    rw [show w1.heap[Nd]? = _ from hd1] at hc
    cases hc)
  clear h hx hbase hb hd hl
  go_enter Try.func59, Try.ntmps59
  go_wp2_with fail
  go_region_law (refine step_app_ow rfl (.tmp 6) (.tmp 7) rfl base (.slice ov s.f.length cv) (.slice ou x.length cu) s.f x (by simp [Act.eval]) (by simp [Act.eval]) (HK.out.below (by go_grown)).2.2.2.2 (HX.out.below (by go_grown)) (by have := HL.out; omega) (by have := HB.out; simpa using this) ?_; intro o1 c1 w2 own2 gr2 at2; obtain ⟨y0, y1, y2, y3⟩ := STEP.out _ _ _ _ (by go_grown) own2 gr2 at2)
  all_goals (go_end0; exact ⟨rfl, y3.out⟩)

set_option maxRecDepth 100000 in
set_option maxHeartbeats 4000000 in
theorem app12_any {base b Nb Nd m : Nat} {s : DS} {v u : Value} {x : List UInt8} (w : World) (h : Dk 52 base b s v w) (hbase : base ≤ w.heap.size) (hx : rd w x u) (hl : s.f.length + x.length ≤ 1048576) (hm : s.ar = some m)
    (hb : Boxed w Nb 27 u) (hd : Boxed w Nd 25 (.pointer (some ⟨b, 0, none⟩))) :
    Calls Try.prog 60 #[.pointer (some ⟨Nd, 0, none⟩), .pointer (some ⟨Nb, 0, none⟩)] w fun e w' => e = .returned (.tuple #[]) ∧ DR 52 base b v w ⟨s.f ++ x.take m, s.dn, s.ar⟩ w' := by
  obtain ⟨c0, _, _, ⟨k, c3, _, hk3⟩, _⟩ := h.cells
  obtain rfl := hk3 m hm
  obtain ⟨ov, cv, rfl, _⟩ := h.2.2.2.2.form
  obtain ⟨ou, au, cu, rfl, hc1, hc2, hc3⟩ := id hx
  have b1 := hb.cell
  have b2 := hd.cell
  obtain ⟨q, hq, hqx, hqt⟩ : ∃ q : Nat, (if x.length < m then (x.length : Int) else (m : Int)) = (q : Int) ∧ q ≤ x.length ∧ x.take m = x.take q := by
    by_cases hlt : x.length < m
    · exact ⟨x.length, by rw [if_pos (by omega)], Nat.le_refl _, by rw [List.take_of_length_le (by omega), List.take_of_length_le (Nat.le_refl _)]⟩
    · exact ⟨m, by rw [if_neg (by omega)], by omega, rfl⟩
  rw [hqt]
  have hql : (x.take q).length = q := by rw [List.length_take]; omega
  have hqr : rd w (x.take q) (.slice ou q q) := hx.cut q q hqx (Nat.le_refl _) (by omega)
  have HK := Lib.hid h
  have HX := Lib.hid hqr
  have HB := Lib.hid hbase
  have HL := Lib.hid hl
  have HQL := Lib.hid hql
  have HQX := Lib.hid hqx
  have hqc : (q : Int) ≤ (cu : Int) := by omega
  have STEP : Hid (∀ w1 w' o' c', Below w.heap.size w w1 → ow base w' (.slice o' (s.f.length + q) c') (s.f ++ x.take q) → w1.grownBy w' (Value.slice ov s.f.length cv).ownBlock → ((Value.slice o' (s.f.length + q) c').ownBlock = (Value.slice ov s.f.length cv).ownBlock ∨ (Value.slice o' (s.f.length + q) c').ownBlock = some w1.heap.size) →
      w'.cell? ⟨Nd, 0, none⟩ = some (.pointer (some ⟨b, 0, none⟩)) ∧ w'.cell? ⟨b, 0, none⟩ = some (.slice ov s.f.length cv) ∧ w'.frozen? ⟨b, 0, none⟩ = false ∧ Hid (DR 52 base b (.slice ov s.f.length cv) w ⟨s.f ++ x.take q, s.dn, s.ar⟩ (w'.setCell ⟨b, 0, none⟩ (.slice o' (s.f.length + q) c')))) := Lib.hid (by
    intro w1 w' o' c' hb1 own gr at'
    obtain ⟨q1, q2, q3⟩ := (h.below hb1).appended (by rw [List.length_append]; omega) gr own at'
    have hd1 : Boxed w1 Nd 25 (.pointer (some ⟨b, 0, none⟩)) := (Fr.of_below (B := fun _ => False) hb1).boxed hd (fun h => h)
    refine ⟨(hd1.kept gr (fun e => ?_)).cell, q1, q2, Lib.hid (q3.from hb1)⟩
    obtain ⟨_, _, cur, hc⟩ := (h.below hb1).2.2.2.2.lt Nd e.symm
    rw [show w1.heap[Nd]? = _ from hd1] at hc
    cases hc)
  clear h hx hbase hb hd hl hqr hql hqx hqt hc1 hc2 hc3 hm hk3
  go_enter Try.func60, Try.ntmps60
  go_wp2_with fail
  go_quiet (fail)
  go_wp2_with fail
  go_region_law (refine step_app_ow rfl (.tmp 14) (.tmp 18) rfl base (.slice ov s.f.length cv) (.slice ou q q) s.f (x.take q) (by simp [Act.eval, Act.put]) (by simp [Act.eval, Act.put]) (HK.out.below (below_drewN (Below.refl _ _) _)).2.2.2.2 (HX.out.below (below_drewN (Below.refl _ _) _)) (by have := HL.out; rw [HQL.out]; have := HQX.out; omega) (by have := HB.out; simpa using this) ?_; rw [HQL.out]; intro o1 c1 w2 own2 gr2 at2; obtain ⟨y0, y1, y2, y3⟩ := STEP.out _ _ _ _ (below_drewN (Below.refl _ _) _) own2 gr2 at2)
  all_goals (go_end0; exact ⟨rfl, y3.out⟩)
end Go.Proofs.Ytbjdbphnccdpbaa
