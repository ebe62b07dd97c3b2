/-
  The reference's disk: Swap, Cut, Arm, Crash, Up, Down, Len, Bytes, Copy.
-/
import Derived.Test.YtmajlanncchbnaaYk
import Derived.Deep.RegionHeld3
set_option linter.unusedVariables false
namespace Go.Proofs.Ytmajlanncchbnaa
open Go.RowKit Go.Shelf Go.Lib Go.Deep

theorem rapp_any {base b : Nat} {s : DS} {v u : Value} {x : List UInt8} (w : World) (h : Dk 46 base b s v w) (hbase : base ≤ w.heap.size) (hx : ∀ W, Fr (fun k => k = b) w W → rd W x u) :
    Calls Try.prog 35 #[.pointer (some ⟨b, 0, none⟩), u] w (DQ 46 base b v w (appD s x)) := by
  cases hdn : s.dn
  · by_cases hl : 1048576 < s.f.length + x.length
    · exact rapp_long w h (hx w (Fr.refl _ _)) hdn hl
    · rcases har : s.ar with _ | m
      · exact rapp_whole w h hbase hx hdn hl har
      · exact rapp_torn w h hbase hx hdn hl har
  · exact rapp_down w h (hx w (Fr.refl _ _)) hdn
/-- A new row in an old struct. -/
theorem Dk.stored {t : TypeId} {base b : Nat} {s : DS} {v v2 : Value} {x : List UInt8} {w w' : World} (h : Dk t base b s v w) (hx : x.length ≤ 1048576) (ho : ow base w' v2 x) (hf : ∀ k, v2.ownBlock = some k → w.heap.size ≤ k) (hb : Below w.heap.size w w') :
    w'.cell? ⟨b, 0, none⟩ = some v ∧ w'.frozen? ⟨b, 0, none⟩ = false ∧ Hid (DR t base b v w ⟨x, s.dn, s.ar⟩ (w'.setCell ⟨b, 0, none⟩ v2)) := by
  have h2 := h.below hb
  exact ⟨h2.cells.1, h2.cells.2.2.2.2 0, Lib.hid ⟨_, h2.file hx ho, .inr hf, (Fr.of_below hb).trans (Fr.set w' b 0 v2 (.inl rfl))⟩⟩

theorem hb_drew {w w' : World} (h : Hid (Below w.heap.size w w')) : Hid (Below w.heap.size w w'.drew) := Lib.hid h.out.drew
theorem hb_alloc {w w' : World} (o : Obj) (h : Hid (Below w.heap.size w w')) : Hid (Below w.heap.size w (w'.alloc o)) := Lib.hid (h.out.alloc h.out.size o)

set_option maxRecDepth 100000 in
set_option maxHeartbeats 4000000 in
theorem rswap_down {base b : Nat} {s : DS} {v : Value} {u : Value} {x : List UInt8} (w : World) (h : Dk 46 base b s v w) (hx : rd w x u) (hdn : s.dn = true) :
    Calls Try.prog 36 #[.pointer (some ⟨b, 0, none⟩), u] w (DQ 46 base b v w (swapD s x)) := by
  have hr : swapD s x = (60, s) := by unfold swapD; rw [if_pos hdn]
  rw [hr]
  obtain ⟨ou, au, cu, rfl, _⟩ := hx
  have e0 : beD s = 60 := by unfold beD; rw [if_pos hdn]
  have HN := Lib.hid (rno_any w h)
  rw [e0] at HN
  have HQ := Lib.hid (DQ.none (n := 60) h (Below.refl _ _))
  clear h
  go_enter Try.func36, Try.ntmps36
  go_wp2_with (go_at_call 49; refine HN.out.mono ?_)
  rintro e w2 ⟨rfl, rfl⟩
  go_wp2_with fail
  go_ret
  exact HQ.out

set_option maxRecDepth 100000 in
set_option maxHeartbeats 4000000 in
theorem rcut_down {base b : Nat} {s : DS} {v : Value} {n : Int} (w : World) (h : Dk 46 base b s v w) (hdn : s.dn = true) :
    Calls Try.prog 37 #[.pointer (some ⟨b, 0, none⟩), .int .i64 n] w (DQ 46 base b v w (cutD s n)) := by
  have hr : cutD s n = (60, s) := by unfold cutD; rw [if_pos hdn]
  rw [hr]
  skip
  have e0 : beD s = 60 := by unfold beD; rw [if_pos hdn]
  have HN := Lib.hid (rno_any w h)
  rw [e0] at HN
  have HQ := Lib.hid (DQ.none (n := 60) h (Below.refl _ _))
  clear h
  go_enter Try.func37, Try.ntmps37
  go_wp2_with (go_at_call 49; refine HN.out.mono ?_)
  rintro e w2 ⟨rfl, rfl⟩
  go_wp2_with fail
  go_ret
  exact HQ.out

set_option maxRecDepth 100000 in
set_option maxHeartbeats 4000000 in
theorem rarm_down {base b : Nat} {s : DS} {v : Value} {n : Int} (w : World) (h : Dk 46 base b s v w) (hdn : s.dn = true) :
    Calls Try.prog 38 #[.pointer (some ⟨b, 0, none⟩), .int .i64 n] w (DQ 46 base b v w (armD s n)) := by
  have hr : armD s n = (60, s) := by unfold armD; rw [if_pos hdn]
  rw [hr]
  skip
  have e0 : beD s = 60 := by unfold beD; rw [if_pos hdn]
  have HN := Lib.hid (rno_any w h)
  rw [e0] at HN
  have HQ := Lib.hid (DQ.none (n := 60) h (Below.refl _ _))
  clear h
  go_enter Try.func38, Try.ntmps38
  go_wp2_with (go_at_call 49; refine HN.out.mono ?_)
  rintro e w2 ⟨rfl, rfl⟩
  go_wp2_with fail
  go_ret
  exact HQ.out

set_option maxRecDepth 100000 in
set_option maxHeartbeats 4000000 in
theorem rcrash_down {base b : Nat} {s : DS} {v : Value}  (w : World) (h : Dk 46 base b s v w) (hdn : s.dn = true) :
    Calls Try.prog 39 #[.pointer (some ⟨b, 0, none⟩)] w (DQ 46 base b v w (crashD s)) := by
  have hr : crashD s = (60, s) := by unfold crashD; rw [if_pos hdn]
  rw [hr]
  skip
  have e0 : beD s = 60 := by unfold beD; rw [if_pos hdn]
  have HN := Lib.hid (rno_any w h)
  rw [e0] at HN
  have HQ := Lib.hid (DQ.none (n := 60) h (Below.refl _ _))
  clear h
  go_enter Try.func39, Try.ntmps39
  go_wp2_with (go_at_call 49; refine HN.out.mono ?_)
  rintro e w2 ⟨rfl, rfl⟩
  go_wp2_with fail
  go_ret
  exact HQ.out

set_option maxRecDepth 100000 in
set_option maxHeartbeats 4000000 in
theorem rswap_any {base b : Nat} {s : DS} {v u : Value} {x : List UInt8} (w : World) (h : Dk 46 base b s v w) (hbase : base ≤ w.heap.size) (hx : ∀ W, Fr (fun k => k = b) w W → rd W x u) :
    Calls Try.prog 36 #[.pointer (some ⟨b, 0, none⟩), u] w (DQ 46 base b v w (swapD s x)) := by
  cases hdn : s.dn
  case true => exact rswap_down w h (hx w (Fr.refl _ _)) hdn
  have hr : swapD s x = if 1048576 < x.length then (3, s) else wrD s x s.f := by unfold swapD; rw [if_neg (by simp [hdn])]
  rw [hr]
  obtain ⟨ou, au, cu, rfl, hu1, hu2, _⟩ := hx w (Fr.refl _ _)
  have e0 : beD s = 0 := by unfold beD; rw [if_neg (by simp [hdn])]
  have HN := Lib.hid (rno_any w h)
  rw [e0] at HN
  by_cases hl : 1048576 < x.length
  · rw [if_pos hl]
    have HQ := Lib.hid (DQ.none (n := 3) h (Below.refl _ _))
    have ht : decide ((1048576 : Int) < (x.length : Int)) = true := decide_eq_true (by omega)
    have ht2 : decide (1048576 < x.length) = true := decide_eq_true hl
    clear h hx hl hu1 hu2
    go_enter Try.func36, Try.ntmps36
    go_wp2_with (go_at_call 49; refine HN.out.mono ?_)
    rintro e w2 ⟨rfl, rfl⟩
    go_wp2_with fail
    go_ret
    exact HQ.out
  rw [if_neg hl]
  have ht : decide ((1048576 : Int) < (x.length : Int)) = false := decide_eq_false (by omega)
  have ht2 : decide (1048576 < x.length) = false := decide_eq_false hl
  have HT := Lib.hid (rtorn_any w h)
  have HXX := Lib.hid hx
  have HBS := Lib.hid hbase
  have HL : Hid (x.length ≤ 1048576) := Lib.hid (by omega)
  rcases har : s.ar with _ | m
  · have hw : wrD s x s.f = (0, ⟨x, false, none⟩) := by unfold wrD; rw [har]
    rw [hw]
    have e1 : s.ar.isSome = false := by rw [har]; rfl
    have e2 : tornD s = s := by unfold tornD; rw [if_neg (by simp [e1])]
    rw [e1, e2] at HT
    clear h hx hl hu1 hu2 hbase hr
    go_enter Try.func36, Try.ntmps36
    go_wp2_with (go_at_call 49; refine HN.out.mono ?_)
    rintro e w2 ⟨rfl, rfl⟩
    go_wp2_with (go_at_call 50; refine HT.out.mono ?_)
    rintro e w2 ⟨rfl, hk⟩
    have hb2 := Lib.hid hk.out.2.size
    have HC := Lib.hid (rsame_any base x _ w2 (HXX.out _ hk.out.2) (Nat.le_trans HBS.out hb2.out) HL.out)
    go_wp2_with (go_at_call 48; refine HC.out.mono ?_)
    rintro e w3 ⟨o1, c1, rfl, ho⟩
    obtain ⟨y1, y2, y3⟩ := hk.out.1.stored HL.out ho.out.1 ho.out.2.1 ho.out.2.2
    have HQ : Hid (DR 46 base b v w ⟨x, false, none⟩ (w3.setCell ⟨b, 0, none⟩ (.slice o1 x.length c1))) := Lib.hid (by
      obtain ⟨v', q1, q2, q3⟩ := y3.out
      rw [hdn, har] at q1
      exact ⟨v', q1, q2.imp id (fun h k hk => Nat.le_trans hb2.out (h k hk)), (hk.out.2.mono fun k _ e => .inl e).trans q3⟩)
    clear y3 hk ho
    go_wp2_with fail
    go_ret
    exact ⟨rfl, HQ.out⟩
  · have hw : wrD s x s.f = (60, ⟨s.f, true, none⟩) := by unfold wrD; rw [har]
    rw [hw]
    have e1 : s.ar.isSome = true := by rw [har]; rfl
    have e2 : tornD s = ⟨s.f, true, none⟩ := by unfold tornD; rw [if_pos e1]
    rw [e1, e2] at HT
    clear h hx hl hu1 hu2 hbase hr
    go_enter Try.func36, Try.ntmps36
    go_wp2_with (go_at_call 49; refine HN.out.mono ?_)
    rintro e w2 ⟨rfl, rfl⟩
    go_wp2_with (go_at_call 50; refine HT.out.mono ?_)
    rintro e w2 ⟨rfl, hk⟩
    have HQ : Hid (DR 46 base b v w ⟨s.f, true, none⟩ w2) := Lib.hid ⟨v, hk.out.1, .inl rfl, hk.out.2.mono fun k _ e => .inl e⟩
    clear hk
    go_wp2_with fail
    go_ret
    exact ⟨rfl, HQ.out⟩

set_option maxRecDepth 100000 in
set_option maxHeartbeats 4000000 in
theorem rcut_any {base b : Nat} {s : DS} {v : Value} (n : Int) (w : World) (h : Dk 46 base b s v w) (hbase : base ≤ w.heap.size) :
    Calls Try.prog 37 #[.pointer (some ⟨b, 0, none⟩), .int .i64 n] w (DQ 46 base b v w (cutD s n)) := by
  cases hdn : s.dn
  case true => exact rcut_down w h hdn
  have hr : cutD s n = if n < 0 ∨ (s.f.length : Int) < n then (2, s) else wrD s (s.f.take n.toNat) s.f := by unfold cutD; rw [if_neg (by simp [hdn])]
  rw [hr]
  have e0 : beD s = 0 := by unfold beD; rw [if_neg (by simp [hdn])]
  have HN := Lib.hid (rno_any w h)
  rw [e0] at HN
  have c0 := h.cells.1
  obtain ⟨ov, cv, rfl, hv1, hv2, _⟩ := h.2.2.2.2.form
  by_cases h1 : n < 0
  · rw [if_pos (.inl h1)]
    have HQ := Lib.hid (DQ.none (n := 2) h (Below.refl _ _))
    have ht : decide (n < 0) = true := decide_eq_true h1
    clear h h1 hv1 hv2
    go_enter Try.func37, Try.ntmps37
    go_wp2_with (go_at_call 49; refine HN.out.mono ?_)
    rintro e w2 ⟨rfl, rfl⟩
    go_wp2_with fail
    go_ret
    exact HQ.out
  have ht : decide (n < 0) = false := decide_eq_false h1
  by_cases h2 : (s.f.length : Int) < n
  · rw [if_pos (.inr h2)]
    have HQ := Lib.hid (DQ.none (n := 2) h (Below.refl _ _))
    clear h h1 hv1 hv2
    go_enter Try.func37, Try.ntmps37
    go_wp2_with (go_at_call 49; refine HN.out.mono ?_)
    rintro e w2 ⟨rfl, rfl⟩
    go_wp2_with fail
    go_ret
    exact HQ.out
  rw [if_neg (by omega)]
  obtain ⟨m, rfl⟩ : ∃ m : Nat, n = (m : Int) := ⟨n.toNat, by omega⟩
  rw [Int.toNat_natCast]
  have hmf : Hid (m ≤ s.f.length) := Lib.hid (by omega)
  have ht3 : decide (s.f.length < m) = false := decide_eq_false (by omega)
  have ht4 : decide ((s.f.length : Int) < (m : Int)) = false := decide_eq_false (by omega)
  have HT := Lib.hid (rtorn_any w h)
  have HBS := Lib.hid hbase
  have HL := Lib.hid h.1
  have hmc : (m : Int) ≤ (cv : Int) := by omega
  have HCV : Hid (m ≤ cv ∧ cv ≤ maxLen) := Lib.hid ⟨by omega, hv2⟩
  rcases har : s.ar with _ | q
  · have hw : wrD s (s.f.take m) s.f = (0, ⟨s.f.take m, false, none⟩) := by unfold wrD; rw [har]
    rw [hw]
    have e1 : s.ar.isSome = false := by rw [har]; rfl
    have e2 : tornD s = s := by unfold tornD; rw [if_neg (by simp [e1])]
    rw [e1, e2] at HT
    clear h hbase hr hv1 hv2 h1 h2
    go_enter Try.func37, Try.ntmps37
    go_wp2_with (go_at_call 49; refine HN.out.mono ?_)
    rintro e w2 ⟨rfl, rfl⟩
    go_wp2_with (go_at_call 50; refine HT.out.mono ?_)
    rintro e w2 ⟨rfl, hk⟩
    have hb2 := Lib.hid hk.out.2.size
    have c0 := hk.out.1.cells.1
    have hml : (s.f.take m).length = m := by have := hmf.out; rw [List.length_take]; omega
    have HML := Lib.hid hml
    have HC := Lib.hid (rsame_any base (s.f.take m) (.slice ov m cv) w2 (hk.out.1.2.2.2.2.rd.cut m cv hmf.out HCV.out.1 HCV.out.2) (Nat.le_trans HBS.out hb2.out) (by have := HL.out; have := hmf.out; omega))
    rw [hml] at HC
    clear hml
    go_wp2_with (go_at_call 48; refine HC.out.mono ?_)
    rintro e w3 ⟨o1, c1, rfl, ho⟩
    obtain ⟨y1, y2, y3⟩ := hk.out.1.stored (by have := HL.out; have := hmf.out; have := HML.out; omega) ho.out.1 ho.out.2.1 ho.out.2.2
    have HQ : Hid (DR 46 base b (.slice ov s.f.length cv) w ⟨s.f.take m, false, none⟩ (w3.setCell ⟨b, 0, none⟩ (.slice o1 m c1))) := Lib.hid (by
      obtain ⟨v', q1, q2, q3⟩ := y3.out
      rw [hdn, har] at q1
      exact ⟨v', q1, q2.imp id (fun h k hk => Nat.le_trans hb2.out (h k hk)), (hk.out.2.mono fun k _ e => .inl e).trans q3⟩)
    clear y3 hk ho
    go_wp2_with fail
    go_ret
    exact ⟨rfl, HQ.out⟩
  · have hw : wrD s (s.f.take m) s.f = (60, ⟨s.f, true, none⟩) := by unfold wrD; rw [har]
    rw [hw]
    have e1 : s.ar.isSome = true := by rw [har]; rfl
    have e2 : tornD s = ⟨s.f, true, none⟩ := by unfold tornD; rw [if_pos e1]
    rw [e1, e2] at HT
    clear h hbase hr hv1 hv2 h1 h2
    go_enter Try.func37, Try.ntmps37
    go_wp2_with (go_at_call 49; refine HN.out.mono ?_)
    rintro e w2 ⟨rfl, rfl⟩
    go_wp2_with (go_at_call 50; refine HT.out.mono ?_)
    rintro e w2 ⟨rfl, hk⟩
    have HQ : Hid (DR 46 base b (.slice ov s.f.length cv) w ⟨s.f, true, none⟩ w2) := Lib.hid ⟨_, hk.out.1, .inl rfl, hk.out.2.mono fun k _ e => .inl e⟩
    clear hk
    go_wp2_with fail
    go_ret
    exact ⟨rfl, HQ.out⟩

set_option maxRecDepth 100000 in
set_option maxHeartbeats 4000000 in
theorem rarm_any {base b : Nat} {s : DS} {v : Value} (n : Int) (w : World) (h : Dk 46 base b s v w) :
    Calls Try.prog 38 #[.pointer (some ⟨b, 0, none⟩), .int .i64 n] w (DQ 46 base b v w (armD s n)) := by
  cases hdn : s.dn
  case true => exact rarm_down w h hdn
  have hr : armD s n = if n < 0 then (2, s) else (0, ⟨s.f, s.dn, some n.toNat⟩) := by unfold armD; rw [if_neg (by simp [hdn])]
  rw [hr]
  have e0 : beD s = 0 := by unfold beD; rw [if_neg (by simp [hdn])]
  have HN := Lib.hid (rno_any w h)
  rw [e0] at HN
  obtain ⟨_, _, c2, ⟨k, c3, _⟩, hf⟩ := h.cells
  have f2 := hf 2
  have f3 := hf 3
  by_cases h1 : n < 0
  · rw [if_pos h1]
    have HQ := Lib.hid (DQ.none (n := 2) h (Below.refl _ _))
    have ht : decide (n < 0) = true := decide_eq_true h1
    clear h hf h1
    go_enter Try.func38, Try.ntmps38
    go_wp2_with (go_at_call 49; refine HN.out.mono ?_)
    rintro e w2 ⟨rfl, rfl⟩
    go_wp2_with fail
    go_ret
    exact HQ.out
  · rw [if_neg h1]
    have HQ : Hid (DR 46 base b v w ⟨s.f, s.dn, some n.toNat⟩ ((w.setCell ⟨b, 2, none⟩ (.bool true)).setCell ⟨b, 3, none⟩ (.int .i64 n))) := Lib.hid (by
      have hF := (Fr.set (B := fun k => k = b) w b 2 (.bool true) rfl).trans (Fr.set _ b 3 (.int .i64 n) rfl)
      refine ⟨v, h.upd _ ⟨s.f, s.dn, some n.toNat⟩ hF rfl ?_, .inl rfl, hF.mono fun k _ e => .inl e⟩
      obtain ⟨_, _, _, ⟨k, hk, _⟩, _⟩ := h
      exact ⟨n, by simp [World.setCell, Array.getElem?_modify, hk], by omega, fun m hm => by cases hm; omega⟩)
    have ht : decide (n < 0) = false := decide_eq_false h1
    clear h hf h1
    go_enter Try.func38, Try.ntmps38
    go_wp2_with (go_at_call 49; refine HN.out.mono ?_)
    rintro e w2 ⟨rfl, rfl⟩
    go_wp2_with fail
    go_ret
    exact ⟨rfl, HQ.out⟩

set_option maxRecDepth 100000 in
set_option maxHeartbeats 4000000 in
theorem rcrash_any {base b : Nat} {s : DS} {v : Value} (w : World) (h : Dk 46 base b s v w) :
    Calls Try.prog 39 #[.pointer (some ⟨b, 0, none⟩)] w (DQ 46 base b v w (crashD s)) := by
  cases hdn : s.dn
  case true => exact rcrash_down w h hdn
  have hr : crashD s = (0, ⟨s.f, true, none⟩) := by unfold crashD; rw [if_neg (by simp [hdn])]
  rw [hr]
  have e0 : beD s = 0 := by unfold beD; rw [if_neg (by simp [hdn])]
  have HN := Lib.hid (rno_any w h)
  rw [e0] at HN
  obtain ⟨_, c1, c2, _, hf⟩ := h.cells
  have f1 := hf 1
  have f2 := hf 2
  have HQ : Hid (DR 46 base b v w ⟨s.f, true, none⟩ ((w.setCell ⟨b, 1, none⟩ (.bool true)).setCell ⟨b, 2, none⟩ (.bool false))) := Lib.hid (by
    have hF := (Fr.set (B := fun k => k = b) w b 1 (.bool true) rfl).trans (Fr.set _ b 2 (.bool false) rfl)
    refine ⟨v, h.upd _ ⟨s.f, true, none⟩ hF rfl ?_, .inl rfl, hF.mono fun k _ e => .inl e⟩
    obtain ⟨_, _, _, ⟨k, hk, hk2, _⟩, _⟩ := h
    exact ⟨k, by simp [World.setCell, Array.getElem?_modify, hk], hk2, fun m hm => by cases hm⟩)
  clear h hf
  go_enter Try.func39, Try.ntmps39
  go_wp2_with (go_at_call 49; refine HN.out.mono ?_)
  rintro e w2 ⟨rfl, rfl⟩
  go_wp2_with fail
  go_ret
  exact ⟨rfl, HQ.out⟩

set_option maxRecDepth 100000 in
set_option maxHeartbeats 4000000 in
theorem rup_any {base b : Nat} {s : DS} {v : Value} (w : World) (h : Dk 46 base b s v w) :
    Calls Try.prog 40 #[.pointer (some ⟨b, 0, none⟩)] w (DQ 46 base b v w (upD s)) := by
  obtain ⟨_, c1, _, _, hf⟩ := h.cells
  have f1 := hf 1
  cases hdn : s.dn
  · have hr : upD s = (2, s) := by unfold upD; rw [if_neg (by simp [hdn])]
    rw [hr]
    rw [hdn] at c1
    have HQ := Lib.hid (DQ.none (n := 2) h (Below.refl _ _))
    clear h hf hdn hr
    go_enter Try.func40, Try.ntmps40
    go_wp2_with fail
    go_ret
    exact HQ.out
  · have hr : upD s = (0, ⟨s.f, false, s.ar⟩) := by unfold upD; rw [if_pos hdn]
    rw [hr]
    rw [hdn] at c1
    have HQ : Hid (DQ 46 base b v w (0, ⟨s.f, false, s.ar⟩) (.returned (.int .i64 0)) (w.setCell ⟨b, 1, none⟩ (.bool false))) := Lib.hid (by
      have hF := Fr.set (B := fun k => k = b) w b 1 (.bool false) rfl
      refine ⟨rfl, v, h.upd _ _ hF rfl ?_, .inl rfl, hF.mono fun k _ e => .inl e⟩
      obtain ⟨_, _, _, ⟨k, hk, hk2⟩, _⟩ := h
      exact ⟨k, by simp [World.setCell, Array.getElem?_modify, hk], hk2⟩)
    clear h hf hdn hr
    go_enter Try.func40, Try.ntmps40
    go_wp2_with fail
    go_ret
    exact HQ.out

set_option maxRecDepth 100000 in
set_option maxHeartbeats 4000000 in
theorem rdown_any {base b : Nat} {s : DS} {v : Value} (w : World) (h : Dk 46 base b s v w) :
    Calls Try.prog 26 #[.pointer (some ⟨b, 0, none⟩)] w fun e w' => e = .returned (.bool s.dn) ∧ w = w' := by
  have c1 := h.cells.2.1
  clear h
  go_enter Try.func26, Try.ntmps26
  go_wp2_with fail
  go_ret
  exact ⟨rfl, rfl⟩

set_option maxRecDepth 100000 in
set_option maxHeartbeats 4000000 in
theorem rlen_any {base b : Nat} {s : DS} {v : Value} (w : World) (h : Dk 46 base b s v w) :
    Calls Try.prog 27 #[.pointer (some ⟨b, 0, none⟩)] w fun e w' => e = .returned (.int .i64 s.f.length) ∧ w = w' := by
  have c0 := h.cells.1
  obtain ⟨ov, cv, rfl, hv1, hv2, _⟩ := h.2.2.2.2.form
  clear h hv1 hv2
  go_enter Try.func27, Try.ntmps27
  go_wp2_with fail
  go_ret
  exact ⟨rfl, rfl⟩

set_option maxRecDepth 100000 in
set_option maxHeartbeats 4000000 in
theorem rbytes_any {base b : Nat} {s : DS} {v : Value} (w : World) (h : Dk 46 base b s v w) :
    Calls Try.prog 25 #[.pointer (some ⟨b, 0, none⟩)] w fun e w' => ∃ o c, e = .returned (.tuple #[.slice o (byD s).length c, .int .i64 (beD s)]) ∧ Hid (rd w' (byD s) (.slice o (byD s).length c) ∧ Below w.heap.size w w') := by
  have HN := Lib.hid (rno_any w h)
  cases hdn : s.dn
  · have e1 : byD s = s.f := by unfold byD; rw [if_neg (by simp [hdn])]
    have e2 : beD s = 0 := by unfold beD; rw [if_neg (by simp [hdn])]
    rw [e1, e2]
    rw [e2] at HN
    have c0 := h.cells.1
    have HC := Lib.hid (rsame_any w.heap.size s.f v w h.2.2.2.2.rd (Nat.le_refl _) h.1)
    obtain ⟨ov, cv, rfl, hv1, hv2, _⟩ := h.2.2.2.2.form
    clear h hv1 hv2
    go_enter Try.func25, Try.ntmps25
    go_wp2_with (go_at_call 49; refine HN.out.mono ?_)
    rintro e w2 ⟨rfl, rfl⟩
    go_wp2_with (go_at_call 48; refine HC.out.mono ?_)
    rintro e w3 ⟨o1, c1, rfl, ho⟩
    go_wp2_with fail
    go_ret2
    exact ⟨o1, c1, rfl, Lib.hid ⟨ho.out.1.rd, ho.out.2.2⟩⟩
  · have e1 : byD s = [] := by unfold byD; rw [if_pos hdn]
    have e2 : beD s = 60 := by unfold beD; rw [if_pos hdn]
    rw [e1, e2]
    rw [e2] at HN
    clear h
    go_enter Try.func25, Try.ntmps25
    go_wp2_with (go_at_call 49; refine HN.out.mono ?_)
    rintro e w2 ⟨rfl, rfl⟩
    go_wp2_with fail
    go_ret2
    exact ⟨none, 0, rfl, Lib.hid ⟨rd_nil _, Below.refl _ _⟩⟩

set_option maxRecDepth 100000 in
set_option maxHeartbeats 4000000 in
theorem rcopy_any {base b : Nat} {s : DS} {v : Value} (w : World) (h : Dk 46 base b s v w) (hbase : base ≤ w.heap.size) :
    Calls Try.prog 23 #[.pointer (some ⟨b, 0, none⟩)] w fun e w' => ∃ N, e = .returned (.pointer (some ⟨N, 0, none⟩)) ∧ Hid (w.heap.size ≤ N ∧ ∃ v', Dk 46 base N s v' w' ∧ (∀ k, v'.ownBlock = some k → w.heap.size ≤ k) ∧ Below w.heap.size w w') := by
  have HC : Hid (∀ w1, Below w.heap.size w w1 → Calls Try.prog 48 #[v] w1 fun e w' => ∃ o c, e = .returned (.slice o s.f.length c) ∧ Hid (ow base w' (.slice o s.f.length c) s.f ∧ (∀ k, (Value.slice o s.f.length c).ownBlock = some k → w1.heap.size ≤ k) ∧ Below w1.heap.size w1 w')) := Lib.hid fun w1 hb1 => rsame_any base s.f v w1 (h.below hb1).2.2.2.2.rd (Nat.le_trans hbase hb1.size) h.1
  obtain ⟨c0, c1, c2, ⟨k, c3, hk0, hk1⟩, _⟩ := h.cells
  have STEP : Hid (∀ w1 w2 o c, Below w.heap.size w w1 → Hid (ow base w2 (.slice o s.f.length c) s.f ∧ (∀ k, (Value.slice o s.f.length c).ownBlock = some k → w1.heap.size ≤ k) ∧ Below w1.heap.size w1 w2) →
      Hid (Below w.heap.size w w2) ∧ w2.cell? ⟨b, 0, none⟩ = some v ∧ w2.cell? ⟨b, 1, none⟩ = some (.bool s.dn) ∧ w2.cell? ⟨b, 2, none⟩ = some (.bool s.ar.isSome) ∧ w2.cell? ⟨b, 3, none⟩ = some (.int .i64 k) ∧ Hid (∀ w3, Below w2.heap.size w2 w3 → w.heap.size ≤ w3.heap.size ∧ ∃ v', Dk 46 base w3.heap.size s v' (w3.alloc (.cells #[.slice o s.f.length c, .bool s.dn, .bool s.ar.isSome, .int .i64 k] 46)) ∧ (∀ k, v'.ownBlock = some k → w.heap.size ≤ k) ∧ Below w.heap.size w (w3.alloc (.cells #[.slice o s.f.length c, .bool s.dn, .bool s.ar.isSome, .int .i64 k] 46)))) := Lib.hid fun w1 w2 o c hb1 ho => by
    obtain ⟨ho1, ho2, hb2⟩ := ho.out
    have hb3 : Below w.heap.size w w2 := hb1.trans (hb2.mono hb1.size)
    have hF : ∀ i u, w.cell? ⟨b, i, none⟩ = some u → w2.cell? ⟨b, i, none⟩ = some u := fun i u hu => (Fr.of_below (B := fun _ => False) hb3).cell _ _ (fun h => h) hu
    refine ⟨Lib.hid hb3, hF _ _ c0, hF _ _ c1, hF _ _ c2, hF _ _ c3, Lib.hid fun w3 hb4 => ⟨Nat.le_trans hb3.size hb4.size, _, ⟨h.1, Nat.le_trans hbase (Nat.le_trans hb3.size hb4.size), by decide, ⟨k, heap_alloc_new _ _, hk0, hk1⟩, ow_rd_below (ow_rd_below ho1 hb4) ((Below.refl _ _).alloc (Nat.le_refl _) _)⟩, fun j hj => Nat.le_trans hb1.size (ho2 j hj), (hb3.trans (hb4.mono hb3.size)).trans ((Below.refl _ _).alloc (Nat.le_trans hb3.size hb4.size) _)⟩⟩
  obtain ⟨ov, cv, rfl, hv1, hv2, _⟩ := h.2.2.2.2.form
  clear h hbase hk1 hv1 hv2
  go_enter Try.func23, Try.ntmps23
  go_wp2_with fail
  have HB0 : Hid (Below w.heap.size w w) := Lib.hid (Below.refl _ _)
  go_region_held3 (fun w' => Hid (Below w.heap.size w w') ∧ w'.cell? ⟨b, 0, none⟩ = some (.slice ov s.f.length cv) ∧ w'.cell? ⟨b, 1, none⟩ = some (.bool s.dn) ∧ w'.cell? ⟨b, 2, none⟩ = some (.bool s.ar.isSome) ∧ w'.cell? ⟨b, 3, none⟩ = some (.int .i64 k)) (first | (refine ⟨by first | assumption | exact hb_drew (by assumption) | exact hb_alloc _ (by assumption), ?_⟩; go_keep))
    (first
      | (go_at_call 48; refine (HC.out _ (Hid.out (by first | assumption | exact hb_drew (by assumption)))).mono ?_; rintro e w3 ⟨o1, c1, rfl, ho⟩; obtain ⟨y5, y0, y1, y2, y3, y4⟩ := STEP.out _ _ _ _ (Hid.out (by first | assumption | exact hb_drew (by assumption))) ho; clear ho))
  all_goals go_wp2_with fail
  all_goals go_ret
  all_goals exact ⟨_, rfl, Lib.hid (y4.out _ (by go_grown))⟩
end Go.Proofs.Ytmajlanncchbnaa
