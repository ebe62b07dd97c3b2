/-
  The reference's disk.
-/
import Derived.Test.YtmajlanncchbnaaYi
set_option linter.unusedVariables false
namespace Go.Proofs.Ytmajlanncchbnaa
open Go.RowKit Go.Shelf Go.Lib Go.Deep

set_option maxRecDepth 100000 in
set_option maxHeartbeats 1000000 in
theorem rnew_any (base : Nat) (w : World) (hb : base ≤ w.heap.size) :
    Calls Try.prog 10 #[] w fun e w' => e = .returned (.pointer (some ⟨w.heap.size, 0, none⟩)) ∧ Dk 46 base w.heap.size ⟨[], false, none⟩ (.slice none 0 0) w' ∧ Below w.heap.size w w' := by
  have hq : Dk 46 base w.heap.size ⟨[], false, none⟩ (.slice none 0 0) (w.alloc (.cells #[.slice none 0 0, .bool false, .bool false, .int .i64 0] 46)) :=
    ⟨by simp, hb, by decide, ⟨0, by rw [heap_alloc_new]; rfl, Int.le_refl _, fun n hn => by cases hn⟩, .inl ⟨rfl, rfl⟩⟩
  have HQ := Lib.hid hq
  clear hq
  go_enter Try.func10, Try.ntmps10
  go_wp2
  go_ret
  exact ⟨rfl, HQ.out, (Below.refl _ _).alloc (Nat.le_refl _) _⟩
set_option maxRecDepth 100000 in
set_option maxHeartbeats 1000000 in
theorem rno_any {base b : Nat} {s : DS} {v : Value} (w : World) (h : Dk 46 base b s v w) :
    Calls Try.prog 49 #[.pointer (some ⟨b, 0, none⟩)] w fun e w' => e = .returned (.int .i64 (beD s)) ∧ w = w' := by
  have c1 := h.cells.2.1
  cases hdn : s.dn
  · have e2 : beD s = 0 := by unfold beD; rw [if_neg (by simp [hdn])]
    rw [e2]
    rw [hdn] at c1
    clear h
    go_enter Try.func49, Try.ntmps49
    go_wp2
    go_ret
    exact ⟨rfl, rfl⟩
  · have e2 : beD s = 60 := by unfold beD; rw [if_pos hdn]
    rw [e2]
    rw [hdn] at c1
    clear h
    go_enter Try.func49, Try.ntmps49
    go_wp2
    go_ret
    exact ⟨rfl, rfl⟩
/-- A disk behind a tear. -/
def tornD (s : DS) : DS := if s.ar.isSome = true then ⟨s.f, true, none⟩ else s
set_option maxRecDepth 100000 in
set_option maxHeartbeats 1000000 in
theorem rtorn_any {base b : Nat} {s : DS} {v : Value} (w : World) (h : Dk 46 base b s v w) :
    Calls Try.prog 50 #[.pointer (some ⟨b, 0, none⟩)] w fun e w' => e = .returned (.bool s.ar.isSome) ∧ Hid (Dk 46 base b (tornD s) v w' ∧ Fr (fun k => k = b) w w') := by
  obtain ⟨_, c1, c2, _, hf⟩ := h.cells
  have f1 := hf 1
  have f2 := hf 2
  cases har : s.ar.isSome
  · have e2 : tornD s = s := by unfold tornD; rw [if_neg (by simp [har])]
    rw [e2]
    rw [har] at c2
    have HQ := Lib.hid (And.intro h (Fr.refl (fun k => k = b) w))
    clear h hf
    go_enter Try.func50, Try.ntmps50
    go_wp2
    go_ret
    exact ⟨rfl, HQ⟩
  · have e2 : tornD s = ⟨s.f, true, none⟩ := by unfold tornD; rw [if_pos har]
    rw [e2]
    rw [har] at c2
    have hF : Fr (fun k => k = b) w ((w.setCell ⟨b, 2, none⟩ (.bool false)).setCell ⟨b, 1, none⟩ (.bool true)) := (Fr.set (B := fun k => k = b) w b 2 _ rfl).trans (Fr.set _ b 1 _ rfl)
    have HQ := Lib.hid (And.intro (h.upd _ ⟨s.f, true, none⟩ hF rfl (by
      obtain ⟨_, _, _, ⟨k, hk, hk2, _⟩, _⟩ := h
      exact ⟨k, by simp [World.setCell, Array.getElem?_modify, hk], hk2, fun n hn => by cases hn⟩)) hF)
    clear h hf hF
    go_enter Try.func50, Try.ntmps50
    go_wp2
    go_ret
    exact ⟨rfl, HQ⟩
set_option maxRecDepth 100000 in
set_option maxHeartbeats 1000000 in
theorem rsame_any (base : Nat) (x : List UInt8) (v : Value) (w : World) (hx : rd w x v) (hb : base ≤ w.heap.size) (hl : x.length ≤ 1048576) :
    Calls Try.prog 48 #[v] w fun e w' => ∃ o c, e = .returned (.slice o x.length c) ∧ Hid (ow base w' (.slice o x.length c) x ∧ (∀ k, (Value.slice o x.length c).ownBlock = some k → w.heap.size ≤ k) ∧ Below w.heap.size w w') := by
  obtain ⟨ou, au, cu, rfl, _⟩ := id hx
  have HX := Lib.hid hx
  have HB := Lib.hid hb
  clear hx hb
  go_enter Try.func48, Try.ntmps48
  go_wp2_with (at_builtin; refine wpList_app_ow rfl _ _ rfl base (.slice none 0 0) (.slice ou x.length cu) [] x rfl rfl (.inl ⟨rfl, rfl⟩) HX.out (by simp; omega) HB.out ?_)
  intro o1 c1 w2 own2 gr2 at2
  have HQ : Hid (ow base w2 (.slice o1 x.length c1) x ∧ (∀ k, (Value.slice o1 x.length c1).ownBlock = some k → w.heap.size ≤ k) ∧ Below w.heap.size w w2) := Lib.hid ⟨own2, fun k hk => by
    rcases at2 with e | e
    · rw [e] at hk; cases hk
    · rw [e] at hk; simp at hk; omega, (Fr.grown (B := fun _ => False) gr2 (fun r hr => by cases hr)).below (fun k h => h.elim) (Nat.le_refl _)⟩
  clear own2 gr2 at2
  go_wp2_with fail
  go_ret
  exact ⟨o1, c1, rfl, HQ⟩

set_option maxRecDepth 100000 in
set_option maxHeartbeats 4000000 in
theorem rapp_down {base b : Nat} {s : DS} {v u : Value} {x : List UInt8} (w : World) (h : Dk 46 base b s v w) (hx : rd w x u) (hdn : s.dn = true) :
    Calls Try.prog 35 #[.pointer (some ⟨b, 0, none⟩), u] w (DQ 46 base b v w (appD s x)) := by
  have hr : appD s x = (60, s) := by unfold appD; rw [if_pos hdn]
  rw [hr]
  obtain ⟨ou, au, cu, rfl, _⟩ := hx
  have e0 : beD s = 60 := by unfold beD; rw [if_pos hdn]
  have HN := Lib.hid (rno_any w h)
  rw [e0] at HN
  have HQ := Lib.hid (DQ.none (n := 60) h (Below.refl _ _))
  clear h
  go_enter Try.func35, Try.ntmps35
  go_wp2_with (go_at_call 49; refine HN.out.mono ?_)
  rintro e w2 ⟨rfl, rfl⟩
  go_wp2_with fail
  go_ret
  exact HQ.out
set_option maxRecDepth 100000 in
set_option maxHeartbeats 4000000 in
theorem rapp_long {base b : Nat} {s : DS} {v u : Value} {x : List UInt8} (w : World) (h : Dk 46 base b s v w) (hx : rd w x u) (hdn : s.dn = false) (hlong : 1048576 < s.f.length + x.length) :
    Calls Try.prog 35 #[.pointer (some ⟨b, 0, none⟩), u] w (DQ 46 base b v w (appD s x)) := by
  have hr : appD s x = (3, s) := by unfold appD; rw [if_neg (by simp [hdn]), if_pos hlong]
  rw [hr]
  obtain ⟨ou, au, cu, rfl, hu1, hu2, _⟩ := hx
  have e0 : beD s = 0 := by unfold beD; rw [if_neg (by simp [hdn])]
  have HN := Lib.hid (rno_any w h)
  rw [e0] at HN
  have HQ := Lib.hid (DQ.none (n := 3) h (Below.refl _ _))
  have c0 := h.cells.1
  have hfl := h.1
  obtain ⟨ov, cv, rfl, hv1, hv2, _⟩ := h.2.2.2.2.form
  clear h
  by_cases hx1 : 1048576 < x.length
  · have ht : decide ((1048576 : Int) < (x.length : Int)) = true := decide_eq_true (by omega)
    have ht2 : decide (1048576 < x.length) = true := decide_eq_true hx1
    clear hlong hx1 hu1 hu2 hv1 hv2 hfl
    go_enter Try.func35, Try.ntmps35
    go_wp2_with (go_at_call 49; refine HN.out.mono ?_)
    rintro e w2 ⟨rfl, rfl⟩
    go_wp2_with fail
    go_ret
    exact HQ.out
  · have ht : decide ((1048576 : Int) < (x.length : Int)) = false := decide_eq_false (by omega)
    have ht2 : decide (1048576 < x.length) = false := decide_eq_false hx1
    have hs : IntKind.i64.wrap ((s.f.length : Int) + (x.length : Int)) = (s.f.length : Int) + (x.length : Int) := by go_unwrap
    have ht3 : (1048576 : Int) < (s.f.length : Int) + (x.length : Int) := by omega
    clear hlong hx1 hu1 hu2 hv1 hv2 hfl
    go_enter Try.func35, Try.ntmps35
    go_wp2_with (go_at_call 49; refine HN.out.mono ?_)
    rintro e w2 ⟨rfl, rfl⟩
    go_wp2_with fail
    go_ret
    exact HQ.out
end Go.Proofs.Ytmajlanncchbnaa
