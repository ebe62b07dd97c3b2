/-
  The program's disk: Append, Swap, Cut, Arm, Crash.
-/
import Derived.Test.YtbjdbphnccdpbaaYe
import Derived.Deep.RegionHeld3
set_option linter.unusedVariables false
namespace Go.Proofs.Ytbjdbphnccdpbaa
open Go.RowKit Go.Shelf Go.Lib Go.Deep

theorem box2 (w : World) (t1 t2 : TypeId) (v1 v2 : Value) : Below w.heap.size w ((w.alloc (.cells #[v1] t1)).alloc (.cells #[v2] t2)) ∧ Boxed ((w.alloc (.cells #[v1] t1)).alloc (.cells #[v2] t2)) w.heap.size t1 v1 ∧ Boxed ((w.alloc (.cells #[v1] t1)).alloc (.cells #[v2] t2)) (w.heap.size + 1) t2 v2 := by
  have h := World.alloc_heap_new (w.alloc (.cells #[v1] t1)) (.cells #[v2] t2)
  rw [World.size_alloc] at h
  exact ⟨by go_grown, (Boxed.new w t1 v1).alloc _, h⟩
theorem box1 (w : World) (t1 : TypeId) (v1 : Value) : Below w.heap.size w (w.alloc (.cells #[v1] t1)) ∧ Boxed (w.alloc (.cells #[v1] t1)) w.heap.size t1 v1 := ⟨by go_grown, Boxed.new w t1 v1⟩
/-- A deed on a disk that is there: down, or what its function does. -/
theorem deed_any {base b : Nat} {s : DS} {v : Value} (g : Nat) (lb : Array Value) (w w1 : World) (h : Dk 52 base b s v w) (hb : Below w.heap.size w w1) (eg : ∀ args w, (callFunc g args).run Try.prog w = .ok (.enter g args) w) {r : Int × DS}
    (hr : s.dn = true → r = (60, s)) (hd : s.dn = false → Calls Try.prog g lb w1 fun e w' => ∃ i, e = .returned (.int .i64 i) ∧ (i = r.1 ∧ DR 52 base b v w1 r.2 w')) :
    Calls Try.prog 24 #[.pointer (some ⟨b, 0, none⟩), .func (.func g) #[] lb] w1 fun e w' => e = .returned (.int .i64 r.1) ∧ Hid (DQ 52 base b v w r (.returned (.int .i64 r.1)) w') := by
  have h1 := h.below hb
  cases hdn : s.dn
  · refine (deed_up b g lb w1 eg (by have := h1.cells.2.1; rw [hdn] at this; exact this) (hd hdn)).mono ?_
    rintro e w' ⟨i, rfl, rfl, hq⟩
    exact ⟨rfl, Lib.hid ⟨rfl, hq.from hb⟩⟩
  · refine (deed_down b g lb w1 (by have := h1.cells.2.1; rw [hdn] at this; exact this)).mono ?_
    rintro e w' ⟨rfl, rfl⟩
    have := hr hdn
    subst this
    exact ⟨rfl, Lib.hid (DQ.none h hb)⟩

set_option maxRecDepth 100000 in
set_option maxHeartbeats 1000000 in
theorem append_any {base b : Nat} {s : DS} {v u : Value} {x : List UInt8} (w : World) (h : Dk 52 base b s v w) (hbase : base ≤ w.heap.size) (hx : rd w x u) :
    Calls Try.prog 33 #[.pointer (some ⟨b, 0, none⟩), u] w (DQ 52 base b v w (appD s x)) := by
  obtain ⟨k1, k2, k3⟩ := box2 w 25 27 (.pointer (some ⟨b, 0, none⟩)) u
  have eg := enters_of Try.func58 (by kernel_rfl) rfl
  have HC := Lib.hid (deed_any (r := appD s x) 58 #[.pointer (some ⟨w.heap.size + 1, 0, none⟩), .pointer (some ⟨w.heap.size, 0, none⟩)] w _ h k1 eg (fun hd => by unfold appD; rw [if_pos hd])
    (fun hd => app1_any _ (h.below k1) (Nat.le_trans hbase k1.size) hd (hx.below k1) k3 k2))
  obtain ⟨ou, au, cu, rfl, _⟩ := hx
  clear h hbase k1 k2 k3 eg
  go_enter Try.func33, Try.ntmps33
  go_wp2_with (go_at_call 24; refine HC.out.mono ?_)
  rintro e w2 ⟨rfl, hq⟩
  go_wp2_with fail
  go_ret
  exact hq.out
set_option maxRecDepth 100000 in
set_option maxHeartbeats 1000000 in
theorem append_nil {u : Value} {x : List UInt8} (w : World) (hx : rd w x u) :
    Calls Try.prog 33 #[.pointer none, u] w fun e w' => e = .returned (.int .i64 1) ∧ Below w.heap.size w w' := by
  have HC := Lib.hid (deed_nil 58 #[.pointer (some ⟨w.heap.size + 1, 0, none⟩), .pointer (some ⟨w.heap.size, 0, none⟩)] ((w.alloc (.cells #[.pointer none] 25)).alloc (.cells #[u] 27)))
  have HB := Lib.hid (box2 w 25 27 (.pointer none) u).1
  obtain ⟨ou, au, cu, rfl, _⟩ := hx
  go_enter Try.func33, Try.ntmps33
  go_wp2_with (go_at_call 24; refine HC.out.mono ?_)
  rintro e w2 ⟨rfl, rfl⟩
  go_wp2_with fail
  go_ret
  exact ⟨rfl, HB.out⟩

/-- copied, its answer written out. -/
theorem copied_at (base : Nat) (x : List UInt8) (v : Value) (w : World) (hx : rd w x v) (hb : base ≤ w.heap.size) (hl : x.length ≤ 1048576) :
    Calls Try.prog 26 #[v] w fun e w' => ∃ c, e = .returned (.slice (some ⟨w.heap.size, 0, none⟩) x.length c) ∧ Hid (ow base w' (.slice (some ⟨w.heap.size, 0, none⟩) x.length c) x ∧ Below w.heap.size w w') := by
  refine (copied_any base x v w hx hb hl).mono ?_
  rintro e w' ⟨v', rfl, ho, ⟨c, rfl⟩, hb2⟩
  exact ⟨c, rfl, Lib.hid ⟨ho, hb2⟩⟩

set_option maxRecDepth 100000 in
set_option maxHeartbeats 4000000 in
theorem swap11_any {base b Nb Nd : Nat} {s : DS} {v u : Value} {x : List UInt8} (w : World) (h : Dk 52 base b s v w) (hbase : base ≤ w.heap.size) (hx : rd w x u) (hl : x.length ≤ 1048576)
    (hb : Boxed w Nb 27 u) (hd : Boxed w Nd 25 (.pointer (some ⟨b, 0, none⟩))) :
    Calls Try.prog 52 #[.pointer (some ⟨Nb, 0, none⟩), .pointer (some ⟨Nd, 0, none⟩)] w fun e w' => e = .returned (.tuple #[]) ∧ DR 52 base b v w ⟨x, s.dn, s.ar⟩ w' := by
  have b1 := hb.cell
  have b2 := hd.cell
  have HC : Hid (∀ w1, Below w.heap.size w w1 → Calls Try.prog 26 #[u] w1 fun e w' => ∃ c, e = .returned (.slice (some ⟨w1.heap.size, 0, none⟩) x.length c) ∧ Hid (ow base w' (.slice (some ⟨w1.heap.size, 0, none⟩) x.length c) x ∧ Below w1.heap.size w1 w')) := Lib.hid fun w1 hb1 => copied_at base x u w1 (hx.below hb1) (Nat.le_trans hbase hb1.size) hl
  have STEP : Hid (∀ w1 w2 c, Below w.heap.size w w1 → Hid (ow base w2 (.slice (some ⟨w1.heap.size, 0, none⟩) x.length c) x ∧ Below w1.heap.size w1 w2) → w2.cell? ⟨Nd, 0, none⟩ = some (.pointer (some ⟨b, 0, none⟩)) ∧ w2.cell? ⟨b, 0, none⟩ = some v ∧ w2.frozen? ⟨b, 0, none⟩ = false ∧ Hid (DR 52 base b v w ⟨x, s.dn, s.ar⟩ (w2.setCell ⟨b, 0, none⟩ (.slice (some ⟨w1.heap.size, 0, none⟩) x.length c)))) := Lib.hid fun w1 w2 c hb1 ho => by
    obtain ⟨ho, hb2⟩ := ho.out
    have hb3 : Below w.heap.size w w2 := hb1.trans (hb2.mono hb1.size)
    have h2 := h.below hb3
    refine ⟨((Fr.of_below (B := fun _ => False) hb3).boxed hd (fun h => h)).cell, h2.cells.1, h2.cells.2.2.2.2 0, Lib.hid ⟨_, h2.file hl ho, .inr fun k hk => ?_, (Fr.of_below hb3).trans (Fr.set w2 b 0 _ (.inl rfl))⟩⟩
    have : w1.heap.size = k := by simpa [Value.ownBlock] using hk
    have := hb1.size
    omega
  obtain ⟨ou, au, cu, rfl, _⟩ := hx
  clear h hbase hb hd hl
  go_enter Try.func52, Try.ntmps52
  go_wp2_with fail
  go_region_with (go_at_call 26; refine (HC.out _ (by go_grown)).mono ?_; rintro e w2 ⟨c, rfl, ho⟩; obtain ⟨y0, y1, y2, y3⟩ := STEP.out _ _ _ (by go_grown) ho; clear ho)
  all_goals (go_end0; exact ⟨rfl, y3.out⟩)
end Go.Proofs.Ytbjdbphnccdpbaa
