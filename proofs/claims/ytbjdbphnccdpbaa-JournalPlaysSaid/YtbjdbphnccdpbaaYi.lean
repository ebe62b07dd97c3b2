/-
  The program's disk: Bytes, Copy.
-/
import Derived.Test.YtbjdbphnccdpbaaYh
import Derived.Laws.ResultCell
set_option linter.unusedVariables false
namespace Go.Proofs.Ytbjdbphnccdpbaa
open Go.RowKit Go.Shelf Go.Lib Go.Deep

/-- What Bytes answers. -/
def byD (s : DS) : List UInt8 := if s.dn = true then [] else s.f
def beD (s : DS) : Int := if s.dn = true then 60 else 0

set_option maxRecDepth 100000 in
set_option maxHeartbeats 4000000 in
theorem bytes1_any {base b Nd Nb : Nat} {s : DS} {v : Value} (w : World) (h : Dk 52 base b s v w) (hd : Boxed w Nd 25 (.pointer (some ⟨b, 0, none⟩))) (hb : Boxed w Nb 27 (.slice none 0 0)) :
    Calls Try.prog 25 #[.pointer (some ⟨Nd, 0, none⟩), .pointer (some ⟨Nb, 0, none⟩)] w fun e w' => ∃ i, e = .returned (.int .i64 i) ∧ (i = 0 ∧ ∃ v', Boxed w' Nb 27 v' ∧ ow w.heap.size w' v' s.f ∧ Fr (fun k => k = Nb) w w') := by
  have b2 := hd.cell
  have c0 := h.cells.1
  have HC := Lib.hid (copied_at w.heap.size s.f v w h.2.2.2.2.rd (Nat.le_refl _) h.1)
  have STEP : Hid (∀ w2 c, Hid (ow w.heap.size w2 (.slice (some ⟨w.heap.size, 0, none⟩) s.f.length c) s.f ∧ Below w.heap.size w w2) → w2.cell? ⟨Nb, 0, none⟩ = some (.slice none 0 0) ∧ w2.frozen? ⟨Nb, 0, none⟩ = false ∧
      Hid (∃ v', Boxed (w2.setCell ⟨Nb, 0, none⟩ (.slice (some ⟨w.heap.size, 0, none⟩) s.f.length c)) Nb 27 v' ∧ ow w.heap.size (w2.setCell ⟨Nb, 0, none⟩ (.slice (some ⟨w.heap.size, 0, none⟩) s.f.length c)) v' s.f ∧ Fr (fun k => k = Nb) w (w2.setCell ⟨Nb, 0, none⟩ (.slice (some ⟨w.heap.size, 0, none⟩) s.f.length c)))) := Lib.hid fun w2 c ho => by
    obtain ⟨ho, hb2⟩ := ho.out
    have hn : Boxed w2 Nb 27 (.slice none 0 0) := (Fr.of_below (B := fun _ => False) hb2).boxed hb (fun h => h)
    have hF := Fr.set (B := fun k => k = Nb) w2 Nb 0 (.slice (some ⟨w.heap.size, 0, none⟩) s.f.length c) rfl
    refine ⟨hn.cell, hn.frozen, Lib.hid ⟨_, hn.set _, ho.keep fun k o hk ho2 => hF.2 k o ho2 (fun e => ?_), (Fr.of_below hb2).trans hF⟩⟩
    obtain ⟨_, _, cur, hc⟩ := ho.lt k hk
    subst e
    rw [show w2.heap[k]? = _ from hn] at hc
    cases hc
  obtain ⟨ov, cv, rfl, hv1, hv2, _⟩ := h.2.2.2.2.form
  clear h hd hb hv1 hv2
  go_enter Try.func25, Try.ntmps25
  go_wp2_with (go_at_call 26; refine HC.out.mono ?_)
  rintro e w2 ⟨c, rfl, ho⟩
  obtain ⟨y1, y2, y3⟩ := STEP.out _ _ ho
  clear ho
  go_wp2_with fail
  go_ret
  exact ⟨0, rfl, rfl, y3.out⟩

theorem ow_rd_below {base : Nat} {w w' : World} {v : Value} {x : List UInt8} (h : ow base w v x) (hb : Below w.heap.size w w') : ow base w' v x :=
  h.keep fun k o _ ho => (hb.block k (Array.getElem?_eq_some_iff.1 ho).1).trans ho
set_option maxRecDepth 100000 in
set_option maxHeartbeats 4000000 in
theorem bytes_any {base b : Nat} {s : DS} {v : Value} (w : World) (h : Dk 52 base b s v w) :
    Calls Try.prog 9 #[.pointer (some ⟨b, 0, none⟩)] w fun e w' => ∃ o c, e = .returned (.tuple #[.slice o (byD s).length c, .int .i64 (beD s)]) ∧ Hid (rd w' (byD s) (.slice o (byD s).length c) ∧ Below w.heap.size w w') := by
  obtain ⟨k1, k2, k3⟩ := box2 w 25 27 (.pointer (some ⟨b, 0, none⟩)) (.slice none 0 0)
  have eg := enters_of Try.func25 (by kernel_rfl) rfl
  have h1 := h.below k1
  have hsz : ((w.alloc (.cells #[.pointer (some ⟨b, 0, none⟩)] 25)).alloc (.cells #[.slice none 0 0] 27)).heap.size = w.heap.size + 1 + 1 := by simp
  cases hdn : s.dn
  · have e1 : byD s = s.f := by unfold byD; rw [if_neg (by simp [hdn])]
    have e2 : beD s = 0 := by unfold beD; rw [if_neg (by simp [hdn])]
    rw [e1, e2]
    have HC := Lib.hid (deed_up b 25 #[.pointer (some ⟨w.heap.size, 0, none⟩), .pointer (some ⟨w.heap.size + 1, 0, none⟩)] _ eg (by have := h1.cells.2.1; rw [hdn] at this; exact this) (bytes1_any _ h1 k2 k3))
    have FIN : Hid (∀ w2, (∃ v', Boxed w2 (w.heap.size + 1) 27 v' ∧ ow ((w.alloc (.cells #[.pointer (some ⟨b, 0, none⟩)] 25)).alloc (.cells #[.slice none 0 0] 27)).heap.size w2 v' s.f ∧ Fr (fun k => k = w.heap.size + 1) ((w.alloc (.cells #[.pointer (some ⟨b, 0, none⟩)] 25)).alloc (.cells #[.slice none 0 0] 27)) w2) →
        ∃ o c, w2.cell? ⟨w.heap.size + 1, 0, none⟩ = some (.slice o s.f.length c) ∧ w2.frozen? ⟨w.heap.size + 1, 0, none⟩ = false ∧ (w2.setCell ⟨w.heap.size + 1, 0, none⟩ (.slice o s.f.length c)).cell? ⟨w.heap.size + 1, 0, none⟩ = some (.slice o s.f.length c) ∧ Hid (rd (w2.setCell ⟨w.heap.size + 1, 0, none⟩ (.slice o s.f.length c)) s.f (.slice o s.f.length c) ∧ Below w.heap.size w (w2.setCell ⟨w.heap.size + 1, 0, none⟩ (.slice o s.f.length c)))) := Lib.hid fun w2 hq => by
      obtain ⟨v', hn, ho, hF⟩ := hq
      obtain ⟨o, c, rfl, _⟩ := ho.form
      have hF2 := Fr.set (B := fun k => k = w.heap.size + 1) w2 (w.heap.size + 1) 0 (.slice o s.f.length c) rfl
      have ho2 : ow ((w.alloc (.cells #[.pointer (some ⟨b, 0, none⟩)] 25)).alloc (.cells #[.slice none 0 0] 27)).heap.size (w2.setCell ⟨w.heap.size + 1, 0, none⟩ (.slice o s.f.length c)) (.slice o s.f.length c) s.f := ho.keep fun k ob hk ho3 => hF2.2 k ob ho3 (fun e => by
        obtain ⟨hlo, _⟩ := ho.lt k hk
        omega)
      refine ⟨o, c, hn.cell, hn.frozen, (hn.set _).cell, Lib.hid ⟨ho2.rd, ((Fr.of_below k1).trans (hF.trans hF2)).below (fun k hk => by omega) (Nat.le_refl _)⟩⟩
    clear h k1 k2 k3 eg h1 hsz
    go_enter Try.func9, Try.ntmps9
    go_wp2_with (go_at_call 24; refine HC.out.mono ?_)
    rintro e w2 ⟨i, rfl, rfl, hq⟩
    obtain ⟨o, c, y1, y2, y4, y3⟩ := FIN.out _ hq
    clear hq
    go_wp2_with fail
    refine bodyPost_ret (v := .tuple #[.slice o s.f.length c, .int .i64 0]) ?_ rfl ⟨o, c, rfl, y3⟩
    rw [results_cell_tmp (p := 2) (u := 3) (ty := 27) (by kernel_rfl)]
    simp [go_sem, y4]
  · have e1 : byD s = [] := by unfold byD; rw [if_pos hdn]
    have e2 : beD s = 60 := by unfold beD; rw [if_pos hdn]
    rw [e1, e2]
    have HC := Lib.hid (deed_down b 25 #[.pointer (some ⟨w.heap.size, 0, none⟩), .pointer (some ⟨w.heap.size + 1, 0, none⟩)] _ (by have := h1.cells.2.1; rw [hdn] at this; exact this))
    have y4 := k3.cell
    clear h k2 k3 eg h1 hsz
    go_enter Try.func9, Try.ntmps9
    go_wp2_with (go_at_call 24; refine HC.out.mono ?_)
    rintro e w2 ⟨rfl, rfl⟩
    go_wp2_with fail
    refine bodyPost_ret (v := .tuple #[.slice none 0 0, .int .i64 60]) ?_ rfl ⟨none, 0, rfl, Lib.hid ⟨rd_nil _, k1⟩⟩
    rw [results_cell_tmp (p := 2) (u := 3) (ty := 27) (by kernel_rfl)]
    simp [go_sem, y4]
set_option maxRecDepth 100000 in
set_option maxHeartbeats 1000000 in
theorem bytes_nil (w : World) : Calls Try.prog 9 #[.pointer none] w fun e w' => e = .returned (.tuple #[.slice none 0 0, .int .i64 1]) ∧ Below w.heap.size w w' := by
  have HC := Lib.hid (deed_nil 25 #[.pointer (some ⟨w.heap.size, 0, none⟩), .pointer (some ⟨w.heap.size + 1, 0, none⟩)] ((w.alloc (.cells #[.pointer none] 25)).alloc (.cells #[.slice none 0 0] 27)))
  obtain ⟨k1, _, k3⟩ := box2 w 25 27 (.pointer none) (.slice none 0 0)
  have HB := Lib.hid k1
  have y4 := k3.cell
  clear k1 k3
  go_enter Try.func9, Try.ntmps9
  go_wp2_with (go_at_call 24; refine HC.out.mono ?_)
  rintro e w2 ⟨rfl, rfl⟩
  go_wp2_with fail
  refine bodyPost_ret (v := .tuple #[.slice none 0 0, .int .i64 1]) ?_ rfl ⟨rfl, HB.out⟩
  rw [results_cell_tmp (p := 2) (u := 3) (ty := 27) (by kernel_rfl)]
  simp [go_sem, y4]

end Go.Proofs.Ytbjdbphnccdpbaa
