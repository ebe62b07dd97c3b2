/-
  The program's journal: what Bytes answers is the caller's own; the three deeds of Append.
-/
import Derived.Test.YtbjdbphnccdpbaaJc
import Derived.Deep.RegionHeld3
set_option linter.unusedVariables false
namespace Go.Proofs.Ytbjdbphnccdpbaa
open Go.RowKit Go.Shelf Go.Lib Go.Deep

set_option maxRecDepth 100000 in
set_option maxHeartbeats 4000000 in
theorem bytes_own {base b : Nat} {s : DS} {v : Value} (w : World) (h : Dk 52 base b s v w) :
    Calls Try.prog 9 #[.pointer (some ⟨b, 0, none⟩)] w fun e w' => ∃ o c, e = .returned (.tuple #[.slice o (byD s).length c, .int .i64 (beD s)]) ∧ Hid (ow w.heap.size w' (.slice o (byD s).length c) (byD s) ∧ Below w.heap.size w w') := by
  obtain ⟨k1, k2, k3⟩ := box2 w 25 27 (.pointer (some ⟨b, 0, none⟩)) (.slice none 0 0)
  have eg := enters_of Try.func25 (by kernel_rfl) rfl
  have h1 := h.below k1
  have hsz : ((w.alloc (.cells #[.pointer (some ⟨b, 0, none⟩)] 25)).alloc (.cells #[.slice none 0 0] 27)).heap.size = w.heap.size + 1 + 1 := by simp
  cases hdn : s.dn
  · have e1 : byD s = s.f := by unfold byD; rw [if_neg (by simp [hdn])]
    have e2 : beD s = 0 := by unfold beD; rw [if_neg (by simp [hdn])]
    rw [e1, e2]
    have HC := Lib.hid (deed_up b 25 #[.pointer (some ⟨w.heap.size, 0, none⟩), .pointer (some ⟨w.heap.size + 1, 0, none⟩)] _ eg (by have := h1.cells.2.1; rw [hdn] at this; exact this) (bytes1_any _ h1 k2 k3))
    have FIN : Hid (∀ w2, (∃ v', Boxed w2 (w.heap.size + 1) 27 v' ∧ ow ((w.alloc (.cells #[.pointer (some ⟨b, 0, none⟩)] 25)).alloc (.cells #[.slice none 0 0] 27)).heap.size w2 v' s.f ∧ Fr (fun k => k = w.heap.size + 1) ((w.alloc (.cells #[.pointer (some ⟨b, 0, none⟩)] 25)).alloc (.cells #[.slice none 0 0] 27)) w2) →
        ∃ o c, w2.cell? ⟨w.heap.size + 1, 0, none⟩ = some (.slice o s.f.length c) ∧ w2.frozen? ⟨w.heap.size + 1, 0, none⟩ = false ∧ (w2.setCell ⟨w.heap.size + 1, 0, none⟩ (.slice o s.f.length c)).cell? ⟨w.heap.size + 1, 0, none⟩ = some (.slice o s.f.length c) ∧ Hid (ow w.heap.size (w2.setCell ⟨w.heap.size + 1, 0, none⟩ (.slice o s.f.length c)) (.slice o s.f.length c) s.f ∧ Below w.heap.size w (w2.setCell ⟨w.heap.size + 1, 0, none⟩ (.slice o s.f.length c)))) := Lib.hid fun w2 hq => by
      obtain ⟨v', hn, ho, hF⟩ := hq
      obtain ⟨o, c, rfl, _⟩ := ho.form
      have hF2 := Fr.set (B := fun k => k = w.heap.size + 1) w2 (w.heap.size + 1) 0 (.slice o s.f.length c) rfl
      have ho2 : ow ((w.alloc (.cells #[.pointer (some ⟨b, 0, none⟩)] 25)).alloc (.cells #[.slice none 0 0] 27)).heap.size (w2.setCell ⟨w.heap.size + 1, 0, none⟩ (.slice o s.f.length c)) (.slice o s.f.length c) s.f := ho.keep fun k ob hk ho3 => hF2.2 k ob ho3 (fun e => by
        obtain ⟨hlo, _⟩ := ho.lt k hk
        omega)
      refine ⟨o, c, hn.cell, hn.frozen, (hn.set _).cell, Lib.hid ⟨ho2.mono (by omega), ((Fr.of_below k1).trans (hF.trans hF2)).below (fun k hk => by omega) (Nat.le_refl _)⟩⟩
    clear h k1 k2 k3 eg h1 hsz
    go_enter Try.func9, Try.ntmps9
    go_wp2_with (go_at_call 24; refine HC.out.mono ?_)
    rintro e w2 ⟨i, rfl, rfl, hq⟩
    obtain ⟨o, c, y1, y2, y4, y3⟩ := FIN.out _ hq
    clear hq
    go_wp2_with fail
    refine bodyPost_ret (v := .tuple #[.slice o s.f.length c, .int .i64 0]) ?_ rfl ⟨o, c, rfl, y3⟩
    rw [results_cell_tmp (p := 2) (u := 3) (ty := 27) (by kernel_rfl)]
    simp [go_sem, y4]
  · have e1 : byD s = [] := by unfold byD; rw [if_pos hdn]
    have e2 : beD s = 60 := by unfold beD; rw [if_pos hdn]
    rw [e1, e2]
    have HC := Lib.hid (deed_down b 25 #[.pointer (some ⟨w.heap.size, 0, none⟩), .pointer (some ⟨w.heap.size + 1, 0, none⟩)] _ (by have := h1.cells.2.1; rw [hdn] at this; exact this))
    have y4 := k3.cell
    clear h k2 k3 eg h1 hsz
    go_enter Try.func9, Try.ntmps9
    go_wp2_with (go_at_call 24; refine HC.out.mono ?_)
    rintro e w2 ⟨rfl, rfl⟩
    go_wp2_with fail
    refine bodyPost_ret (v := .tuple #[.slice none 0 0, .int .i64 60]) ?_ rfl ⟨none, 0, rfl, Lib.hid ⟨.inl ⟨rfl, rfl⟩, k1⟩⟩
    rw [results_cell_tmp (p := 2) (u := 3) (ty := 27) (by kernel_rfl)]
    simp [go_sem, y4]

theorem boxed_below {W W' : World} {N : Nat} {t : TypeId} {v : Value} (h : Boxed W N t v) (hb : Below W.heap.size W W') : Boxed W' N t v := (hb.block N h.lt).trans h
theorem ow.not_box {base : Nat} {W : World} {v u : Value} {x : List UInt8} {N : Nat} {t : TypeId} (h : ow base W v x) (hb : Boxed W N t u) (ht : t ≠ 5) : ∀ k, v.ownBlock = some k → k ≠ N := fun k hk e => by
  obtain ⟨_, _, cur, hc⟩ := h.lt k hk
  subst e
  rw [show W.heap[k]? = _ from hb] at hc
  cases hc
  exact ht rfl
theorem ow.store {base : Nat} {W : World} {v u u' : Value} {x : List UInt8} {N : Nat} {t : TypeId} (h : ow base W v x) (hb : Boxed W N t u) (ht : t ≠ 5) : ow base (W.setCell ⟨N, 0, none⟩ u') v x :=
  h.keep fun k o hk ho => (Fr.set (B := fun k => k = N) W N 0 u' rfl).2 k o ho (h.not_box hb ht k hk)

set_option maxRecDepth 100000 in
set_option maxHeartbeats 4000000 in
/-- The first deed: the frame. -/
theorem ja1_any {Nr N1 : Nat} {u : Value} (x : List UInt8) (w : World) (hr : Boxed w Nr 27 u) (h1 : Boxed w N1 27 (.slice none 0 0)) (hx : rd w x u) :
    Calls Try.prog 28 #[.pointer (some ⟨Nr, 0, none⟩), .pointer (some ⟨N1, 0, none⟩)] w fun e w' => e = .returned (.int .i64 (frE x)) ∧ Hid (∃ v', Boxed w' N1 27 v' ∧ ow w.heap.size w' v' (frB x) ∧ Fr (fun k => k = N1) w w') := by
  have cr := hr.cell
  have HC := Lib.hid (pframe_any x u w hx)
  have STEP : Hid (∀ w2 o c, Hid (ow w.heap.size w2 (.slice o (frB x).length c) (frB x) ∧ Below w.heap.size w w2) → w2.cell? ⟨N1, 0, none⟩ = some (.slice none 0 0) ∧ w2.frozen? ⟨N1, 0, none⟩ = false ∧ Hid (∃ v', Boxed (w2.setCell ⟨N1, 0, none⟩ (.slice o (frB x).length c)) N1 27 v' ∧ ow w.heap.size (w2.setCell ⟨N1, 0, none⟩ (.slice o (frB x).length c)) v' (frB x) ∧ Fr (fun k => k = N1) w (w2.setCell ⟨N1, 0, none⟩ (.slice o (frB x).length c)))) := Lib.hid fun w2 o c hq => by
    have hb := boxed_below h1 hq.out.2
    exact ⟨hb.cell, hb.frozen, Lib.hid ⟨_, hb.set _, hq.out.1.store hb (by decide), (Fr.of_below hq.out.2).trans (Fr.set w2 N1 0 _ rfl)⟩⟩
  obtain ⟨o, c, rfl, _⟩ := hx.form
  generalize frE x = fe at *
  clear hr h1 hx
  go_enter Try.func28, Try.ntmps28
  go_wp2_with (go_at_call 29; refine HC.out.mono ?_; rintro e w2 ⟨o2, c2, rfl, hq⟩; obtain ⟨y1, y2, y3⟩ := STEP.out _ _ _ hq; clear hq)
  go_ret
  exact ⟨rfl, y3⟩
set_option maxRecDepth 100000 in
set_option maxHeartbeats 4000000 in
/-- The second: the file. -/
theorem ja2_any {base b Nd Nf : Nat} {s : DS} {v : Value} (w : World) (h : Dk 52 base b s v w) (hd : Boxed w Nd 25 (.pointer (some ⟨b, 0, none⟩))) (hf : Boxed w Nf 27 (.slice none 0 0)) :
    Calls Try.prog 30 #[.pointer (some ⟨Nd, 0, none⟩), .pointer (some ⟨Nf, 0, none⟩)] w fun e w' => e = .returned (.int .i64 (beD s)) ∧ Hid (∃ v', Boxed w' Nf 27 v' ∧ ow w.heap.size w' v' (byD s) ∧ Fr (fun k => k = Nf) w w') := by
  have cd := hd.cell
  have HC := Lib.hid (bytes_own w h)
  have STEP : Hid (∀ w2 o c, Hid (ow w.heap.size w2 (.slice o (byD s).length c) (byD s) ∧ Below w.heap.size w w2) → w2.cell? ⟨Nf, 0, none⟩ = some (.slice none 0 0) ∧ w2.frozen? ⟨Nf, 0, none⟩ = false ∧ Hid (∃ v', Boxed (w2.setCell ⟨Nf, 0, none⟩ (.slice o (byD s).length c)) Nf 27 v' ∧ ow w.heap.size (w2.setCell ⟨Nf, 0, none⟩ (.slice o (byD s).length c)) v' (byD s) ∧ Fr (fun k => k = Nf) w (w2.setCell ⟨Nf, 0, none⟩ (.slice o (byD s).length c)))) := Lib.hid fun w2 o c hq => by
    have hb := boxed_below hf hq.out.2
    exact ⟨hb.cell, hb.frozen, Lib.hid ⟨_, hb.set _, hq.out.1.store hb (by decide), (Fr.of_below hq.out.2).trans (Fr.set w2 Nf 0 _ rfl)⟩⟩
  generalize beD s = fe at *
  clear hd hf h
  go_enter Try.func30, Try.ntmps30
  go_wp2_with (go_at_call 9; refine HC.out.mono ?_; rintro e w2 ⟨o2, c2, rfl, hq⟩; obtain ⟨y1, y2, y3⟩ := STEP.out _ _ _ hq; clear hq)
  go_ret
  exact ⟨rfl, y3⟩
/-- What Append leaves, of a disk that is up, and of a good load. -/
def App3 (s : DS) (F : List UInt8) (r : Int × DS) : Prop := ∃ n, Brk s.f n ∧ ((n = 0 ∧ r = appD s F) ∨ (0 < n ∧ r = swapD s (s.f.take (s.f.length - n) ++ F)))
end Go.Proofs.Ytbjdbphnccdpbaa
