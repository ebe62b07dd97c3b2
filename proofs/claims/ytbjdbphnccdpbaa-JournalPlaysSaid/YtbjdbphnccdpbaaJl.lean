/-
  The program's journal: Snap.
-/
import Derived.Test.YtbjdbphnccdpbaaJk
set_option linter.unusedVariables false
namespace Go.Proofs.Ytbjdbphnccdpbaa
open Go.RowKit Go.Shelf Go.Lib Go.Deep

/-- What Snap does with a disk. -/
def SnapR (s : DS) (L : List (List UInt8)) (r : Int × DS) : Prop := (soundE L ≠ 0 ∧ r = (soundE L, s)) ∨ (soundE L = 0 ∧ fitE L ≠ 0 ∧ r = (fitE L, s)) ∨ (soundE L = 0 ∧ fitE L = 0 ∧ r = swapD s (framesL L))
theorem sound_good : ∀ {L : List (List UInt8)}, soundE L = 0 → ∀ x ∈ L, goodL x
  | [], _, x, hx => absurd hx (by simp)
  | y :: t, h, x, hx => by
    unfold soundE at h
    by_cases h0 : frE y = 0
    · rw [if_pos h0] at h
      rcases List.mem_cons.1 hx with rfl | hx
      · exact (fr_ok h0).1
      · exact sound_good h x hx
    · rw [if_neg h0] at h
      exact absurd h h0
theorem fit_le {L : List (List UInt8)} (h : fitE L = 0) : (framesL L).length ≤ 1048576 := by
  unfold fitE at h
  by_cases h1 : 1048576 < (framesL L).length
  · rw [if_pos h1] at h; omega
  · omega
set_option maxRecDepth 100000 in
theorem js1_nil {Nd : Nat} (w : World) (hd : Boxed w Nd 25 (.pointer none)) : Calls Try.prog 35 #[.pointer (some ⟨Nd, 0, none⟩)] w fun e w' => e = .returned (.int .i64 1) ∧ w = w' := by
  have c := hd.cell
  clear hd
  go_enter Try.func35, Try.ntmps35
  go_wp2_with (go_at_call 36; refine (there_nil _).mono ?_; rintro e w2 ⟨rfl, rfl⟩)
  go_ret
  exact ⟨rfl, rfl⟩
set_option maxRecDepth 100000 in
theorem js1_any {Nd : Nat} {a : Addr} (w : World) (hd : Boxed w Nd 25 (.pointer (some a))) : Calls Try.prog 35 #[.pointer (some ⟨Nd, 0, none⟩)] w fun e w' => e = .returned (.int .i64 0) ∧ w = w' := by
  have c := hd.cell
  clear hd
  go_enter Try.func35, Try.ntmps35
  go_wp2_with (go_at_call 36; refine (there_some _ _).mono ?_; rintro e w2 ⟨rfl, rfl⟩)
  go_ret
  exact ⟨rfl, rfl⟩
set_option maxRecDepth 100000 in
theorem js2_any {Nr : Nat} {v : Value} {L : List (List UInt8)} (w : World) (hr : Boxed w Nr 28 v) (hv : rds w L v) : Calls Try.prog 37 #[.pointer (some ⟨Nr, 0, none⟩)] w fun e w' => e = .returned (.int .i64 (soundE L)) ∧ Hid (Below w.heap.size w w') := by
  have c := hr.cell
  have HC := Lib.hid (sound_any L v w hv)
  obtain ⟨o, a, cap, rfl, _⟩ := hv
  generalize soundE L = z at *
  clear hr
  go_enter Try.func37, Try.ntmps37
  go_wp2_with (go_at_call 38; refine HC.out.mono ?_; rintro e w2 ⟨rfl, hq⟩)
  go_ret
  exact ⟨rfl, hq⟩
set_option maxRecDepth 100000 in
theorem js3_any {Nr : Nat} {v : Value} {L : List (List UInt8)} (w : World) (hr : Boxed w Nr 28 v) (hv : rds w L v) (hg : ∀ x ∈ L, goodL x) : Calls Try.prog 39 #[.pointer (some ⟨Nr, 0, none⟩)] w fun e w' => e = .returned (.int .i64 (fitE L)) ∧ Hid (Below w.heap.size w w') := by
  have c := hr.cell
  have HC := Lib.hid (fit_any L v w hv hg)
  obtain ⟨o, a, cap, rfl, _⟩ := hv
  generalize fitE L = z at *
  clear hr hg
  go_enter Try.func39, Try.ntmps39
  go_wp2_with (go_at_call 40; refine HC.out.mono ?_; rintro e w2 ⟨rfl, hq⟩)
  go_ret
  exact ⟨rfl, hq⟩
set_option maxRecDepth 100000 in
set_option maxHeartbeats 8000000 in
theorem js4_any {base b Nd Nr : Nat} {s : DS} {v vr : Value} {L : List (List UInt8)} (w : World) (h : Dk 52 base b s v w) (hbase : base ≤ w.heap.size) (hd : Boxed w Nd 25 (.pointer (some ⟨b, 0, none⟩))) (hr : Boxed w Nr 28 vr) (hv : rds w L vr) (hg : ∀ x ∈ L, goodL x) (hl : (framesL L).length ≤ 1048576) :
    Calls Try.prog 41 #[.pointer (some ⟨Nd, 0, none⟩), .pointer (some ⟨Nr, 0, none⟩)] w fun e w' => e = .returned (.int .i64 (swapD s (framesL L)).1) ∧ Hid (DQ 52 base b v w (swapD s (framesL L)) (.returned (.int .i64 (swapD s (framesL L)).1)) w') := by
  have FACTS : Hid (∀ W, Below w.heap.size w W → W.cell? ⟨Nd, 0, none⟩ = some (.pointer (some ⟨b, 0, none⟩)) ∧ W.cell? ⟨Nr, 0, none⟩ = some vr) := Lib.hid fun W hW => ⟨(boxed_below hd hW).cell, (boxed_below hr hW).cell⟩
  have LATER : Hid (∀ r e W, DQ 52 base b v w r e W → W.cell? ⟨Nd, 0, none⟩ = some (.pointer (some ⟨b, 0, none⟩)) ∧ W.cell? ⟨Nr, 0, none⟩ = some vr) := Lib.hid fun r e W hq => ⟨(hq.boxed h hd (by decide) (by decide)).cell, (hq.boxed h hr (by decide) (by decide)).cell⟩
  have HFR : Hid (∀ W, Below w.heap.size w W → Calls Try.prog 42 #[vr] W fun e w' => ∃ o c, e = .returned (.slice o (framesL L).length c) ∧ Hid (rd w' (framesL L) (.slice o (framesL L).length c) ∧ Below w.heap.size w w')) := Lib.hid fun W hW =>
    (framed_any L vr W (hv.below hW) hg hl).mono fun e w' ⟨o, c, h1, h2⟩ => ⟨o, c, h1, Lib.hid ⟨h2.out.1.rd, hW.trans (h2.out.2.mono hW.size)⟩⟩
  have HSW : Hid (∀ W X u, Below w.heap.size w W → rd W X u → Calls Try.prog 18 #[.pointer (some ⟨b, 0, none⟩), u] W (DQ 52 base b v w (swapD s X))) := Lib.hid fun W X u hW hX =>
    (swap_any W (h.below hW) (Nat.le_trans hbase hW.size) hX).mono fun e w' hq => hq.from hW
  obtain ⟨d0, d1⟩ := FACTS.out w (Below.refl _ _)
  have HBd : Hid (Below w.heap.size w w.drew) := Lib.hid (Below.refl _ _).drew
  obtain ⟨o, a, cap, rfl, _⟩ := hv
  generalize framesL L = F at *
  clear h hbase hd hr hg hl
  go_enter Try.func41, Try.ntmps41
  go_wp2_with fail
  go_region_held3 (fun w' => w'.cell? ⟨Nd, 0, none⟩ = some (.pointer (some ⟨b, 0, none⟩)) ∧ w'.cell? ⟨Nr, 0, none⟩ = some (.slice o L.length cap)) (first | go_keep)
    (first
      | (go_at_call 42; go_loud (refine (HFR.out _ HBd.out).mono ?_); rintro e w3 ⟨o3, c3, rfl, hq3⟩; obtain ⟨f0, f1⟩ := FACTS.out w3 hq3.out.2)
      | (go_at_call 18; go_loud (refine (HSW.out _ _ _ hq3.out.2 hq3.out.1).mono ?_); rintro e w4 hq4; obtain rfl := hq4.1; obtain ⟨k0, k1⟩ := LATER.out _ _ _ hq4))
  all_goals
    have HQ4 := Lib.hid hq4
    clear hq4 hq3
    generalize hr : swapD s F = r at *
    have HR := Lib.hid hr
    clear hr
    go_wp2_with fail
    go_ret
    obtain rfl := HR.out
    exact ⟨rfl, HQ4⟩

/-- The four deeds' functions. -/
def gS : Nat → Nat
  | 0 => 35
  | 1 => 37
  | 2 => 39
  | _ => 41
def lS (n : Nat) : Nat → Array Value
  | 0 => #[pb n]
  | 1 => #[pb (n + 1)]
  | 2 => #[pb (n + 1)]
  | _ => #[pb n, pb (n + 1)]
def rowS (n : Nat) : Array Value := #[.func (.func (gS 0)) #[] (lS n 0), .func (.func (gS 1)) #[] (lS n 1), .func (.func (gS 2)) #[] (lS n 2), .func (.func (gS 3)) #[] (lS n 3)]
set_option maxRecDepth 100000 in
theorem enters_S : ∀ k, k < 4 → ∀ args w, (callFunc (gS k) args).run Try.prog w = .ok (.enter (gS k) args) w := fun k hk => by
  match k, hk with
  | 0, _ => exact enters_of Try.func35 (by kernel_rfl) rfl
  | 1, _ => exact enters_of Try.func37 (by kernel_rfl) rfl
  | 2, _ => exact enters_of Try.func39 (by kernel_rfl) rfl
  | 3, _ => exact enters_of Try.func41 (by kernel_rfl) rfl
theorem box3 (w : World) (t1 t2 t3 : TypeId) (v1 v2 : Value) (cs : Array Value) (W : World) (hW : ((w.alloc (.cells #[v1] t1)).alloc (.cells #[v2] t2)).alloc (.cells cs t3) = W) :
    Below w.heap.size w W ∧ Boxed W w.heap.size t1 v1 ∧ Boxed W (w.heap.size + 1) t2 v2 ∧ W.heap[w.heap.size + 2]? = some (.cells cs t3 (0, 0)) := by
  subst hW
  have h2 := World.alloc_heap_new (w.alloc (.cells #[v1] t1)) (.cells #[v2] t2)
  have h3 := World.alloc_heap_new ((w.alloc (.cells #[v1] t1)).alloc (.cells #[v2] t2)) (.cells cs t3)
  simp only [World.size_alloc] at h2 h3
  exact ⟨by go_grown, ((Boxed.new w t1 v1).alloc _).alloc _, Boxed.alloc (W := (w.alloc (.cells #[v1] t1)).alloc (.cells #[v2] t2)) h2 _, h3⟩
/-- Ahead of deed number k. -/
def JS (w : World) (base b : Nat) (s : DS) (v u : Value) (L : List (List UInt8)) : Nat → World → Prop
  | 4, W => ∃ r, r.1 = 0 ∧ SnapR s L r ∧ DQ 52 base b v w r (.returned (.int .i64 r.1)) W
  | k, W => Below w.heap.size w W ∧ W.heap[w.heap.size + 2]? = some (.cells (rowS w.heap.size) 37 (0, 0)) ∧
      Boxed W w.heap.size 25 (pb b) ∧ Boxed W (w.heap.size + 1) 28 u ∧ (2 ≤ k → soundE L = 0) ∧ (3 ≤ k → fitE L = 0)
theorem JS.mem {w : World} {base b : Nat} {s : DS} {v u : Value} {L : List (List UInt8)} {k : Nat} {W : World} (hk : k < 4) (h : JS w base b s v u L k W) : W.heap[w.heap.size + 2]? = some (.cells (rowS w.heap.size) 37 (0, 0)) := by
  match k, hk with
  | 0, _ => exact h.2.1
  | 1, _ => exact h.2.1
  | 2, _ => exact h.2.1
  | 3, _ => exact h.2.1
theorem JS.step {w : World} {base b : Nat} {s : DS} {v u : Value} {L : List (List UInt8)} {k : Nat} {W W' : World} (hk : k < 3) (h : JS w base b s v u L k W) (hb : Below W.heap.size W W') (h2 : k = 1 → soundE L = 0) (h3 : k = 2 → fitE L = 0) : JS w base b s v u L (k + 1) W' := by
  match k, hk with
  | 0, _ =>
    obtain ⟨q1, q2, q3, q4, q5, q6⟩ := h
    exact ⟨q1.trans (hb.mono q1.size), (hb.block _ (Array.getElem?_eq_some_iff.1 q2).1).trans q2, boxed_below q3 hb, boxed_below q4 hb, fun h => absurd h (by omega), fun h => absurd h (by omega)⟩
  | 1, _ =>
    obtain ⟨q1, q2, q3, q4, q5, q6⟩ := h
    exact ⟨q1.trans (hb.mono q1.size), (hb.block _ (Array.getElem?_eq_some_iff.1 q2).1).trans q2, boxed_below q3 hb, boxed_below q4 hb, fun _ => h2 rfl, fun h => absurd h (by omega)⟩
  | 2, _ =>
    obtain ⟨q1, q2, q3, q4, q5, q6⟩ := h
    exact ⟨q1.trans (hb.mono q1.size), (hb.block _ (Array.getElem?_eq_some_iff.1 q2).1).trans q2, boxed_below q3 hb, boxed_below q4 hb, fun _ => q5 (by omega), fun _ => h3 rfl⟩
theorem JS.deed {w : World} {base b : Nat} {s : DS} {v u : Value} {L : List (List UInt8)} (h : Dk 52 base b s v w) (hbase : base ≤ w.heap.size) (hv : rds w L u) (k : Nat) (hk : k < 4) (W : World) (hJ : JS w base b s v u L k W) :
    Calls Try.prog (gS k) (lS w.heap.size k) W fun e W' => ∃ i, e = .returned (.int .i64 i) ∧ ((i = 0 ∧ JS w base b s v u L (k + 1) W') ∨ (i ≠ 0 ∧ ∃ r : Int × DS, r.1 = i ∧ SnapR s L r ∧ DQ 52 base b v w r (.returned (.int .i64 r.1)) W')) := by
  match k, hk with
  | 0, _ =>
    refine (js1_any W hJ.2.2.1).mono ?_
    rintro e W' ⟨rfl, rfl⟩
    exact ⟨0, rfl, .inl ⟨rfl, hJ.step (by omega) (Below.refl _ _) (fun h => by omega) (fun h => by omega)⟩⟩
  | 1, _ =>
    refine (js2_any W hJ.2.2.2.1 (hv.below hJ.1)).mono ?_
    rintro e W' ⟨rfl, hq⟩
    by_cases hE : soundE L = 0
    · exact ⟨_, rfl, .inl ⟨hE, hJ.step (by omega) hq.out (fun _ => hE) (fun h => by omega)⟩⟩
    · exact ⟨_, rfl, .inr ⟨hE, (soundE L, s), rfl, .inl ⟨hE, rfl⟩, DQ.of_below h (hJ.1.trans (hq.out.mono hJ.1.size))⟩⟩
  | 2, _ =>
    have hS := hJ.2.2.2.2.1 (by omega)
    refine (js3_any W hJ.2.2.2.1 (hv.below hJ.1) (sound_good hS)).mono ?_
    rintro e W' ⟨rfl, hq⟩
    by_cases hE : fitE L = 0
    · exact ⟨_, rfl, .inl ⟨hE, hJ.step (by omega) hq.out (fun h => by omega) (fun _ => hE)⟩⟩
    · exact ⟨_, rfl, .inr ⟨hE, (fitE L, s), rfl, .inr (.inl ⟨hS, hE, rfl⟩), DQ.of_below h (hJ.1.trans (hq.out.mono hJ.1.size))⟩⟩
  | 3, _ =>
    have hS := hJ.2.2.2.2.1 (by omega)
    have hF := hJ.2.2.2.2.2 (by omega)
    refine (js4_any W (h.below hJ.1) (Nat.le_trans hbase hJ.1.size) hJ.2.2.1 hJ.2.2.2.1 (hv.below hJ.1) (sound_good hS) (fit_le hF)).mono ?_
    rintro e W' ⟨rfl, hq⟩
    have hR : SnapR s L (swapD s (framesL L)) := .inr (.inr ⟨hS, hF, rfl⟩)
    by_cases h0 : (swapD s (framesL L)).1 = 0
    · exact ⟨_, rfl, .inl ⟨h0, _, h0, hR, hq.out.from hJ.1⟩⟩
    · exact ⟨_, rfl, .inr ⟨h0, _, rfl, hR, hq.out.from hJ.1⟩⟩
set_option maxRecDepth 100000 in
set_option maxHeartbeats 4000000 in
theorem jsnap_any {base b : Nat} {s : DS} {v u : Value} {L : List (List UInt8)} (w : World) (h : Dk 52 base b s v w) (hbase : base ≤ w.heap.size) (hv : rds w L u) :
    Calls Try.prog 11 #[.pointer (some ⟨b, 0, none⟩), u] w fun e w' => ∃ r : Int × DS, e = .returned (.int .i64 r.1) ∧ Hid (SnapR s L r ∧ DQ 52 base b v w r (.returned (.int .i64 r.1)) w') := by
  have HC : Hid (∀ W, ((w.alloc (.cells #[pb b] 25)).alloc (.cells #[u] 28)).alloc (.cells (rowS w.heap.size) 37) = W →
      Calls Try.prog 27 #[.slice (some ⟨w.heap.size + 2, 0, none⟩) 4 4] W fun e w' => ∃ r : Int × DS, e = .returned (.int .i64 r.1) ∧ Hid (SnapR s L r ∧ DQ 52 base b v w r (.returned (.int .i64 r.1)) w')) := Lib.hid fun W hW => by
    obtain ⟨k0, k1, k2, k3⟩ := box3 w _ _ _ _ _ _ W hW
    refine (first_deeds 4 ⟨w.heap.size + 2, 0, none⟩ gS (lS w.heap.size) (JS w base b s v u L) (fun i W' => ∃ r : Int × DS, r.1 = i ∧ SnapR s L r ∧ DQ 52 base b v w r (.returned (.int .i64 r.1)) W') W (by omega) (fun k hk W' hJ => row_cell (hJ.mem hk) _ ?_) enters_S (JS.deed h hbase hv) ⟨k0, k3, k1, k2, fun h => absurd h (by omega), fun h => absurd h (by omega)⟩).mono ?_
    · match k, hk with
      | 0, _ => rfl
      | 1, _ => rfl
      | 2, _ => rfl
      | 3, _ => rfl
    · rintro e w' ⟨i, rfl, hq⟩
      rcases hq.out with ⟨rfl, r, r1, r2, r3⟩ | ⟨_, r, rfl, r2, r3⟩
      · exact ⟨r, by rw [r1], Lib.hid ⟨r2, r3⟩⟩
      · exact ⟨r, rfl, Lib.hid ⟨r2, r3⟩⟩
  obtain ⟨o, a, cap, rfl, _⟩ := hv
  clear h hbase
  go_enter Try.func11, Try.ntmps11
  go_wp2_with (go_at_call 27; go_loud (refine (HC.out _ rfl).mono ?_))
  rintro e w2 ⟨r, rfl, HQ⟩
  go_wp2_with fail
  go_ret
  exact ⟨r, rfl, HQ⟩
set_option maxRecDepth 100000 in
set_option maxHeartbeats 4000000 in
theorem jsnap_nil {u : Value} {L : List (List UInt8)} (w : World) (hv : rds w L u) :
    Calls Try.prog 11 #[.pointer none, u] w fun e w' => e = .returned (.int .i64 1) ∧ Hid (Below w.heap.size w w') := by
  have HC : Hid (∀ W, ((w.alloc (.cells #[.pointer none] 25)).alloc (.cells #[u] 28)).alloc (.cells (rowS w.heap.size) 37) = W →
      Calls Try.prog 27 #[.slice (some ⟨w.heap.size + 2, 0, none⟩) 4 4] W fun e w' => e = .returned (.int .i64 1) ∧ Hid (Below w.heap.size w w')) := Lib.hid fun W hW => by
    obtain ⟨k0, k1, k2, k3⟩ := box3 w _ _ _ _ _ _ W hW
    refine (first_deeds 4 ⟨w.heap.size + 2, 0, none⟩ gS (lS w.heap.size) (fun k W' => k = 0 ∧ W' = W) (fun i W' => i = 1 ∧ W' = W) W (by omega) (fun k hk W' hJ => ?_) enters_S (fun k hk W' hJ => ?_) ⟨rfl, rfl⟩).mono ?_
    · obtain ⟨rfl, rfl⟩ := hJ
      exact row_cell k3 _ rfl
    · obtain ⟨rfl, rfl⟩ := hJ
      refine (js1_nil _ k1).mono ?_
      rintro e W2 ⟨rfl, rfl⟩
      exact ⟨1, rfl, .inr ⟨by omega, rfl, rfl⟩⟩
    · rintro e w' ⟨i, rfl, hq⟩
      rcases hq.out with ⟨rfl, h4, _⟩ | ⟨_, rfl, rfl⟩
      · exact absurd h4 (by omega)
      · exact ⟨rfl, Lib.hid k0⟩
  obtain ⟨o, a, cap, rfl, _⟩ := hv
  go_enter Try.func11, Try.ntmps11
  go_wp2_with (go_at_call 27; go_loud (refine (HC.out _ rfl).mono ?_))
  rintro e w2 ⟨rfl, HQ⟩
  go_wp2_with fail
  go_ret
  exact ⟨rfl, HQ⟩
end Go.Proofs.Ytbjdbphnccdpbaa
