/-
  The program's journal: Open, its deeds.
-/
import Derived.Test.YtbjdbphnccdpbaaJl
set_option linter.unusedVariables false
namespace Go.Proofs.Ytbjdbphnccdpbaa
open Go.RowKit Go.Shelf Go.Lib Go.Deep

set_option maxRecDepth 100000 in
set_option maxHeartbeats 4000000 in
/-- The first deed: the file. -/
theorem jo1_any {base b Nd Nf : Nat} {s : DS} {v : Value} (w : World) (h : Dk 52 base b s v w) (hd : Boxed w Nd 25 (.pointer (some ⟨b, 0, none⟩))) (hf : Boxed w Nf 27 (.slice none 0 0)) :
    Calls Try.prog 46 #[.pointer (some ⟨Nd, 0, none⟩), .pointer (some ⟨Nf, 0, none⟩)] w fun e w' => e = .returned (.int .i64 (beD s)) ∧ Hid (∃ v', Boxed w' Nf 27 v' ∧ ow w.heap.size w' v' (byD s) ∧ Fr (fun k => k = Nf) w w') := by
  have cd := hd.cell
  have HC := Lib.hid (bytes_own w h)
  have STEP : Hid (∀ w2 o c, Hid (ow w.heap.size w2 (.slice o (byD s).length c) (byD s) ∧ Below w.heap.size w w2) → w2.cell? ⟨Nf, 0, none⟩ = some (.slice none 0 0) ∧ w2.frozen? ⟨Nf, 0, none⟩ = false ∧ Hid (∃ v', Boxed (w2.setCell ⟨Nf, 0, none⟩ (.slice o (byD s).length c)) Nf 27 v' ∧ ow w.heap.size (w2.setCell ⟨Nf, 0, none⟩ (.slice o (byD s).length c)) v' (byD s) ∧ Fr (fun k => k = Nf) w (w2.setCell ⟨Nf, 0, none⟩ (.slice o (byD s).length c)))) := Lib.hid fun w2 o c hq => by
    have hb := boxed_below hf hq.out.2
    exact ⟨hb.cell, hb.frozen, Lib.hid ⟨_, hb.set _, hq.out.1.store hb (by decide), (Fr.of_below hq.out.2).trans (Fr.set w2 Nf 0 _ rfl)⟩⟩
  generalize beD s = fe at *
  clear hd hf h
  go_enter Try.func46, Try.ntmps46
  go_wp2_with (go_at_call 9; refine HC.out.mono ?_; rintro e w2 ⟨o2, c2, rfl, hq⟩; obtain ⟨y1, y2, y3⟩ := STEP.out _ _ _ hq; clear hq)
  go_ret
  exact ⟨rfl, y3⟩

theorem rwP.fr {P B : Nat → Prop} {E : Value → Prop} {W W' : World} {L : List (List UInt8)} {v : Value} (h : rwP P E W L v) (hF : Fr B W W') (hB : ∀ k, P k → ¬ B k) : rwP P E W' L v := by
  obtain ⟨o, a, cap, h1, h2, h3, h4, h5⟩ := h
  refine ⟨o, a, cap, h1, h2, h3, h4, fun i hi => ?_⟩
  obtain ⟨ob, cb, q1, q2, q3, q4⟩ := h5 i hi
  refine ⟨ob, cb, hF.cell _ _ (by rw [block_add]; exact hB _ (h4 (by omega)).2) q1, q2, ?_, q4⟩
  obtain ⟨o2, a2, c2, e, r1, r2, r3, r4⟩ := q3
  cases e
  refine ⟨_, a2, _, rfl, r1, r2, r3, fun j u hj => ?_⟩
  have hx : 0 < L[i].length := by
    have := (List.getElem?_eq_some_iff.1 hj).1
    rw [Lib.byteCells_length] at this
    omega
  exact hF.cell _ _ (by rw [block_add]; exact hB _ (q4 a2 (r3 hx) hx)) (r4 j u hj)
theorem rwP.imp {P P' : Nat → Prop} {E : Value → Prop} {W : World} {L : List (List UInt8)} {v : Value} (h : rwP P E W L v) (hp : ∀ k, P k → P' k) : rwP P' E W L v := by
  obtain ⟨o, a, cap, h1, h2, h3, h4, h5⟩ := h
  refine ⟨o, a, cap, h1, h2, h3, fun h => ⟨(h4 h).1, hp _ (h4 h).2⟩, fun i hi => ?_⟩
  obtain ⟨ob, cb, q1, q2, q3, q4⟩ := h5 i hi
  exact ⟨ob, cb, q1, q2, q3, fun a' e hx => hp _ (q4 a' e hx)⟩
theorem rwP.rds {P : Nat → Prop} {E : Value → Prop} {W : World} {L : List (List UInt8)} {v : Value} (h : rwP P E W L v) : rds W L v := by
  obtain ⟨o, a, cap, h1, h2, h3, h4, h5⟩ := h
  refine ⟨o, a, cap, h1, h2, h3, fun h => (h4 h).1, fun i hi => ?_⟩
  obtain ⟨ob, cb, q1, q2, q3, q4⟩ := h5 i hi
  exact ⟨ob, cb, q1, q3⟩
theorem rwP.ofz2 {base : Nat} {W : World} {L : List (List UInt8)} {v : Value} (h : rdz base W L v) : rwP (fun k => base ≤ k ∧ k < W.heap.size) fit W L v := by
  obtain ⟨o, a, cap, h1, h2, h3, h4, _, h5⟩ := h
  refine ⟨o, a, cap, h1, h2, h3, fun h0 => ⟨(h4 h0).1, (h4 h0).2, ?_⟩, fun i hi => ?_⟩
  · obtain ⟨ob, cb, q1, _, q2⟩ := h5 0 h0
    have := World.block_lt_of_cell? W _ q1
    rwa [block_add] at this
  · obtain ⟨ob, cb, q1, q0, q2⟩ := h5 i hi
    exact ⟨some ob, cb, q1, .inr ⟨_, _, _, rfl⟩, q2, fun a' e hx => by cases e; exact ⟨q0, q2.lt _ rfl hx⟩⟩
/-- What Open does with a disk, what it answers. -/
def openD (s : DS) : Int × DS := if s.dn = true then (60, s) else if (scanL s.f).2 = 0 then (0, s) else cutD s ((s.f.length : Int) - (scanL s.f).2)
/-- Behind Open's second deed: the rows and how many are torn, in their boxes; the disk. -/
def OQ (base b : Nat) (v : Value) (s : DS) (Nr Nt : Nat) (w : World) (r : Int × DS) (w' : World) : Prop :=
  ∃ o c v', Boxed w' Nr 28 (.slice o (scanL s.f).1.length c) ∧ Boxed w' Nt 3 (.int .i64 ((scanL s.f).2 : Nat)) ∧ Dk 52 base b r.2 v' w' ∧ (v'.ownBlock = v.ownBlock ∨ ∀ k, v'.ownBlock = some k → w.heap.size ≤ k) ∧ Fr (fun k => Fp b v k ∨ k = Nr ∨ k = Nt) w w' ∧ rwP (fun k => w.heap.size ≤ k ∧ v'.ownBlock ≠ some k) fit w' (scanL s.f).1 (.slice o (scanL s.f).1.length c)
set_option maxRecDepth 100000 in
set_option maxHeartbeats 4000000 in
theorem jo2_any {base b Nf Nr Nt Nd : Nat} {s : DS} {v vf : Value} (w : World) (h : Dk 52 base b s v w) (hdn : s.dn = false) (hbase : base ≤ w.heap.size) (hne : Nr ≠ Nt)
    (hf : Boxed w Nf 27 vf) (hr : Boxed w Nr 28 (.slice none 0 0)) (ht : Boxed w Nt 3 (.int .i64 0)) (hd : Boxed w Nd 25 (.pointer (some ⟨b, 0, none⟩))) (hx : rd w s.f vf) (hfit : fit vf) :
    Calls Try.prog 47 #[.pointer (some ⟨Nf, 0, none⟩), .pointer (some ⟨Nr, 0, none⟩), .pointer (some ⟨Nt, 0, none⟩), .pointer (some ⟨Nd, 0, none⟩)] w fun e w' => e = .returned (.int .i64 (openD s).1) ∧ Hid (OQ base b v s Nr Nt w (openD s) w') := by
  have hop : openD s = if (scanL s.f).2 = 0 then (0, s) else cutD s ((s.f.length : Int) - (scanL s.f).2) := by unfold openD; rw [if_neg (by simp [hdn])]
  have hsl := h.1
  have hTl := scan_torn s.f
  have hnf : ¬ Fp b v Nr := h.not_box hr (by decide) (by decide)
  have hntf : ¬ Fp b v Nt := h.not_box ht (by decide) (by decide)
  have hfp := h.fp
  have HSC := Lib.hid (pscan_any s.f vf w hx hfit (by omega))
  obtain ⟨of, cf, rfl, hf1, hf2⟩ := hx.form
  unfold maxLen at hf2
  obtain ⟨L, hL⟩ : ∃ L, (scanL s.f).1 = L := ⟨_, rfl⟩
  obtain ⟨T, hT⟩ : ∃ T, (scanL s.f).2 = T := ⟨_, rfl⟩
  rw [hT] at hop hTl
  have HOP := Lib.hid hop
  unfold OQ
  rw [hL, hT]
  rw [hL, hT] at HSC
  /- behind Scan and the two stores -/
  have STEP : Hid (∀ w2 o c, Hid (rdz w.heap.size w2 L (.slice o L.length c) ∧ Below w.heap.size w w2) → w2.cell? ⟨Nr, 0, none⟩ = some (.slice none 0 0) ∧ w2.frozen? ⟨Nr, 0, none⟩ = false ∧ (w2.setCell ⟨Nr, 0, none⟩ (.slice o L.length c)).cell? ⟨Nt, 0, none⟩ = some (.int .i64 0) ∧ (w2.setCell ⟨Nr, 0, none⟩ (.slice o L.length c)).frozen? ⟨Nt, 0, none⟩ = false ∧
      ∃ W4, (w2.setCell ⟨Nr, 0, none⟩ (.slice o L.length c)).setCell ⟨Nt, 0, none⟩ (.int .i64 (T : Nat)) = W4 ∧ W4.cell? ⟨Nt, 0, none⟩ = some (.int .i64 (T : Nat)) ∧ W4.cell? ⟨Nf, 0, none⟩ = some (.slice of s.f.length cf) ∧ W4.cell? ⟨Nd, 0, none⟩ = some (.pointer (some ⟨b, 0, none⟩)) ∧
        Hid (Boxed W4 Nr 28 (.slice o L.length c) ∧ Boxed W4 Nt 3 (.int .i64 (T : Nat)) ∧ Fr (fun k => k = Nr ∨ k = Nt) w W4 ∧ rwP (fun k => w.heap.size ≤ k ∧ k < W4.heap.size) fit W4 L (.slice o L.length c))) := Lib.hid fun w2 o c hq => by
    have b1 := boxed_below hr hq.out.2
    have b2 := boxed_below ht hq.out.2
    have b2' := b2.other (B' := Nr) (by omega) (.slice o L.length c)
    obtain ⟨W4, hW4⟩ : ∃ W4, (w2.setCell ⟨Nr, 0, none⟩ (.slice o L.length c)).setCell ⟨Nt, 0, none⟩ (.int .i64 (T : Nat)) = W4 := ⟨_, rfl⟩
    have hF2 : Fr (fun k => k = Nr ∨ k = Nt) w2 W4 := by
      rw [← hW4]
      exact (Fr.set (B := fun k => k = Nr ∨ k = Nt) w2 Nr 0 _ (.inl rfl)).trans (Fr.set _ Nt 0 _ (.inr rfl))
    have hF : Fr (fun k => k = Nr ∨ k = Nt) w W4 := (Fr.of_below hq.out.2).trans hF2
    have c1 : Boxed W4 Nr 28 (.slice o L.length c) := by rw [← hW4]; exact (b1.set _).other (B' := Nt) hne _
    have c2 : Boxed W4 Nt 3 (.int .i64 (T : Nat)) := by rw [← hW4]; exact b2'.set _
    have hnl := hr.lt
    have htl := ht.lt
    have c3 : Boxed W4 Nf 27 (.slice of s.f.length cf) := hF.boxed hf (fun e => by
      rcases e with rfl | rfl
      · have := hf.symm.trans hr; simp at this
      · have := hf.symm.trans ht; simp at this)
    have c4 : Boxed W4 Nd 25 (.pointer (some ⟨b, 0, none⟩)) := hF.boxed hd (fun e => by
      rcases e with rfl | rfl
      · have := hd.symm.trans hr; simp at this
      · have := hd.symm.trans ht; simp at this)
    refine ⟨b1.cell, b1.frozen, b2'.cell, b2'.frozen, W4, hW4, c2.cell, c3.cell, c4.cell, Lib.hid ⟨c1, c2, hF, ?_⟩⟩
    exact rwP.ofz2 (hq.out.1.fr _ (fun k hk => by rcases hk with rfl | rfl <;> omega) hF2)
  have c0 := hf.cell
  by_cases hT0 : T = 0
  · rw [if_pos hT0] at hop
    rw [hop]
    have FIN : Hid (∀ o c W4, Hid (Boxed W4 Nr 28 (.slice o L.length c) ∧ Boxed W4 Nt 3 (.int .i64 (T : Nat)) ∧ Fr (fun k => k = Nr ∨ k = Nt) w W4 ∧ rwP (fun k => w.heap.size ≤ k ∧ k < W4.heap.size) fit W4 L (.slice o L.length c)) → Hid (∃ o c v', Boxed W4 Nr 28 (.slice o L.length c) ∧ Boxed W4 Nt 3 (.int .i64 (T : Nat)) ∧ Dk 52 base b s v' W4 ∧ (v'.ownBlock = v.ownBlock ∨ ∀ k, v'.ownBlock = some k → w.heap.size ≤ k) ∧ Fr (fun k => Fp b v k ∨ k = Nr ∨ k = Nt) w W4 ∧ rwP (fun k => w.heap.size ≤ k ∧ v'.ownBlock ≠ some k) fit W4 L (.slice o L.length c))) := Lib.hid fun o c W4 hq => Lib.hid (by
      obtain ⟨q1, q2, q3, q4⟩ := hq.out
      refine ⟨o, c, v, q1, q2, h.fr q3 (fun k hk e => by rcases e with rfl | rfl; exact hnf hk; exact hntf hk), .inl rfl, q3.mono (fun k _ e => .inr e), q4.imp (fun k hk => ⟨hk.1, fun e => by have := (hfp k (.inr e)).2; omega⟩)⟩)
    subst hT0
    have e0 : ((0 : Nat) : Int) = 0 := rfl
    simp only [e0] at STEP HSC FIN ⊢
    clear h hf hr ht hd hx hfit hnf hntf hfp hop hL hT hTl
    go_enter Try.func47, Try.ntmps47
    go_wp2_with (go_at_call 48; refine HSC.out.mono ?_; rintro e w2 ⟨o2, c2, rfl, hq⟩; obtain ⟨y1, y2, y3, y4, W4, hW4, z1, z2, z3, z4⟩ := STEP.out _ _ _ hq; clear hq)
    go_ret
    exact ⟨rfl, FIN.out _ _ _ z4⟩
  · rw [if_neg hT0] at hop
    obtain ⟨r, hr'⟩ : ∃ r, cutD s ((s.f.length : Int) - (T : Nat)) = r := ⟨_, rfl⟩
    rw [hr'] at hop
    rw [hop]
    have HCUT : Hid (∀ o c W4, Hid (Boxed W4 Nr 28 (.slice o L.length c) ∧ Boxed W4 Nt 3 (.int .i64 (T : Nat)) ∧ Fr (fun k => k = Nr ∨ k = Nt) w W4 ∧ rwP (fun k => w.heap.size ≤ k ∧ k < W4.heap.size) fit W4 L (.slice o L.length c)) →
        Calls Try.prog 49 #[.pointer (some ⟨b, 0, none⟩), .int .i64 ((s.f.length : Int) - (T : Int))] W4 fun e w' => e = .returned (.int .i64 r.1) ∧ Hid (∃ o c v', Boxed w' Nr 28 (.slice o L.length c) ∧ Boxed w' Nt 3 (.int .i64 (T : Nat)) ∧ Dk 52 base b r.2 v' w' ∧ (v'.ownBlock = v.ownBlock ∨ ∀ k, v'.ownBlock = some k → w.heap.size ≤ k) ∧ Fr (fun k => Fp b v k ∨ k = Nr ∨ k = Nt) w w' ∧ rwP (fun k => w.heap.size ≤ k ∧ v'.ownBlock ≠ some k) fit w' L (.slice o L.length c))) := Lib.hid fun o c W4 hq => by
      obtain ⟨q1, q2, q3, q4⟩ := hq.out
      have h4 := h.fr q3 (fun k hk e => by rcases e with rfl | rfl; exact hnf hk; exact hntf hk)
      have := cut_any ((s.f.length : Int) - (T : Nat)) W4 h4
      rw [hr'] at this
      refine this.mono ?_
      rintro e w' ⟨rfl, v', k1, k2, k3⟩
      refine ⟨rfl, Lib.hid ⟨o, c, v', k3.boxed q1 hnf, k3.boxed q2 hntf, k1, k2.imp id (fun h k hk => Nat.le_trans q3.size (h k hk)), (q3.mono (fun k _ e => .inr e)).trans (k3.mono (fun k _ e => .inl e)), (q4.fr k3 (fun k hk e => by have := (hfp k e).2; omega)).imp (fun k hk => ⟨hk.1, fun e => ?_⟩)⟩⟩
      rcases k2 with e2 | e2
      · rw [e2] at e
        have := (hfp k (.inr e)).2
        omega
      · have := e2 k e
        omega
    have tz : ((T : Int) == 0) = false := by rw [beq_eq_false_iff_ne]; omega
    have hw : IntKind.i64.wrap ((s.f.length : Int) - (T : Int)) = (s.f.length : Int) - (T : Int) := by go_unwrap
    clear h hf hr ht hd hx hfit hnf hntf hfp hop hL hT hTl
    go_enter Try.func47, Try.ntmps47
    go_wp2_with first
      | (go_at_call 48; refine HSC.out.mono ?_; rintro e w2 ⟨o2, c2, rfl, hq⟩; obtain ⟨y1, y2, y3, y4, W4, hW4, z1, z2, z3, z4⟩ := STEP.out _ _ _ hq; clear hq)
      | (go_at_call 49; go_loud (refine (HCUT.out _ _ _ z4).mono ?_); rintro e w3 ⟨rfl, HQ⟩)
    go_ret
    exact ⟨rfl, HQ⟩
end Go.Proofs.Ytbjdbphnccdpbaa
