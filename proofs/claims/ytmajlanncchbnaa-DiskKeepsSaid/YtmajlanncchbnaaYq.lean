/-
  A disk and the reference's, side by side: alike, does.
-/
import Derived.Test.YtmajlanncchbnaaYo
set_option linter.unusedVariables false
namespace Go.Proofs.Ytmajlanncchbnaa
open Go.RowKit Go.Shelf Go.Lib Go.Deep

/-- A disk in block bp and the reference's in block br, apart from one another and from all that lay there at first. -/
def J (W0 : World) (bp br : Nat) (sp sr : DS) (vp vr : Value) (W : World) : Prop :=
  Dk 44 W0.heap.size bp sp vp W ∧ Dk 46 W0.heap.size br sr vr W ∧ (∀ k, vp.ownBlock = some k → vr.ownBlock ≠ some k) ∧ Below W0.heap.size W0 W
def FP (bp br : Nat) (vp vr : Value) (k : Nat) : Prop := Fp bp vp k ∨ Fp br vr k
theorem dk_apart {t t' : TypeId} {base b b' : Nat} {s s' : DS} {v v' : Value} {W : World} (h : Dk t base b s v W) (h' : Dk t' base b' s' v' W) (hb : b ≠ b') (ho : ∀ k, v.ownBlock = some k → v'.ownBlock ≠ some k) : ∀ k, Fp b v k → ¬ Fp b' v' k := by
  obtain ⟨_, _, ht, ⟨x, hx, _⟩, hw⟩ := h
  obtain ⟨_, _, ht', ⟨x', hx', _⟩, hw'⟩ := h'
  rintro k (rfl | hk) (rfl | hk')
  · exact hb rfl
  · obtain ⟨_, _, cur, hc⟩ := hw'.lt _ hk'
    rw [hx] at hc
    cases hc
    exact ht rfl
  · obtain ⟨_, _, cur, hc⟩ := hw.lt _ hk
    rw [hx'] at hc
    cases hc
    exact ht' rfl
  · exact ho k hk hk'
theorem dk_ne {t t' : TypeId} {base b b' : Nat} {s s' : DS} {v v' : Value} {W : World} (h : Dk t base b s v W) (h' : Dk t' base b' s' v' W) (ht : t ≠ t') : b ≠ b' := by
  rintro rfl
  obtain ⟨_, _, _, ⟨x, hx, _⟩, _⟩ := h
  obtain ⟨_, _, _, ⟨x', hx', _⟩, _⟩ := h'
  have := Option.some.inj (hx.symm.trans hx')
  simp only [Obj.cells.injEq] at this
  exact ht this.2.1
theorem J.apart {W0 : World} {bp br : Nat} {sp sr : DS} {vp vr : Value} {W : World} (h : J W0 bp br sp sr vp vr W) : ∀ k, Fp bp vp k → ¬ Fp br vr k :=
  dk_apart h.1 h.2.1 (dk_ne h.1 h.2.1 (by decide)) h.2.2.1
theorem J.low {W0 : World} {bp br : Nat} {sp sr : DS} {vp vr : Value} {W : World} (h : J W0 bp br sp sr vp vr W) : ∀ k, FP bp br vp vr k → W0.heap.size ≤ k ∧ k < W.heap.size := by
  rintro k (hk | hk)
  · exact h.1.fp k hk
  · exact h.2.1.fp k hk
theorem J.below {W0 : World} {bp br : Nat} {sp sr : DS} {vp vr : Value} {W W' : World} (h : J W0 bp br sp sr vp vr W) (hb : Below W.heap.size W W') : J W0 bp br sp sr vp vr W' :=
  ⟨h.1.below hb, h.2.1.below hb, h.2.2.1, h.2.2.2.trans (hb.mono h.2.2.2.size)⟩
theorem J.fr {W0 : World} {bp br : Nat} {sp sr : DS} {vp vr : Value} {W W' : World} {B : Nat → Prop} (h : J W0 bp br sp sr vp vr W) (hF : Fr B W W') (hd : ∀ k, FP bp br vp vr k → ¬ B k) (hl : ∀ k, B k → W0.heap.size ≤ k) : J W0 bp br sp sr vp vr W' :=
  ⟨h.1.fr hF fun k hk => hd k (.inl hk), h.2.1.fr hF fun k hk => hd k (.inr hk), h.2.2.1, h.2.2.2.trans (hF.below hl h.2.2.2.size)⟩
/-- Behind a deed of both or of one: the world, as far as the two go, and where they lie now. -/
def JE (W0 : World) (bp br : Nat) (P : Nat → Prop) (W : World) (sp sr : DS) (w' : World) : Prop :=
  ∃ vp vr, J W0 bp br sp sr vp vr w' ∧ Fr P W w' ∧ ∀ k, FP bp br vp vr k → P k ∨ W.heap.size ≤ k
theorem J.e {W0 : World} {bp br : Nat} {sp sr : DS} {vp vr : Value} {W W' : World} (h : J W0 bp br sp sr vp vr W) (hb : Below W.heap.size W W') : JE W0 bp br (FP bp br vp vr) W sp sr W' :=
  ⟨vp, vr, h.below hb, Fr.of_below hb, fun k hk => .inl hk⟩
theorem JE.below {W0 : World} {bp br : Nat} {P : Nat → Prop} {sp sr : DS} {W W' W2 : World} (h : JE W0 bp br P W sp sr W') (hb : Below W'.heap.size W' W2) : JE W0 bp br P W sp sr W2 := by
  obtain ⟨vp, vr, h1, h2, h3⟩ := h
  exact ⟨vp, vr, h1.below hb, h2.trans (Fr.of_below hb), h3⟩
theorem JE.from {W0 : World} {bp br : Nat} {P : Nat → Prop} {sp sr : DS} {W W1 W' : World} (h : JE W0 bp br P W1 sp sr W') (hb : Below W.heap.size W W1) : JE W0 bp br P W sp sr W' := by
  obtain ⟨vp, vr, h1, h2, h3⟩ := h
  exact ⟨vp, vr, h1, (Fr.of_below hb).trans h2, fun k hk => (h3 k hk).imp id (Nat.le_trans hb.size)⟩
theorem Fr.step {P Q : Nat → Prop} {W w1 w2 : World} (h : Fr P W w1) (h3 : Fr Q w1 w2) (hQ : ∀ k, Q k → P k ∨ W.heap.size ≤ k) : Fr P W w2 :=
  ⟨⟨h3.1.1.trans h.1.1, h3.1.2.1.trans h.1.2.1, h3.1.2.2.1.trans h.1.2.2.1, Nat.le_trans h.1.2.2.2 h3.1.2.2.2⟩, fun k o hk hP => h3.2 k o (h.2 k o hk hP) fun hq => by
    have hl := (Array.getElem?_eq_some_iff.1 hk).1
    rcases hQ k hq with h1 | h1
    · exact hP h1
    · omega⟩
theorem JE.p {W0 : World} {bp br : Nat} {P : Nat → Prop} {sp sr : DS} {W w1 w2 : World} {vp vr : Value} {r : Int × DS} {e : Ending} (h : J W0 bp br sp sr vp vr w1) (hF : Fr P W w1) (hP : ∀ k, FP bp br vp vr k → P k ∨ W.heap.size ≤ k)
    (hq : DQ 44 W0.heap.size bp vp w1 r e w2) : e = .returned (.int .i64 r.1) ∧ JE W0 bp br P W r.2 sr w2 := by
  obtain ⟨he, v', h1, h2, h3⟩ := hq
  refine ⟨he, v', vr, ⟨h1, h.2.1.fr h3 (fun k hk hk2 => h.apart k hk2 hk), fun k hk hk2 => ?_, h.2.2.2.trans (h3.below (fun k hk => (h.low k (.inl hk)).1) h.2.2.2.size)⟩, hF.step h3 (fun k hk => hP k (.inl hk)), fun k hk => ?_⟩
  · rcases h2 with e2 | e2
    · exact h.2.2.1 k (e2 ▸ hk) hk2
    · have := e2 k hk
      have := (h.low k (.inr (.inr hk2))).2
      omega
  · rcases hk with (rfl | hk) | hk
    · exact hP _ (.inl (.inl rfl))
    · rcases h2 with e2 | e2
      · exact hP k (.inl (.inr (e2 ▸ hk)))
      · exact .inr (Nat.le_trans hF.size (e2 k hk))
    · exact hP k (.inr hk)
theorem JE.r {W0 : World} {bp br : Nat} {P : Nat → Prop} {sp sr : DS} {W w1 w2 : World} {vp vr : Value} {r : Int × DS} {e : Ending} (h : J W0 bp br sp sr vp vr w1) (hF : Fr P W w1) (hP : ∀ k, FP bp br vp vr k → P k ∨ W.heap.size ≤ k)
    (hq : DQ 46 W0.heap.size br vr w1 r e w2) : e = .returned (.int .i64 r.1) ∧ JE W0 bp br P W sp r.2 w2 := by
  obtain ⟨he, v', h1, h2, h3⟩ := hq
  refine ⟨he, vp, v', ⟨h.1.fr h3 (fun k hk hk2 => h.apart k hk hk2), h1, fun k hk hk2 => ?_, h.2.2.2.trans (h3.below (fun k hk => (h.low k (.inr hk)).1) h.2.2.2.size)⟩, hF.step h3 (fun k hk => hP k (.inr hk)), fun k hk => ?_⟩
  · rcases h2 with e2 | e2
    · exact h.2.2.1 k hk (e2 ▸ hk2)
    · have := e2 k hk2
      have := (h.low k (.inl (.inr hk))).2
      omega
  · rcases hk with hk | (rfl | hk)
    · exact hP k (.inl hk)
    · exact hP _ (.inr (.inl rfl))
    · rcases h2 with e2 | e2
      · exact hP k (.inr (.inr (e2 ▸ hk)))
      · exact .inr (Nat.le_trans hF.size (e2 k hk))

/-- A deed on both. -/
theorem pair_op {W0 : World} {bp br : Nat} {s : DS} {vp vr : Value} {W : World} (f g : Nat) (ap ar : Array Value) (step : DS → Int × DS) (h : J W0 bp br s s vp vr W)
    (hp : ∀ w1 v, Dk 44 W0.heap.size bp s v w1 → Below W0.heap.size W0 w1 → Calls Try.prog f ap w1 (DQ 44 W0.heap.size bp v w1 (step s)))
    (hr : ∀ w1 v, Dk 46 W0.heap.size br s v w1 → Below W0.heap.size W0 w1 → Calls Try.prog g ar w1 (DQ 46 W0.heap.size br v w1 (step s))) :
    Hid (∀ w1, Below W.heap.size W w1 → Calls Try.prog f ap w1 fun e w' => e = .returned (.int .i64 (step s).1) ∧ Hid (JE W0 bp br (FP bp br vp vr) W (step s).2 s w')) ∧
    Hid (∀ w2, Hid (JE W0 bp br (FP bp br vp vr) W (step s).2 s w2) → Calls Try.prog g ar w2 fun e w' => e = .returned (.int .i64 (step s).1) ∧ Hid (JE W0 bp br (FP bp br vp vr) W (step s).2 (step s).2 w')) := by
  refine ⟨Lib.hid fun w1 hb => ?_, Lib.hid fun w2 hj => ?_⟩
  · have h1 := h.below hb
    refine (hp w1 vp h1.1 h1.2.2.2).mono fun e w' hq => ?_
    obtain ⟨e1, e2⟩ := JE.p h1 (Fr.of_below hb) (fun k hk => .inl hk) hq
    exact ⟨e1, Lib.hid e2⟩
  · obtain ⟨vp', vr', h1, h2, h3⟩ := hj.out
    refine (hr w2 vr' h1.2.1 h1.2.2.2).mono fun e w' hq => ?_
    obtain ⟨e1, e2⟩ := JE.r h1 h2 h3 hq
    exact ⟨e1, Lib.hid e2⟩

set_option maxRecDepth 100000 in
set_option maxHeartbeats 4000000 in
theorem alike_any {W0 : World} {bp br : Nat} {s : DS} {vp vr : Value} (W : World) (h : J W0 bp br s s vp vr W) :
    Calls Try.prog 12 #[.pointer (some ⟨bp, 0, none⟩), .pointer (some ⟨br, 0, none⟩)] W fun e w' => e = .returned (.bool true) ∧ Hid (Below W.heap.size W w') := by
  have HC := Lib.hid (bytes_any W h.1)
  have HC2 : Hid (∀ w2, Below W.heap.size W w2 → Calls Try.prog 25 #[.pointer (some ⟨br, 0, none⟩)] w2 fun e w' => ∃ o c, e = .returned (.tuple #[.slice o (byD s).length c, .int .i64 (beD s)]) ∧ Hid (rd w' (byD s) (.slice o (byD s).length c) ∧ Below w2.heap.size w2 w')) := Lib.hid fun w2 hb => rbytes_any w2 (h.2.1.below hb)
  have HD : Hid (∀ w2, Below W.heap.size W w2 → Calls Try.prog 21 #[.pointer (some ⟨bp, 0, none⟩)] w2 (fun e w' => e = .returned (.bool s.dn) ∧ w2 = w') ∧ Calls Try.prog 26 #[.pointer (some ⟨br, 0, none⟩)] w2 (fun e w' => e = .returned (.bool s.dn) ∧ w2 = w') ∧
      Calls Try.prog 22 #[.pointer (some ⟨bp, 0, none⟩)] w2 (fun e w' => e = .returned (.int .i64 s.f.length) ∧ w2 = w') ∧ Calls Try.prog 27 #[.pointer (some ⟨br, 0, none⟩)] w2 (fun e w' => e = .returned (.int .i64 s.f.length) ∧ w2 = w')) :=
    Lib.hid fun w2 hb => ⟨down_any w2 (h.1.below hb), rdown_any w2 (h.2.1.below hb), len_any w2 (h.1.below hb), rlen_any w2 (h.2.1.below hb)⟩
  clear h
  go_enter Try.func12, Try.ntmps12
  go_wp2_with (go_at_call 16; refine HC.out.mono ?_)
  rintro e w2 ⟨o, c, rfl, hq⟩
  have HB2 := Lib.hid hq.out.2
  have HR2 := Lib.hid hq.out.1
  have HC3 := Lib.hid (HC2.out w2 HB2.out)
  clear hq HC HC2
  go_wp2_with (go_at_call 25; refine HC3.out.mono ?_)
  rintro e w3 ⟨o2, c2, rfl, hq⟩
  have HB3 := Lib.hid (HB2.out.trans (hq.out.2.mono HB2.out.size))
  have hcv1 := run_str w3 _ o _ c (HR2.out.below hq.out.2)
  have hcv2 := run_str w3 _ o2 _ c2 hq.out.1
  obtain ⟨D1, D2, D3, D4⟩ := HD.out w3 HB3.out
  have H1 := Lib.hid D1
  have H2 := Lib.hid D2
  have H3 := Lib.hid D3
  have H4 := Lib.hid D4
  clear hq HD HR2 HB2 D1 D2 D3 D4 HC3
  go_wp2_with (go_at_call 21; refine H1.out.mono ?_)
  rintro e w4 ⟨rfl, rfl⟩
  go_wp2_with (go_at_call 26; refine H2.out.mono ?_)
  rintro e w4 ⟨rfl, rfl⟩
  go_wp2_with (go_at_call 22; refine H3.out.mono ?_)
  rintro e w4 ⟨rfl, rfl⟩
  go_wp2_with (go_at_call 27; refine H4.out.mono ?_)
  rintro e w4 ⟨rfl, rfl⟩
  go_wp2_with fail
  go_ret
  exact ⟨rfl, HB3⟩
end Go.Proofs.Ytmajlanncchbnaa
