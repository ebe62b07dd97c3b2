/-
  The store's copies of properties and things. · The program's named and Get.
-/
import Derived.Test.YtdckldfekepopaaGreatDoorZ5
import Derived.Test.YtdckldfekepopaaGreatDoorZ7
set_option linter.unusedVariables false
set_option linter.unusedSimpArgs false
namespace Go.Proofs.YtdckldfekepopaaGreatDoor
open Go.RowKit Go.Shelf

def Gro (W : World) (B : Nat → Prop) (L : List G) (g cap : Nat) : Prop := ∃ f, W.rowIs g 66 (cap * 8) f ∧ ∀ i (h : i < L.length), Gfa W B L[i] f (i * 8)
theorem add0g (g j : Nat) : (⟨g, 0, none⟩ : Addr).add j = ⟨g, j, none⟩ := by
  unfold Addr.add
  by_cases h : j = 0
  · subst h; rfl
  · simp [h]
theorem Gro.gs {W : World} {B : Nat → Prop} {L : List G} {g cap : Nat} (h : Gro W B L g cap) (h1 : L.length ≤ cap) (h2 : cap ≤ maxLen) (hB : B g) : isGsa W B L (.slice (some ⟨g, 0, none⟩) L.length cap) := by
  obtain ⟨f, hr, hf⟩ := h
  refine ⟨⟨g, 0, none⟩, cap, ⟨_, rfl, h1, h2, fun _ => rfl⟩, fun _ => hB, fun i hi => ?_⟩
  obtain ⟨e0, e1, hv, hn⟩ := hf i hi
  rw [add0g]
  have c := fun k (hk : k < 8) => hr.cell (show i * 8 + k < cap * 8 by omega)
  have c0 := c 0 (by omega)
  have c1 := c 1 (by omega)
  rw [Nat.add_zero, e0] at c0
  rw [e1] at c1
  exact ⟨_, _, _, _, _, _, c0, c1, c 2 (by omega), c 3 (by omega), c 4 (by omega), c 5 (by omega), c 6 (by omega), c 7 (by omega), hv, hn⟩
theorem isGsa_nil (W : World) (B : Nat → Prop) (o : Option Addr) (cap : Nat) (h : cap ≤ maxLen) : isGsa W B [] (.slice o 0 cap) := ⟨⟨0, 0, none⟩, cap, ⟨o, rfl, Nat.zero_le _, h, fun h => absurd h (by simp)⟩, fun h => absurd h (by simp), fun i hi => absurd hi (by simp)⟩
theorem Gfa.keep {W W' : World} {B : Nat → Prop} {g : G} {f f' : Nat → Value} {p : Nat} (h : Gfa W B g f p) (hc : ∀ a c, B a.block → W.cell? a = some c → W'.cell? a = some c) (hf : ∀ k, k < 8 → f' (p + k) = f (p + k)) : Gfa W' B g f' p := by
  obtain ⟨h1, h2, h3, h4⟩ := h
  have e0 := hf 0 (by omega)
  rw [Nat.add_zero] at e0
  refine ⟨e0.trans h1, (hf 1 (by omega)).trans h2, ?_, h4⟩
  rw [hf 2 (by omega), hf 3 (by omega), hf 4 (by omega), hf 5 (by omega), hf 6 (by omega), hf 7 (by omega)]
  exact isVa_keep hc _ _ h3
/-- Six cells of a row are set; all others stay. -/
theorem store_six3 {w : World} {b n : Nat} {t : TypeId} {f : Nat → Value} (h : w.rowIs b t n f) (p : Nat) (hp : p + 5 < n) (c0 c1 c2 c3 c4 c5 : Value) :
    ∃ w1 w2 w3 w4 w5 w6 f', ((∃ u, w.cell? ⟨b, p, none⟩ = some u) ∧ w.frozen? ⟨b, p, none⟩ = false ∧ w.setCell ⟨b, p, none⟩ c0 = w1) ∧ ((∃ u, w1.cell? ⟨b, p + 1, none⟩ = some u) ∧ w1.frozen? ⟨b, p + 1, none⟩ = false ∧ w1.setCell ⟨b, p + 1, none⟩ c1 = w2) ∧ ((∃ u, w2.cell? ⟨b, p + 2, none⟩ = some u) ∧ w2.frozen? ⟨b, p + 2, none⟩ = false ∧ w2.setCell ⟨b, p + 2, none⟩ c2 = w3) ∧ ((∃ u, w3.cell? ⟨b, p + 3, none⟩ = some u) ∧ w3.frozen? ⟨b, p + 3, none⟩ = false ∧ w3.setCell ⟨b, p + 3, none⟩ c3 = w4) ∧ ((∃ u, w4.cell? ⟨b, p + 4, none⟩ = some u) ∧ w4.frozen? ⟨b, p + 4, none⟩ = false ∧ w4.setCell ⟨b, p + 4, none⟩ c4 = w5) ∧ ((∃ u, w5.cell? ⟨b, p + 5, none⟩ = some u) ∧ w5.frozen? ⟨b, p + 5, none⟩ = false ∧ w5.setCell ⟨b, p + 5, none⟩ c5 = w6) ∧
      w6.rowIs b t n f' ∧ w.grownBy w6 (some b) ∧ f' p = c0 ∧ f' (p + 1) = c1 ∧ f' (p + 2) = c2 ∧ f' (p + 3) = c3 ∧ f' (p + 4) = c4 ∧ f' (p + 5) = c5 ∧ ∀ i, i < p ∨ p + 5 < i → f' i = f i := by
  have h1 := h.set p c0
  have h2 := h1.set (p + 1) c1
  have h3 := h2.set (p + 2) c2
  have h4 := h3.set (p + 3) c3
  have h5 := h4.set (p + 4) c4
  have h6 := h5.set (p + 5) c5
  refine ⟨_, _, _, _, _, _, _, ⟨⟨_, h.cell (show p < n by omega)⟩, h.frozen _, rfl⟩, ⟨⟨_, h1.cell (show p + 1 < n by omega)⟩, h1.frozen _, rfl⟩, ⟨⟨_, h2.cell (show p + 2 < n by omega)⟩, h2.frozen _, rfl⟩, ⟨⟨_, h3.cell (show p + 3 < n by omega)⟩, h3.frozen _, rfl⟩, ⟨⟨_, h4.cell (show p + 4 < n by omega)⟩, h4.frozen _, rfl⟩, ⟨⟨_, h5.cell (show p + 5 < n by omega)⟩, h5.frozen _, rfl⟩, h6, ?_, ?_, ?_, ?_, ?_, ?_, ?_, ?_⟩
  · exact grown_trans (grown_trans (grown_trans (grown_trans (grown_trans (grown_set _ _ _ _) (grown_set _ _ _ _)) (grown_set _ _ _ _)) (grown_set _ _ _ _)) (grown_set _ _ _ _)) (grown_set _ _ _ _)
  all_goals try (simp; done)
  intro i hi
  rw [if_neg (by omega), if_neg (by omega), if_neg (by omega), if_neg (by omega), if_neg (by omega), if_neg (by omega)]

set_option maxRecDepth 100000 in
set_option maxHeartbeats 8000000 in
theorem copiedG_any (L : List G) (v : Value) (w : World) (P : Nat → Prop) (hL : fineG L) (hP : ∀ q, w.heap.size ≤ q → P q) (h : isGsa w (fun q => P q ∧ q < w.heap.size) L v) :
    Calls Tryz.prog 33 #[v] w fun e w' => ∃ v', e = .returned v' ∧ isGsa w' P L v' ∧ Below w.heap.size w w' := by
  obtain ⟨hL1, hL2⟩ := hL
  obtain ⟨a, cap, ⟨o, rfl, hc1, hc2, ho⟩, hBa, hga⟩ := h
  obtain ⟨news, hn1, hn2⟩ := isGLa_of L a hga
  have hnl := isGLa_len _ _ hn1
  have CL := Lib.hid (cloneG_any o a L.length cap ho hL1 news w hnl hn2 (isGLa_one _ _ hn1))
  have HN := Lib.hid hn1
  have HL2 := Lib.hid hL2
  have HPP := Lib.hid hP
  clear hga hn1 hn2 hnl hL2 hP hBa ho
  go_enter Tryz.func33, Tryz.ntmps33
  go_wp2_with (go_at_call 62; refine CL.out.mono ?_; rintro e w3 ⟨v3, rfl, hol, hb3⟩; obtain ⟨ol, g, capL, rfl, cl1, cl2, hrow⟩ := clone_row hol)
  have HB3 := Lib.hid hb3
  have HM : Hid (capL ≤ maxLen) := Lib.hid cl2
  unfold maxLen at cl2
  have hs3 := hb3.size
  have hstart : 0 < L.length → ol = some ⟨g, 0, none⟩ ∧ w.heap.size ≤ g ∧ g < w3.heap.size ∧ Gro w3 (fun q => P q ∧ q ≠ g) L g capL := fun h0 => by
    obtain ⟨h1, h2, h3, f, h4, h5⟩ := hrow h0
    refine ⟨h1, h2, h3, f, h4, fun i hi => ?_⟩
    obtain ⟨q1, q2, q3, q4⟩ := isGLa_get L news f HN.out h5 i hi
    exact ⟨q1, q2, isVa_mono (fun q hq => ⟨hq.1, by have := hq.2; omega⟩) _ _ (isVa_keep (fun a c _ hc => cell_below hb3 _ _ hc) _ _ q3), q4⟩
  have HST := Lib.hid hstart
  clear hstart hrow hol hb3 CL
  go_loopw [9] (fun i wr => ∃ j : Nat, j ≤ L.length ∧ i = .int .i64 j ∧ Hid (Below w.heap.size w wr ∧ w3.heap.size ≤ wr.heap.size) ∧ Hid (0 < L.length → Gro wr (fun q => P q ∧ q ≠ g) L g capL)) (fun i _ => L.length - (intOf i).toNat)
  case atStart => exact ⟨0, by omega, rfl, Lib.hid ⟨HB3.out, Nat.le_refl _⟩, Lib.hid (fun h0 => (HST.out h0).2.2.2)⟩
  case round =>
    obtain ⟨j, hj, rfl, hB, hG⟩ := hrel
    by_cases hlt : j < L.length
    · obtain ⟨rfl, hg1, hg2, _⟩ := HST.out (by omega)
      obtain ⟨f, hf1, hf2⟩ := hG.out (by omega)
      obtain ⟨h0, h1, hv, hn⟩ := hf2 j hlt
      have e0 := hf1.cell (show j * 8 < capL * 8 by omega)
      have e1 := hf1.cell (show j * 8 + 1 < capL * 8 by omega)
      have e2 := hf1.cell (show j * 8 + 2 < capL * 8 by omega)
      have e3 := hf1.cell (show j * 8 + 3 < capL * 8 by omega)
      have e4 := hf1.cell (show j * 8 + 4 < capL * 8 by omega)
      have e5 := hf1.cell (show j * 8 + 5 < capL * 8 by omega)
      have e6 := hf1.cell (show j * 8 + 6 < capL * 8 by omega)
      have e7 := hf1.cell (show j * 8 + 7 < capL * 8 by omega)
      obtain ⟨k', b', n', s', o1, m1, p1, o3, m3, p3, hag⟩ := isV_six (isV_of_a _ _ hv)
      rw [hag] at hv
      simp only [Value.agg.injEq, Array.mk.injEq, List.cons.injEq, and_true] at hag
      obtain ⟨a0, a1, a2, a3, a4, a5⟩ := hag
      rw [h0] at e0
      rw [h1] at e1
      rw [a0] at e2
      rw [a1] at e3
      rw [a2] at e4
      rw [a3] at e5
      rw [a4] at e6
      rw [a5] at e7
      have hlg := HL2.out _ (List.getElem_mem hlt)
      have CV : Hid (∀ w1, KB wr w1 → Calls Tryz.prog 63 #[.agg #[.int .i8 k', .bool b', .int .i64 n', .string s', .slice o1 m1 p1, .slice o3 m3 p3]] w1 fun e w' => ∃ v', e = .returned v' ∧ isVa w' (fun q => P q ∧ q ≠ g) L[j].v v' ∧ KB wr w') := Lib.hid fun w1 hK => (copiedV_any L[j].v _ w1 (fun q => P q ∧ q ≠ g) hlg.1 hlg.2 (fun q hq => ⟨HPP.out q (by have := hB.out.1.size; have := hK.size; omega), by have := hB.out.2; have := hK.size; omega⟩) (isVa_mono (fun q hq => ⟨hq.1, by have := hq.2; have := hK.size; omega⟩) _ _ (isVa_keep (fun a c _ hc => cell_below hK _ _ hc) _ _ (isVa_lt _ _ hv)))).mono fun e w' ⟨v', he, hv', hb'⟩ => ⟨v', he, hv', hK.trans (hb'.mono hK.size)⟩
      have HA1 : Hid (KB wr (wr.alloc (.cells #[.string L[j].nm, .bool L[j].unk, .int .i8 k', .bool b', .int .i64 n', .string s', .slice o1 m1 p1, .slice o3 m3 p3] 66))) := Lib.hid kbA
      have HF1 := Lib.hid hf1
      have HF2 := Lib.hid hf2
      have HNM := Lib.hid hn
      clear hf1 hf2 h0 h1 hv hn a0 a1 a2 a3 a4 a5 hG hlg
      generalize hGj : L[j] = G0 at *
      have HGJ := Lib.hid hGj
      clear hGj
      go_wp2_with (go_at_call 63; refine (CV.out _ HA1.out).mono ?_; rintro e w6 ⟨v6, rfl, hva, hb6⟩; obtain ⟨k6, b6, n6, s6, o6, m6, p6, o7, m7, p7, rfl⟩ := isV_six (isV_of_a _ _ hva); obtain ⟨x1, x2, x3, x4, x5, x6, f', ⟨⟨_, q1⟩, q1', q1''⟩, ⟨⟨_, q2⟩, q2', q2''⟩, ⟨⟨_, q3⟩, q3', q3''⟩, ⟨⟨_, q4⟩, q4', q4''⟩, ⟨⟨_, q5⟩, q5', q5''⟩, ⟨⟨_, q6⟩, q6', q6''⟩, hf7, hg7, u0, u1, u2, u3, u4, u5, hold⟩ := store_six3 (rowIs_grown HF1.out (grown_bel hb6) (by simp)) (j * 8 + 2) (by omega) (.int .i8 k6) (.bool b6) (.int .i64 n6) (.string s6) (.slice o6 m6 p6) (.slice o7 m7 p7))
      have HX6 := Lib.hid (And.intro hf7 (And.intro hg7 (And.intro u0 (And.intro u1 (And.intro u2 (And.intro u3 (And.intro u4 (And.intro u5 hold))))))))
      have HVA := Lib.hid hva
      have HB6 := Lib.hid hb6
      clear hf7 hg7 u0 u1 u2 u3 u4 u5 hold hva hb6
      go_roundw
      case rel =>
        obtain ⟨hf7, hg7, u0, u1, u2, u3, u4, u5, hold⟩ := HX6.out
        refine ⟨j + 1, by omega, by go_num, Lib.hid ⟨(hB.out.1.trans (HB6.out.mono hB.out.1.size)).grown hg7 (by have := hB.out.1.size; have := HB6.out.size; omega) (fun r e => by cases e; exact hg1), by have := hB.out.2; have := HB6.out.size; have := hg7.size; omega⟩, Lib.hid (fun _ => ⟨f', hf7, fun i hi => ?_⟩)⟩
        by_cases e : i = j
        · subst e
          obtain ⟨h0, h1, _, hn⟩ := HF2.out i hi
          refine ⟨(hold _ (.inl (by omega))).trans h0, (hold _ (.inl (by omega))).trans h1, ?_, hn⟩
          show isVa x6 _ L[i].v (.agg #[f' (i * 8 + 2), f' (i * 8 + 2 + 1), f' (i * 8 + 2 + 2), f' (i * 8 + 2 + 3), f' (i * 8 + 2 + 4), f' (i * 8 + 2 + 5)])
          rw [u0, u1, u2, u3, u4, u5, HGJ.out]
          exact isVa_keep (fun a c hq hc => hg7.cell hc (fun e => hq.2 (Option.some.inj e))) _ _ HVA.out
        · refine (HF2.out i hi).keep (fun a c hq hc => hg7.cell (cell_below HB6.out _ _ hc) (fun e => hq.2 (Option.some.inj e))) (fun k hk => hold _ ?_)
          by_cases e2 : i < j
          · exact .inl (by omega)
          · exact .inr (by omega)
      case measure => simp [intOf]; omega
    · obtain rfl : j = L.length := by omega
      go_wp2_with fail
      go_ret
      refine ⟨_, rfl, ?_, hB.out.1⟩
      rcases Nat.eq_zero_or_pos L.length with h0 | h0
      · obtain rfl := List.eq_nil_of_length_eq_zero h0
        exact isGsa_nil _ _ _ _ HM.out
      · obtain ⟨rfl, hg1, hg2, _⟩ := HST.out h0
        obtain ⟨f, hf1, hf2⟩ := hG.out h0
        exact Gro.gs ⟨f, hf1, fun i hi => by
          obtain ⟨r1, r2, r3, r4⟩ := hf2 i hi
          exact ⟨r1, r2, isVa_mono (fun q hq => hq.1) _ _ r3, r4⟩⟩ cl1 HM.out (HPP.out _ hg1)

/-- A thing with its properties in given blocks. -/
def isTha (W : World) (B : Nat → Prop) (t : Th) (v : Value) : Prop := ∃ pv, v = .agg #[.string t.ph, .string t.ty, pv] ∧ isGsa W B t.ps pv ∧ t.ph.size ≤ maxLen ∧ t.ty.size ≤ maxLen
theorem three_cells {W : World} {B : Nat} {c0 c1 c2 : Value} {t : TypeId} (h : W.heap[B]? = some (.cells #[c0, c1, c2] t (0, 0))) : W.cell? ⟨B, 0, none⟩ = some c0 ∧ W.cell? ⟨B, 1, none⟩ = some c1 ∧ W.cell? ⟨B, 2, none⟩ = some c2 := by
  simp [World.cell?, h]
theorem rowIs_three {w : World} {b : Nat} {c0 c1 c2 : Value} {t : TypeId} (h : w.heap[b]? = some (.cells #[c0, c1, c2] t (0, 0))) : w.rowIs b t 3 (fun i => (#[c0, c1, c2][i]?).getD undef) :=
  ⟨_, h, rfl, fun i hi => by
    match i, hi with
    | 0, _ => rfl
    | 1, _ => rfl
    | 2, _ => rfl⟩
theorem isGsa_form {W : World} {B : Nat → Prop} {L : List G} {v : Value} (h : isGsa W B L v) : ∃ o cap, v = .slice o L.length cap := by
  obtain ⟨a, cap, ⟨o, rfl, _⟩, _⟩ := h
  exact ⟨o, cap, rfl⟩
/-- Three cells of a row are set. -/
theorem store_three {w : World} {b n : Nat} {t : TypeId} {f : Nat → Value} (h : w.rowIs b t n f) (p : Nat) (hp : p + 2 < n) (c0 c1 c2 : Value) :
    ∃ w1 w2 w3 f', ((∃ u, w.cell? ⟨b, p, none⟩ = some u) ∧ w.frozen? ⟨b, p, none⟩ = false ∧ w.setCell ⟨b, p, none⟩ c0 = w1) ∧ ((∃ u, w1.cell? ⟨b, p + 1, none⟩ = some u) ∧ w1.frozen? ⟨b, p + 1, none⟩ = false ∧ w1.setCell ⟨b, p + 1, none⟩ c1 = w2) ∧ ((∃ u, w2.cell? ⟨b, p + 2, none⟩ = some u) ∧ w2.frozen? ⟨b, p + 2, none⟩ = false ∧ w2.setCell ⟨b, p + 2, none⟩ c2 = w3) ∧
      w3.rowIs b t n f' ∧ w.grownBy w3 (some b) ∧ f' p = c0 ∧ f' (p + 1) = c1 ∧ f' (p + 2) = c2 ∧ ∀ i, i < p ∨ p + 2 < i → f' i = f i := by
  have h1 := h.set p c0
  have h2 := h1.set (p + 1) c1
  have h3 := h2.set (p + 2) c2
  refine ⟨_, _, _, _, ⟨⟨_, h.cell (show p < n by omega)⟩, h.frozen _, rfl⟩, ⟨⟨_, h1.cell (show p + 1 < n by omega)⟩, h1.frozen _, rfl⟩, ⟨⟨_, h2.cell (show p + 2 < n by omega)⟩, h2.frozen _, rfl⟩, h3, ?_, ?_, ?_, ?_, ?_⟩
  · exact grown_trans (grown_trans (grown_set _ _ _ _) (grown_set _ _ _ _)) (grown_set _ _ _ _)
  all_goals try (simp; done)
  intro i hi
  rw [if_neg (by omega), if_neg (by omega), if_neg (by omega)]

theorem box_three {w : World} {b : Nat} {c0 c1 c2 : Value} {t : TypeId} (u : Value) (h : w.heap[b]? = some (.cells #[c0, c1, c2] t (0, 0))) :
    ∃ y, ((∃ u, w.cell? ⟨b, 2, none⟩ = some u) ∧ w.frozen? ⟨b, 2, none⟩ = false ∧ w.setCell ⟨b, 2, none⟩ u = y) ∧ y.heap[b]? = some (.cells #[c0, c1, u] t (0, 0)) ∧ w.grownBy y (some b) := by
  have h1 : (w.setCell ⟨b, 2, none⟩ u).heap[b]? = some (.cells #[c0, c1, u] t (0, 0)) := by simp [World.setCell, Array.getElem?_modify, h]
  have g1 := rowIs_three h
  exact ⟨_, ⟨⟨_, g1.cell (show 2 < 3 by decide)⟩, g1.frozen _, rfl⟩, h1, grown_set _ _ _ _⟩

set_option maxRecDepth 100000 in
set_option maxHeartbeats 4000000 in
theorem copiedT_any (t : Th) (v : Value) (w : World) (P : Nat → Prop) (hL : fineG t.ps) (hP : ∀ q, w.heap.size ≤ q → P q) (h : isTha w (fun q => P q ∧ q < w.heap.size) t v) :
    Calls Tryz.prog 42 #[v] w fun e w' => ∃ v', e = .returned v' ∧ isTha w' P t v' ∧ Below w.heap.size w w' := by
  obtain ⟨pv, rfl, hg, hp1, hp2⟩ := h
  obtain ⟨o, cap, rfl⟩ := isGsa_form hg
  have HB2 : Hid (KB w ((w.alloc (.cells #[.string t.ph, .string t.ty, .slice o t.ps.length cap] 52)).alloc (.cells #[.string ⟨#[]⟩, .string ⟨#[]⟩, .slice none 0 0] 52))) := Lib.hid (by unfold KB; go_grown)
  have n1 := (Below.heap_alloc (w.alloc (.cells #[.string t.ph, .string t.ty, .slice o t.ps.length cap] 52)) (.cells #[.string ⟨#[]⟩, .string ⟨#[]⟩, .slice none 0 0] 52) w.heap.size (by simp)).trans (World.alloc_heap_new w _)
  have n2 := World.alloc_heap_new (w.alloc (.cells #[.string t.ph, .string t.ty, .slice o t.ps.length cap] 52)) (.cells #[.string ⟨#[]⟩, .string ⟨#[]⟩, .slice none 0 0] 52)
  rw [World.size_alloc] at n2
  have CP := Lib.hid (copiedG_any t.ps _ ((w.alloc (.cells #[.string t.ph, .string t.ty, .slice o t.ps.length cap] 52)).alloc (.cells #[.string ⟨#[]⟩, .string ⟨#[]⟩, .slice none 0 0] 52)) (fun q => P q ∧ q ≠ w.heap.size ∧ q ≠ w.heap.size + 1) hL (fun q hq => ⟨hP q (by have := HB2.out.size; omega), by simp at hq; omega, by simp at hq; omega⟩) (isGsa_mono (fun q hq => ⟨⟨hq.1, by have := hq.2; omega, by have := hq.2; omega⟩, by have := hq.2; simp; omega⟩) (isGsa_keep (fun a c _ hc => cell_below HB2.out _ _ hc) hg)))
  have HN1 := Lib.hid n1
  have HN2 := Lib.hid n2
  have HPS := Lib.hid (And.intro hp1 hp2)
  clear n1 n2 hg hL hp1 hp2
  go_enter Tryz.func42, Tryz.ntmps42
  go_wp2_with (go_at_call 33; refine CP.out.mono ?_; rintro e w6 ⟨v6, rfl, hg6, hb6⟩; obtain ⟨o6, cap6, rfl⟩ := isGsa_form hg6; have hm1 := (hb6.block w.heap.size (by simp; omega)).trans HN1.out; have hm2 := (hb6.block (w.heap.size + 1) (by simp)).trans HN2.out; obtain ⟨y0, ⟨⟨_, s1⟩, s1', s1''⟩, hy0, hgy0⟩ := box_three (.slice o6 t.ps.length cap6) hm1; obtain ⟨m0, m1, m2⟩ := three_cells hy0; have hm2y := (hgy0.block (w.heap.size + 1) (Array.getElem?_eq_some_iff.1 hm2).1 (fun e => by have := Option.some.inj e; omega)).trans hm2; obtain ⟨x1, x2, x3, f', ⟨⟨_, q1⟩, q1', q1''⟩, ⟨⟨_, q2⟩, q2', q2''⟩, ⟨⟨_, q3⟩, q3', q3''⟩, hf7, hg7, u0, u1, u2, -⟩ := store_three (rowIs_three hm2y) 0 (by decide) (.string t.ph) (.string t.ty) (.slice o6 t.ps.length cap6); simp only [Nat.zero_add] at q2 q2' q2'' q3 q3' q3'' u1 u2)
  have d0 := hf7.cell (show 0 < 3 by decide)
  have d1 := hf7.cell (show 1 < 3 by decide)
  have d2 := hf7.cell (show 2 < 3 by decide)
  rw [u0] at d0
  rw [u1] at d1
  rw [u2] at d2
  refine bodyPost_ret (v := .agg #[.string t.ph, .string t.ty, .slice o6 t.ps.length cap6]) (by simp [results, Tryz.results42, go_sem, d0, d1, d2]) rfl ?_
  have hb7 : Below w.heap.size w x3 := ((HB2.out.trans (hb6.mono HB2.out.size)).grown hgy0 (by have := HB2.out.size; have := hb6.size; omega) (fun r e => by cases e; omega)).grown hg7 (by have := HB2.out.size; have := hb6.size; have := hgy0.size; omega) (fun r e => by cases e; omega)
  refine ⟨_, rfl, ⟨_, rfl, isGsa_mono (fun q hq => hq.1) (isGsa_keep (fun a c hq hc => hg7.cell (hgy0.cell hc (fun e => hq.2.1 (Option.some.inj e))) (fun e => hq.2.2 (Option.some.inj e))) hg6), HPS.out.1, HPS.out.2⟩, hb7⟩

/-- Things in given blocks. -/
def isTsa (W : World) (B : Nat → Prop) (L : List Th) (v : Value) : Prop := ∃ a cap, slv v L.length a cap ∧ (0 < L.length → B a.block) ∧ ∀ i (h : i < L.length), isTata W B L[i] (a.add (i * 3))
theorem isTLa_of {W : World} {B : Nat → Prop} : ∀ (l : List Th) (a : Addr), (∀ i (h : i < l.length), isTata W B l[i] (a.add (i * 3))) → ∃ xs, isTLa W B l xs ∧ ∀ j u, xs[j]? = some u → W.cell? (a.add j) = some u
  | [], a, _ => ⟨[], by unfold isTLa; rfl, fun j u h => by simp at h⟩
  | g :: t, a, h => by
    obtain ⟨xs, h1, h2⟩ := isTLa_of t (a.add 3) (fun i hi => by
      have := h (i + 1) (by simpa using hi)
      rw [show (i + 1) * 3 = 3 + i * 3 by omega, ← add_add] at this
      simpa using this)
    obtain ⟨pv, g0, g1, g2, h3, h4, h5⟩ := h 0 (by simp)
    simp only [List.getElem_cons_zero] at g0 g1 h3 h4 h5
    have hs : a.spot = none := cell_spot g0
    simp only [at_add hs, Nat.zero_mul, Nat.zero_add] at g0 g1 g2
    refine ⟨.string g.ph :: .string g.ty :: pv :: xs, by unfold isTLa; exact ⟨pv, xs, rfl, h3, h4, h5, h1⟩, fun j u hj => ?_⟩
    match j, hj with
    | 0, hj => obtain rfl := Option.some.inj hj; exact g0
    | 1, hj => obtain rfl := Option.some.inj hj; exact g1
    | 2, hj => obtain rfl := Option.some.inj hj; exact g2
    | j + 3, hj =>
      have := h2 j u (by simpa using hj)
      rwa [add_add, Nat.add_comm 3 j] at this
theorem isTLa_at {W : World} {B : Nat → Prop} : ∀ (l : List Th) (xs : List Value) (a : Addr), a.spot = none → isTLa W B l xs → (∀ j u, xs[j]? = some u → W.cell? (a.add j) = some u) → ∀ i (h : i < l.length), isTata W B l[i] (a.add (i * 3))
  | [], xs, a, hs, h, hc, i, hi => absurd hi (by simp)
  | g :: t, xs, a, hs, h, hc, i, hi => by
    unfold isTLa at h
    obtain ⟨pv, rest, rfl, hx, hn, hm, ht⟩ := h
    match i, hi with
    | 0, hi =>
      refine ⟨pv, ?_, ?_, ?_, hx, hn, hm⟩
      · exact hc 0 _ rfl
      all_goals (rw [at_add hs]; apply hc; rfl)
    | i + 1, hi =>
      have := isTLa_at t rest (a.add 3) (by simp [Addr.add]) ht (fun j u hj => by
        rw [add_add, Nat.add_comm 3 j]
        exact hc (j + 3) u (by simpa using hj)) i (by simpa using hi)
      rw [add_add, show 3 + i * 3 = (i + 1) * 3 by omega] at this
      simpa using this
theorem isTata_keep {W W' : World} {B : Nat → Prop} (hc : ∀ a c, B a.block → W.cell? a = some c → W'.cell? a = some c) {t : Th} {a : Addr} (hb : B a.block) (h : isTata W B t a) : isTata W' B t a := by
  obtain ⟨pv, g0, g1, g2, h3, h4, h5⟩ := h
  exact ⟨pv, hc _ _ hb g0, hc _ _ hb g1, hc _ _ hb g2, isGsa_keep hc h3, h4, h5⟩
theorem isTsa_keep {W W' : World} {B : Nat → Prop} (hc : ∀ a c, B a.block → W.cell? a = some c → W'.cell? a = some c) {L : List Th} {v : Value} (h : isTsa W B L v) : isTsa W' B L v := by
  obtain ⟨a, cap, h1, h2, h3⟩ := h
  exact ⟨a, cap, h1, h2, fun i hi => isTata_keep hc (by rw [add_block]; exact h2 (by omega)) (h3 i hi)⟩
theorem isTsa_mono {W : World} {B B' : Nat → Prop} (hb : ∀ q, B q → B' q) {L : List Th} {v : Value} (h : isTsa W B L v) : isTsa W B' L v := by
  obtain ⟨a, cap, h1, h2, h3⟩ := h
  refine ⟨a, cap, h1, fun h0 => hb _ (h2 h0), fun i hi => ?_⟩
  obtain ⟨pv, g0, g1, g2, h4, h5, h6⟩ := h3 i hi
  exact ⟨pv, g0, g1, g2, isGsa_mono hb h4, h5, h6⟩
theorem isTLa_len {W : World} {B : Nat → Prop} : ∀ (l : List Th) (xs : List Value), isTLa W B l xs → xs.length = l.length * 3
  | [], xs, h => by unfold isTLa at h; subst h; rfl
  | x :: t, xs, h => by
    unfold isTLa at h
    obtain ⟨pv, rest, rfl, hx, hn, hm, ht⟩ := h
    have := isTLa_len t rest ht
    simp only [List.length_cons]; omega
theorem isTLa_one {W : World} {B : Nat → Prop} : ∀ (l : List Th) (xs : List Value), isTLa W B l xs → ∀ u ∈ xs, u.oneCell' = true
  | [], xs, h, u, hu => by unfold isTLa at h; subst h; cases hu
  | x :: t, xs, h, u, hu => by
    unfold isTLa at h
    obtain ⟨pv, rest, rfl, hx, hn, hm, ht⟩ := h
    obtain ⟨o, cap, rfl⟩ := isGsa_form hx
    rcases List.mem_cons.1 hu with rfl | hu
    · rfl
    rcases List.mem_cons.1 hu with rfl | hu
    · rfl
    rcases List.mem_cons.1 hu with rfl | hu
    · rfl
    · exact isTLa_one t rest ht u hu
theorem isTs_of_a {W : World} {B : Nat → Prop} {L : List Th} {v : Value} (h : isTsa W B L v) : isTs W L v := by
  obtain ⟨a, cap, h1, _, h2⟩ := h
  refine ⟨a, cap, h1, fun i hi => ?_⟩
  obtain ⟨pv, g0, g1, g2, h3, h4, h5⟩ := h2 i hi
  exact ⟨pv, g0, g1, g2, isGs_of_a h3, h4, h5⟩
theorem isTsa_of {W : World} {L : List Th} {v : Value} (h : isTs W L v) : isTsa W (fun q => q < W.heap.size) L v := by
  obtain ⟨a, cap, h1, h2⟩ := h
  refine ⟨a, cap, h1, fun h0 => ?_, fun i hi => ?_⟩
  · obtain ⟨_, g0, _⟩ := h2 0 h0
    have := World.block_lt_of_cell? W _ g0
    rwa [add_block] at this
  · obtain ⟨pv, g0, g1, g2, h3, h4, h5⟩ := h2 i hi
    exact ⟨pv, g0, g1, g2, isGsa_of h3, h4, h5⟩
def Tro (W : World) (B : Nat → Prop) (L : List Th) (g cap : Nat) : Prop := ∃ f, W.rowIs g 52 (cap * 3) f ∧ ∀ i (h : i < L.length), Tfa W B L[i] f (i * 3)
theorem Tro.ts {W : World} {B : Nat → Prop} {L : List Th} {g cap : Nat} (h : Tro W B L g cap) (h1 : L.length ≤ cap) (h2 : cap ≤ maxLen) : isTs W L (.slice (some ⟨g, 0, none⟩) L.length cap) := by
  obtain ⟨f, hr, hf⟩ := h
  refine ⟨⟨g, 0, none⟩, cap, ⟨_, rfl, h1, h2, fun _ => rfl⟩, fun i hi => ?_⟩
  obtain ⟨e0, e1, hv, hn, hm⟩ := hf i hi
  rw [add0g]
  have c := fun k (hk : k < 3) => hr.cell (show i * 3 + k < cap * 3 by omega)
  have c0 := c 0 (by omega)
  have c1 := c 1 (by omega)
  rw [Nat.add_zero, e0] at c0
  rw [e1] at c1
  exact ⟨_, c0, c1, c 2 (by omega), isGs_of_a hv, hn, hm⟩
/-- A row of things of the call's own. -/
def Trow (w0 W : World) (P : Nat → Prop) (L : List Th) (v : Value) : Prop := ∃ ol g cap, v = .slice ol L.length cap ∧ L.length ≤ cap ∧ cap ≤ maxLen ∧ (0 < L.length → ol = some ⟨g, 0, none⟩ ∧ w0.heap.size ≤ g ∧ g < W.heap.size ∧ Tro W (fun q => P q ∧ q ≠ g) L g cap)
theorem Trow.ts {w0 W : World} {P : Nat → Prop} {L : List Th} {v : Value} (h : Trow w0 W P L v) : isTs W L v := by
  obtain ⟨ol, g, cap, rfl, h1, h2, h3⟩ := h
  rcases Nat.eq_zero_or_pos L.length with h0 | h0
  · obtain rfl := List.eq_nil_of_length_eq_zero h0
    exact ⟨⟨0, 0, none⟩, cap, ⟨ol, rfl, Nat.zero_le _, h2, fun h => absurd h (by simp)⟩, fun i hi => absurd hi (by simp)⟩
  · obtain ⟨rfl, _, _, h4⟩ := h3 h0
    exact h4.ts h1 h2
theorem Tfa.keep {W W' : World} {B : Nat → Prop} {t : Th} {f f' : Nat → Value} {p : Nat} (h : Tfa W B t f p) (hc : ∀ a c, B a.block → W.cell? a = some c → W'.cell? a = some c) (hf : ∀ k, k < 3 → f' (p + k) = f (p + k)) : Tfa W' B t f' p := by
  obtain ⟨h1, h2, h3, h4, h5⟩ := h
  have e0 := hf 0 (by omega)
  rw [Nat.add_zero] at e0
  refine ⟨e0.trans h1, (hf 1 (by omega)).trans h2, ?_, h4, h5⟩
  rw [hf 2 (by omega)]
  exact isGsa_keep hc h3
theorem Tro.keep {W W' : World} {B : Nat → Prop} {L : List Th} {g cap : Nat} (h : Tro W B L g cap) (hc : ∀ a c, B a.block → W.cell? a = some c → W'.cell? a = some c) (hg : W'.heap[g]? = W.heap[g]?) : Tro W' B L g cap := by
  obtain ⟨f, h1, h2⟩ := h
  exact ⟨f, h1.of_block hg, fun i hi => (h2 i hi).keep hc (fun _ _ => rfl)⟩
/-- A write elsewhere. -/
theorem Trow.grown {w0 W y : World} {P : Nat → Prop} {L : List Th} {v : Value} {r : Nat} (h : Trow w0 W P L v) (hg : W.grownBy y (some r)) (hP : ∀ q, P q → q ≠ r) (hr : r < w0.heap.size) : Trow w0 y P L v := by
  obtain ⟨ol, g, cap, e, h1, h2, h3⟩ := h
  refine ⟨ol, g, cap, e, h1, h2, fun h0 => ?_⟩
  obtain ⟨k1, k2, k3, k4⟩ := h3 h0
  exact ⟨k1, k2, Nat.lt_of_lt_of_le k3 hg.size, k4.keep (fun a c hq hc => hg.cell hc (fun e => hP _ hq.1 (Option.some.inj e))) (hg.block g k3 (fun e => by have := Option.some.inj e; omega))⟩
theorem Trow.below {w0 W y : World} {P : Nat → Prop} {L : List Th} {v : Value} (h : Trow w0 W P L v) (hb : Below W.heap.size W y) : Trow w0 y P L v := by
  obtain ⟨ol, g, cap, e, h1, h2, h3⟩ := h
  refine ⟨ol, g, cap, e, h1, h2, fun h0 => ?_⟩
  obtain ⟨k1, k2, k3, k4⟩ := h3 h0
  exact ⟨k1, k2, Nat.lt_of_lt_of_le k3 hb.size, k4.keep (fun a c hq hc => cell_below hb _ _ hc) (hb.block g k3)⟩
theorem isGsa_lt {W : World} {B : Nat → Prop} {L : List G} {v : Value} (h : isGsa W B L v) : isGsa W (fun q => B q ∧ q < W.heap.size) L v := by
  obtain ⟨a, cap, h1, h2, h3⟩ := h
  refine ⟨a, cap, h1, fun h0 => ⟨h2 h0, ?_⟩, fun i hi => ?_⟩
  · obtain ⟨_, _, _, _, _, _, g0, _⟩ := h3 0 h0
    have := World.block_lt_of_cell? W _ g0
    rwa [add_block] at this
  · obtain ⟨c0, c1, c2, c3, c4, c5, g0, g1, g2, g3, g4, g5, g6, g7, hv, hn⟩ := h3 i hi
    exact ⟨c0, c1, c2, c3, c4, c5, g0, g1, g2, g3, g4, g5, g6, g7, isVa_lt _ _ hv, hn⟩

set_option maxRecDepth 100000 in
set_option maxHeartbeats 8000000 in
theorem copiedTs_any (L : List Th) (v : Value) (w : World) (P : Nat → Prop) (hl : L.length ≤ 1000000) (hL : ∀ t ∈ L, fineG t.ps) (hP : ∀ q, w.heap.size ≤ q → P q) (h : isTsa w (fun q => P q ∧ q < w.heap.size) L v) :
    Calls Tryz.prog 26 #[v] w fun e w' => ∃ v', e = .returned v' ∧ Trow w w' P L v' ∧ Below w.heap.size w w' := by
  obtain ⟨a, cap, ⟨o, rfl, hc1, hc2, ho⟩, hBa, hat⟩ := h
  obtain ⟨news, hn1, hn2⟩ := isTLa_of L a hat
  have HPP := Lib.hid hP
  have hnl := isTLa_len _ _ hn1
  have CL := Lib.hid (cloneT_any o a L.length cap ho hl news w hnl hn2 (isTLa_one _ _ hn1))
  have HN := Lib.hid hn1
  have HL := Lib.hid hL
  clear hn1 hn2 hnl hL hBa ho hat hP
  go_enter Tryz.func26, Tryz.ntmps26
  go_wp2_with (go_at_call 51; refine CL.out.mono ?_; rintro e w3 ⟨v3, rfl, hol, hb3⟩; obtain ⟨ol, g, capL, rfl, cl1, cl2, hrow⟩ := clone_row hol)
  have HB3 := Lib.hid hb3
  have HM : Hid (capL ≤ maxLen) := Lib.hid cl2
  unfold maxLen at cl2
  have hs3 := hb3.size
  have hstart : 0 < L.length → ol = some ⟨g, 0, none⟩ ∧ w.heap.size ≤ g ∧ g < w3.heap.size ∧ Tro w3 (fun q => P q ∧ q ≠ g) L g capL := fun h0 => by
    obtain ⟨h1, h2, h3, f, h4, h5⟩ := hrow h0
    refine ⟨h1, h2, h3, f, h4, fun i hi => ?_⟩
    obtain ⟨q1, q2, q3, q4, q5⟩ := isTLa_get L news f HN.out h5 i hi
    exact ⟨q1, q2, isGsa_mono (fun q hq => ⟨hq.1, by have := hq.2; omega⟩) (isGsa_keep (fun a c _ hc => cell_below hb3 _ _ hc) q3), q4, q5⟩
  have HST := Lib.hid hstart
  clear hstart hrow hol hb3 CL
  go_loopw [9] (fun i wr => ∃ j : Nat, j ≤ L.length ∧ i = .int .i64 j ∧ Hid (Below w.heap.size w wr ∧ w3.heap.size ≤ wr.heap.size) ∧ Hid (0 < L.length → Tro wr (fun q => P q ∧ q ≠ g) L g capL)) (fun i _ => L.length - (intOf i).toNat)
  case atStart => exact ⟨0, by omega, rfl, Lib.hid ⟨HB3.out, Nat.le_refl _⟩, Lib.hid (fun h0 => (HST.out h0).2.2.2)⟩
  case round =>
    obtain ⟨j, hj, rfl, hB, hG⟩ := hrel
    by_cases hlt : j < L.length
    · obtain ⟨rfl, hg1, hg2, _⟩ := HST.out (by omega)
      obtain ⟨f, hf1, hf2⟩ := hG.out (by omega)
      obtain ⟨h0, h1, hv, hn, hm⟩ := hf2 j hlt
      have e0 := hf1.cell (show j * 3 < capL * 3 by omega)
      have e1 := hf1.cell (show j * 3 + 1 < capL * 3 by omega)
      have e2 := hf1.cell (show j * 3 + 2 < capL * 3 by omega)
      obtain ⟨o1, p1, hag⟩ := isGsa_form hv
      rw [hag] at hv
      rw [h0] at e0
      rw [h1] at e1
      rw [hag] at e2
      have hlg := HL.out _ (List.getElem_mem hlt)
      have CV : Hid (∀ w1, KB wr w1 → Calls Tryz.prog 42 #[.agg #[.string L[j].ph, .string L[j].ty, .slice o1 L[j].ps.length p1]] w1 fun e w' => ∃ v', e = .returned v' ∧ isTha w' (fun q => P q ∧ q ≠ g) L[j] v' ∧ KB wr w') := Lib.hid fun w1 hK => (copiedT_any L[j] _ w1 (fun q => P q ∧ q ≠ g) hlg (fun q hq => ⟨HPP.out q (by have := hB.out.1.size; have := hK.size; omega), by have := hB.out.2; have := hK.size; omega⟩) ⟨_, rfl, isGsa_mono (fun q hq => ⟨hq.1, by have := hq.2; have := hK.size; omega⟩) (isGsa_keep (fun a c _ hc => cell_below hK _ _ hc) (isGsa_lt hv)), hn, hm⟩).mono fun e w' ⟨v', he, hv', hb'⟩ => ⟨v', he, hv', hK.trans (hb'.mono hK.size)⟩
      have HA1 : Hid (KB wr (wr.alloc (.cells #[.string L[j].ph, .string L[j].ty, .slice o1 L[j].ps.length p1] 52))) := Lib.hid kbA
      have HF1 := Lib.hid hf1
      have HF2 := Lib.hid hf2
      clear hf1 hf2 h0 h1 hv hn hm hag hG hlg
      generalize hGj : L[j] = T0 at *
      have HGJ := Lib.hid hGj
      clear hGj
      go_wp2_with (go_at_call 42; refine (CV.out _ HA1.out).mono ?_; rintro e w6 ⟨v6, rfl, ⟨pv6, rfl, hva, hva1, hva2⟩, hb6⟩; obtain ⟨o6, cap6, rfl⟩ := isGsa_form hva; obtain ⟨x1, x2, x3, f', ⟨⟨_, q1⟩, q1', q1''⟩, ⟨⟨_, q2⟩, q2', q2''⟩, ⟨⟨_, q3⟩, q3', q3''⟩, hf7, hg7, u0, u1, u2, hold⟩ := store_three (rowIs_grown HF1.out (grown_bel hb6) (by simp)) (j * 3) (by omega) (.string T0.ph) (.string T0.ty) (.slice o6 T0.ps.length cap6))
      have HX6 := Lib.hid (And.intro hf7 (And.intro hg7 (And.intro u0 (And.intro u1 (And.intro u2 hold)))))
      have HVA := Lib.hid (And.intro hva (And.intro hva1 hva2))
      have HB6 := Lib.hid hb6
      clear hf7 hg7 u0 u1 u2 hold hva hva1 hva2 hb6
      go_roundw
      case rel =>
        obtain ⟨hf7, hg7, u0, u1, u2, hold⟩ := HX6.out
        refine ⟨j + 1, by omega, by go_num, Lib.hid ⟨(hB.out.1.trans (HB6.out.mono hB.out.1.size)).grown hg7 (by have := hB.out.1.size; have := HB6.out.size; omega) (fun r e => by cases e; exact hg1), by have := hB.out.2; have := HB6.out.size; have := hg7.size; omega⟩, Lib.hid (fun _ => ⟨f', hf7, fun i hi => ?_⟩)⟩
        by_cases e : i = j
        · subst e
          rw [HGJ.out]
          refine ⟨u0, u1, ?_, HVA.out.2.1, HVA.out.2.2⟩
          rw [u2]
          exact isGsa_keep (fun a c hq hc => hg7.cell hc (fun e => hq.2 (Option.some.inj e))) HVA.out.1
        · refine (HF2.out i hi).keep (fun a c hq hc => hg7.cell (cell_below HB6.out _ _ hc) (fun e => hq.2 (Option.some.inj e))) (fun k hk => hold _ ?_)
          by_cases e2 : i < j
          · exact .inl (by omega)
          · exact .inr (by omega)
      case measure => simp [intOf]; omega
    · obtain rfl : j = L.length := by omega
      go_wp2_with fail
      go_ret
      exact ⟨_, rfl, ⟨ol, g, capL, rfl, cl1, HM.out, fun h0 => by
        obtain ⟨h1, h2, h3, _⟩ := HST.out h0
        exact ⟨h1, h2, by have := hB.out.2; omega, hG.out h0⟩⟩, hB.out.1⟩
end Go.Proofs.YtdckldfekepopaaGreatDoor

namespace Go.Proofs.YtdckldfekepopaaGreatDoor
open Go.RowKit

noncomputable def namedL (s : St) (p : ByteArray) : Int × Int := if checkS s = 0 then (match idxT s.l p with | some j => ((j : Int), 0) | none => (0, 4)) else (0, checkS s)
set_option maxRecDepth 100000 in
set_option maxHeartbeats 4000000 in
theorem named_any (s : St) (p : ByteArray) (v : Value) (w : World) (hE : Env9 w) (hF : fineS s) (h : isS w s v) :
    Calls Tryz.prog 31 #[v, .string p] w fun e w' => e = .returned (.tuple #[.int .i64 (namedL s p).1, .int .i64 (namedL s p).2]) ∧ Below w.heap.size w w' := by
  obtain ⟨o, cap, rfl, hts, hm⟩ := isS_two h
  have HB0 : Hid (KB w (w.alloc (.cells #[.slice o s.l.length cap, .int .i64 s.made] 24))) := Lib.hid kbA
  have HC := Lib.hid (Check10_any s _ _ (hE.kb HB0.out) hF (isS_below HB0.out h))
  have HP : Hid (∀ w1, KB w w1 → Calls Tryz.prog 41 #[.agg #[.slice o s.l.length cap, .int .i64 s.made], .string p] w1 fun e w' => e = .returned (.tuple #[.int .i64 ((idxT s.l p).getD 0 : Nat), .bool (idxT s.l p).isSome]) ∧ KB w w') := Lib.hid fun w1 hK => Calls.kb hK (place_any s p _ w1 (by have := hF.1; omega) (isS_below hK h))
  unfold namedL
  generalize checkS s = C at *
  generalize idxT s.l p = I at *
  clear h hts hE hF hm
  generalize s.l.length = n at *
  generalize s.made = md at *
  have hbx := World.alloc_heap_new w (.cells #[.slice o n cap, .int .i64 md] 24)
  by_cases hC : C = 0
  · subst hC
    rw [if_pos rfl]
    cases I with
    | none =>
      go_enter Tryz.func31, Tryz.ntmps31
      go_wp2_with (first
        | (go_at_call 20; refine HC.out.mono ?_; rintro e w5 ⟨rfl, hb5⟩; have b0 : w5.cell? ⟨w.heap.size, 0, none⟩ = some (.slice o n cap) := cell_below hb5 _ _ (by simp); have b1 : w5.cell? ⟨w.heap.size, 1, none⟩ = some (.int .i64 md) := cell_below hb5 _ _ (by simp))
        | (go_at_call 41; refine (HP.out _ (HB0.out.trans (hb5.mono HB0.out.size))).mono ?_; rintro e w6 ⟨rfl, hb6⟩))
      go_ret2
      exact ⟨rfl, hb6⟩
    | some j =>
      go_enter Tryz.func31, Tryz.ntmps31
      go_wp2_with (first
        | (go_at_call 20; refine HC.out.mono ?_; rintro e w5 ⟨rfl, hb5⟩; have b0 : w5.cell? ⟨w.heap.size, 0, none⟩ = some (.slice o n cap) := cell_below hb5 _ _ (by simp); have b1 : w5.cell? ⟨w.heap.size, 1, none⟩ = some (.int .i64 md) := cell_below hb5 _ _ (by simp))
        | (go_at_call 41; refine (HP.out _ (HB0.out.trans (hb5.mono HB0.out.size))).mono ?_; rintro e w6 ⟨rfl, hb6⟩))
      go_ret2
      exact ⟨rfl, hb6⟩
  · rw [if_neg hC]
    have z1 : (C == 0) = false := beqI hC
    have z2 : (C != 0) = true := bne_iff_ne.2 hC
    clear hC
    go_enter Tryz.func31, Tryz.ntmps31
    go_wp2_with (go_at_call 20; refine HC.out.mono ?_; rintro e w5 ⟨rfl, hb5⟩)
    go_ret2
    exact ⟨rfl, HB0.out.trans (hb5.mono HB0.out.size)⟩

def getT (s : St) (p : ByteArray) : Th × Bool := match idxT s.l p with | some j => (s.l.getD j zTh, true) | none => (zTh, false)
theorem isTh_zero (W : World) : isTh W zTh (.agg #[.string ⟨#[]⟩, .string ⟨#[]⟩, .slice none 0 0]) :=
  ⟨_, rfl, ⟨⟨0, 0, none⟩, 0, ⟨none, rfl, Nat.le_refl _, by unfold maxLen; omega, fun h => absurd h (by decide)⟩, fun i h => absurd h (by simp [zTh])⟩, by show 0 ≤ maxLen; omega, by show 0 ≤ maxLen; omega⟩
set_option maxRecDepth 100000 in
set_option maxHeartbeats 4000000 in
theorem Get10_any (s : St) (p : ByteArray) (v : Value) (w : World) (hF : fineS s) (h : isS w s v) :
    Calls Tryz.prog 19 #[v, .string p] w fun e w' => (∃ v', e = .returned (.tuple #[v', .bool (getT s p).2]) ∧ isTh w' (getT s p).1 v') ∧ Below w.heap.size w w' := by
  obtain ⟨o, cap, rfl, hts, hm⟩ := isS_two h
  have HB0 : Hid (KB w ((w.alloc (.cells #[.slice o s.l.length cap, .int .i64 s.made] 24)).alloc (.cells #[.string ⟨#[]⟩, .string ⟨#[]⟩, .slice none 0 0] 52))) := Lib.hid (by unfold KB; go_grown)
  have n1 := (Below.heap_alloc (w.alloc (.cells #[.slice o s.l.length cap, .int .i64 s.made] 24)) (.cells #[.string ⟨#[]⟩, .string ⟨#[]⟩, .slice none 0 0] 52) w.heap.size (by simp)).trans (World.alloc_heap_new w _)
  have n2 := World.alloc_heap_new (w.alloc (.cells #[.slice o s.l.length cap, .int .i64 s.made] 24)) (.cells #[.string ⟨#[]⟩, .string ⟨#[]⟩, .slice none 0 0] 52)
  rw [World.size_alloc] at n2
  have HP : Hid (∀ w1, KB w w1 → Calls Tryz.prog 41 #[.agg #[.slice o s.l.length cap, .int .i64 s.made], .string p] w1 fun e w' => e = .returned (.tuple #[.int .i64 ((idxT s.l p).getD 0 : Nat), .bool (idxT s.l p).isSome]) ∧ Below w1.heap.size w1 w') := Lib.hid fun w1 hK => place_any s p _ w1 (by have := hF.1; omega) (isS_below hK h)
  have HTS := Lib.hid hts
  have HF := Lib.hid hF
  have HN1 := Lib.hid n1
  have HN2 := Lib.hid n2
  clear h hts hF hm n1 n2
  unfold getT
  cases hI : idxT s.l p with
  | none =>
    rw [hI] at HP
    clear hI
    generalize s.l.length = n at *
    generalize s.made = md at *
    go_enter Tryz.func19, Tryz.ntmps19
    go_wp2_with (go_at_call 41; refine (HP.out _ HB0.out).mono ?_; rintro e w6 ⟨rfl, hb6⟩; have hm2 := (hb6.block (w.heap.size + 1) (by simp)).trans HN2.out; obtain ⟨x1, x2, x3, f', ⟨⟨_, q1⟩, q1', q1''⟩, ⟨⟨_, q2⟩, q2', q2''⟩, ⟨⟨_, q3⟩, q3', q3''⟩, hf7, hg7, u0, u1, u2, -⟩ := store_three (rowIs_three hm2) 0 (by decide) (.string ⟨#[]⟩) (.string ⟨#[]⟩) (.slice none 0 0); simp only [Nat.zero_add] at q2 q2' q2'' q3 q3' q3'' u1 u2)
    have d0 := hf7.cell (show 0 < 3 by decide)
    have d1 := hf7.cell (show 1 < 3 by decide)
    have d2 := hf7.cell (show 2 < 3 by decide)
    rw [u0] at d0
    rw [u1] at d1
    rw [u2] at d2
    refine bodyPost_ret (v := .tuple #[.agg #[.string ⟨#[]⟩, .string ⟨#[]⟩, .slice none 0 0], .bool false]) (by simp [results, Tryz.results19, go_sem, d0, d1, d2]) rfl ?_
    exact ⟨⟨_, rfl, isTh_zero _⟩, (HB0.out.trans (hb6.mono HB0.out.size)).grown hg7 (by have := HB0.out.size; have := hb6.size; omega) (fun r e => by cases e; omega)⟩
  | some j =>
    obtain ⟨hj, -⟩ := idxT_at hI
    rw [hI] at HP
    obtain ⟨a, cap', ⟨o', e', hc1, hc2, ho⟩, hat⟩ := HTS.out
    simp only [Value.slice.injEq, true_and] at e'
    obtain ⟨rfl, rfl⟩ := e'
    obtain rfl := ho (by omega)
    unfold maxLen at hc2
    have hl1000 := HF.out.1
    obtain ⟨o1, c1, q0, q1, q2, ht⟩ := isTat_three (hat j hj)
    have hfg := (HF.out.2 _ (List.getElem_mem hj)).2
    have CT : Hid (∀ w1, KB w w1 → w.heap.size + 1 < w1.heap.size → Calls Tryz.prog 42 #[.agg #[.string s.l[j].ph, .string s.l[j].ty, .slice o1 s.l[j].ps.length c1]] w1 fun e w' => ∃ v', e = .returned v' ∧ isTha w' (fun q => q ≠ w.heap.size + 1) s.l[j] v' ∧ Below w1.heap.size w1 w') := Lib.hid fun w1 hK hlt => by
      obtain ⟨pv, e, hg, hp1, hp2⟩ := ht
      simp only [Value.agg.injEq, Array.mk.injEq, List.cons.injEq, true_and, and_true] at e
      subst e
      exact copiedT_any _ _ w1 _ hfg (fun q hq => by omega) ⟨_, rfl, isGsa_mono (fun q (hq : q < w.heap.size) => ⟨by omega, by have := hK.size; omega⟩) (isGsa_keep (fun a c _ hc => cell_below hK _ _ hc) (isGsa_of hg)), hp1, hp2⟩
    have hgd : s.l.getD j zTh = s.l[j] := getD_t hj
    have HGD := Lib.hid hgd
    have hsl : s.l.length ≤ 1000 := hl1000
    have HQ := Lib.hid (And.intro q0 (And.intro q1 q2))
    clear hI ht hat ho hfg hgd q0 q1 q2 HTS HF hl1000
    generalize hT : s.l[j] = T at *
    clear hT
    generalize hnn : s.l.length = n at *
    generalize s.made = md at *
    go_enter Tryz.func19, Tryz.ntmps19
    go_wp2_with (first
      | (go_at_call 41; refine (HP.out _ HB0.out).mono ?_; rintro e w6 ⟨rfl, hb6⟩; obtain ⟨r0, r1⟩ := two_cells ((hb6.block w.heap.size (by simp; omega)).trans HN1.out); have q0 := cell_below (HB0.out.trans (hb6.mono HB0.out.size)) _ _ HQ.out.1; have q1 := cell_below (HB0.out.trans (hb6.mono HB0.out.size)) _ _ HQ.out.2.1; have q2 := cell_below (HB0.out.trans (hb6.mono HB0.out.size)) _ _ HQ.out.2.2)
      | (go_at_call 42; refine (CT.out _ (HB0.out.trans (hb6.mono HB0.out.size)) (by have := hb6.size; simp at this; omega)).mono ?_; rintro e w7 ⟨v7, rfl, ⟨pv7, rfl, hg7, hp1, hp2⟩, hb7⟩; obtain ⟨o7, c7, rfl⟩ := isGsa_form hg7; have hm2 := (hb7.block (w.heap.size + 1) (by have := hb6.size; simp at this; omega)).trans ((hb6.block (w.heap.size + 1) (by simp)).trans HN2.out); obtain ⟨x1, x2, x3, f', ⟨⟨_, s1⟩, s1', s1''⟩, ⟨⟨_, s2⟩, s2', s2''⟩, ⟨⟨_, s3⟩, s3', s3''⟩, hf8, hg8, u0, u1, u2, -⟩ := store_three (rowIs_three hm2) 0 (by decide) (.string T.ph) (.string T.ty) (.slice o7 T.ps.length c7); simp only [Nat.zero_add] at s2 s2' s2'' s3 s3' s3'' u1 u2))
    have d0 := hf8.cell (show 0 < 3 by decide)
    have d1 := hf8.cell (show 1 < 3 by decide)
    have d2 := hf8.cell (show 2 < 3 by decide)
    rw [u0] at d0
    rw [u1] at d1
    rw [u2] at d2
    refine bodyPost_ret (v := .tuple #[.agg #[.string T.ph, .string T.ty, .slice o7 T.ps.length c7], .bool true]) (by simp [results, Tryz.results19, go_sem, d0, d1, d2]) rfl ?_
    have hbb := HB0.out.trans ((hb6.trans (hb7.mono hb6.size)).mono HB0.out.size)
    refine ⟨⟨_, rfl, ?_⟩, hbb.grown hg8 hbb.size (fun r e => by cases e; omega)⟩
    show isTh x3 (s.l.getD j zTh) _
    rw [HGD.out]
    exact ⟨_, rfl, isGs_of_a (isGsa_keep (fun a c hq hc => hg8.cell hc (fun e => hq (Option.some.inj e))) hg7), hp1, hp2⟩
end Go.Proofs.YtdckldfekepopaaGreatDoor
