/-
  SchemaKnown: where what is unknown becomes known no more is told to differ.
-/
import Derived.Test.YtmgodamdpemmhaaGreatDoorPg
import Derived.Test.YtmgodamdpemmhaaGreatDoorPj
import Derived.Test.YtmgodamdpemmhaaGreatDoorPb
import Derived.Test.YtmgodamdpemmhaaGreatDoorPr
set_option linter.unusedVariables false
namespace Go.Proofs.YtmgodamdpemmhaaGreatDoor
open Go.RowKit Go.Maps Go.ChangeMaps Go.WideMaps

theorem infoGv : (Tryz.prog.info? 48).map (fun i => (i.zero, i.size, i.bytes)) = some (some (.agg #[.string ⟨#[]⟩, .bool false, .int .i8 0, .bool false, .int .i64 0, .string ⟨#[]⟩, .slice none 0 0, .slice none 0 0]), 8, 104) := by kernel_rfl

theorem store_eight {w : World} {b n : Nat} {t : TypeId} {f : Nat → Value} (h : w.rowIs b t n f) (p : Nat) (hp : p + 7 < n) (c0 c1 c2 c3 c4 c5 c6 c7 : Value) :
    ∃ w1 w2 w3 w4 w5 w6 w7 w8 f', ((∃ u, w.cell? ⟨b, p, none⟩ = some u) ∧ w.frozen? ⟨b, p, none⟩ = false ∧ w.setCell ⟨b, p, none⟩ c0 = w1) ∧ ((∃ u, w1.cell? ⟨b, p + 1, none⟩ = some u) ∧ w1.frozen? ⟨b, p + 1, none⟩ = false ∧ w1.setCell ⟨b, p + 1, none⟩ c1 = w2) ∧ ((∃ u, w2.cell? ⟨b, p + 2, none⟩ = some u) ∧ w2.frozen? ⟨b, p + 2, none⟩ = false ∧ w2.setCell ⟨b, p + 2, none⟩ c2 = w3) ∧ ((∃ u, w3.cell? ⟨b, p + 3, none⟩ = some u) ∧ w3.frozen? ⟨b, p + 3, none⟩ = false ∧ w3.setCell ⟨b, p + 3, none⟩ c3 = w4) ∧ ((∃ u, w4.cell? ⟨b, p + 4, none⟩ = some u) ∧ w4.frozen? ⟨b, p + 4, none⟩ = false ∧ w4.setCell ⟨b, p + 4, none⟩ c4 = w5) ∧ ((∃ u, w5.cell? ⟨b, p + 5, none⟩ = some u) ∧ w5.frozen? ⟨b, p + 5, none⟩ = false ∧ w5.setCell ⟨b, p + 5, none⟩ c5 = w6) ∧ ((∃ u, w6.cell? ⟨b, p + 6, none⟩ = some u) ∧ w6.frozen? ⟨b, p + 6, none⟩ = false ∧ w6.setCell ⟨b, p + 6, none⟩ c6 = w7) ∧ ((∃ u, w7.cell? ⟨b, p + 7, none⟩ = some u) ∧ w7.frozen? ⟨b, p + 7, none⟩ = false ∧ w7.setCell ⟨b, p + 7, none⟩ c7 = w8) ∧
      w8.rowIs b t n f' ∧ w.grownBy w8 (some b) ∧ f' p = c0 ∧ f' (p + 1) = c1 ∧ f' (p + 2) = c2 ∧ f' (p + 3) = c3 ∧ f' (p + 4) = c4 ∧ f' (p + 5) = c5 ∧ f' (p + 6) = c6 ∧ f' (p + 7) = c7 ∧ ∀ i, (i < p ∨ p + 8 ≤ i) → f' i = f i := by
  have h1 := h.set p c0
  have h2 := h1.set (p + 1) c1
  have h3 := h2.set (p + 2) c2
  have h4 := h3.set (p + 3) c3
  have h5 := h4.set (p + 4) c4
  have h6 := h5.set (p + 5) c5
  have h7 := h6.set (p + 6) c6
  have h8 := h7.set (p + 7) c7
  refine ⟨_, _, _, _, _, _, _, _, _, ⟨⟨_, h.cell (show p < n by omega)⟩, h.frozen _, rfl⟩, ⟨⟨_, h1.cell (show p + 1 < n by omega)⟩, h1.frozen _, rfl⟩, ⟨⟨_, h2.cell (show p + 2 < n by omega)⟩, h2.frozen _, rfl⟩, ⟨⟨_, h3.cell (show p + 3 < n by omega)⟩, h3.frozen _, rfl⟩, ⟨⟨_, h4.cell (show p + 4 < n by omega)⟩, h4.frozen _, rfl⟩, ⟨⟨_, h5.cell (show p + 5 < n by omega)⟩, h5.frozen _, rfl⟩, ⟨⟨_, h6.cell (show p + 6 < n by omega)⟩, h6.frozen _, rfl⟩, ⟨⟨_, h7.cell (show p + 7 < n by omega)⟩, h7.frozen _, rfl⟩, h8, ?_, ?_, ?_, ?_, ?_, ?_, ?_, ?_, ?_, ?_⟩
  · exact grown_trans (grown_trans (grown_trans (grown_trans (grown_trans (grown_trans (grown_trans (grown_set _ _ _ _) (grown_set _ _ _ _)) (grown_set _ _ _ _)) (grown_set _ _ _ _)) (grown_set _ _ _ _)) (grown_set _ _ _ _)) (grown_set _ _ _ _)) (grown_set _ _ _ _)
  all_goals try (simp; done)
  intro i hi
  rw [if_neg (by omega), if_neg (by omega), if_neg (by omega), if_neg (by omega), if_neg (by omega), if_neg (by omega), if_neg (by omega), if_neg (by omega)]

theorem isGL_set {W : World} {x : V} {c0 c1 c2 c3 c4 c5 : Value} (hx : isV W x (.agg #[c0, c1, c2, c3, c4, c5])) : ∀ (L : List G) (xs : List Value) (p : Nat) (hp : p < L.length), isGL W L xs →
    isGL W (L.set p ⟨L[p].nm, false, x⟩) (xs.take (p * 8) ++ (.string L[p].nm :: .bool false :: c0 :: c1 :: c2 :: c3 :: c4 :: c5 :: xs.drop (p * 8 + 8)))
  | g :: t, xs, 0, hp, h => by
    unfold isGL at h
    obtain ⟨d0, d1, d2, d3, d4, d5, rest, rfl, hv, hn, ht⟩ := h
    rw [List.set_cons_zero]
    unfold isGL
    exact ⟨c0, c1, c2, c3, c4, c5, rest, rfl, hx, hn, ht⟩
  | g :: t, xs, p + 1, hp, h => by
    unfold isGL at h
    obtain ⟨d0, d1, d2, d3, d4, d5, rest, rfl, hv, hn, ht⟩ := h
    have ih := isGL_set hx t rest p (by simpa using hp) ht
    rw [List.set_cons_succ]
    unfold isGL
    refine ⟨d0, d1, d2, d3, d4, d5, _, ?_, hv, hn, ih⟩
    rw [show (p + 1) * 8 = p * 8 + 8 by omega]
    rfl
theorem isGL_nm {W : World} : ∀ (L : List G) (xs : List Value) (p : Nat) (hp : p < L.length), isGL W L xs → xs[p * 8]? = some (.string L[p].nm) ∧ xs[p * 8 + 1]? = some (.bool L[p].unk) ∧ L[p].nm.size ≤ maxLen
  | g :: t, xs, 0, hp, h => by
    unfold isGL at h
    obtain ⟨d0, d1, d2, d3, d4, d5, rest, rfl, hv, hn, ht⟩ := h
    exact ⟨rfl, rfl, hn⟩
  | g :: t, xs, p + 1, hp, h => by
    unfold isGL at h
    obtain ⟨d0, d1, d2, d3, d4, d5, rest, rfl, hv, hn, ht⟩ := h
    obtain ⟨h1, h2, h3⟩ := isGL_nm t rest p (by simpa using hp) ht
    refine ⟨?_, ?_, h3⟩
    · rw [show (p + 1) * 8 = p * 8 + 8 by omega]; exact h1
    · rw [show (p + 1) * 8 + 1 = p * 8 + 1 + 8 by omega]; exact h2
theorem own_rowIs {w : World} {e : TypeId} {n g cap base : Nat} {xs : List Value} (h : w.ownsRow base e 8 (.slice (some ⟨g, 0, none⟩) n cap) n xs) : ∃ f, w.rowIs g e (cap * 8) f ∧ n ≤ cap ∧ base ≤ g := by
  rcases h.2 with ⟨h0, _⟩ | ⟨g', cap', cur, hv, hb, hg, hn, hm, hs, _⟩
  · cases h0
  · simp only [Value.slice.injEq, Option.some.injEq, Addr.mk.injEq, true_and, and_true] at hv
    obtain ⟨rfl, rfl⟩ := hv
    exact ⟨fun i => (cur[i]?).getD undef, ⟨cur, hg, hs, fun i hi => by show cur[i]? = some ((cur[i]?).getD undef); rw [Array.getElem?_eq_getElem (by omega)]; rfl⟩, hn, hb⟩

theorem add0 (g j : Nat) : (⟨g, 0, none⟩ : Addr).add j = ⟨g, j, none⟩ := by
  simp only [Addr.add]
  by_cases h : j = 0
  · subst h; rfl
  · rw [if_neg h, Nat.zero_add]
theorem idx_ok {n : Nat} {wh : Int} (h0 : 0 < n) (hn : n ≤ 60) (hw : -9223372036854775808 ≤ wh ∧ wh ≤ 9223372036854775807) : ∃ p : Nat, p < n ∧ (wrap64 (wh.tmod n + n)).tmod n = p := by
  have h1 : wh.tmod n < n := Int.tmod_lt_of_pos _ (by omega)
  have h2 : -(n : Int) < wh.tmod n := by
    have := Int.tmod_lt_of_pos (-wh) (show (0 : Int) < n by omega)
    rw [Int.neg_tmod] at this
    omega
  have hwr : wrap64 (wh.tmod n + n) = wh.tmod n + n := by unfold wrap64; omega
  rw [hwr]
  refine ⟨((wh.tmod n + n).tmod n).toNat, ?_, ?_⟩
  · have h3 := Int.tmod_lt_of_pos (wh.tmod n + n) (show (0 : Int) < n by omega)
    have h4 := Int.tmod_nonneg (n : Int) (show 0 ≤ wh.tmod n + n by omega)
    omega
  · have h4 := Int.tmod_nonneg (n : Int) (show 0 ≤ wh.tmod n + n by omega)
    omega

set_option maxRecDepth 100000 in
set_option maxHeartbeats 8000000 in
theorem known_main (K : ByteArray) (A B : List G) (v u : Value) (wh : Int) (x : V) (xv : Value) (w : World) (hE : Env9 w) (hK : K.size ≤ 200) (hGA : greatG A = false) (hGB : greatG B = false) (hGx : greatB x = false) (h0 : 0 < B.length)
    (hwh : -9223372036854775808 ≤ wh ∧ wh ≤ 9223372036854775807) (hA : isGs w A v) (hB : isGs w B u) (hx : isV w x xv) :
    Calls Tryz.prog 6 #[.string K, v, u, .int .i64 wh, xv] w fun e w' => e = .returned (.bool true) ∧ Below w.heap.size w w' := by
  obtain ⟨hlA, hPA⟩ := greatG_no hGA
  obtain ⟨hlB, hPB⟩ := greatG_no hGB
  obtain ⟨i0, hi0, hz0, hz1, hz2⟩ := info_parts infoGv
  have HG1 : Hid (∀ w1, KB w w1 → Calls Tryz.prog 8 #[v] w1 fun e w' => e = .returned (.bool false) ∧ Below w1.heap.size w1 w') := Lib.hid fun w1 hb => by
    have := great9_any A v w1 (isGs_below hb hA); rw [hGA] at this; exact this
  have HG2 : Hid (∀ w1, KB w w1 → Calls Tryz.prog 8 #[u] w1 fun e w' => e = .returned (.bool false) ∧ Below w1.heap.size w1 w') := Lib.hid fun w1 hb => by
    have := great9_any B u w1 (isGs_below hb hB); rw [hGB] at this; exact this
  have HG3 : Hid (∀ w1, KB w w1 → Calls Tryz.prog 23 #[xv] w1 fun e w' => e = .returned (.bool false) ∧ Below w1.heap.size w1 w') := Lib.hid fun w1 hb => by
    have := great_any x xv w1 (isV_below hb hx); rw [hGx] at this; exact this
  have HD : Hid (∀ w1 C cv, KB w w1 → C.length ≤ 60 → (∀ g ∈ C, sizeV g.v ≤ 1000000 ∧ fineV g.v) → isGs w1 C cv → Calls Tryz.prog 20 #[.string K, v, cv] w1 fun e w' => e = .returned (.tuple #[.int .i8 (differL K A C).1, .int .i64 (differL K A C).2]) ∧ Below w1.heap.size w1 w') := Lib.hid fun w1 C cv hb hl hP hC =>
    Differ_any K A C v cv w1 (hE.kb hb) hK (by omega) (by omega) (fun g hg => (hPA g hg).2) hP (isGs_below hb hA) hC
  have HW : Hid (∀ w1, KB w w1 → Calls Tryz.prog 9 #[] w1 fun e w' => e = .returned (.bool true) ∧ Below w1.heap.size w1 w') := Lib.hid fun w1 hb => wakes9_any w1 (hE.kb hb)
  obtain ⟨k, b, n, s, o, m, c, o2, m2, c2, rfl⟩ := isV_six hx
  obtain ⟨a, cap, ⟨o1, rfl, hc1, hc2, ho⟩, hgs⟩ := hB
  obtain rfl := ho h0
  have HGB := Lib.hid (show isGs w B (.slice (some a) B.length cap) from ⟨a, cap, ⟨_, rfl, hc1, hc2, fun _ => rfl⟩, hgs⟩)
  have HXP := Lib.hid (And.intro (Nat.le_trans (great_no hGx).1 (show 5000 ≤ 1000000 by omega)) (great_fine hGx))
  obtain ⟨xs, hxs, hcs⟩ := isGL_of B a hgs
  have HXS := Lib.hid hxs
  have HCS := Lib.hid hcs
  have HX := Lib.hid hx
  have HP := Lib.hid hPB
  have hxl := isGL_len B xs hxs
  have HXO := Lib.hid (isGL_one B xs hxs)
  have y1 : decide ((200 : Int) < (K.size : Int)) = false := decide_eq_false (by omega)
  have y2 : ((B.length : Int) == 0) = false := beqI (by omega)
  have y3 : (B.length == 0) = false := beq_eq_false_iff_ne.2 (by omega)
  unfold maxLen at hc2
  have HB1 : Hid (KB w (w.alloc (.cells #[.int .i8 k, .bool b, .int .i64 n, .string s, .slice o m c, .slice o2 m2 c2] 46))) := Lib.hid kbA
  have HBX : Hid (∀ W', Below (w.alloc (.cells #[.int .i8 k, .bool b, .int .i64 n, .string s, .slice o m c, .slice o2 m2 c2] 46)).heap.size (w.alloc (.cells #[.int .i8 k, .bool b, .int .i64 n, .string s, .slice o m c, .slice o2 m2 c2] 46)) W' →
      W'.cell? ⟨w.heap.size, 0, none⟩ = some (.int .i8 k) ∧ W'.cell? ⟨w.heap.size, 1, none⟩ = some (.bool b) ∧ W'.cell? ⟨w.heap.size, 2, none⟩ = some (.int .i64 n) ∧ W'.cell? ⟨w.heap.size, 3, none⟩ = some (.string s) ∧ W'.cell? ⟨w.heap.size, 4, none⟩ = some (.slice o m c) ∧ W'.cell? ⟨w.heap.size, 5, none⟩ = some (.slice o2 m2 c2)) :=
    Lib.hid fun W' hb => ⟨cell_below hb _ _ (by simp), cell_below hb _ _ (by simp), cell_below hb _ _ (by simp), cell_below hb _ _ (by simp), cell_below hb _ _ (by simp), cell_below hb _ _ (by simp)⟩
  clear hE hA hx hgs hxs hcs hPB hPA hGA hGB hGx
  go_enter Tryz.func6, Tryz.ntmps6
  go_wp2_with fail
  generalize (w.alloc (.cells #[.int .i8 k, .bool b, .int .i64 n, .string s, .slice o m c, .slice o2 m2 c2] 46)) = W1 at *
  refine (HG1.out _ HB1.out).mono ?_
  rintro e w1 ⟨rfl, hb1⟩
  go_wp2_with fail
  refine (HG2.out _ (HB1.out.trans (hb1.mono HB1.out.size))).mono ?_
  rintro e w2 ⟨rfl, hb2⟩
  have hb2 := hb1.trans (hb2.mono hb1.size)
  obtain ⟨q0, q1, q2, q3, q4, q5⟩ := HBX.out _ hb2
  clear hb1
  go_wp2_with fail
  refine (HG3.out _ (HB1.out.trans (hb2.mono HB1.out.size))).mono ?_
  rintro e w3 ⟨rfl, hb3⟩
  have HB3 := Lib.hid (hb2.trans (hb3.mono hb2.size))
  have HW3 := Lib.hid (HB1.out.trans (HB3.out.mono HB1.out.size))
  clear hb2 hb3 q0 q1 q2 q3 q4 q5
  obtain ⟨p, hp, HI⟩ := idx_ok h0 (by omega) hwh
  have HOW : Hid ((w3.alloc (.cells #[] 48)).ownsRow w3.heap.size 48 8 (.slice (some ⟨w3.heap.size, 0, none⟩) 0 0) 0 []) := Lib.hid ⟨rfl, .inr ⟨_, 0, #[], rfl, Nat.le_refl _, (MapKept.heap_alloc w3 _).1, Nat.le_refl _, by unfold maxLen; omega, rfl, rfl⟩⟩
  have hba : Below w3.heap.size w3 (w3.alloc (.cells #[] 48)) := (Below.refl _ _).alloc (Nat.le_refl _) _
  have HBA := Lib.hid hba
  have HNEWS : Hid (∀ j u, xs[j]? = some u → (w3.alloc (.cells #[] 48)).cell? (a.add j) = some u) := Lib.hid fun j u hj => cell_below (HW3.out.trans (hba.mono HW3.out.size)) _ _ (HCS.out j u hj)
  clear hba
  go_wp2_with (at_builtin; refine wpList_append_row rfl _ _ 22 rfl w3.heap.size 48 i0 _ 8 104 Tryz.underlying22 hi0 hz0 hz1 hz2 rfl (by decide) _ _ _ rfl HOW.out (some a) a B.length cap xs rfl (fun _ => rfl) hxl HNEWS.out HXO.out ?c3 ?c4 ?c5 ?_)
  case c3 => unfold maxLen; omega
  case c4 => omega
  case c5 => simp
  intro v' w7 hown hgrow
  have hB7 : Below w3.heap.size w3 w7 := HBA.out.grown hgrow HBA.out.size (fun r e => by cases e; exact Nat.le_refl _)
  obtain ⟨g, cp, rfl⟩ : ∃ g cp, v' = .slice (some ⟨g, 0, none⟩) B.length cp := by
    rcases hown.2 with ⟨_, e⟩ | ⟨g, cp, cur, e, _⟩
    · omega
    · exact ⟨g, cp, e⟩
  obtain ⟨f, hf, hncp, hbg⟩ := own_rowIs hown
  have hfx : ∀ j u, xs[j]? = some u → f j = u := fun j u hj => by
    have h1 := hown.cells rfl j u hj
    have h2 : j < B.length * 8 := by rw [← hxl]; exact (List.getElem?_eq_some_iff.1 hj).1
    have h3 := hf.cell (i := j) (by omega)
    have e : (⟨g, 0, none⟩ : Addr).add j = ⟨g, j, none⟩ := add0 g j
    rw [e, h3] at h1
    exact Option.some.inj h1
  obtain ⟨hn0, hn1, hn2⟩ := isGL_nm B xs p hp HXS.out
  have k0 := hf.cell (i := p * 8) (by omega)
  have k1 := hf.cell (i := p * 8 + 1) (by omega)
  rw [hfx _ _ hn0] at k0
  rw [hfx _ _ hn1] at k1
  have HF := Lib.hid hf
  have HFX := Lib.hid hfx
  have HG := Lib.hid (And.intro hncp hbg)
  have HCP : Hid (cp ≤ maxLen) := Lib.hid (by
    rcases hown.2 with ⟨e, _⟩ | ⟨g', cp', cur, e, _, _, _, h5, _⟩
    · cases e
    · simp only [Value.slice.injEq] at e
      obtain ⟨_, _, rfl⟩ := e
      exact h5)
  have HW7 := Lib.hid (HW3.out.trans (hB7.mono HW3.out.size))
  have H17 := Lib.hid (HB3.out.trans (hB7.mono HB3.out.size))
  clear hown hgrow hB7 hf hfx hncp hbg hn0 hn1
  cases hu : B[p].unk with
  | false =>
    rw [hu] at k1
    clear hu
    go_wp2_with fail
    refine (HW.out _ HW7.out).mono ?_
    rintro e w8 ⟨rfl, hb8⟩
    go_wp2_with fail
    go_ret
    exact ⟨rfl, HW7.out.trans (hb8.mono HW7.out.size)⟩
  | true =>
    rw [hu] at k1
    have HU := Lib.hid hu
    clear hu
    go_wp2_with fail
    obtain ⟨q0, q1, q2, q3, q4, q5⟩ := HBX.out _ (H17.out.trans ((drewB1 _ _).mono H17.out.size) : Below W1.heap.size W1 w7.drew)
    refine Rn.region_any (by kernel_rfl) ?_
    refine Rn.any_seg 0 10 (by kernel_rfl) rfl ?_
    simp only [List.take_succ_cons, List.take_zero, List.drop_zero]
    repeat (refine Rn.ws_one (fun KK hKK => ?_); go_simp; refine hKK _ ?_; clear hKK KK)
    refine Rn.ws_nil ?_
    intro K0 hK0
    clear k0 k1 q0 q1 q2 q3 q4 q5
    obtain ⟨x1, x2, x3, x4, x5, x6, x7, x8, f', ⟨⟨_, t0⟩, t0', t0''⟩, ⟨⟨_, t1⟩, t1', t1''⟩, ⟨⟨_, t2⟩, t2', t2''⟩, ⟨⟨_, t3⟩, t3', t3''⟩, ⟨⟨_, t4⟩, t4', t4''⟩, ⟨⟨_, t5⟩, t5', t5''⟩, ⟨⟨_, t6⟩, t6', t6''⟩, ⟨⟨_, t7⟩, t7', t7''⟩, hf8, hg8, e0, e1, e2, e3, e4, e5, e6, e7, eo⟩ := store_eight (w := w7.drew) (f := f) (HF.out) (p * 8) (by have := HG.out.1; omega) (.string B[p].nm) (.bool false) (.int .i8 k) (.bool b) (.int .i64 n) (.string s) (.slice o m c) (.slice o2 m2 c2)
    have HF8 := Lib.hid hf8
    have HE8 := Lib.hid (And.intro e0 (And.intro e1 (And.intro e2 (And.intro e3 (And.intro e4 (And.intro e5 (And.intro e6 (And.intro e7 eo))))))))
    have HB8 : Hid (Below w.heap.size w x8) := Lib.hid (((HW7.out.trans ((drewB1 _ _).mono HW7.out.size) : Below w.heap.size w w7.drew)).grown hg8 HW7.out.size (fun r e => by cases e; have := HG.out.2; have := HW3.out.size; omega))
    clear hf8 e0 e1 e2 e3 e4 e5 e6 e7 eo hg8
    go_simp
    refine .inl (hK0 _ _ ?_)
    clear hK0 K0 t0 t0' t0'' t1 t1' t1'' t2 t2' t2'' t3 t3' t3'' t4 t4' t4'' t5 t5' t5'' t6 t6' t6'' t7 t7' t7''
    obtain ⟨C, hC⟩ : ∃ C, B.set p ⟨B[p].nm, false, x⟩ = C := ⟨_, rfl⟩
    have hCl : C.length = B.length := by rw [← hC, List.length_set]
    have hCv : isGs x8 C (.slice (some ⟨g, 0, none⟩) B.length cp) := by
      obtain ⟨c0, c1, c2', c3, c4, c5, ex, hxx⟩ : ∃ c0 c1 c2' c3 c4 c5, (Value.agg #[.int .i8 k, .bool b, .int .i64 n, .string s, .slice o m c, .slice o2 m2 c2]) = .agg #[c0, c1, c2', c3, c4, c5] ∧ isV w x (.agg #[c0, c1, c2', c3, c4, c5]) := ⟨_, _, _, _, _, _, rfl, HX.out⟩
      simp only [Value.agg.injEq, Array.mk.injEq, List.cons.injEq, and_true] at ex
      obtain ⟨rfl, rfl, rfl, rfl, rfl, rfl⟩ := ex
      have hgl := isGL_set (isV_below HB8.out HX.out) B xs p hp (isGL_below HB8.out B xs HXS.out)
      rw [hC] at hgl
      rw [← hCl]
      refine ⟨⟨g, 0, none⟩, cp, ⟨_, rfl, by rw [hCl]; exact HG.out.1, HCP.out, fun _ => rfl⟩, isGL_at C _ ⟨g, 0, none⟩ rfl hgl fun j u hj => ?_⟩
      obtain ⟨f0, f1, f2, f3, f4, f5, f6, f7, fo⟩ := HE8.out
      have hcp := HG.out.1
      have hjl := (List.getElem?_eq_some_iff.1 hj).1
      have htl : (xs.take (p * 8)).length = p * 8 := by rw [List.length_take]; omega
      rw [add0]
      have hjn : j < B.length * 8 := by
        simp only [List.length_append, htl, List.length_cons, List.length_drop] at hjl
        omega
      have h1 := HF8.out.cell (i := j) (by omega)
      rw [h1]
      by_cases hj1 : j < p * 8
      · rw [List.getElem?_append_left (by omega), List.getElem?_take_of_lt hj1] at hj
        rw [fo j (.inl hj1), HFX.out j u hj]
      · rw [List.getElem?_append_right (by omega), htl] at hj
        obtain ⟨d, rfl⟩ : ∃ d, j = p * 8 + d := ⟨j - p * 8, by omega⟩
        rw [show p * 8 + d - p * 8 = d by omega] at hj
        match d, hj with
        | 0, hj => rw [Nat.add_zero, f0]; exact hj
        | 1, hj => rw [f1]; exact hj
        | 2, hj => rw [f2]; exact hj
        | 3, hj => rw [f3]; exact hj
        | 4, hj => rw [f4]; exact hj
        | 5, hj => rw [f5]; exact hj
        | 6, hj => rw [f6]; exact hj
        | 7, hj => rw [f7]; exact hj
        | d + 8, hj =>
          rw [fo _ (.inr (by omega))]
          rw [HFX.out]
          simpa [List.getElem?_drop, Nat.add_assoc, Nat.add_comm 8 d] using hj
    have hPC : ∀ g ∈ C, sizeV g.v ≤ 1000000 ∧ fineV g.v := fun g hg => by
      rw [← hC] at hg
      rcases List.mem_or_eq_of_mem_set hg with hg | rfl
      · exact (HP.out g hg).2
      · exact HXP.out
    have hD1 : ∀ w9, Below x8.heap.size x8 w9 → Calls Tryz.prog 20 #[.string K, v, .slice (some a) B.length cap] w9 fun e w' => e = .returned (.tuple #[.int .i8 (differL K A B).1, .int .i64 (differL K A B).2]) ∧ Below w9.heap.size w9 w' := fun w9 h9 =>
      HD.out w9 B _ (HB8.out.trans (h9.mono HB8.out.size)) hlB (fun g hg => (HP.out g hg).2) (isGs_below (HB8.out.trans (h9.mono HB8.out.size)) HGB.out)
    have hD2 : ∀ w9, Below x8.heap.size x8 w9 → Calls Tryz.prog 20 #[.string K, v, .slice (some ⟨g, 0, none⟩) B.length cp] w9 fun e w' => e = .returned (.tuple #[.int .i8 (differL K A C).1, .int .i64 (differL K A C).2]) ∧ Below w9.heap.size w9 w' := fun w9 h9 =>
      HD.out w9 C _ (HB8.out.trans (h9.mono HB8.out.size)) (by omega) hPC (isGs_below h9 hCv)
    have hM := fun h : checkL K B = 0 => known_math (K := K) (A := A) hp x h HU.out
    rw [hC] at hM
    have hR : (differL K A B).2 ≠ 0 ∨ (differL K A C).2 ≠ 0 ∨ ((differL K A B).2 = 0 ∧ (differL K A C).2 = 0 ∧ ((differL K A B).1 = 3 ∨ ((differL K A B).1 = 2 ∧ ((differL K A C).1 = 2 ∨ (differL K A C).1 = 0)))) := by
      by_cases z1 : (differL K A B).2 = 0
      · by_cases z2 : (differL K A C).2 = 0
        · obtain ⟨_, hb, eB⟩ := differ_two z1
          obtain ⟨_, _, eC⟩ := differ_two z2
          obtain ⟨m1, m2⟩ := hM hb
          refine .inr (.inr ⟨z1, z2, ?_⟩)
          rw [eB, eC]
          rcases m1 with m1 | m1
          · exact .inl m1
          · exact .inr ⟨m1, m2 m1⟩
        · exact .inr (.inl z2)
      · exact .inl z1
    generalize (differL K A B).1 = X1 at *
    generalize (differL K A B).2 = E1 at *
    generalize (differL K A C).1 = X2 at *
    generalize (differL K A C).2 = E2 at *
    have HD1 := Lib.hid hD1
    have HD2 := Lib.hid hD2
    have HR := Lib.hid hR
    clear hC hCl hCv hPC hD1 hD2 hM hR
    refine Rn.any_end 11 (by kernel_rfl) ?_
    simp only [List.drop_succ_cons, List.drop_zero]
    refine Rn.ws_nil ?_
    go_wp2_with fail
    refine (HD1.out _ (Below.refl _ _)).mono ?_
    rintro e w9 ⟨rfl, hb9⟩
    go_wp2_with fail
    refine (HD2.out _ hb9).mono ?_
    rintro e w10 ⟨rfl, hb10⟩
    have HB10 := Lib.hid (HB8.out.trans ((hb9.trans (hb10.mono hb9.size)).mono HB8.out.size))
    clear hb9 hb10
    by_cases z1 : E1 = 0
    · by_cases z2 : E2 = 0
      · subst z1
        subst z2
        have hR := HR.out
        simp only [ne_eq, not_true_eq_false, false_or, true_and] at hR
        rcases hR with rfl | ⟨rfl, rfl | rfl⟩
        · by_cases y5 : X2 = 3
          · subst y5
            go_wp2_with fail
            refine (HW.out _ HB10.out).mono ?_
            rintro e w11 ⟨rfl, hb11⟩
            go_wp2_with fail
            go_ret
            exact ⟨rfl, HB10.out.trans (hb11.mono HB10.out.size)⟩
          · have y6 : (X2 == 3) = false := beqI y5
            clear y5
            go_wp2_with fail
            refine (HW.out _ HB10.out).mono ?_
            rintro e w11 ⟨rfl, hb11⟩
            go_wp2_with fail
            go_ret
            exact ⟨rfl, HB10.out.trans (hb11.mono HB10.out.size)⟩
        · go_wp2_with fail
          refine (HW.out _ HB10.out).mono ?_
          rintro e w11 ⟨rfl, hb11⟩
          go_wp2_with fail
          go_ret
          exact ⟨rfl, HB10.out.trans (hb11.mono HB10.out.size)⟩
        · go_wp2_with fail
          refine (HW.out _ HB10.out).mono ?_
          rintro e w11 ⟨rfl, hb11⟩
          go_wp2_with fail
          go_ret
          exact ⟨rfl, HB10.out.trans (hb11.mono HB10.out.size)⟩
      · subst z1
        have y6 : (E2 == 0) = false := beqI z2
        have y7 : (E2 != 0) = true := by rw [bne, y6]; rfl
        clear z2
        go_wp2_with fail
        refine (HW.out _ HB10.out).mono ?_
        rintro e w11 ⟨rfl, hb11⟩
        go_wp2_with fail
        go_ret
        exact ⟨rfl, HB10.out.trans (hb11.mono HB10.out.size)⟩
    · have y6 : (E1 == 0) = false := beqI z1
      have y7 : (E1 != 0) = true := by rw [bne, y6]; rfl
      clear z1
      go_wp2_with fail
      refine (HW.out _ HB10.out).mono ?_
      rintro e w11 ⟨rfl, hb11⟩
      go_wp2_with fail
      go_ret
      exact ⟨rfl, HB10.out.trans (hb11.mono HB10.out.size)⟩

set_option maxRecDepth 100000 in
set_option maxHeartbeats 4000000 in
/-- The call, where something is too great, or nothing is given. -/
theorem known_rest (K : ByteArray) (A B : List G) (v u : Value) (wh : Int) (x : V) (xv : Value) (w : World) (hE : Env9 w) (hA : isGs w A v) (hB : isGs w B u) (hx : isV w x xv)
    (hc : 200 < K.size ∨ (K.size ≤ 200 ∧ (greatG A = true ∨ (greatG A = false ∧ (greatG B = true ∨ (greatG B = false ∧ (greatB x = true ∨ (greatB x = false ∧ B.length = 0)))))))) :
    Calls Tryz.prog 6 #[.string K, v, u, .int .i64 wh, xv] w fun e w' => e = .returned (.bool true) ∧ Below w.heap.size w w' := by
  have HG1 : Hid (∀ w1, KB w w1 → Calls Tryz.prog 8 #[v] w1 fun e w' => e = .returned (.bool (greatG A)) ∧ Below w1.heap.size w1 w') := Lib.hid fun w1 hb => great9_any A v w1 (isGs_below hb hA)
  have HG2 : Hid (∀ w1, KB w w1 → Calls Tryz.prog 8 #[u] w1 fun e w' => e = .returned (.bool (greatG B)) ∧ Below w1.heap.size w1 w') := Lib.hid fun w1 hb => great9_any B u w1 (isGs_below hb hB)
  have HG3 : Hid (∀ w1, KB w w1 → Calls Tryz.prog 23 #[xv] w1 fun e w' => e = .returned (.bool (greatB x)) ∧ Below w1.heap.size w1 w') := Lib.hid fun w1 hb => great_any x xv w1 (isV_below hb hx)
  have HW : Hid (∀ w1, KB w w1 → Calls Tryz.prog 9 #[] w1 fun e w' => e = .returned (.bool true) ∧ Below w1.heap.size w1 w') := Lib.hid fun w1 hb => wakes9_any w1 (hE.kb hb)
  obtain ⟨k, b, n, s, o, m, c, o2, m2, c2, rfl⟩ := isV_six hx
  obtain ⟨a, cap, ⟨o1, rfl, hc1, hc2, ho⟩, hgs⟩ := hB
  unfold maxLen at hc2
  have HB1 : Hid (KB w (w.alloc (.cells #[.int .i8 k, .bool b, .int .i64 n, .string s, .slice o m c, .slice o2 m2 c2] 46))) := Lib.hid kbA
  have HBX : Hid (∀ W', Below (w.alloc (.cells #[.int .i8 k, .bool b, .int .i64 n, .string s, .slice o m c, .slice o2 m2 c2] 46)).heap.size (w.alloc (.cells #[.int .i8 k, .bool b, .int .i64 n, .string s, .slice o m c, .slice o2 m2 c2] 46)) W' →
      W'.cell? ⟨w.heap.size, 0, none⟩ = some (.int .i8 k) ∧ W'.cell? ⟨w.heap.size, 1, none⟩ = some (.bool b) ∧ W'.cell? ⟨w.heap.size, 2, none⟩ = some (.int .i64 n) ∧ W'.cell? ⟨w.heap.size, 3, none⟩ = some (.string s) ∧ W'.cell? ⟨w.heap.size, 4, none⟩ = some (.slice o m c) ∧ W'.cell? ⟨w.heap.size, 5, none⟩ = some (.slice o2 m2 c2)) :=
    Lib.hid fun W' hb => ⟨cell_below hb _ _ (by simp), cell_below hb _ _ (by simp), cell_below hb _ _ (by simp), cell_below hb _ _ (by simp), cell_below hb _ _ (by simp), cell_below hb _ _ (by simp)⟩
  have HC := Lib.hid hc
  clear hgs ho hA hE hx
  generalize greatG A = rA at *
  generalize greatG B = rB at *
  generalize greatB x = rx at *
  clear hc
  generalize B.length = bl at *
  rcases HC.out with h1 | ⟨h1, rfl | ⟨rfl, rfl | ⟨rfl, rfl | ⟨rfl, rfl⟩⟩⟩⟩
  · have y1 : decide ((200 : Int) < (K.size : Int)) = true := decide_eq_true (by omega)
    clear h1 HC
    go_enter Tryz.func6, Tryz.ntmps6
    go_wp2_with fail
    generalize (w.alloc (.cells #[.int .i8 k, .bool b, .int .i64 n, .string s, .slice o m c, .slice o2 m2 c2] 46)) = W1 at *
    refine (HW.out _ HB1.out).mono ?_
    rintro e w8 ⟨rfl, hb8⟩
    go_wp2_with fail
    go_ret
    exact ⟨rfl, HB1.out.trans (hb8.mono HB1.out.size)⟩
  all_goals have y1 : decide ((200 : Int) < (K.size : Int)) = false := decide_eq_false (by omega)
  all_goals
    clear h1 HC
    go_enter Tryz.func6, Tryz.ntmps6
    go_wp2_with fail
    generalize (w.alloc (.cells #[.int .i8 k, .bool b, .int .i64 n, .string s, .slice o m c, .slice o2 m2 c2] 46)) = W1 at *
    refine (HG1.out _ HB1.out).mono ?_
    rintro e w1 ⟨rfl, hb1⟩
    go_wp2_with fail
  · refine (HW.out _ (HB1.out.trans (hb1.mono HB1.out.size))).mono ?_
    rintro e w8 ⟨rfl, hb8⟩
    have hb9 := hb1.trans (hb8.mono hb1.size)
    go_wp2_with fail
    go_ret
    exact ⟨rfl, HB1.out.trans (hb9.mono HB1.out.size)⟩
  all_goals
    refine (HG2.out _ (HB1.out.trans (hb1.mono HB1.out.size))).mono ?_
    rintro e w2 ⟨rfl, hb2⟩
    have hb2 := hb1.trans (hb2.mono hb1.size)
    obtain ⟨q0, q1, q2, q3, q4, q5⟩ := HBX.out _ hb2
    clear hb1
    go_wp2_with fail
  · refine (HW.out _ (HB1.out.trans (hb2.mono HB1.out.size))).mono ?_
    rintro e w8 ⟨rfl, hb8⟩
    have hb9 := hb2.trans (hb8.mono hb2.size)
    go_wp2_with fail
    go_ret
    exact ⟨rfl, HB1.out.trans (hb9.mono HB1.out.size)⟩
  all_goals
    refine (HG3.out _ (HB1.out.trans (hb2.mono HB1.out.size))).mono ?_
    rintro e w3 ⟨rfl, hb3⟩
    have hb3 := hb2.trans (hb3.mono hb2.size)
    clear q0 q1 q2 q3 q4 q5 hb2
    go_wp2_with fail
  all_goals
    refine (HW.out _ (HB1.out.trans (hb3.mono HB1.out.size))).mono ?_
    rintro e w8 ⟨rfl, hb8⟩
    have hb9 := hb3.trans (hb8.mono hb3.size)
    go_wp2_with fail
    go_ret
    exact ⟨rfl, HB1.out.trans (hb9.mono HB1.out.size)⟩
theorem known_walk (K : ByteArray) (v : Value) (A : List G) (u : Value) (B : List G) (wh : Int) (xv : Value) (x : V) (w : World) (hE : Env9 w) (hK : K.size ≤ maxLen) (hA : isGs w A v) (hB : isGs w B u) (hwf : (Lit.int .i64 wh).wf = true) (hx : isV w x xv) :
    Calls Tryz.prog 6 #[.string K, v, u, .int .i64 wh, xv] w fun e w' => e = .returned (.bool true) ∧ Below w.heap.size w w' := by
  have hwh : -9223372036854775808 ≤ wh ∧ wh ≤ 9223372036854775807 := by
    simp only [Lit.wf, IntKind.min, IntKind.max, IntKind.signed, IntKind.bits, Bool.and_eq_true, decide_eq_true_eq, if_true] at hwf
    omega
  by_cases h1 : 200 < K.size
  · exact known_rest K A B v u wh x xv w hE hA hB hx (.inl h1)
  · have h1 : K.size ≤ 200 := by omega
    cases hGA : greatG A with
    | true => exact known_rest K A B v u wh x xv w hE hA hB hx (.inr ⟨h1, .inl hGA⟩)
    | false =>
      cases hGB : greatG B with
      | true => exact known_rest K A B v u wh x xv w hE hA hB hx (.inr ⟨h1, .inr ⟨hGA, .inl hGB⟩⟩)
      | false =>
        cases hGx : greatB x with
        | true => exact known_rest K A B v u wh x xv w hE hA hB hx (.inr ⟨h1, .inr ⟨hGA, .inr ⟨hGB, .inl hGx⟩⟩⟩)
        | false =>
          by_cases h0 : B.length = 0
          · exact known_rest K A B v u wh x xv w hE hA hB hx (.inr ⟨h1, .inr ⟨hGA, .inr ⟨hGB, .inr ⟨hGx, h0⟩⟩⟩⟩)
          · exact known_main K A B v u wh x xv w hE h1 hGA hGB hGx (by omega) hwh hA hB hx
end Go.Proofs.YtmgodamdpemmhaaGreatDoor
