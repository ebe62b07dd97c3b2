/-
  A store that comes in: what it reads as; the rows of its values don't begin with a frozen cell.
-/
import Derived.Test.YtdckldfekepopaaGreatDoorYH
import Derived.Test.YtdckldfekepopaaGreatDoorVt
set_option linter.unusedVariables false
set_option linter.unusedSimpArgs false
namespace Go.Proofs.YtdckldfekepopaaGreatDoor
open Go.ChangeShapes Go.WideShapes Go.ChangeAt Go.RowKit Go.ChangeMaps Go.Deep

theorem nf_row {w : World} {a : Addr} {n : Nat} {ps : List MemPlace} (h : w.noneFrozen (MemPlace.row a n ++ ps)) (h0 : 0 < n) : w.frozen? a = false := by
  have := h a.block (a.off + 0) (List.mem_append_left _ (by unfold MemPlace.row; exact List.mem_map.2 ⟨0, List.mem_range.2 h0, rfl⟩))
  exact this
theorem nf_el {H : Type} {w : World} {qs : List MemPlace} {xs ys : List (DataW H × List MemPlace)} {i : Nat} {y : DataW H × List MemPlace} (h : w.noneFrozen (qs ++ (xs ++ ys).flatMap (·.2))) (hi : xs[i]? = some y) : w.noneFrozen y.2 := fun b off hm =>
  h b off (List.mem_append_right _ (List.mem_flatMap.2 ⟨y, List.mem_append_left _ (List.mem_of_getElem? hi), hm⟩))
theorem nf_fld {H : Type} {w : World} {xs : List (DataW H × List MemPlace)} {i : Nat} {y : DataW H × List MemPlace} (h : w.noneFrozen (xs.flatMap (·.2))) (hi : xs[i]? = some y) : w.noneFrozen y.2 := fun b off hm =>
  h b off (List.mem_flatMap.2 ⟨y, List.mem_of_getElem? hi, hm⟩)
theorem uVs_of {W : World} : ∀ (l : List V) (a : Addr), (∀ i (h : i < l.length), ∃ c0 c1 c2 c3 c4 c5, W.cell? (a.add (i * 6)) = some c0 ∧ W.cell? (a.add (i * 6 + 1)) = some c1 ∧ W.cell? (a.add (i * 6 + 2)) = some c2 ∧ W.cell? (a.add (i * 6 + 3)) = some c3 ∧ W.cell? (a.add (i * 6 + 4)) = some c4 ∧ W.cell? (a.add (i * 6 + 5)) = some c5 ∧ uV W l[i] (.agg #[c0, c1, c2, c3, c4, c5])) → uVs W l a
  | [], _, _ => by unfold uVs; trivial
  | x :: t, a, h => by
    unfold uVs
    have e : a.add 0 = a := by simp [Addr.add]
    refine ⟨?_, uVs_of t (a.add 6) (fun i hi => ?_)⟩
    · obtain ⟨c0, c1, c2, c3, c4, c5, g0, g1, g2, g3, g4, g5, hx⟩ := h 0 (by simp)
      simp only [Nat.zero_mul, Nat.zero_add, e] at g0 g1 g2 g3 g4 g5
      exact ⟨c0, c1, c2, c3, c4, c5, g0, g1, g2, g3, g4, g5, hx⟩
    · obtain ⟨c0, c1, c2, c3, c4, c5, g0, g1, g2, g3, g4, g5, hx⟩ := h (i + 1) (by simpa using hi)
      refine ⟨c0, c1, c2, c3, c4, c5, ?_, ?_, ?_, ?_, ?_, ?_, hx⟩
      · rw [add_add, show 6 + i * 6 = (i + 1) * 6 by omega]; exact g0
      · rw [add_add, show 6 + (i * 6 + 1) = (i + 1) * 6 + 1 by omega]; exact g1
      · rw [add_add, show 6 + (i * 6 + 2) = (i + 1) * 6 + 2 by omega]; exact g2
      · rw [add_add, show 6 + (i * 6 + 3) = (i + 1) * 6 + 3 by omega]; exact g3
      · rw [add_add, show 6 + (i * 6 + 4) = (i + 1) * 6 + 4 by omega]; exact g4
      · rw [add_add, show 6 + (i * 6 + 5) = (i + 1) * 6 + 5 by omega]; exact g5
theorem isVs_el {W : World} : ∀ (l : List V) (a : Addr) (j : Nat) (h : j < l.length), isVs W l a → ∃ c0 c1 c2 c3 c4 c5, W.cell? (a.add (j * 6)) = some c0 ∧ W.cell? (a.add (j * 6 + 1)) = some c1 ∧ W.cell? (a.add (j * 6 + 2)) = some c2 ∧ W.cell? (a.add (j * 6 + 3)) = some c3 ∧ W.cell? (a.add (j * 6 + 4)) = some c4 ∧ W.cell? (a.add (j * 6 + 5)) = some c5 ∧ isV W l[j] (.agg #[c0, c1, c2, c3, c4, c5])
  | x :: t, a, 0, _, h => by
    unfold isVs at h
    have e : a.add 0 = a := by simp [Addr.add]
    simp only [Nat.zero_mul, Nat.zero_add, e]
    exact h.1
  | x :: t, a, j + 1, hj, h => by
    unfold isVs at h
    obtain ⟨c0, c1, c2, c3, c4, c5, g0, g1, g2, g3, g4, g5, hx⟩ := isVs_el t (a.add 6) j (by simpa using hj) h.2
    rw [add_add] at g0 g1 g2 g3 g4 g5
    refine ⟨c0, c1, c2, c3, c4, c5, ?_, ?_, ?_, ?_, ?_, ?_, hx⟩
    · rw [show (j + 1) * 6 = 6 + j * 6 by omega]; exact g0
    · rw [show (j + 1) * 6 + 1 = 6 + (j * 6 + 1) by omega]; exact g1
    · rw [show (j + 1) * 6 + 2 = 6 + (j * 6 + 2) by omega]; exact g2
    · rw [show (j + 1) * 6 + 3 = 6 + (j * 6 + 3) by omega]; exact g3
    · rw [show (j + 1) * 6 + 4 = 6 + (j * 6 + 4) by omega]; exact g4
    · rw [show (j + 1) * 6 + 5 = 6 + (j * 6 + 5) by omega]; exact g5
section
variable {H : Type} {enc : TypeId × Value → H} {w : World} {base : Nat} {spare : Nat → Bool} {held : Bool}
set_option maxRecDepth 100000 in
set_option maxHeartbeats 2000000 in
theorem uV_of (N : Nat) : ∀ (fuel : Nat) (cs : List Value) (x : DataW H × List MemPlace) (X : V), fuel ≤ N → DataW.trod enc Tryz.prog w base spare held fuel 64 cs = some x → w.noneFrozen x.2 → isV w X (.agg cs.toArray) → uV w X (.agg cs.toArray) := by
  induction N with
  | zero =>
    intro fuel cs x X hN h
    obtain ⟨xs, n, hf, _⟩ := DataW.trod_struct Tryz.underlying64 h
    omega
  | succ N ih =>
    intro fuel cs x X hN h hnf hX
    obtain ⟨fs, hu, h1c, hsz, hty⟩ := fieldsV
    obtain ⟨xs, n, hfu, rfl, hlen, hxl, hf⟩ := DataW.trod_struct hu h
    have hone := hone_of h1c
    have h6 : cs.length = 6 := hlen.trans (by kernel_rfl)
    have hg : ∀ (i t : Nat) (c : Value), [60, 4, 3, 9, 61, 62][i]? = some t → cs[i]? = some c → ∃ y, DataW.trod enc Tryz.prog w base spare held n t [c] = some y ∧ w.noneFrozen y.2 := fun i t c ht hc => by
      rw [← hty, List.getElem?_map] at ht
      obtain ⟨f, hfi, rfl⟩ := Option.map_eq_some_iff.1 ht
      have hfi' : fs[i]? = some f := by rw [← Array.getElem?_toList]; exact hfi
      have e1 := hf i f hfi'
      obtain ⟨ho, hk⟩ := hone i f hfi'
      rw [ho, hk] at e1
      have hil := (List.getElem?_eq_some_iff.1 hc).1
      rw [List.drop_eq_getElem_cons hil, (List.getElem?_eq_some_iff.1 hc).2] at e1
      have hxi : i < xs.length := by
        rw [hxl]; exact (Array.getElem?_eq_some_iff.1 hfi').1
      refine ⟨xs[i], by rw [List.getElem?_eq_getElem hxi] at e1; exact e1, nf_fld hnf (List.getElem?_eq_getElem hxi)⟩
    match cs, h6 with
    | [c0, c1, c2, c3, c4, c5], _ =>
      obtain ⟨y4, e4, hn4⟩ := hg 4 _ c4 rfl rfl
      obtain ⟨k, b, m, s, l, ks⟩ := X
      unfold isV at hX
      obtain ⟨lv, kv, e, _, _, _, ⟨a, cap, ⟨o, hlv, hc1, hc2, ho⟩, hvs⟩, _⟩ := hX
      simp only [Value.agg.injEq, Array.mk.injEq, List.cons.injEq, and_true] at e
      obtain ⟨rfl, rfl, rfl, rfl, rfl, rfl⟩ := e
      subst hlv
      unfold uV
      refine ⟨_, _, _, _, o, l.length, cap, _, rfl, fun h0 => ?_⟩
      obtain rfl := ho h0
      refine ⟨a, rfl, ?_⟩
      rcases DataW.trod_slice Tryz.underlying61 e4 with ⟨h0', _⟩ | ⟨a', len, cap', elems, rest, n', hn', h0', hy, _, hlc, hcm, hel, hall, _⟩
      · simp at h0'
      · simp only [List.cons.injEq, Value.slice.injEq, Option.some.injEq, and_true] at h0'
        obtain ⟨rfl, rfl, rfl⟩ := h0'
        rw [hy] at hn4
        obtain ⟨d0, _, _, _, _, _, g0, _⟩ := isVs_el l a 0 h0 hvs
        rw [show a.add (0 * 6) = a by simp [Addr.add]] at g0
        refine ⟨⟨d0, g0⟩, nf_row hn4 (by rw [hel, show Tryz.prog.cellsOf 64 = 6 by kernel_rfl]; omega), uVs_of l a fun i hi => ?_⟩
        obtain ⟨d0, d1, d2, d3, d4, d5, g0, g1, g2, g3, g4, g5, hx⟩ := isVs_el l a i hi hvs
        refine ⟨d0, d1, d2, d3, d4, d5, g0, g1, g2, g3, g4, g5, ?_⟩
        have hi2 := hall i hi
        rw [List.getElem?_eq_getElem (by omega)] at hi2
        obtain ⟨ds, hd1, hd2⟩ := Option.bind_eq_some_iff.1 hi2
        rw [show Tryz.prog.cellsOf 64 = 6 by kernel_rfl] at hd1
        obtain ⟨_, hdl, hdc⟩ := World.cells?_some hd1
        match ds, hdl with
        | [f0, f1, f2, f3, f4, f5], _ =>
          have k0 := hdc 0 (by omega)
          have k1 := hdc 1 (by omega)
          have k2 := hdc 2 (by omega)
          have k3 := hdc 3 (by omega)
          have k4 := hdc 4 (by omega)
          have k5 := hdc 5 (by omega)
          rw [add_add] at k0 k1 k2 k3 k4 k5
          obtain rfl := Option.some.inj (g0.symm.trans k0)
          obtain rfl := Option.some.inj (g1.symm.trans k1)
          obtain rfl := Option.some.inj (g2.symm.trans k2)
          obtain rfl := Option.some.inj (g3.symm.trans k3)
          obtain rfl := Option.some.inj (g4.symm.trans k4)
          obtain rfl := Option.some.inj (g5.symm.trans k5)
          exact ih n' _ _ l[i] (by omega) hd2 (nf_el hn4 (List.getElem?_eq_getElem (by omega))) hx
theorem given_u {n : Nat} {cs : List Value} {x : DataW H × List MemPlace} (h : DataW.trod enc Tryz.prog w base spare held n 66 cs = some x) (hnf : w.noneFrozen x.2) {g : G} (hg : isG w g (.agg cs.toArray)) : uG w g (.agg cs.toArray) := by
  obtain ⟨f0', f1', f2', hu, t0, o0, t1, o1, t2, o2⟩ := und48
  obtain ⟨xs, m, rfl, rfl, hl, hxl, hall⟩ := DataW.trod_struct hu h
  rw [cells48] at hl
  obtain ⟨d0, d1, c0, c1, c2, c3, c4, c5, rfl⟩ := list8 hl
  obtain ⟨a, b, c, rfl⟩ := list3 (l := xs) hxl
  have h2 := hall 2 f2' rfl
  simp only [t2, o2, cells46, List.drop_succ_cons, List.drop_zero, List.take_succ_cons, List.take_zero, List.getElem?_cons_zero, List.getElem?_cons_succ] at h2
  obtain ⟨e0, e1, e2, e3, e4, e5, e, hv, _⟩ := hg
  simp only [Value.agg.injEq, Array.mk.injEq, List.cons.injEq, and_true] at e
  obtain ⟨rfl, rfl, rfl, rfl, rfl, rfl, rfl, rfl⟩ := e
  exact ⟨_, _, _, _, _, _, _, _, rfl, uV_of m m _ _ g.v (Nat.le_refl _) h2 (nf_fld (i := 2) hnf rfl) hv⟩
set_option maxRecDepth 100000 in
theorem gs_u {fuel : Nat} {v : Value} {y : DataW H × List MemPlace} (e4 : DataW.trod enc Tryz.prog w base spare held fuel 25 [v] = some y) (hnf : w.noneFrozen y.2) {L : List G} (hL : isGs w L v) : uGs w L v := by
  obtain ⟨a, cap, ⟨o, rfl, hc1, hc2, ho⟩, hgs⟩ := hL
  refine ⟨o, L.length, cap, rfl, fun a9 ha i hi => ?_⟩
  subst ha
  obtain rfl := Option.some.inj (ho (by omega))
  rcases DataW.trod_slice Tryz.underlying25 e4 with ⟨h0, _⟩ | ⟨a', len, cap', elems, rest, n', hn', h0, hy, _, hlc, hcm, hel, hall, _⟩
  · simp at h0
  · simp only [List.cons.injEq, Value.slice.injEq, Option.some.injEq, and_true] at h0
    obtain ⟨rfl, rfl, rfl⟩ := h0
    rw [hy] at hnf
    have hi2 := hall i hi
    rw [List.getElem?_eq_getElem (by omega)] at hi2
    obtain ⟨ds, hd1, hd2⟩ := Option.bind_eq_some_iff.1 hi2
    rw [cells48] at hd1
    obtain ⟨_, hdl, hdc⟩ := World.cells?_some hd1
    obtain ⟨c0, c1, c2, c3, c4, c5, g0, g1, g2, g3, g4, g5, g6, g7, hv, hs⟩ := hgs i hi
    obtain ⟨f0, f1, f2, f3, f4, f5, f6, f7, rfl⟩ := list8 hdl
    have k0 := hdc 0 (by omega)
    have k1 := hdc 1 (by omega)
    have k2 := hdc 2 (by omega)
    have k3 := hdc 3 (by omega)
    have k4 := hdc 4 (by omega)
    have k5 := hdc 5 (by omega)
    have k6 := hdc 6 (by omega)
    have k7 := hdc 7 (by omega)
    rw [add_add] at k0 k1 k2 k3 k4 k5 k6 k7
    rw [add_succ _ _ _ (by decide)] at k1 k2 k3 k4 k5 k6 k7
    obtain rfl := Option.some.inj (g0.symm.trans k0)
    obtain rfl := Option.some.inj (g1.symm.trans k1)
    obtain rfl := Option.some.inj (g2.symm.trans k2)
    obtain rfl := Option.some.inj (g3.symm.trans k3)
    obtain rfl := Option.some.inj (g4.symm.trans k4)
    obtain rfl := Option.some.inj (g5.symm.trans k5)
    obtain rfl := Option.some.inj (g6.symm.trans k6)
    obtain rfl := Option.some.inj (g7.symm.trans k7)
    exact ⟨_, _, _, _, _, _, g2, g3, g4, g5, g6, g7, uG_v (given_u hd2 (nf_el hnf (List.getElem?_eq_getElem (by omega))) (g := L[i]) ⟨_, _, _, _, _, _, rfl, hv, hs⟩)⟩
theorem undTh : ∃ f0 f1 f2 : Field, Tryz.prog.underlying 52 = some (.struct #[f0, f1, f2]) ∧ f0.type = 9 ∧ f0.offset = 0 ∧ f1.type = 9 ∧ f1.offset = 1 ∧ f2.type = 25 ∧ f2.offset = 2 :=
  ⟨_, _, _, Tryz.underlying52, rfl, rfl, rfl, rfl, rfl, rfl⟩
theorem cellsTh : Tryz.prog.cellsOf 52 = 3 := by kernel_rfl
theorem cellsTs : Tryz.prog.cellsOf 22 = 1 := by kernel_rfl
theorem undSt : ∃ f0 f1 : Field, Tryz.prog.underlying 24 = some (.struct #[f0, f1]) ∧ f0.type = 22 ∧ f0.offset = 0 ∧ f1.type = 3 ∧ f1.offset = 1 :=
  ⟨_, _, Tryz.underlying24, rfl, rfl, rfl, rfl⟩
theorem cellsSt : Tryz.prog.cellsOf 24 = 2 := by kernel_rfl
theorem thing_cells {n : Nat} {cs : List Value} {x : DataW H × List MemPlace} (h : DataW.trod enc Tryz.prog w base spare held n 52 cs = some x) :
    ∃ (t : Th) (pv : Value), cs = [.string t.ph, .string t.ty, pv] ∧ isGs w t.ps pv ∧ t.ph.size ≤ maxLen ∧ t.ty.size ≤ maxLen ∧ (w.noneFrozen x.2 → uGs w t.ps pv) := by
  obtain ⟨f0', f1', f2', hu, t0, o0, t1, o1, t2, o2⟩ := undTh
  obtain ⟨xs, m, rfl, rfl, hl, hxl, hall⟩ := DataW.trod_struct hu h
  rw [cellsTh] at hl
  obtain ⟨d0, d1, d2, rfl⟩ := list3 hl
  obtain ⟨a, b, c, rfl⟩ := list3 (l := xs) hxl
  have h0 := hall 0 f0' rfl
  have h1 := hall 1 f1' rfl
  have h2 := hall 2 f2' rfl
  simp only [t0, o0, t1, o1, t2, o2, cells9, cellsGs, List.drop_succ_cons, List.drop_zero, List.take_succ_cons, List.take_zero, List.getElem?_cons_zero, List.getElem?_cons_succ] at h0 h1 h2
  obtain ⟨s0, e0, _, hs0⟩ := DataW.trod_string Tryz.underlying9 h0
  obtain ⟨s1, e1, _, hs1⟩ := DataW.trod_string Tryz.underlying9 h1
  obtain ⟨L, hL⟩ := open_gs h2
  simp only [List.cons.injEq, and_true] at e0 e1
  exact ⟨⟨s0, s1, L⟩, d2, by rw [e0, e1], hL, hs0, hs1, fun hnf => gs_u h2 (nf_fld (i := 2) hnf rfl) hL⟩
instance : Inhabited Th := ⟨⟨⟨#[]⟩, ⟨#[]⟩, []⟩⟩
set_option maxRecDepth 100000 in
theorem open_ts {fuel : Nat} {v : Value} {y : DataW H × List MemPlace} (e4 : DataW.trod enc Tryz.prog w base spare held fuel 22 [v] = some y) : ∃ L : List Th, isTs w L v ∧ (w.noneFrozen y.2 → uTs w L v) := by
  rcases DataW.trod_slice Tryz.underlying22 e4 with ⟨h0, _⟩ | ⟨a, len, cap, elems, rest, n', hn', h0, hy, _, hlc, hcm, hel, hall, _⟩
  · obtain rfl : v = .slice none 0 0 := by simpa using h0
    exact ⟨[], ⟨⟨0, 0, none⟩, 0, ⟨none, rfl, Nat.le_refl _, by unfold maxLen; omega, fun h => absurd h (by decide)⟩, fun i hi => absurd hi (by simp)⟩, fun _ => ⟨none, 0, 0, rfl, fun a h => by cases h⟩⟩
  · obtain rfl : v = .slice (some a) len cap := by simpa using h0
    obtain ⟨l, hl, hp⟩ := list_of len (fun i (t : Th) => isTat w t (a.add (i * 3)) ∧ (w.noneFrozen y.2 → uTat w t (a.add (i * 3)))) (fun i hi => by
      have hi2 := hall i hi
      rw [List.getElem?_eq_getElem (by omega)] at hi2
      obtain ⟨ds, hd1, hd2⟩ := Option.bind_eq_some_iff.1 hi2
      rw [cellsTh] at hd1
      obtain ⟨_, hdl, hdc⟩ := World.cells?_some hd1
      obtain ⟨t, pv, hds, hX, hs0, hs1, hu⟩ := thing_cells hd2
      subst hds
      have g0 := hdc 0 (by omega)
      have g1 := hdc 1 (by omega)
      have g2 := hdc 2 (by omega)
      rw [add_add] at g0 g1 g2
      rw [add_succ _ _ _ (by decide)] at g1 g2
      exact ⟨t, ⟨pv, g0, g1, g2, hX, hs0, hs1⟩, fun hnf => ⟨pv, g2, hu (nf_el (by rw [hy] at hnf; exact hnf) (List.getElem?_eq_getElem (by omega)))⟩⟩)
    subst hl
    refine ⟨l, ⟨a, cap, ⟨some a, rfl, hlc, hcm, fun _ => rfl⟩, fun i hi => (hp i hi).1⟩, fun hnf => ⟨some a, _, _, rfl, fun a9 ha i hi => ?_⟩⟩
    obtain rfl := Option.some.inj ha
    exact (hp i hi).2 hnf
set_option maxRecDepth 100000 in
/-- An argument of type Store. -/
theorem open_arg_S {r : Reach} {b0 : Nat} {v : Value} {d : DataW H} {ps : List MemPlace} (hv : Value.okWide Tryz.prog w r b0 24 v) (h : DataW.Trod enc Tryz.prog w base spare held 24 v d ps) : ∃ s : St, isS w s v ∧ (w.noneFrozen ps → uS w s v) := by
  obtain ⟨cs, rfl, hsz⟩ := okWide_struct Tryz.underlying24 hv
  obtain ⟨fuel, hf⟩ := h
  have h : DataW.trod enc Tryz.prog w base spare held fuel 24 cs.toList = some (d, ps) := by simpa [Value.cells] using hf
  obtain ⟨f0', f1', hu, t0, o0, t1, o1⟩ := undSt
  obtain ⟨xs, m, rfl, hx, hl, hxl, hall⟩ := DataW.trod_struct hu h
  rw [cellsSt] at hl
  obtain ⟨cs⟩ := cs
  match cs, hl with
  | [lv, mv], _ =>
    match xs, hxl with
    | [y0, y1], _ =>
      have h0 := hall 0 f0' rfl
      have h1 := hall 1 f1' rfl
      simp only [t0, o0, t1, o1, cellsTs, cellsInt, List.drop_succ_cons, List.drop_zero, List.take_succ_cons, List.take_zero, List.getElem?_cons_zero, List.getElem?_cons_succ] at h0 h1
      obtain ⟨L, hL, huL⟩ := open_ts h0
      obtain ⟨k, e1, _, wk⟩ := DataW.trod_int Tryz.underlying3 h1
      simp only [List.cons.injEq, and_true] at e1
      subst e1
      simp only [Prod.mk.injEq] at hx
      refine ⟨⟨L, k⟩, ⟨lv, rfl, hL, by simp [Lit.wf, IntKind.min, IntKind.max, IntKind.bits, IntKind.signed] at wk; omega⟩, fun hnf => ⟨lv, _, rfl, huL ?_⟩⟩
      rw [hx.2] at hnf
      exact nf_fld (i := 0) hnf rfl
end
end Go.Proofs.YtdckldfekepopaaGreatDoor
