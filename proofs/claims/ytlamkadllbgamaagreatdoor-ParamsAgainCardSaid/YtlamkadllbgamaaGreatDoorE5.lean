/-
  The program's May; names in rows of the call's own; rise, Check.
-/
import Derived.Test.YtlamkadllbgamaaGreatDoorE4
import Derived.Test.YtlamkadllbgamaaGreatDoorGK
import Derived.Laws.EntriesVeiled
set_option linter.unusedVariables false
set_option linter.unusedSimpArgs false
namespace Go.Proofs.YtlamkadllbgamaaGreatDoor
open Go.RowKit Go.Maps

set_option maxRecDepth 100000 in
set_option maxHeartbeats 4000000 in
theorem May_any (p : PR) (g : G) (v u : Value) (w : World) (hE : Env w) (hP : fineP p) (hM : sizeV g.v ≤ 1000000) (hF : fineV g.v) (h : isP w p v) (hg : isG w g u) :
    Calls Tryz.prog 8 #[v, u] w fun e w' => e = .returned (.bool (mayP p g)) ∧ Below w.heap.size w w' := by
  obtain ⟨k, b, n, s, o, m, c, o2, m2, c2, oa, ca, rfl, hd, ha⟩ := isP_ten h
  obtain ⟨k3, b3, n3, s3, o3, m3, c3, o4, m4, c4, rfl, hv⟩ := isG_eight hg
  have HB0 : Hid (KB w ((w.alloc (.cells #[.string p.nm, .bool p.num, .bool p.has, .int .i8 k, .bool b, .int .i64 n, .string s, .slice o m c, .slice o2 m2 c2, .slice oa p.al.length ca] 37)).alloc (.cells #[.string g.nm, .bool g.unk, .int .i8 k3, .bool b3, .int .i64 n3, .string s3, .slice o3 m3 c3, .slice o4 m4 c4] 35))) := Lib.hid (by unfold KB; go_grown)
  have HN1 := Lib.hid ((Below.heap_alloc (w.alloc (.cells #[.string p.nm, .bool p.num, .bool p.has, .int .i8 k, .bool b, .int .i64 n, .string s, .slice o m c, .slice o2 m2 c2, .slice oa p.al.length ca] 37)) (.cells #[.string g.nm, .bool g.unk, .int .i8 k3, .bool b3, .int .i64 n3, .string s3, .slice o3 m3 c3, .slice o4 m4 c4] 35) w.heap.size (by simp)).trans (World.alloc_heap_new w (.cells #[.string p.nm, .bool p.num, .bool p.has, .int .i8 k, .bool b, .int .i64 n, .string s, .slice o m c, .slice o2 m2 c2, .slice oa p.al.length ca] 37)))
  have hn2 := World.alloc_heap_new (w.alloc (.cells #[.string p.nm, .bool p.num, .bool p.has, .int .i8 k, .bool b, .int .i64 n, .string s, .slice o m c, .slice o2 m2 c2, .slice oa p.al.length ca] 37)) (.cells #[.string g.nm, .bool g.unk, .int .i8 k3, .bool b3, .int .i64 n3, .string s3, .slice o3 m3 c3, .slice o4 m4 c4] 35)
  rw [World.size_alloc] at hn2
  have HN2 := Lib.hid hn2
  have HBE : Hid (∀ w1, KB w w1 → Calls Tryz.prog 18 #[.agg #[.string p.nm, .bool p.num, .bool p.has, .int .i8 k, .bool b, .int .i64 n, .string s, .slice o m c, .slice o2 m2 c2, .slice oa p.al.length ca]] w1 fun e w' => e = .returned (.bool (mayBe p)) ∧ Below w1.heap.size w1 w') := Lib.hid fun w1 hk => mayBe_any p _ w1 (hE.kb hk) hP (isP_below hk h)
  have HZ : Hid (∀ w1, KB w w1 → Calls Tryz.prog 19 #[.agg #[.int .i8 k3, .bool b3, .int .i64 n3, .string s3, .slice o3 m3 c3, .slice o4 m4 c4]] w1 fun e w' => e = .returned (.bool (sm g.v zV)) ∧ Below w1.heap.size w1 w') := Lib.hid fun w1 hk => zero_any g.v _ w1 (hE.kb hk) hM hF (isV_below hk hv)
  have HO : Hid (∀ w1, KB w w1 → Calls Tryz.prog 20 #[.agg #[.int .i8 k3, .bool b3, .int .i64 n3, .string s3, .slice o3 m3 c3, .slice o4 m4 c4], .bool p.num] w1 fun e w' => e = .returned (.bool (kindB p.num g.v)) ∧ Below w1.heap.size w1 w') := Lib.hid fun w1 hk => ofKind_any g.v p.num _ w1 (hE.kb hk) hM hF (isV_below hk hv)
  have HA : Hid (∀ w1, KB w w1 → Calls Tryz.prog 21 #[.agg #[.string p.nm, .bool p.num, .bool p.has, .int .i8 k, .bool b, .int .i64 n, .string s, .slice o m c, .slice o2 m2 c2, .slice oa p.al.length ca], .agg #[.int .i8 k3, .bool b3, .int .i64 n3, .string s3, .slice o3 m3 c3, .slice o4 m4 c4]] w1 fun e w' => e = .returned (.bool (allowedB p g.v)) ∧ Below w1.heap.size w1 w') := Lib.hid fun w1 hk => allowed_any p g.v _ _ w1 (hE.kb hk) hP.2.2 hM hF (isP_below hk h) (isV_below hk hv)
  unfold mayP
  generalize mayBe p = r0 at *
  generalize sm g.v zV = r1 at *
  generalize kindB p.num g.v = r2 at *
  generalize allowedB p g.v = r3 at *
  have hfl := hP.2.2.1
  clear h hd ha hE hP hM hF hg hv hn2
  obtain ⟨nm, num, has, d, al⟩ := p
  obtain ⟨gn, gu, gv⟩ := g
  dsimp only at *
  generalize al.length = q at *
  have HSZ : Hid (((w.alloc (.cells #[.string nm, .bool num, .bool has, .int .i8 k, .bool b, .int .i64 n, .string s, .slice o m c, .slice o2 m2 c2, .slice oa q ca] 37)).alloc (.cells #[.string gn, .bool gu, .int .i8 k3, .bool b3, .int .i64 n3, .string s3, .slice o3 m3 c3, .slice o4 m4 c4] 35)).heap.size = w.heap.size + 1 + 1) := Lib.hid (by simp)
  have HC : Hid (∀ w1, KB ((w.alloc (.cells #[.string nm, .bool num, .bool has, .int .i8 k, .bool b, .int .i64 n, .string s, .slice o m c, .slice o2 m2 c2, .slice oa q ca] 37)).alloc (.cells #[.string gn, .bool gu, .int .i8 k3, .bool b3, .int .i64 n3, .string s3, .slice o3 m3 c3, .slice o4 m4 c4] 35)) w1 → KB w w1 ∧ w1.heap[w.heap.size]? = some (.cells #[.string nm, .bool num, .bool has, .int .i8 k, .bool b, .int .i64 n, .string s, .slice o m c, .slice o2 m2 c2, .slice oa q ca] 37 (0, 0)) ∧ w1.heap[w.heap.size + 1]? = some (.cells #[.string gn, .bool gu, .int .i8 k3, .bool b3, .int .i64 n3, .string s3, .slice o3 m3 c3, .slice o4 m4 c4] 35 (0, 0))) := Lib.hid fun w1 hk => ⟨HB0.out.trans (hk.mono HB0.out.size), (hk.block _ (by have := HSZ.out; omega)).trans HN1.out, (hk.block _ (by have := HSZ.out; omega)).trans HN2.out⟩
  cases r0 with
  | false =>
    rw [Bool.false_and]
    go_enter Tryz.func8, Tryz.ntmps8
    go_wp2_with (go_at_call 18; refine (HBE.out _ HB0.out).mono ?_; rintro e w5 ⟨rfl, hb5⟩)
    go_ret
    exact ⟨rfl, HB0.out.trans (hb5.mono HB0.out.size)⟩
  | true =>
    rw [Bool.true_and]
    cases gu with
    | true =>
      rw [if_pos rfl]
      cases r1 with
      | false =>
        rw [Bool.false_and]
        go_enter Tryz.func8, Tryz.ntmps8
        go_wp2_with (first
          | (go_at_call 18; refine (HBE.out _ HB0.out).mono ?_; rintro e w5 ⟨rfl, hb5⟩; obtain ⟨hk5, hp5, hg5⟩ := HC.out _ hb5; have HK5 := Lib.hid hk5; obtain ⟨x0, x1, x2, x3, x4, x5, x6, x7, x8, x9⟩ := ten_cells hp5; obtain ⟨y0, y1, y2, y3, y4, y5, y6, y7⟩ := eight_cells hg5; have HP5 := Lib.hid hp5; clear hk5 hp5 hg5)
          | (go_at_call 19; refine (HZ.out _ HK5.out).mono ?_; rintro e w6 ⟨rfl, hb6⟩))
        go_ret
        exact ⟨rfl, HK5.out.trans (hb6.mono HK5.out.size)⟩
      | true =>
        rw [Bool.true_and]
        cases num with
        | true =>
          rw [Bool.not_true, Bool.false_and]
          go_enter Tryz.func8, Tryz.ntmps8
          go_wp2_with (first
            | (go_at_call 18; refine (HBE.out _ HB0.out).mono ?_; rintro e w5 ⟨rfl, hb5⟩; obtain ⟨hk5, hp5, hg5⟩ := HC.out _ hb5; have HK5 := Lib.hid hk5; obtain ⟨x0, x1, x2, x3, x4, x5, x6, x7, x8, x9⟩ := ten_cells hp5; obtain ⟨y0, y1, y2, y3, y4, y5, y6, y7⟩ := eight_cells hg5; have HP5 := Lib.hid hp5; clear hk5 hp5 hg5)
            | (go_at_call 19; refine (HZ.out _ HK5.out).mono ?_; rintro e w6 ⟨rfl, hb6⟩; obtain ⟨x0, x1, x2, x3, x4, x5, x6, x7, x8, x9⟩ := ten_cells ((hb6.block w.heap.size (Array.getElem?_eq_some_iff.1 HP5.out).1).trans HP5.out)))
          go_ret
          exact ⟨rfl, HK5.out.trans (hb6.mono HK5.out.size)⟩
        | false =>
          rw [Bool.not_false, Bool.true_and]
          by_cases hq : q = 0
          · subst hq
            rw [decide_eq_true rfl]
            go_enter Tryz.func8, Tryz.ntmps8
            go_wp2_with (first
              | (go_at_call 18; refine (HBE.out _ HB0.out).mono ?_; rintro e w5 ⟨rfl, hb5⟩; obtain ⟨hk5, hp5, hg5⟩ := HC.out _ hb5; have HK5 := Lib.hid hk5; obtain ⟨x0, x1, x2, x3, x4, x5, x6, x7, x8, x9⟩ := ten_cells hp5; obtain ⟨y0, y1, y2, y3, y4, y5, y6, y7⟩ := eight_cells hg5; have HP5 := Lib.hid hp5; clear hk5 hp5 hg5)
              | (go_at_call 19; refine (HZ.out _ HK5.out).mono ?_; rintro e w6 ⟨rfl, hb6⟩; obtain ⟨x0, x1, x2, x3, x4, x5, x6, x7, x8, x9⟩ := ten_cells ((hb6.block w.heap.size (Array.getElem?_eq_some_iff.1 HP5.out).1).trans HP5.out)))
            go_ret
            exact ⟨rfl, HK5.out.trans (hb6.mono HK5.out.size)⟩
          · rw [decide_eq_false hq]
            have z1 : (q == 0) = false := beq_eq_false_iff_ne.2 hq
            have z2 : ((q : Int) == 0) = false := beq_eq_false_iff_ne.2 (by omega)
            clear hq
            go_enter Tryz.func8, Tryz.ntmps8
            go_wp2_with (first
              | (go_at_call 18; refine (HBE.out _ HB0.out).mono ?_; rintro e w5 ⟨rfl, hb5⟩; obtain ⟨hk5, hp5, hg5⟩ := HC.out _ hb5; have HK5 := Lib.hid hk5; obtain ⟨x0, x1, x2, x3, x4, x5, x6, x7, x8, x9⟩ := ten_cells hp5; obtain ⟨y0, y1, y2, y3, y4, y5, y6, y7⟩ := eight_cells hg5; have HP5 := Lib.hid hp5; clear hk5 hp5 hg5)
              | (go_at_call 19; refine (HZ.out _ HK5.out).mono ?_; rintro e w6 ⟨rfl, hb6⟩; obtain ⟨x0, x1, x2, x3, x4, x5, x6, x7, x8, x9⟩ := ten_cells ((hb6.block w.heap.size (Array.getElem?_eq_some_iff.1 HP5.out).1).trans HP5.out)))
            go_ret
            exact ⟨rfl, HK5.out.trans (hb6.mono HK5.out.size)⟩
    | false =>
      rw [if_neg Bool.false_ne_true]
      cases r2 with
      | false =>
        rw [Bool.false_and]
        go_enter Tryz.func8, Tryz.ntmps8
        go_wp2_with (first
          | (go_at_call 18; refine (HBE.out _ HB0.out).mono ?_; rintro e w5 ⟨rfl, hb5⟩; obtain ⟨hk5, hp5, hg5⟩ := HC.out _ hb5; have HK5 := Lib.hid hk5; obtain ⟨x0, x1, x2, x3, x4, x5, x6, x7, x8, x9⟩ := ten_cells hp5; obtain ⟨y0, y1, y2, y3, y4, y5, y6, y7⟩ := eight_cells hg5; have HP5 := Lib.hid hp5; have HG5 := Lib.hid hg5; clear hk5 hp5 hg5)
          | (go_at_call 20; refine (HO.out _ HK5.out).mono ?_; rintro e w6 ⟨rfl, hb6⟩))
        go_ret
        exact ⟨rfl, HK5.out.trans (hb6.mono HK5.out.size)⟩
      | true =>
        rw [Bool.true_and]
        go_enter Tryz.func8, Tryz.ntmps8
        go_wp2_with (first
          | (go_at_call 18; refine (HBE.out _ HB0.out).mono ?_; rintro e w5 ⟨rfl, hb5⟩; obtain ⟨hk5, hp5, hg5⟩ := HC.out _ hb5; have HK5 := Lib.hid hk5; obtain ⟨x0, x1, x2, x3, x4, x5, x6, x7, x8, x9⟩ := ten_cells hp5; obtain ⟨y0, y1, y2, y3, y4, y5, y6, y7⟩ := eight_cells hg5; have HP5 := Lib.hid hp5; have HG5 := Lib.hid hg5; clear hk5 hp5 hg5)
          | (go_at_call 20; refine (HO.out _ HK5.out).mono ?_; rintro e w6 ⟨rfl, hb6⟩; obtain ⟨x0, x1, x2, x3, x4, x5, x6, x7, x8, x9⟩ := ten_cells ((hb6.block w.heap.size (Array.getElem?_eq_some_iff.1 HP5.out).1).trans HP5.out); obtain ⟨y0, y1, y2, y3, y4, y5, y6, y7⟩ := eight_cells ((hb6.block (w.heap.size + 1) (Array.getElem?_eq_some_iff.1 HG5.out).1).trans HG5.out); have HK6 := Lib.hid (HK5.out.trans (hb6.mono HK5.out.size)))
          | (go_at_call 21; refine (HA.out _ HK6.out).mono ?_; rintro e w7 ⟨rfl, hb7⟩))
        go_ret
        exact ⟨rfl, HK6.out.trans (hb7.mono HK6.out.size)⟩

set_option maxHeartbeats 1000000 in
theorem namesC_any (p : PR) (v : Value) (w : World) (h : isP w p v) : Calls Tryz.prog 57 #[v] w fun e w' => e = .returned (.string p.nm) ∧ Below w.heap.size w w' := by
  obtain ⟨k, b, n, s, o, m, c, o2, m2, c2, oa, ca, rfl, -⟩ := isP_ten h
  have HB0 : Hid (KB w (w.alloc (.cells #[.string p.nm, .bool p.num, .bool p.has, .int .i8 k, .bool b, .int .i64 n, .string s, .slice o m c, .slice o2 m2 c2, .slice oa p.al.length ca] 37))) := Lib.hid kbA
  clear h
  go_enter Tryz.func57, Tryz.ntmps57
  go_wp2_with fail
  go_ret
  exact ⟨rfl, HB0.out⟩
set_option maxHeartbeats 1000000 in
theorem namesG_any (g : G) (v : Value) (w : World) (h : isG w g v) : Calls Tryz.prog 34 #[v] w fun e w' => e = .returned (.string g.nm) ∧ Below w.heap.size w w' := by
  obtain ⟨k, b, n, s, o, m, c, o2, m2, c2, rfl, -⟩ := isG_eight h
  have HB0 : Hid (KB w (w.alloc (.cells #[.string g.nm, .bool g.unk, .int .i8 k, .bool b, .int .i64 n, .string s, .slice o m c, .slice o2 m2 c2] 35))) := Lib.hid kbA
  clear h
  go_enter Tryz.func34, Tryz.ntmps34
  go_wp2_with fail
  go_ret
  exact ⟨rfl, HB0.out⟩

theorem own_below {W W' : World} {base : Nat} {e : TypeId} {size n : Nat} {v : Value} {xs : List Value} (h : W.ownsRow base e size v n xs) (hb : Below W.heap.size W W') : W'.ownsRow base e size v n xs := by
  by_cases hq : v.ownBlock = none
  · exact h.kept (grown_bel hb) (.inl hq)
  · exact h.kept (grown_bel hb) (.inr hq)
def nmL (ks : List ByteArray) : List Value := ks.map Value.string
/-- A row of names of the call's own. -/
theorem isK_own {W : World} {base : Nat} {v : Value} {ks : List ByteArray} (hs : ∀ k ∈ ks, k.size ≤ maxLen) (h : W.ownsRow base 9 1 v ks.length (nmL ks)) : isK W ks v := by
  obtain ⟨o, ad, c, rfl, h1, h2, h3, _, h5⟩ := own_form h
  refine ⟨ad, c, ⟨o, rfl, h1, h2, h3⟩, fun i hi => ⟨h5 i _ (by unfold nmL; rw [List.getElem?_map, List.getElem?_eq_getElem hi]; rfl), hs _ (List.getElem_mem hi)⟩⟩

set_option maxRecDepth 100000 in
set_option maxHeartbeats 4000000 in
theorem eachPS_any (L : List PR) (v : Value) (w : World) (hl : L.length ≤ 1000000) (h : isPs w L v) :
    Calls Tryz.prog 56 #[v, .func (.func 57) #[] #[]] w fun e w' => (∃ v', e = .returned v' ∧ isK w' (L.map PR.nm) v') ∧ Below w.heap.size w w' := by
  obtain ⟨a, cap, ⟨o, rfl, hc1, hc2, ho⟩, hgs⟩ := h
  unfold maxLen at hc2
  have HK := Lib.hid hgs
  obtain ⟨i0, hi0, hz0, hz1, hz2⟩ := info_parts infoStr
  have ef : ∀ args w, (callFunc 57 args).run Tryz.prog w = .ok (.enter 57 args) w := enters_of Tryz.func57 (by kernel_rfl) rfl
  clear hgs
  go_enter Tryz.func56, Tryz.ntmps56
  go_wp2_with fail
  go_loopw [5, 10] (fun ov i wr => ∃ (j c : Nat) (oo : Option Addr), j ≤ L.length ∧ ov = .slice oo j c ∧ i = .int .i64 j ∧ Hid (Below w.heap.size w wr) ∧ Hid (wr.ownsRow w.heap.size 9 1 (.slice oo j c) j (nmL ((L.take j).map PR.nm)))) (fun _ i _ => L.length - (intOf i).toNat)
  case atStart => exact ⟨0, 0, none, by omega, rfl, rfl, Lib.hid (Below.refl _ _), Lib.hid ⟨by simp [nmL], .inl ⟨rfl, rfl⟩⟩⟩
  case round =>
    obtain ⟨j, c9, oo, hj, rfl, rfl, hB, hO⟩ := hrel
    by_cases hlt : j < L.length
    · obtain rfl := ho (by omega)
      obtain ⟨k, b, n, s, o, m, c, o2, m2, c2, oa, ca, g0, g1, g2, g3, g4, g5, g6, g7, g8, g9, hgg⟩ := isPat_ten (isPat_below hB.out (HK.out j hlt))
      have HA1 : Hid (KB wr (wr.alloc (.cells #[.string L[j].nm, .bool L[j].num, .bool L[j].has, .int .i8 k, .bool b, .int .i64 n, .string s, .slice o m c, .slice o2 m2 c2, .slice oa L[j].al.length ca] 37))) := Lib.hid kbA
      have HC : Hid (∀ w1, KB wr w1 → Calls Tryz.prog 57 #[.agg #[.string L[j].nm, .bool L[j].num, .bool L[j].has, .int .i8 k, .bool b, .int .i64 n, .string s, .slice o m c, .slice o2 m2 c2, .slice oa L[j].al.length ca]] w1 fun e w' => e = .returned (.string L[j].nm) ∧ Below w1.heap.size w1 w') := Lib.hid fun w1 hK => namesC_any L[j] _ w1 (isP_below hK hgg)
      have hrow : nmL ((L.take j).map PR.nm) ++ [Value.string L[j].nm] = nmL ((L.take (j + 1)).map PR.nm) := by
        unfold nmL
        rw [List.take_succ_eq_append_getElem hlt, List.map_append, List.map_append]
        rfl
      have HROW := Lib.hid hrow
      have hlj : j + 1 ≤ 1000000 := by omega
      clear hgg hrow
      generalize L[j] = g at *
      go_wp2_with (first
        | (go_at_fn 57; refine (HC.out _ HA1.out).mono ?_; rintro e w5 ⟨rfl, hb5⟩; have HB5 := Lib.hid (hB.out.trans ((HA1.out.trans (hb5.mono HA1.out.size)).mono hB.out.size)); have HO5 := Lib.hid (own_below (own_below hO.out HA1.out) hb5); clear hb5)
        | (at_builtin; refine wpList_append_row_at rfl _ _ 31 rfl w.heap.size 9 i0 _ 1 16 Tryz.underlying31 hi0 hz0 hz1 hz2 rfl (by decide) _ j _ rfl (own_below HO5.out kbA) (some ⟨w5.heap.size, 0, none⟩) ⟨w5.heap.size, 0, none⟩ 1 1 [.string g.nm] rfl (fun _ => rfl) rfl ?d1 ?d2 (by unfold maxLen; omega) (by omega) ?d3 ?_))
      case d1 =>
        intro q u hq
        rcases q with _ | q
        · obtain rfl := Option.some.inj hq
          simp [Addr.add]
        · simp at hq
      case d2 => intro u hu; rw [List.mem_singleton.1 hu]; rfl
      case d3 => have := HB5.out.size; simp; omega
      intro o' c' w8 hown' hgrow hat
      have HO8 : Hid (w8.ownsRow w.heap.size 9 1 (.slice o' (j + 1) c') (j + 1) (nmL ((L.take (j + 1)).map PR.nm))) := Lib.hid (by rw [← HROW.out]; simpa only [List.map_take] using hown')
      have HB8 : Hid (Below w.heap.size w w8) := Lib.hid ((HB5.out.trans (kbA.mono HB5.out.size)).grown hgrow (by have := HB5.out.size; simp; omega) (fun r e => (HO5.out.lt r e).1))
      clear hown' hgrow hat HO5 HB5 hO hB
      go_wp2_with fail
      go_roundw
      case rel => exact ⟨j + 1, c', o', by omega, rfl, by go_num, HB8, HO8⟩
      case measure => simp [intOf]; omega
    · obtain rfl : j = L.length := by omega
      have hRES : isK wr (L.map PR.nm) (.slice oo L.length c9) := by
        have h1 := hO.out
        rw [List.take_of_length_le (Nat.le_refl _)] at h1
        refine isK_own (base := w.heap.size) (fun k hk => ?_) (by rw [List.length_map]; exact h1)
        obtain ⟨g, hg, rfl⟩ := List.mem_map.1 hk
        obtain ⟨i, hi, rfl⟩ := List.getElem_of_mem hg
        exact (by obtain ⟨_, _, _, _, _, _, _, _, _, _, _, _, _, _, _, _, _, _, _, _, _, _, ⟨_, _, _, _, _, _, _, _, _, _, _, _, _, _, _, _, _, h⟩⟩ := isPat_ten (HK.out i hi); exact h)
      have HRES := Lib.hid hRES
      clear hRES hO
      go_wp2_with fail
      go_ret
      exact ⟨⟨_, rfl, HRES.out⟩, hB.out⟩

set_option maxRecDepth 100000 in
set_option maxHeartbeats 4000000 in
theorem eachGS_any (L : List G) (v : Value) (w : World) (hl : L.length ≤ 1000000) (h : isGs w L v) :
    Calls Tryz.prog 33 #[v, .func (.func 34) #[] #[]] w fun e w' => (∃ v', e = .returned v' ∧ isK w' (L.map G.nm) v') ∧ Below w.heap.size w w' := by
  obtain ⟨a, cap, ⟨o, rfl, hc1, hc2, ho⟩, hgs⟩ := h
  unfold maxLen at hc2
  have HK := Lib.hid hgs
  obtain ⟨i0, hi0, hz0, hz1, hz2⟩ := info_parts infoStr
  have ef : ∀ args w, (callFunc 34 args).run Tryz.prog w = .ok (.enter 34 args) w := enters_of Tryz.func34 (by kernel_rfl) rfl
  clear hgs
  go_enter Tryz.func33, Tryz.ntmps33
  go_wp2_with fail
  go_loopw [5, 10] (fun ov i wr => ∃ (j c : Nat) (oo : Option Addr), j ≤ L.length ∧ ov = .slice oo j c ∧ i = .int .i64 j ∧ Hid (Below w.heap.size w wr) ∧ Hid (wr.ownsRow w.heap.size 9 1 (.slice oo j c) j (nmL ((L.take j).map G.nm)))) (fun _ i _ => L.length - (intOf i).toNat)
  case atStart => exact ⟨0, 0, none, by omega, rfl, rfl, Lib.hid (Below.refl _ _), Lib.hid ⟨by simp [nmL], .inl ⟨rfl, rfl⟩⟩⟩
  case round =>
    obtain ⟨j, c9, oo, hj, rfl, rfl, hB, hO⟩ := hrel
    by_cases hlt : j < L.length
    · obtain rfl := ho (by omega)
      obtain ⟨k, b, n, s, o, m, c, o2, m2, c2, g0, g1, g2, g3, g4, g5, g6, g7, hgg⟩ := isGat_eight (isGat_below hB.out (HK.out j hlt))
      have HA1 : Hid (KB wr (wr.alloc (.cells #[.string L[j].nm, .bool L[j].unk, .int .i8 k, .bool b, .int .i64 n, .string s, .slice o m c, .slice o2 m2 c2] 35))) := Lib.hid kbA
      have HC : Hid (∀ w1, KB wr w1 → Calls Tryz.prog 34 #[.agg #[.string L[j].nm, .bool L[j].unk, .int .i8 k, .bool b, .int .i64 n, .string s, .slice o m c, .slice o2 m2 c2]] w1 fun e w' => e = .returned (.string L[j].nm) ∧ Below w1.heap.size w1 w') := Lib.hid fun w1 hK => namesG_any L[j] _ w1 (isG_below hK hgg)
      have hrow : nmL ((L.take j).map G.nm) ++ [Value.string L[j].nm] = nmL ((L.take (j + 1)).map G.nm) := by
        unfold nmL
        rw [List.take_succ_eq_append_getElem hlt, List.map_append, List.map_append]
        rfl
      have HROW := Lib.hid hrow
      have hlj : j + 1 ≤ 1000000 := by omega
      clear hgg hrow
      generalize L[j] = g at *
      go_wp2_with (first
        | (go_at_fn 34; refine (HC.out _ HA1.out).mono ?_; rintro e w5 ⟨rfl, hb5⟩; have HB5 := Lib.hid (hB.out.trans ((HA1.out.trans (hb5.mono HA1.out.size)).mono hB.out.size)); have HO5 := Lib.hid (own_below (own_below hO.out HA1.out) hb5); clear hb5)
        | (at_builtin; refine wpList_append_row_at rfl _ _ 31 rfl w.heap.size 9 i0 _ 1 16 Tryz.underlying31 hi0 hz0 hz1 hz2 rfl (by decide) _ j _ rfl (own_below HO5.out kbA) (some ⟨w5.heap.size, 0, none⟩) ⟨w5.heap.size, 0, none⟩ 1 1 [.string g.nm] rfl (fun _ => rfl) rfl ?d1 ?d2 (by unfold maxLen; omega) (by omega) ?d3 ?_))
      case d1 =>
        intro q u hq
        rcases q with _ | q
        · obtain rfl := Option.some.inj hq
          simp [Addr.add]
        · simp at hq
      case d2 => intro u hu; rw [List.mem_singleton.1 hu]; rfl
      case d3 => have := HB5.out.size; simp; omega
      intro o' c' w8 hown' hgrow hat
      have HO8 : Hid (w8.ownsRow w.heap.size 9 1 (.slice o' (j + 1) c') (j + 1) (nmL ((L.take (j + 1)).map G.nm))) := Lib.hid (by rw [← HROW.out]; simpa only [List.map_take] using hown')
      have HB8 : Hid (Below w.heap.size w w8) := Lib.hid ((HB5.out.trans (kbA.mono HB5.out.size)).grown hgrow (by have := HB5.out.size; simp; omega) (fun r e => (HO5.out.lt r e).1))
      clear hown' hgrow hat HO5 HB5 hO hB
      go_wp2_with fail
      go_roundw
      case rel => exact ⟨j + 1, c', o', by omega, rfl, by go_num, HB8, HO8⟩
      case measure => simp [intOf]; omega
    · obtain rfl : j = L.length := by omega
      have hRES : isK wr (L.map G.nm) (.slice oo L.length c9) := by
        have h1 := hO.out
        rw [List.take_of_length_le (Nat.le_refl _)] at h1
        refine isK_own (base := w.heap.size) (fun k hk => ?_) (by rw [List.length_map]; exact h1)
        obtain ⟨g, hg, rfl⟩ := List.mem_map.1 hk
        obtain ⟨i, hi, rfl⟩ := List.getElem_of_mem hg
        exact (by obtain ⟨_, _, _, _, _, _, _, _, _, _, _, _, _, _, _, h⟩ := HK.out i hi; exact h)
      have HRES := Lib.hid hRES
      clear hRES hO
      go_wp2_with fail
      go_ret
      exact ⟨⟨_, rfl, HRES.out⟩, hB.out⟩


theorem run_geq_str (s t : ByteArray) (W : World) : (binOp BinOp.geq 9 (.string s) (.string t)).run Tryz.prog W = .ok (.bool (!Op.bytesLess s.toList t.toList)) W := by kernel_rfl
theorem rise_no {l : List ByteArray} {i : Nat} (hi : i + 1 < l.length) (h : Op.bytesLess (l.getD i ⟨#[]⟩).toList (l.getD (i + 1) ⟨#[]⟩).toList = false) : riseB l = false := by
  unfold riseB
  rw [Bool.eq_false_iff]
  intro e
  have := List.all_eq_true.1 e i (List.mem_range.2 (by omega))
  rw [h] at this; cases this
theorem rise_yes {l : List ByteArray} (h : ∀ i, i + 1 < l.length → Op.bytesLess (l.getD i ⟨#[]⟩).toList (l.getD (i + 1) ⟨#[]⟩).toList = true) : riseB l = true := by
  unfold riseB
  rw [List.all_eq_true]
  exact fun i hi => h i (by have := List.mem_range.1 hi; omega)
set_option maxRecDepth 100000 in
set_option maxHeartbeats 4000000 in
theorem rise_any (ks : List ByteArray) (v : Value) (w : World) (hl : ks.length ≤ 1000000) (h : isK w ks v) :
    Calls Tryz.prog 26 #[v] w fun e w' => e = .returned (.bool (riseB ks)) ∧ Below w.heap.size w w' := by
  obtain ⟨a, cap, ⟨o, rfl, hc1, hc2, ho⟩, hks⟩ := h
  unfold maxLen at hc2
  have HK := Lib.hid hks
  obtain ⟨r, hr⟩ : ∃ r, riseB ks = r := ⟨_, rfl⟩
  have HR := Lib.hid hr
  obtain ⟨q, hq⟩ : ∃ q, ks.length = q := ⟨_, rfl⟩
  rw [hr, hq]
  rw [hq] at hc1 ho hl
  have HQ := Lib.hid hq.symm
  clear hks hr hq
  go_enter Tryz.func26, Tryz.ntmps26
  go_wp2_with fail
  go_loopw [3] (fun i wr => ∃ j : Nat, 1 ≤ j ∧ j ≤ q + 1 ∧ i = .int .i64 j ∧ Hid (Below w.heap.size w wr) ∧ Hid (∀ i, i + 1 < j → Op.bytesLess (ks.getD i ⟨#[]⟩).toList (ks.getD (i + 1) ⟨#[]⟩).toList = true)) (fun i _ => q + 1 - (intOf i).toNat)
  case atStart => exact ⟨1, by omega, by omega, rfl, Lib.hid (Below.refl _ _), Lib.hid (fun _ h => absurd h (by omega))⟩
  case round =>
    obtain ⟨j, hj1, hj, rfl, hB, hno⟩ := hrel
    by_cases hlt : j < q
    · obtain ⟨d, hd⟩ : ∃ d, j = d + 1 := ⟨j - 1, by omega⟩
      have HJ := Lib.hid hd
      obtain rfl := ho (by omega)
      have g1 := cell_below hB.out _ _ (HK.out d (by rw [← HQ.out]; omega)).1
      have g2 := cell_below hB.out _ _ (HK.out j (by rw [← HQ.out]; omega)).1
      have e1 : ks.getD d ⟨#[]⟩ = ks[d]'(by rw [← HQ.out]; omega) := getD_lt _ _ _ _
      have e2 : ks.getD j ⟨#[]⟩ = ks[j]'(by rw [← HQ.out]; omega) := getD_lt _ _ _ _
      have y2 : (j : Int) - 1 = (d : Int) := by omega
      have y3 : IntKind.i64.wrap (d : Int) = (d : Int) := IntWalk.i64_in _ (by omega)
      have i1 : (d : Int) < (q : Int) := by omega
      have i2 : d < q := by omega
      obtain ⟨R, hRR⟩ : ∃ R, Op.bytesLess (ks.getD d ⟨#[]⟩).toList (ks.getD j ⟨#[]⟩).toList = R := ⟨_, rfl⟩
      have hgq : ∀ W, (binOp BinOp.geq 9 (.string (ks.getD d ⟨#[]⟩)) (.string (ks.getD j ⟨#[]⟩))).run Tryz.prog W = .ok (.bool (!R)) W := fun W => by rw [run_geq_str, hRR]
      rw [← e1] at g1
      rw [← e2] at g2
      have HRR := Lib.hid hRR
      have HN2 : R = true → Hid (∀ i, i + 1 < j + 1 → Op.bytesLess (ks.getD i ⟨#[]⟩).toList (ks.getD (i + 1) ⟨#[]⟩).toList = true) := fun e => Lib.hid fun i hi => by
        by_cases e3 : i = d
        · subst e3; rw [← HJ.out, HRR.out, e]
        · exact hno.out i (by have := HJ.out; omega)
      have HBD : R = false → Hid (r = false) := fun e => Lib.hid (by rw [← HR.out]; exact rise_no (i := d) (by rw [← HJ.out, ← HQ.out]; exact hlt) (by rw [← HJ.out, HRR.out, e]))
      clear hno hRR e1 e2 hd
      generalize ks.getD d ⟨#[]⟩ = s1 at *
      generalize ks.getD j ⟨#[]⟩ = s2 at *
      cases R with
      | false =>
        have HRES := HBD rfl
        clear HBD HN2
        rw [Bool.not_false] at hgq
        go_wp2_with fail
        refine Rn.region_any (by kernel_rfl) ?_
        refine Rn.any_end 0 (by kernel_rfl) ?_
        simp only [List.drop_zero]
        repeat (refine Rn.ws_one (fun KK hKK => ?_); go_simp; refine hKK _ ?_; clear hKK KK)
        refine Rn.ws_nil ?_
        go_wp2_with fail
        go_ret
        exact ⟨by rw [HRES.out]; rfl, Below.drew hB.out⟩
      | true =>
        have HNN := HN2 rfl
        clear HBD HN2
        rw [Bool.not_true] at hgq
        go_wp2_with fail
        refine Rn.region_any (by kernel_rfl) ?_
        refine Rn.any_end 0 (by kernel_rfl) ?_
        simp only [List.drop_zero]
        repeat (refine Rn.ws_one (fun KK hKK => ?_); go_simp; refine hKK _ ?_; clear hKK KK)
        refine Rn.ws_nil ?_
        go_wp2_with fail
        go_roundw
        case rel => exact ⟨j + 1, by omega, by omega, by go_num, Lib.hid (Below.drew hB.out), HNN⟩
        case measure => simp [intOf]; omega
    · have HRES : Hid (r = true) := Lib.hid (by rw [← HR.out]; exact rise_yes (fun i hi => hno.out i (by rw [← HQ.out] at hi; omega)))
      go_wp2_with fail
      go_ret
      exact ⟨by rw [HRES.out]; rfl, hB.out⟩
end Go.Proofs.YtlamkadllbgamaaGreatDoor
