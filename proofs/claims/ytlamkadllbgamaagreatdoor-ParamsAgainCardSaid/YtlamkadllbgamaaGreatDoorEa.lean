/-
  Bind: the row of values that it hands back.
-/
import Derived.Test.YtlamkadllbgamaaGreatDoorE9
set_option linter.unusedVariables false
set_option linter.unusedSimpArgs false
namespace Go.Proofs.YtlamkadllbgamaaGreatDoor
open Go.RowKit Go.Maps

/-- A value without lists. -/
def flatV (x : V) : Prop := x.list = [] ∧ x.keys = []
theorem isV_flat {W W' : World} {x : V} {v : Value} (hx : flatV x) (h : isV W x v) : isV W' x v := by
  obtain ⟨k, b, n, s, l, ks⟩ := x
  obtain ⟨h1, h2⟩ := hx
  simp only [V.list, V.keys] at h1 h2
  subst h1 h2
  unfold isV at h ⊢
  obtain ⟨lv, kv, e, g1, g2, g3, ⟨a, cap, g4, _⟩, ⟨a', cap', g5, _⟩⟩ := h
  exact ⟨lv, kv, e, g1, g2, g3, ⟨a, cap, g4, by unfold isVs; trivial⟩, ⟨a', cap', g5, fun i hi => by simp at hi⟩⟩
theorem isG_flat {W W' : World} {g : G} {v : Value} (hx : flatV g.v) (h : isG W g v) : isG W' g v := by
  obtain ⟨c0, c1, c2, c3, c4, c5, e, h1, h2⟩ := h
  exact ⟨c0, c1, c2, c3, c4, c5, e, isV_flat hx h1, h2⟩
theorem isGL_flat {W W' : World} : ∀ (l : List G) (xs : List Value), (∀ g ∈ l, flatV g.v) → isGL W l xs → isGL W' l xs
  | [], xs, _, h => by unfold isGL at h ⊢; exact h
  | g :: t, xs, hf, h => by
    unfold isGL at h ⊢
    obtain ⟨c0, c1, c2, c3, c4, c5, rest, e, h1, h2, h3⟩ := h
    exact ⟨c0, c1, c2, c3, c4, c5, rest, e, isV_flat (hf g List.mem_cons_self) h1, h2, isGL_flat t rest (fun q hq => hf q (List.mem_cons_of_mem _ hq)) h3⟩
theorem isGs_own {W : World} {base : Nat} {v : Value} {L : List G} {xs : List Value} (h : W.ownsRow base 35 8 v L.length xs) (hx : isGL W L xs) : isGs W L v := by
  obtain ⟨o, ad, c, rfl, h1, h2, h3, h4, h5⟩ := own_form h
  by_cases h0 : 0 < L.length
  · obtain rfl := h3 h0
    have hsp : ad.spot = none := by
      obtain ⟨g, t, rfl⟩ : ∃ g t, L = g :: t := by
        cases L with
        | nil => simp at h0
        | cons g t => exact ⟨g, t, rfl⟩
      unfold isGL at hx
      obtain ⟨c0, c1, c2, c3, c4, c5, rest, e, _⟩ := hx
      have := h5 0 _ (by rw [e]; rfl)
      rw [show ad.add 0 = ad by unfold Addr.add; rw [if_pos rfl]] at this
      exact cell_spot this
    exact ⟨ad, c, ⟨_, rfl, h1, h2, fun _ => rfl⟩, isGL_at L xs ad hsp hx h5⟩
  · exact ⟨ad, c, ⟨o, rfl, h1, h2, h3⟩, fun i hi => absurd hi (by omega)⟩

set_option maxRecDepth 100000 in
set_option maxHeartbeats 4000000 in
theorem bindC_any (p : PR) (gs : List G) (b2 : Nat) (u v : Value) (w : World) (hP : fineP p) (hG : fineG gs) (hf : flatV (valP gs p).v) (h : isP w p v) (h' : isGs w gs u) (hb : w.cell? ⟨b2, 0, none⟩ = some u) :
    Calls Tryz.prog 16 #[v, .pointer (some ⟨b2, 0, none⟩)] w fun e w' => (∃ v', e = .returned v' ∧ isG w' (valP gs p) v') ∧ Below w.heap.size w w' := by
  obtain ⟨k, b, n, s, o, m, c, o2, m2, c2, oa, ca, rfl, hd, ha⟩ := isP_ten h
  have HB0 : Hid (KB w ((w.alloc (.cells #[.string p.nm, .bool p.num, .bool p.has, .int .i8 k, .bool b, .int .i64 n, .string s, .slice o m c, .slice o2 m2 c2, .slice oa p.al.length ca] 37)).alloc (.cells #[.string ⟨#[]⟩, .bool false, .int .i8 0, .bool false, .int .i64 0, .string ⟨#[]⟩, .slice none 0 0, .slice none 0 0] 35))) := Lib.hid (by unfold KB; go_grown)
  have hn2 := World.alloc_heap_new (w.alloc (.cells #[.string p.nm, .bool p.num, .bool p.has, .int .i8 k, .bool b, .int .i64 n, .string s, .slice o m c, .slice o2 m2 c2, .slice oa p.al.length ca] 37)) (.cells #[.string ⟨#[]⟩, .bool false, .int .i8 0, .bool false, .int .i64 0, .string ⟨#[]⟩, .slice none 0 0, .slice none 0 0] 35)
  rw [World.size_alloc] at hn2
  have hsz : ((w.alloc (.cells #[.string p.nm, .bool p.num, .bool p.has, .int .i8 k, .bool b, .int .i64 n, .string s, .slice o m c, .slice o2 m2 c2, .slice oa p.al.length ca] 37)).alloc (.cells #[.string ⟨#[]⟩, .bool false, .int .i8 0, .bool false, .int .i64 0, .string ⟨#[]⟩, .slice none 0 0, .slice none 0 0] 35)).heap.size = w.heap.size + 1 + 1 := by simp
  have HV : Hid (∀ w1, KB w w1 → Calls Tryz.prog 17 #[.agg #[.string p.nm, .bool p.num, .bool p.has, .int .i8 k, .bool b, .int .i64 n, .string s, .slice o m c, .slice o2 m2 c2, .slice oa p.al.length ca], u] w1 fun e w' => (∃ v', e = .returned v' ∧ isG w' (valP gs p) v') ∧ Below w1.heap.size w1 w') := Lib.hid fun w1 hk => value_any p gs _ u w1 hP hG (isP_below hk h) (isGs_below hk h')
  have hu := cell_below HB0.out _ _ hb
  have HN2 := Lib.hid hn2
  have HSZ := Lib.hid hsz
  have HFL := Lib.hid hf
  obtain ⟨o', c', rfl⟩ := isGs_form h'
  generalize valP gs p = g at *
  clear h h' hd ha hP hG hb hn2 hsz hf
  generalize gs.length = n' at *
  generalize p.al.length = q9 at *
  go_enter Tryz.func16, Tryz.ntmps16
  go_wp2_with (go_at_call 17; refine (HV.out _ HB0.out).mono ?_; rintro e w5 ⟨⟨v5, rfl, hg5⟩, hb5⟩; obtain ⟨k3, b3, n3, s3, o3, m3, c3, o4, m4, c4, rfl, -⟩ := isG_eight hg5; obtain ⟨z1, z2, z3, z4, z5, z6, z7, z8, ⟨⟨_, t0⟩, t0', t0''⟩, ⟨⟨_, t1⟩, t1', t1''⟩, ⟨⟨_, t2⟩, t2', t2''⟩, ⟨⟨_, t3⟩, t3', t3''⟩, ⟨⟨_, t4⟩, t4', t4''⟩, ⟨⟨_, t5⟩, t5', t5''⟩, ⟨⟨_, t6⟩, t6', t6''⟩, ⟨⟨_, t7⟩, t7', t7''⟩, hgz, u0, u1, u2, u3, u4, u5, u6, u7⟩ := fill_eight (d0 := .string g.nm) (d1 := .bool g.unk) (d2 := .int .i8 k3) (d3 := .bool b3) (d4 := .int .i64 n3) (d5 := .string s3) (d6 := .slice o3 m3 c3) (d7 := .slice o4 m4 c4) ((hb5.block (w.heap.size + 1) (by rw [HSZ.out]; omega)).trans HN2.out); have HG := Lib.hid (And.intro hg5 (And.intro hb5 (And.intro hgz (And.intro u0 (And.intro u1 (And.intro u2 (And.intro u3 (And.intro u4 (And.intro u5 (And.intro u6 u7)))))))))); clear hg5 hb5 hgz u0 u1 u2 u3 u4 u5 u6 u7)
  obtain ⟨hg5, hb5, hgz, u0, u1, u2, u3, u4, u5, u6, u7⟩ := HG.out
  refine bodyPost_ret (v := .agg #[.string g.nm, .bool g.unk, .int .i8 k3, .bool b3, .int .i64 n3, .string s3, .slice o3 m3 c3, .slice o4 m4 c4]) (by simp [results, Tryz.results16, go_sem, u0, u1, u2, u3, u4, u5, u6, u7]) rfl ?_
  have k5 := HB0.out.trans (hb5.mono HB0.out.size)
  exact ⟨⟨_, rfl, isG_flat HFL.out hg5⟩, k5.grown hgz k5.size (fun r e => by cases e; omega)⟩

theorem infoGv : (Tryz.prog.info? 35).map (fun i => (i.zero, i.size, i.bytes)) = some (some (.agg #[.string ⟨#[]⟩, .bool false, .int .i8 0, .bool false, .int .i64 0, .string ⟨#[]⟩, .slice none 0 0, .slice none 0 0]), 8, 104) := by kernel_rfl
set_option maxRecDepth 100000 in
set_option maxHeartbeats 4000000 in
theorem eachPG_any (L : List PR) (gs : List G) (b2 : Nat) (v u : Value) (w : World) (hP : finePs L) (hG : fineG gs) (hf : ∀ p ∈ L, flatV (valP gs p).v) (h : isPs w L v) (h' : isGs w gs u) (hb : w.cell? ⟨b2, 0, none⟩ = some u) :
    Calls Tryz.prog 15 #[v, .func (.func 16) #[] #[.pointer (some ⟨b2, 0, none⟩)]] w fun e w' => (∃ v' xs, e = .returned v' ∧ w'.ownsRow w.heap.size 35 8 v' L.length xs ∧ isGL w' (L.map (valP gs)) xs) ∧ Below w.heap.size w w' := by
  obtain ⟨a, cap, ⟨o, rfl, hc1, hc2, ho⟩, hgs⟩ := h
  unfold maxLen at hc2
  have HK := Lib.hid hgs
  have HCL : Hid (∀ w1, KB w w1 → ∀ j (h : j < L.length) z, isP w1 L[j] z → Calls Tryz.prog 16 #[z, .pointer (some ⟨b2, 0, none⟩)] w1 fun e w' => (∃ v', e = .returned v' ∧ isG w' (valP gs L[j]) v') ∧ Below w1.heap.size w1 w') := Lib.hid fun w1 hk j hj z hz => bindC_any L[j] gs b2 u z w1 (hP.2 _ (List.getElem_mem hj)) hG (hf _ (List.getElem_mem hj)) hz (isGs_below hk h') (cell_below hk _ _ hb)
  have HFL := Lib.hid hf
  have hl := hP.1
  obtain ⟨i0, hi0, hz0, hz1, hz2⟩ := info_parts infoGv
  have ef : ∀ args w, (callFunc 16 args).run Tryz.prog w = .ok (.enter 16 args) w := enters_of Tryz.func16 (by kernel_rfl) rfl
  clear hgs hP hG hf h' hb
  go_enter Tryz.func15, Tryz.ntmps15
  go_wp2_with fail
  go_loopw [5, 10] (fun ov i wr => ∃ (j c : Nat) (oo : Option Addr) (xs : List Value), j ≤ L.length ∧ ov = .slice oo j c ∧ i = .int .i64 j ∧ Hid (Below w.heap.size w wr) ∧ Hid (wr.ownsRow w.heap.size 35 8 (.slice oo j c) j xs) ∧ Hid (isGL wr ((L.take j).map (valP gs)) xs)) (fun _ i _ => L.length - (intOf i).toNat)
  case atStart => exact ⟨0, 0, none, [], by omega, rfl, rfl, Lib.hid (Below.refl _ _), Lib.hid ⟨by simp, .inl ⟨rfl, rfl⟩⟩, Lib.hid (by rw [List.take_zero, List.map_nil]; unfold isGL; rfl)⟩
  case round =>
    obtain ⟨j, c9, oo, xs, hj, rfl, rfl, hB, hO, hX⟩ := hrel
    by_cases hlt : j < L.length
    · obtain rfl := ho (by omega)
      obtain ⟨k, b, n, s, o, m, c, o2, m2, c2, oa, ca, g0, g1, g2, g3, g4, g5, g6, g7, g8, g9, hgg⟩ := isPat_ten (isPat_below hB.out (HK.out j hlt))
      have HA1 : Hid (KB wr (wr.alloc (.cells #[.string L[j].nm, .bool L[j].num, .bool L[j].has, .int .i8 k, .bool b, .int .i64 n, .string s, .slice o m c, .slice o2 m2 c2, .slice oa L[j].al.length ca] 37))) := Lib.hid kbA
      have HC : Hid (∀ w1, KB wr w1 → Calls Tryz.prog 16 #[.agg #[.string L[j].nm, .bool L[j].num, .bool L[j].has, .int .i8 k, .bool b, .int .i64 n, .string s, .slice o m c, .slice o2 m2 c2, .slice oa L[j].al.length ca], .pointer (some ⟨b2, 0, none⟩)] w1 fun e w' => (∃ v', e = .returned v' ∧ isG w' (valP gs L[j]) v') ∧ Below w1.heap.size w1 w') := Lib.hid fun w1 hK => HCL.out w1 (hB.out.trans (hK.mono hB.out.size)) j hlt _ (isP_below hK hgg)
      have hmap : (L.take (j + 1)).map (valP gs) = (L.take j).map (valP gs) ++ [valP gs L[j]] := by
        rw [List.take_succ_eq_append_getElem hlt, List.map_append]
        rfl
      have HMAP := Lib.hid hmap
      have HFJ : Hid (∀ g ∈ (L.take j).map (valP gs) ++ [valP gs L[j]], flatV g.v) := Lib.hid fun g hg => by
        rw [← hmap] at hg
        obtain ⟨p, hp, rfl⟩ := List.mem_map.1 hg
        exact HFL.out p (List.mem_of_mem_take hp)
      have hlj : j + 1 ≤ 1000000 := by omega
      clear hgg hmap
      generalize (L.take j).map (valP gs) = M at *
      generalize valP gs L[j] = g at *
      generalize L[j] = p at *
      generalize p.al.length = q9 at *
      go_wp2_with (first
        | (go_at_fn 16; refine (HC.out _ HA1.out).mono ?_; rintro e w5 ⟨⟨v5, rfl, hg5⟩, hb5⟩; obtain ⟨k3, b3, n3, s3, o3, m3, c3, o4, m4, c4, rfl, -⟩ := isG_eight hg5; have HG5 := Lib.hid hg5; have HB5 := Lib.hid (hB.out.trans ((HA1.out.trans (hb5.mono HA1.out.size)).mono hB.out.size)); have HO5 := Lib.hid (own_below (own_below hO.out HA1.out) hb5); clear hb5 hg5)
        | (at_builtin; refine wpList_append_row_at rfl _ _ 23 rfl w.heap.size 35 i0 _ 8 104 Tryz.underlying23 hi0 hz0 hz1 hz2 rfl (by decide) _ j _ rfl (own_below HO5.out kbA) (some ⟨w5.heap.size, 0, none⟩) ⟨w5.heap.size, 0, none⟩ 1 1 [.string g.nm, .bool g.unk, .int .i8 k3, .bool b3, .int .i64 n3, .string s3, .slice o3 m3 c3, .slice o4 m4 c4] rfl (fun _ => rfl) rfl ?d1 ?d2 (by unfold maxLen; omega) (by omega) ?d3 ?_))
      case d1 =>
        intro q u hq
        have hcs := eight_cells (World.alloc_heap_new w5 (.cells #[.string g.nm, .bool g.unk, .int .i8 k3, .bool b3, .int .i64 n3, .string s3, .slice o3 m3 c3, .slice o4 m4 c4] 35))
        obtain ⟨e0, e1, e2, e3, e4, e5, e6, e7⟩ := hcs
        match q, hq with
        | 0, hq => obtain rfl := Option.some.inj hq; exact e0
        | 1, hq => obtain rfl := Option.some.inj hq; exact e1
        | 2, hq => obtain rfl := Option.some.inj hq; exact e2
        | 3, hq => obtain rfl := Option.some.inj hq; exact e3
        | 4, hq => obtain rfl := Option.some.inj hq; exact e4
        | 5, hq => obtain rfl := Option.some.inj hq; exact e5
        | 6, hq => obtain rfl := Option.some.inj hq; exact e6
        | 7, hq => obtain rfl := Option.some.inj hq; exact e7
        | q + 8, hq => simp at hq
      case d2 =>
        intro u hu
        simp only [List.mem_cons, List.mem_nil_iff, or_false] at hu
        rcases hu with rfl | rfl | rfl | rfl | rfl | rfl | rfl | rfl <;> rfl
      case d3 => have := HB5.out.size; simp; omega
      intro o' c' w8 hown' hgrow hat
      have HO8 := Lib.hid hown'
      have HX8 : Hid (isGL w8 ((L.take (j + 1)).map (valP gs)) (xs ++ [.string g.nm, .bool g.unk, .int .i8 k3, .bool b3, .int .i64 n3, .string s3, .slice o3 m3 c3, .slice o4 m4 c4])) := Lib.hid (by
        rw [HMAP.out]
        refine isGL_flat (W := w5) _ _ HFJ.out (isGL_app M [g] _ _ (isGL_flat _ _ (fun q hq => HFJ.out q (List.mem_append_left _ hq)) hX.out) ?_)
        obtain ⟨_, _, _, _, _, _, e9, h91, h92⟩ := HG5.out
        simp only [Value.agg.injEq, Array.mk.injEq, List.cons.injEq, and_true, true_and] at e9
        obtain ⟨rfl, rfl, rfl, rfl, rfl, rfl⟩ := e9
        unfold isGL
        exact ⟨_, _, _, _, _, _, [], rfl, h91, h92, by unfold isGL; rfl⟩)
      have HB8 : Hid (Below w.heap.size w w8) := Lib.hid ((HB5.out.trans (kbA.mono HB5.out.size)).grown hgrow (by have := HB5.out.size; simp; omega) (fun r e => (HO5.out.lt r e).1))
      clear hown' hgrow hat HO5 HB5 hO hB HG5 hX
      go_wp2_with fail
      go_roundw
      case rel => exact ⟨j + 1, c', o', _, by omega, rfl, by go_num, HB8, HO8, HX8⟩
      case measure => simp [intOf]; omega
    · obtain rfl : j = L.length := by omega
      have HX9 : Hid (isGL wr (L.map (valP gs)) xs) := Lib.hid (by have h := hX.out; rwa [List.take_of_length_le (Nat.le_refl _)] at h)
      clear hX
      go_wp2_with fail
      go_ret
      exact ⟨⟨_, xs, rfl, hO.out, HX9.out⟩, hB.out⟩
end Go.Proofs.YtlamkadllbgamaaGreatDoor
