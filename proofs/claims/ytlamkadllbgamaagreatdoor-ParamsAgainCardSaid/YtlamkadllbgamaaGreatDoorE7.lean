/-
  The program's value; what can be wrong with what is given.
-/
import Derived.Test.YtlamkadllbgamaaGreatDoorE6
import Derived.Deep.RegionWith
set_option linter.unusedVariables false
set_option linter.unusedSimpArgs false
namespace Go.Proofs.YtlamkadllbgamaaGreatDoor
open Go.RowKit

set_option maxRecDepth 100000 in
set_option maxHeartbeats 8000000 in
theorem value_any (p : PR) (gs : List G) (v u : Value) (w : World) (hP : fineP p) (hG : fineG gs) (h : isP w p v) (hg : isGs w gs u) :
    Calls Tryz.prog 17 #[v, u] w fun e w' => (∃ v', e = .returned v' ∧ isG w' (valP gs p) v') ∧ Below w.heap.size w w' := by
  have hnm : p.nm.size ≤ maxLen := by obtain ⟨_, _, _, _, _, _, _, _, _, _, _, _, _, _, _, _, _, h⟩ := h; exact h
  obtain ⟨k, b, n, s, o, m, c, o2, m2, c2, oa, ca, rfl, hd, ha⟩ := isP_ten h
  have HB0 : Hid (KB w ((w.alloc (.cells #[.string p.nm, .bool p.num, .bool p.has, .int .i8 k, .bool b, .int .i64 n, .string s, .slice o m c, .slice o2 m2 c2, .slice oa p.al.length ca] 37)).alloc (.cells #[.string ⟨#[]⟩, .bool false, .int .i8 0, .bool false, .int .i64 0, .string ⟨#[]⟩, .slice none 0 0, .slice none 0 0] 35))) := Lib.hid (by unfold KB; go_grown)
  have hn1 := (Below.heap_alloc (w.alloc (.cells #[.string p.nm, .bool p.num, .bool p.has, .int .i8 k, .bool b, .int .i64 n, .string s, .slice o m c, .slice o2 m2 c2, .slice oa p.al.length ca] 37)) (.cells #[.string ⟨#[]⟩, .bool false, .int .i8 0, .bool false, .int .i64 0, .string ⟨#[]⟩, .slice none 0 0, .slice none 0 0] 35) w.heap.size (by simp)).trans (World.alloc_heap_new w (.cells #[.string p.nm, .bool p.num, .bool p.has, .int .i8 k, .bool b, .int .i64 n, .string s, .slice o m c, .slice o2 m2 c2, .slice oa p.al.length ca] 37))
  have hn2 := World.alloc_heap_new (w.alloc (.cells #[.string p.nm, .bool p.num, .bool p.has, .int .i8 k, .bool b, .int .i64 n, .string s, .slice o m c, .slice o2 m2 c2, .slice oa p.al.length ca] 37)) (.cells #[.string ⟨#[]⟩, .bool false, .int .i8 0, .bool false, .int .i64 0, .string ⟨#[]⟩, .slice none 0 0, .slice none 0 0] 35)
  rw [World.size_alloc] at hn2
  have hsz : ((w.alloc (.cells #[.string p.nm, .bool p.num, .bool p.has, .int .i8 k, .bool b, .int .i64 n, .string s, .slice o m c, .slice o2 m2 c2, .slice oa p.al.length ca] 37)).alloc (.cells #[.string ⟨#[]⟩, .bool false, .int .i8 0, .bool false, .int .i64 0, .string ⟨#[]⟩, .slice none 0 0, .slice none 0 0] 35)).heap.size = w.heap.size + 1 + 1 := by simp
  have HF : Hid (∀ w1, KB w w1 → w.heap.size + 1 < w1.heap.size → Calls Tryz.prog 43 #[u, .string p.nm] w1 fun e w' => (∃ v', e = .returned (.tuple #[v', .bool (findG gs p.nm).isSome]) ∧ isGx w' (w.heap.size + 1) ((findG gs p.nm).getD zG) v') ∧ Below w1.heap.size w1 w') := Lib.hid fun w1 hk hs => Find_any gs p.nm u w w1 (w.heap.size + 1) hk (by omega) hs hG hg
  have CV : Hid (∀ w1, KB w w1 → w.heap.size + 1 + 1 ≤ w1.heap.size → Calls Tryz.prog 44 #[.agg #[.int .i8 k, .bool b, .int .i64 n, .string s, .slice o m c, .slice o2 m2 c2]] w1 fun e w' => (∃ v', e = .returned v' ∧ isVa w' (fun q => q ≠ w.heap.size + 1) p.d v') ∧ Below w1.heap.size w1 w') := Lib.hid fun w1 hk hs => (copiedV_any p.d _ w1 (fun q => q ≠ w.heap.size + 1) hP.1 hP.2.1 (fun q hq => by omega) (isVa_mono (fun q (hq : q < w.heap.size) => ⟨by omega, by omega⟩) _ _ (isVa_keep (fun a c _ hc => cell_below hk _ _ hc) _ _ (isVa_of _ _ hd)))).mono fun e w' ⟨v', e1, h1, h2⟩ => ⟨⟨v', e1, h1⟩, h2⟩
  have HN1 := Lib.hid hn1
  have HN2 := Lib.hid hn2
  have HSZ := Lib.hid hsz
  have HNM := Lib.hid hnm
  obtain ⟨a, cap, ⟨o9, rfl, -⟩, -⟩ := hg
  unfold valP
  clear h hd ha hn1 hn2 hsz hP hG hnm
  cases hf : findG gs p.nm with
  | some g =>
    rw [hf] at HF
    dsimp only [Option.getD, Option.isSome] at HF ⊢
    clear hf CV
    generalize gs.length = n9 at *
    generalize p.al.length = q9 at *
    go_enter Tryz.func17, Tryz.ntmps17
    go_wp2_with (go_at_call 43; refine (HF.out _ HB0.out (by rw [HSZ.out]; omega)).mono ?_; rintro e w5 ⟨⟨v5, rfl, hg5⟩, hb5⟩; obtain ⟨k3, b3, n3, s3, o3, m3, c3, o4, m4, c4, rfl, -⟩ := isG_eight (isG_of_x hg5); obtain ⟨z1, z2, z3, z4, z5, z6, z7, z8, ⟨⟨_, t0⟩, t0', t0''⟩, ⟨⟨_, t1⟩, t1', t1''⟩, ⟨⟨_, t2⟩, t2', t2''⟩, ⟨⟨_, t3⟩, t3', t3''⟩, ⟨⟨_, t4⟩, t4', t4''⟩, ⟨⟨_, t5⟩, t5', t5''⟩, ⟨⟨_, t6⟩, t6', t6''⟩, ⟨⟨_, t7⟩, t7', t7''⟩, hgz, u0, u1, u2, u3, u4, u5, u6, u7⟩ := fill_eight (d0 := .string g.nm) (d1 := .bool g.unk) (d2 := .int .i8 k3) (d3 := .bool b3) (d4 := .int .i64 n3) (d5 := .string s3) (d6 := .slice o3 m3 c3) (d7 := .slice o4 m4 c4) (((kbA (w := w5) (o := .cells #[.string g.nm, .bool g.unk, .int .i8 k3, .bool b3, .int .i64 n3, .string s3, .slice o3 m3 c3, .slice o4 m4 c4] 35)).block (w.heap.size + 1) (by have := hb5.size; rw [HSZ.out] at this; omega)).trans ((hb5.block (w.heap.size + 1) (by rw [HSZ.out]; omega)).trans HN2.out)); have HG := Lib.hid (And.intro hg5 (And.intro hb5 (And.intro hgz (And.intro u0 (And.intro u1 (And.intro u2 (And.intro u3 (And.intro u4 (And.intro u5 (And.intro u6 u7)))))))))); clear hg5 hb5 hgz u0 u1 u2 u3 u4 u5 u6 u7)
    obtain ⟨hg5, hb5, hgz, u0, u1, u2, u3, u4, u5, u6, u7⟩ := HG.out
    refine bodyPost_ret (v := .agg #[.string g.nm, .bool g.unk, .int .i8 k3, .bool b3, .int .i64 n3, .string s3, .slice o3 m3 c3, .slice o4 m4 c4]) (by simp [results, Tryz.results17, go_sem, u0, u1, u2, u3, u4, u5, u6, u7]) rfl ?_
    have k5 := HB0.out.trans (hb5.mono HB0.out.size)
    have k6 := k5.trans ((kbA (w := w5) (o := .cells #[.string g.nm, .bool g.unk, .int .i8 k3, .bool b3, .int .i64 n3, .string s3, .slice o3 m3 c3, .slice o4 m4 c4] 35)).mono k5.size)
    refine ⟨⟨_, rfl, ?_⟩, k6.grown hgz k6.size (fun r e => by cases e; omega)⟩
    obtain ⟨_, _, _, _, _, _, e9, hv9, hn9⟩ := hg5
    simp only [Value.agg.injEq, Array.mk.injEq, List.cons.injEq, and_true, true_and] at e9
    obtain ⟨rfl, rfl, rfl, rfl, rfl, rfl⟩ := e9
    exact ⟨_, _, _, _, _, _, rfl, isV_of_a _ _ (isVa_keep (fun a c hq hc => hgz.cell hc (fun e => hq (Option.some.inj e))) _ _ (isVa_keep (fun a c _ hc => cell_below kbA _ _ hc) _ _ hv9)), hn9⟩
  | none =>
    rw [hf] at HF
    dsimp only [Option.getD, Option.isSome] at HF ⊢
    clear hf
    generalize gs.length = n9 at *
    generalize hq9 : p.al.length = q9 at *
    clear hq9
    go_enter Tryz.func17, Tryz.ntmps17
    go_wp2_with (go_at_call 43; refine (HF.out _ HB0.out (by rw [HSZ.out]; omega)).mono ?_; rintro e w5 ⟨⟨v5, rfl, hg5⟩, hb5⟩; obtain ⟨k3, b3, n3, s3, o3, m3, c3, o4, m4, c4, rfl, -⟩ := isG_eight (isG_of_x hg5); clear hg5; have HB5 := Lib.hid hb5; have HK6 : Hid (KB w (w5.alloc (.cells #[.string zG.nm, .bool zG.unk, .int .i8 k3, .bool b3, .int .i64 n3, .string s3, .slice o3 m3 c3, .slice o4 m4 c4] 35))) := Lib.hid ((HB0.out.trans (hb5.mono HB0.out.size)).trans (kbA.mono (HB0.out.trans (hb5.mono HB0.out.size)).size)); have HP6 := Lib.hid (((kbA (w := w5) (o := .cells #[.string zG.nm, .bool zG.unk, .int .i8 k3, .bool b3, .int .i64 n3, .string s3, .slice o3 m3 c3, .slice o4 m4 c4] 35)).block w.heap.size (by have := hb5.size; rw [HSZ.out] at this; omega)).trans ((hb5.block w.heap.size (by rw [HSZ.out]; omega)).trans HN1.out)); obtain ⟨x0, x1, x2, x3, x4, x5, x6, x7, x8, x9⟩ := ten_cells HP6.out; have HR6 := Lib.hid (((kbA (w := w5) (o := .cells #[.string zG.nm, .bool zG.unk, .int .i8 k3, .bool b3, .int .i64 n3, .string s3, .slice o3 m3 c3, .slice o4 m4 c4] 35)).block (w.heap.size + 1) (by have := hb5.size; rw [HSZ.out] at this; omega)).trans ((hb5.block (w.heap.size + 1) (by rw [HSZ.out]; omega)).trans HN2.out)); have HS6 : Hid (w.heap.size + 1 + 1 ≤ (w5.alloc (.cells #[.string zG.nm, .bool zG.unk, .int .i8 k3, .bool b3, .int .i64 n3, .string s3, .slice o3 m3 c3, .slice o4 m4 c4] 35)).heap.size) := Lib.hid (by have := hb5.size; rw [HSZ.out] at this; simp; omega); clear hb5)
    generalize hW6 : (w5.alloc (.cells #[.string zG.nm, .bool zG.unk, .int .i8 k3, .bool b3, .int .i64 n3, .string s3, .slice o3 m3 c3, .slice o4 m4 c4] 35)) = W6 at *
    clear hW6
    have CV2 : Hid (∀ w1, KB W6 w1 → Calls Tryz.prog 44 #[.agg #[.int .i8 k, .bool b, .int .i64 n, .string s, .slice o m c, .slice o2 m2 c2]] w1 fun e w' => (∃ v', e = .returned v' ∧ isVa w' (fun q => q ≠ w.heap.size + 1) p.d v') ∧ Below w1.heap.size w1 w') := Lib.hid fun w1 hk => CV.out w1 (HK6.out.trans (hk.mono HK6.out.size)) (Nat.le_trans HS6.out hk.size)
    have HX6 : Hid (∀ w1, KB W6 w1 → w1.heap[w.heap.size]? = some (.cells #[.string p.nm, .bool p.num, .bool p.has, .int .i8 k, .bool b, .int .i64 n, .string s, .slice o m c, .slice o2 m2 c2, .slice oa q9 ca] 37 (0, 0))) := Lib.hid fun w1 hk => (hk.block w.heap.size (by have := HS6.out; omega)).trans HP6.out
    go_region_with (go_at_call 44; refine (CV2.out _ (drewB1 _ _)).mono ?_; rintro e w7 ⟨⟨v7, rfl, hv7⟩, hb7⟩; obtain ⟨k9, b9, n8, s9, o8, m8, c8, o7, m7, c7, rfl⟩ := isV_six (isV_of_a _ _ hv7); obtain ⟨x0, x1, x2, x3, x4, x5, x6, x7, x8, x9⟩ := ten_cells (HX6.out _ (below_drew_of hb7)); obtain ⟨z1, z2, z3, z4, z5, z6, z7, z8, ⟨⟨_, t0⟩, t0', t0''⟩, ⟨⟨_, t1⟩, t1', t1''⟩, ⟨⟨_, t2⟩, t2', t2''⟩, ⟨⟨_, t3⟩, t3', t3''⟩, ⟨⟨_, t4⟩, t4', t4''⟩, ⟨⟨_, t5⟩, t5', t5''⟩, ⟨⟨_, t6⟩, t6', t6''⟩, ⟨⟨_, t7⟩, t7', t7''⟩, hgz, u0, u1, u2, u3, u4, u5, u6, u7⟩ := fill_eight (d0 := .string p.nm) (d1 := .bool false) (d2 := .int .i8 k9) (d3 := .bool b9) (d4 := .int .i64 n8) (d5 := .string s9) (d6 := .slice o8 m8 c8) (d7 := .slice o7 m7 c7) (((below_drew_of hb7).block (w.heap.size + 1) (by have := HS6.out; omega)).trans HR6.out); have HG := Lib.hid (And.intro hv7 (And.intro hb7 (And.intro hgz (And.intro u0 (And.intro u1 (And.intro u2 (And.intro u3 (And.intro u4 (And.intro u5 (And.intro u6 u7)))))))))); clear hv7 hb7 hgz u0 u1 u2 u3 u4 u5 u6 u7)
    all_goals
      go_wp2_with fail
      obtain ⟨hv7, hb7, hgz, u0, u1, u2, u3, u4, u5, u6, u7⟩ := HG.out
      refine bodyPost_ret (v := .agg #[.string p.nm, .bool false, .int .i8 k9, .bool b9, .int .i64 n8, .string s9, .slice o8 m8 c8, .slice o7 m7 c7]) (by simp [results, Tryz.results17, go_sem, u0, u1, u2, u3, u4, u5, u6, u7]) rfl ?_
      have k7 := HK6.out.trans ((below_drew_of hb7).mono HK6.out.size)
      refine ⟨⟨_, rfl, ?_⟩, k7.grown hgz k7.size (fun r e => by cases e; omega)⟩
      exact ⟨_, _, _, _, _, _, rfl, isV_of_a _ _ (isVa_keep (fun a c hq hc => hgz.cell hc (fun e => hq (Option.some.inj e))) _ _ hv7), HNM.out⟩
end Go.Proofs.YtlamkadllbgamaaGreatDoor
