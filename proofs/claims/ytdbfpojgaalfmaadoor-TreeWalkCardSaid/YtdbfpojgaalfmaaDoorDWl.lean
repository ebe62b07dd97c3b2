/-
  TreeWalk, walked.
-/
import Derived.Test.YtdbfpojgaalfmaaDoorDWw
import Derived.IntWalk
import Derived.Stop.RegionWithIn
set_option linter.unusedVariables false
namespace Go.Proofs.YtdbfpojgaalfmaaDoor
open Go.RowKit Go.Shelf
attribute [local go_sem] Oper.semAt_some

theorem isVsL_at {W : World} : ∀ (l : List V) (xs : List Value) (i : Nat) (h : i < l.length), isVsL W l xs → ∃ c0 c1 c2 c3 c4 c5, xs[i * 6]? = some c0 ∧ xs[i * 6 + 1]? = some c1 ∧ xs[i * 6 + 2]? = some c2 ∧ xs[i * 6 + 3]? = some c3 ∧ xs[i * 6 + 4]? = some c4 ∧ xs[i * 6 + 5]? = some c5 ∧ isV W l[i] (.agg #[c0, c1, c2, c3, c4, c5])
  | x :: t, xs, 0, _, h => by
    unfold isVsL at h
    obtain ⟨c0, c1, c2, c3, c4, c5, rest, rfl, hx, ht⟩ := h
    exact ⟨c0, c1, c2, c3, c4, c5, rfl, rfl, rfl, rfl, rfl, rfl, hx⟩
  | x :: t, xs, i + 1, hi, h => by
    unfold isVsL at h
    obtain ⟨c0, c1, c2, c3, c4, c5, rest, rfl, hx, ht⟩ := h
    obtain ⟨d0, d1, d2, d3, d4, d5, h0, h1, h2, h3, h4, h5, hy⟩ := isVsL_at t rest i (by simpa using hi) ht
    refine ⟨d0, d1, d2, d3, d4, d5, ?_, ?_, ?_, ?_, ?_, ?_, hy⟩
    · rw [show (i + 1) * 6 = i * 6 + 6 by omega]; exact h0
    · rw [show (i + 1) * 6 + 1 = i * 6 + 1 + 6 by omega]; exact h1
    · rw [show (i + 1) * 6 + 2 = i * 6 + 2 + 6 by omega]; exact h2
    · rw [show (i + 1) * 6 + 3 = i * 6 + 3 + 6 by omega]; exact h3
    · rw [show (i + 1) * 6 + 4 = i * 6 + 4 + 6 by omega]; exact h4
    · rw [show (i + 1) * 6 + 5 = i * 6 + 5 + 6 by omega]; exact h5
theorem cell_putObj {W : World} {l : Nat} {r : Loop} {o' : Obj} (h : W.heap[l]? = some (.loop r)) (a : Addr) (c : Value) (hc : W.cell? a = some c) : (W.putObj l o').cell? a = some c := by
  by_cases e : a.block = l
  · exfalso
    unfold World.cell? at hc
    rw [e, h] at hc
    simp at hc
  · exact (World.cell?_of_block (h := (World.putObj_heap_other e))).trans hc
theorem walk_nil3 (b : Array Value) (w : World) : (Go.binOp .eql 41 (.func (.func 55) #[] b) .nilFunc).run Tryd.prog w = .ok (.bool false) w := by kernel_rfl
/-- Are these a beginning of x and its parts? -/
noncomputable def pfB (x : V) (pre : List PV) : Bool := @decide (pre.map (fun p => p.1) <+: walkV x) (Classical.propDecidable _)
theorem pf_yes {x : V} {pre : List PV} (h : pre.map (fun p => p.1) <+: walkV x) : pfB x pre = true := @decide_eq_true _ (Classical.propDecidable _) h
theorem pf_no {x : V} {pre : List PV} (h : ¬ pre.map (fun p => p.1) <+: walkV x) : pfB x pre = false := @decide_eq_false _ (Classical.propDecidable _) h
theorem sm_comm (a b : V) : sm a b = sm b a := by
  by_cases e : a = b
  · rw [sm_yes e, sm_yes e.symm]
  · rw [sm_no e, sm_no (Ne.symm e)]
theorem prefix_snoc {l m : List V} {y : V} (h : l <+: m) : (l ++ [y] <+: m) ↔ ∃ hl : l.length < m.length, m[l.length] = y := by
  obtain ⟨t, rfl⟩ := h
  constructor
  · rintro ⟨u, hu⟩
    rw [List.append_assoc] at hu
    have := List.append_cancel_left hu
    subst this
    exact ⟨by simp, by simp⟩
  · rintro ⟨hl, hy⟩
    cases t with
    | nil => simp at hl
    | cons z t =>
      simp at hy
      subst hy
      exact ⟨t, by simp⟩

set_option maxRecDepth 100000 in
set_option maxHeartbeats 8000000 in
theorem walkLaw_any {p : Prop} (va : Value) (x : V) (stop : Int) (w : World) (hE : Env w) (h : isV w x va) (_ : p) :
    Calls Tryd.prog 4 #[va, .int .i64 stop] w fun e w' => e = .returned (.bool true) ∧ Below w.heap.size w w' := by
  obtain ⟨k, b, n, s, o, m, c, o2, m2, c2, rfl⟩ := isV_six h
  obtain ⟨W0, hW0, hB0, hsz, bX, bS, bR⟩ : ∃ W0, ((w.alloc (.cells #[.int .i8 k, .bool b, .int .i64 n, .string s, .slice o m c, .slice o2 m2 c2] 26)).alloc (.cells #[.int .i64 stop] 3)).alloc (.cells #[.bool false] 4) = W0 ∧ KB w W0 ∧ W0.heap.size = w.heap.size + 1 + 1 + 1 ∧ W0.heap[w.heap.size]? = some (.cells #[.int .i8 k, .bool b, .int .i64 n, .string s, .slice o m c, .slice o2 m2 c2] 26 (0, 0)) ∧ Boxed W0 (w.heap.size + 1) 3 (.int .i64 stop) ∧ Boxed W0 (w.heap.size + 1 + 1) 4 (.bool false) := by
    have b1 := ((Boxed.new (w.alloc (.cells #[.int .i8 k, .bool b, .int .i64 n, .string s, .slice o m c, .slice o2 m2 c2] 26)) 3 (.int .i64 stop)).alloc (.cells #[.bool false] 4))
    have b2 := Boxed.new ((w.alloc (.cells #[.int .i8 k, .bool b, .int .i64 n, .string s, .slice o m c, .slice o2 m2 c2] 26)).alloc (.cells #[.int .i64 stop] 3)) 4 (.bool false)
    simp only [World.size_alloc] at b1 b2
    exact ⟨_, rfl, by unfold KB; go_grown, by simp, (Below.heap_alloc _ _ _ (by simp; omega)).trans ((Below.heap_alloc _ _ _ (by simp)).trans (World.alloc_heap_new w _)), b1, b2⟩
  have G : Hid (∀ w1, KB W0 w1 → Calls Tryd.prog 12 #[.agg #[.int .i8 k, .bool b, .int .i64 n, .string s, .slice o m c, .slice o2 m2 c2]] w1 fun e w' => e = .returned (.bool (greatB x)) ∧ KB W0 w') := Lib.hid fun w1 hK => Calls.kb hK (great_any x _ w1 (isV_below hK (isV_below hB0 h)))
  have WK : Hid (∀ w1, KB W0 w1 → Calls Tryd.prog 13 #[] w1 fun e w' => e = .returned (.bool true) ∧ KB W0 w') := Lib.hid fun w1 hK => Calls.kb hK (wakes_any w1 ((hE.kb hB0).kb hK))
  have HE : Hid (∀ w1, KB W0 w1 → Env w1) := Lib.hid fun w1 hK => (hE.kb hB0).kb hK
  have HV0 := Lib.hid h
  have HB0 := Lib.hid hB0
  have HSZ := Lib.hid hsz
  cases hg : greatB x with
  | true =>
    rw [hg] at G
    obtain ⟨r0, r1, r2, r3, r4, r5⟩ := six_cells bX
    clear hg h hE hB0 hsz bX bS HV0
    go_enter Tryd.func4, Tryd.ntmps4
    go_wp2_with fail
    refine (G.out _ (Below.refl _ _)).mono ?_
    rintro e w5 ⟨rfl, hb5⟩
    go_wp2_with fail
    refine (WK.out _ hb5).mono ?_
    rintro e w6 ⟨rfl, hb6⟩
    have b6 := bR.kept (grown_bel hb6) (by simp)
    have f6 := b6.frozen
    have e6 := b6.cell
    have d6 := (b6.set (.bool true)).cell
    clear b6 bR
    go_wp2_with fail
    refine bodyPost_ret (v := .bool true) (by simp [results, Tryd.results4, go_sem, d6]) rfl ⟨rfl, ?_⟩
    exact (kbt HB0.out hb6).setCell (p := ⟨w.heap.size + 1 + 1, 0, none⟩) (by simp; omega) _
  | false =>
  have HS := Lib.hid (great_no hg)
  have HF := Lib.hid (great_fine hg)
  rw [hg] at G
  have RWK : Hid (∀ w1, KB W0 w1 → Calls Tryd.prog 33 #[.agg #[.int .i8 k, .bool b, .int .i64 n, .string s, .slice o m c, .slice o2 m2 c2]] w1 (RetR w (walkV x) w1)) := Lib.hid fun w1 hK => walk_any 1000000 x _ w w1 (by have := HS.out; omega) (Nat.le_refl _) h (kbt hB0 hK)
  have PW : Hid (∀ w1, KB W0 w1 → Calls Tryd.prog 34 #[.agg #[.int .i8 k, .bool b, .int .i64 n, .string s, .slice o m c, .slice o2 m2 c2]] w1 fun e w' => ∃ gk gd cs, e = .returned (.func (.func 55) #[] #[.pointer (some ⟨gk, 0, none⟩), .pointer (some ⟨gd, 0, none⟩)]) ∧ w'.heap[gk]? = some (.cells cs 26 (0, 0)) ∧ isV w' x (.agg cs) ∧ Boxed w' gd 4 (.bool false) ∧ Below w1.heap.size w1 w') := Lib.hid fun w1 hK => pwalk_any x _ w1 (by have := HS.out; omega) (by have := HS.out; omega) HF.out (isV_below (kbt hB0 hK) h)
  have SM : Hid (∀ (Y Z : V) (y z : Value) w1, isV w1 Y y → isV w1 Z z → Calls Tryd.prog 16 #[y, z] w1 fun e w' => e = .returned (.bool (sm Y Z)) ∧ Below w1.heap.size w1 w') := Lib.hid fun Y Z y z w1 h1 h2 => same_any (sizeV Y) Y Z y z w1 (Nat.le_refl _) h1 h2
  have hnil := walk_nil3
  have BX := Lib.hid bX
  have BS := Lib.hid bS
  have BR := Lib.hid bR
  obtain ⟨r0, r1, r2, r3, r4, r5⟩ := six_cells bX
  clear hg h hE hB0 hsz bX bS bR
  refine (callsIn_wide (n := 9)).1 ?_
  refine callsIn_of_wp_marks Tryd.func4 rfl trivial ?_ rfl
  simp only [Tryd.ntmps4, List.size_toArray, List.length_cons, List.length_nil, Nat.reduceAdd, Nat.reduceSub, Array.replicate_succ, Array.replicate_zero, List.push_toArray, List.append_toArray, List.nil_append, List.cons_append]
  gi_wp2_with fail
  clear hW0 r0 r1 r2 r3 r4 r5
  refine ⟨trivial, ?_⟩
  refine (callsIn_wide.2 (G.out _ (Below.refl _ _))).mono ?_
  rintro e w5 ⟨rfl, hb5⟩
  obtain ⟨r0, r1, r2, r3, r4, r5⟩ := six_cells ((hb5.block _ (Array.getElem?_eq_some_iff.1 BX.out).1).trans BX.out)
  gi_wp2_with fail
  refine ⟨trivial, ?_⟩
  refine (callsIn_wide.2 (RWK.out w5 hb5)).mono ?_
  rintro e w6 ⟨rv, rfl, hrw⟩
  have hb56 : KB w5 w6 := by
    obtain ⟨_, _, _, h3⟩ := hrw
    exact h3
  obtain ⟨g, cap, rfl, xs, -, hxs, hcells⟩ := hrw.form (by rw [walkV_eq]; simp)
  obtain ⟨W7, hW7, hb67, bA⟩ : ∃ W7, w6.alloc (.cells #[.slice (some ⟨g, 0, none⟩) (walkV x).length cap] 23) = W7 ∧ KB w6 W7 ∧ Boxed W7 w6.heap.size 23 (.slice (some ⟨g, 0, none⟩) (walkV x).length cap) := ⟨_, rfl, kbA, Boxed.new _ _ _⟩
  have hb07 : KB W0 W7 := kbt (kbt hb5 hb56) hb67
  clear r0 r1 r2 r3 r4 r5 hrw
  obtain ⟨r0, r1, r2, r3, r4, r5⟩ := six_cells ((hb07.block _ (Array.getElem?_eq_some_iff.1 BX.out).1).trans BX.out)
  obtain ⟨ga, hga⟩ : ∃ ga, w6.heap.size = ga := ⟨_, rfl⟩
  rw [hga] at bA
  gi_wp2_with fail
  clear hW7 hga
  refine ⟨trivial, ?_⟩
  refine (callsIn_wide.2 (PW.out W7 hb07)).mono ?_
  rintro e w8 ⟨gk, gd, cs, rfl, hgk, hv8, hgd, hb8⟩
  have hb08 : KB W0 w8 := kbt hb07 hb8
  have bA8 := bA.kept (grown_bel hb8) (by simp)
  have hga8 : ga < w8.heap.size := bA8.lt
  clear r0 r1 r2 r3 r4 r5 bA
  gi_wp2_with fail
  obtain ⟨W9, hW9, hb89, hsz9, bN⟩ : ∃ W9, w8.alloc (.cells #[.int .i64 0] 3) = W9 ∧ KB w8 W9 ∧ W9.heap.size = w8.heap.size + 1 ∧ Boxed W9 w8.heap.size 3 (.int .i64 0) := ⟨_, rfl, kbA, by simp, Boxed.new _ _ _⟩
  rw [hW9]
  clear hW9
  have hz0 := HSZ.out
  have hz8 := hb08.size
  have hS1 : sizeV x ≤ 1000000 := by have := HS.out; omega
  have HB08 := Lib.hid hb08
  have BA8 := Lib.hid bA8
  have HEL : Hid (∀ i (hi : i < (walkV x).length) (w1 : World), Below w8.heap.size w8 w1 → ∃ c0 c1 c2 c3 c4 c5, w1.cell? ⟨g, i * 6, none⟩ = some c0 ∧ w1.cell? ⟨g, i * 6 + 1, none⟩ = some c1 ∧ w1.cell? ⟨g, i * 6 + 2, none⟩ = some c2 ∧ w1.cell? ⟨g, i * 6 + 3, none⟩ = some c3 ∧ w1.cell? ⟨g, i * 6 + 4, none⟩ = some c4 ∧ w1.cell? ⟨g, i * 6 + 5, none⟩ = some c5 ∧ isV w1 (walkV x)[i] (.agg #[c0, c1, c2, c3, c4, c5])) := Lib.hid fun i hi w1 hb => by
    obtain ⟨c0, c1, c2, c3, c4, c5, h0, h1, h2, h3, h4, h5, hx⟩ := isVsL_at _ xs i hi hxs
    have hk6 : KB w6 w1 := kbt hb67 (kbt hb8 hb)
    have hkw : KB w w1 := kbt HB0.out (kbt hb08 hb)
    have key := fun j u (h : xs[j]? = some u) => by
      have := cell_below hk6 _ _ (hcells j u h)
      rw [add_offs] at this
      exact this
    exact ⟨c0, c1, c2, c3, c4, c5, key _ _ h0, key _ _ h1, key _ _ h2, key _ _ h3, key _ _ h4, key _ _ h5, isV_below hkw hx⟩
  refine range_own2 (lo := w8.heap.size) (hi := w8.heap.size + 1) (by omega) (gf := 55) (lb := #[.pointer (some ⟨gk, 0, none⟩), .pointer (some ⟨gd, 0, none⟩)]) rfl (enters_of Tryd.func55 (by kernel_rfl) rfl)
    (walk1_seq w8 (w8.heap.size + 1) x _ hv8 hS1 HF.out gk gd cs rfl hgk hgd W9 hb89 (by omega)) (fun h => h) (by omega) (Below.refl _ _) (fun _ => rfl)
    (fun pre Wr => Boxed Wr w8.heap.size 3 (.int .i64 (pre.length : Nat)) ∧ (Below w8.heap.size w8 Wr ∧ pre.map (fun p => p.1) <+: walkV x))
    (fun c pre Wr => c = .ret ∧ (Boxed Wr (w.heap.size + 1 + 1) 4 (.bool (pfB x pre)) ∧ Below w.heap.size w Wr))
    ?hI ?hIx ?h0
    (fun q Ws a' Wr => ∃ (Bx : Nat) (k' : Int) (b' : Bool) (n' : Int) (s' : ByteArray) (o1 : Option Addr) (m1 p1 : Nat) (o3 : Option Addr) (m3 p3 : Nat), q.2 = .agg #[.int .i8 k', .bool b', .int .i64 n', .string s', .slice o1 m1 p1, .slice o3 m3 p3] ∧ Wr.heap[Bx]? = some (.cells #[.int .i8 k', .bool b', .int .i64 n', .string s', .slice o1 m1 p1, .slice o3 m3 p3] 26 (0, 0)) ∧ Ws.heap.size ≤ Bx ∧ isV Wr q.1 (.agg #[.int .i8 k', .bool b', .int .i64 n', .string s', .slice o1 m1 p1, .slice o3 m3 p3]) ∧ a' = {
      tmps := #[.agg #[.int .i8 k, .bool b, .int .i64 n, .string s, .slice o m c, .slice o2 m2 c2], .int .i64 stop, .pointer (some ⟨w.heap.size, 0, none⟩), .pointer (some ⟨w.heap.size + 1, 0, none⟩), .pointer (some ⟨w.heap.size + 1 + 1, 0, none⟩), .pointer (some ⟨ga, 0, none⟩), .func (.func 55) #[] #[.pointer (some ⟨gk, 0, none⟩), .pointer (some ⟨gd, 0, none⟩)], .pointer (some ⟨w8.heap.size, 0, none⟩), .pointer (some ⟨Bx, 0, none⟩), .agg #[.int .i8 k, .bool b, .int .i64 n, .string s, .slice o m c, .slice o2 m2 c2], .bool false, undef, .agg #[.int .i8 k, .bool b, .int .i64 n, .string s, .slice o m c, .slice o2 m2 c2], .slice (some ⟨g, 0, none⟩) (walkV x).length cap, .agg #[.int .i8 k, .bool b, .int .i64 n, .string s, .slice o m c, .slice o2 m2 c2], .func (.func 55) #[] #[.pointer (some ⟨gk, 0, none⟩), .pointer (some ⟨gd, 0, none⟩)], .func (.func 55) #[] #[.pointer (some ⟨gk, 0, none⟩), .pointer (some ⟨gd, 0, none⟩)], .bool false, .func (.func 55) #[] #[.pointer (some ⟨gk, 0, none⟩), .pointer (some ⟨gd, 0, none⟩)], .agg #[.int .i8 k', .bool b', .int .i64 n', .string s', .slice o1 m1 p1, .slice o3 m3 p3], undef, undef, undef, undef, undef, undef, undef, undef, undef, undef, undef, undef, undef, undef, undef, undef, undef, undef, undef, undef, undef, undef, undef, undef, undef, undef],
      defers := [] })
    ?hAx ?assign ?body ?done ?stop
  case hI => exact Free.and (free_boxed (by omega) _ _) (Free.and (free_below (by omega) (Nat.le_refl _)) (free_pure _ _))
  case hIx =>
    intro c
    exact Free.and (free_pure _ _) (Free.and (free_boxed (by omega) _ _) (free_below (by omega) (Nat.le_refl _)))
  case h0 => exact ⟨bN, hb89, by simp⟩
  case hAx =>
    rintro q Ws a' Wr l' r o' hl hr ⟨Bx, k', b', n', s', o1, m1, p1, o3, m3, p3, h1, h2, h3, h4, h5⟩
    refine ⟨Bx, k', b', n', s', o1, m1, p1, o3, m3, p3, h1, ?_, h3, isV_keep (fun a c hc => cell_putObj hr a c hc) _ _ h4, h5⟩
    exact (World.putObj_heap_other (fun e => by subst e; rw [hr] at h2; cases h2)).trans h2
  case assign =>
    rintro l' pre q Wr K ⟨b1, hB1, hd⟩ hpv hK
    obtain ⟨k', b', n', s', o1, m1, p1, o3, m3, p3, hx⟩ := isV_six hpv
    rw [hx] at hpv
    rw [hx]
    have HK := Lib.hid hK
    have HD := Lib.hid hd
    have HPV := Lib.hid hpv
    clear hK hd hpv
    gi_wp2_with fail
    exact HK.out _ _ (by go_grown) ⟨b1.alloc _, hB1.alloc hB1.size _, HD.out⟩ ⟨Wr.heap.size, k', b', n', s', o1, m1, p1, o3, m3, p3, hx, World.alloc_heap_new Wr _, Nat.le_refl _, isV_below kbA HPV.out, rfl⟩
  case body =>
    rintro l' pre q Ws a' Wr hl _ ⟨b1, hB1, hd⟩ ⟨Bx, k', b', n', s', o1, m1, p1, o3, m3, p3, hx, hbx, hBx, hv, rfl⟩ hst hsz1 hsz2 hlen
    obtain ⟨r0, r1, r2, r3, r4, r5⟩ := six_cells hbx
    have HBW : Hid (Below w.heap.size w Wr) := Lib.hid ((HB0.out.trans (HB08.out.mono HB0.out.size)).trans (hB1.mono (by have := HB0.out.size; omega)))
    have HBR : Hid (Boxed Wr (w.heap.size + 1 + 1) 4 (.bool false)) := Lib.hid ((hB1.block _ (by omega)).trans ((HB08.out.block _ (by omega)).trans BR.out))
    have HBS : Hid (Boxed Wr (w.heap.size + 1) 3 (.int .i64 stop)) := Lib.hid ((hB1.block _ (by omega)).trans ((HB08.out.block _ (by omega)).trans BS.out))
    have ba : Boxed Wr ga 23 (.slice (some ⟨g, 0, none⟩) (walkV x).length cap) := (hB1.block _ hga8).trans BA8.out
    have c1 := b1.cell
    have ca := ba.cell
    have HPL : Hid ((pre.map (fun p => p.1)).length = pre.length) := Lib.hid (by simp)
    have HPM : Hid ((pre ++ [q]).map (fun p => p.1) = pre.map (fun p => p.1) ++ [q.1]) := Lib.hid (by simp)
    have HB1 := Lib.hid b1
    have HB := Lib.hid hB1
    have HD := Lib.hid hd
    have HST := Lib.hid hst
    have HWK : Hid (∀ w1, KB Wr w1 → Calls Tryd.prog 13 #[] w1 fun e w' => e = .returned (.bool true) ∧ KB Wr w') := Lib.hid fun w1 hK => Calls.kb hK (wakes_any w1 (HE.out w1 (kbt HB08.out (hB1.trans (hK.mono hB1.size)))))
    have hzr := hB1.size
    clear hd hst b1 hbx hB1 ba
    by_cases hge : (walkV x).length ≤ pre.length
    · have hpf : pfB x (pre ++ [q]) = false := pf_no (fun hp => by
        rw [HPM.out, prefix_snoc HD.out] at hp
        obtain ⟨h1, _⟩ := hp
        rw [HPL.out] at h1; omega)
      have HPF := Lib.hid hpf
      have g1 : decide ((walkV x).length ≤ pre.length) = true := decide_eq_true hge
      clear hpf hge hv
      gi_wp2_with fail
      first
      | gi_region_with (refine ⟨trivial, ?_⟩)
      | fail
      all_goals
        have b8 := Boxed.kept HBR.out (grown_bel (drewB1 _ _)) (by simp)
        have HK9 : Hid (KB Wr Wr.drew) := Lib.hid (drewB1 _ _)
        have f8 := b8.frozen
        have e8 := b8.cell
        have D8 := Lib.hid (b8.set (.bool false))
        clear b8
        gi_wp2_with fail
        exact ⟨((keeps_below HK9.out).trans (KeepsOthers.setCell _ _ _)).from _, rfl, by rw [HPF.out]; exact D8.out, (HBW.out.trans (HK9.out.mono HBW.out.size)).setCell (p := ⟨w.heap.size + 1 + 1, 0, none⟩) (by simp; omega) _⟩

    · have hlt : pre.length < (walkV x).length := by omega
      have g1 : decide ((walkV x).length ≤ pre.length) = false := decide_eq_false hge
      have g2 : (pre.length : Int) < ((walkV x).length : Int) := by omega
      obtain ⟨c0, c1', c2, c3, c4, c5, h0, h1, h2, h3, h4, h5, hz⟩ := HEL.out pre.length hlt Wr HB.out
      have hqs : sizeV (walkV x)[pre.length] ≤ 1000000 := by have := (walk_sub x _ (List.getElem_mem hlt)).1; omega
      have hpf : pfB x (pre ++ [q]) = sm (walkV x)[pre.length] q.1 := by
        by_cases e : (walkV x)[pre.length] = q.1
        · rw [sm_yes e]
          refine pf_yes ?_
          rw [HPM.out, prefix_snoc HD.out]
          exact ⟨by rw [HPL.out]; exact hlt, by simpa [HPL.out] using e⟩
        · rw [sm_no e]
          refine pf_no (fun hp => e ?_)
          rw [HPM.out, prefix_snoc HD.out] at hp
          obtain ⟨_, h⟩ := hp
          simpa [HPL.out] using h
      have SMJ : Hid (∀ w1, KB Wr w1 → Calls Tryd.prog 16 #[.agg #[.int .i8 k', .bool b', .int .i64 n', .string s', .slice o1 m1 p1, .slice o3 m3 p3], .agg #[c0, c1', c2, c3, c4, c5]] w1 fun e w' => e = .returned (.bool (sm q.1 (walkV x)[pre.length])) ∧ KB Wr w') := Lib.hid fun w1 hK => Calls.kb hK (SM.out q.1 (walkV x)[pre.length] _ _ w1 (isV_below hK hv) (isV_below hK hz))
      have hyl : pre.length ≤ 1000000 := by have := walk_le x; omega
      have HPF := Lib.hid hpf
      obtain ⟨ek, eb, en, es, eo, em, ec, fo, fm, fc, hag⟩ := isV_six hz
      simp only [Value.agg.injEq, Array.mk.injEq, List.cons.injEq, and_true] at hag
      obtain ⟨rfl, rfl, rfl, rfl, rfl, rfl⟩ := hag
      have HNX : Hid (∀ w1, Below w8.heap.size w8 w1 → sm q.1 (walkV x)[pre.length] = true → Boxed w1 w8.heap.size 3 (.int .i64 ((pre ++ [q]).length : Nat)) → Boxed w1 w8.heap.size 3 (.int .i64 ((pre ++ [q]).length : Nat)) ∧ (Below w8.heap.size w8 w1 ∧ (pre ++ [q]).map (fun p => p.1) <+: walkV x)) := Lib.hid fun w1 h1 h2 h3 => ⟨h3, h1, by
        rw [HPM.out, prefix_snoc HD.out]
        exact ⟨by rw [HPL.out]; exact hlt, by simpa [HPL.out] using (sm_eq h2).symm⟩⟩
      have hpl2 : (((pre ++ [q]).length : Nat) : Int) = (pre.length : Int) + 1 := by simp
      rw [hpl2] at HNX
      have HPN := Lib.hid hpl2
      have hsm : sm (walkV x)[pre.length] q.1 = sm q.1 (walkV x)[pre.length] := sm_comm _ _
      rw [hsm] at HPF
      clear hsm
      generalize sm q.1 (walkV x)[pre.length] = bq at *
      clear hpf hge hv hz hqs hlt hpl2
      generalize pre.length = y at *
      cases bq with
      | false =>
        gi_wp2_with fail
        first
        | gi_region_with (refine ⟨trivial, ?_⟩; refine (CallsIn.inRound l' (callsIn_wide.2 (SMJ.out _ (drewB1 _ _)))).mono ?_; rintro e w' ⟨rfl, hb'⟩)
        | fail
        all_goals
          have b8 := Boxed.kept HBR.out (grown_bel (hb')) (by simp)
          have HK9 : Hid (KB Wr w') := Lib.hid (hb')
          have f8 := b8.frozen
          have e8 := b8.cell
          have D8 := Lib.hid (b8.set (.bool false))
          clear b8
          gi_wp2_with fail
          exact ⟨((keeps_below HK9.out).trans (KeepsOthers.setCell _ _ _)).from _, rfl, by rw [HPF.out]; exact D8.out, (HBW.out.trans (HK9.out.mono HBW.out.size)).setCell (p := ⟨w.heap.size + 1 + 1, 0, none⟩) (by simp; omega) _⟩

      | true =>
        have hw : IntKind.i64.wrap ((y : Int) + 1) = (y : Int) + 1 := IntWalk.i64_in _ (by omega)
        gi_wp2_with fail
        first
        | gi_region_with (refine ⟨trivial, ?_⟩; refine (CallsIn.inRound l' (callsIn_wide.2 (SMJ.out _ (drewB1 _ _)))).mono ?_; rintro e w' ⟨rfl, hb'⟩)
        | fail
        all_goals
          have b9 := Boxed.kept HB1.out (grown_bel hb') (by simp)
          have s9 := Boxed.kept HBS.out (grown_bel hb') (by simp)
          have q9 := Boxed.kept HBR.out (grown_bel hb') (by simp)
          have HK9 := Lib.hid hb'
          have f9 := b9.frozen
          have e9 := b9.cell
          have d9 := b9.set (.int .i64 ((y : Int) + 1))
          have s10 := s9.other (show w.heap.size + 1 ≠ w8.heap.size by omega) (.int .i64 ((y : Int) + 1))
          have q10 := q9.other (show w.heap.size + 1 + 1 ≠ w8.heap.size by omega) (.int .i64 ((y : Int) + 1))
          have d10 := d9.cell
          have s10c := s10.cell
          have hw8 : Below w8.heap.size w8 (w'.setCell ⟨w8.heap.size, 0, none⟩ (.int .i64 ((y : Int) + 1))) := (HB.out.trans (hb'.mono hzr)).setCell (p := ⟨w8.heap.size, 0, none⟩) (Nat.le_refl _) _
          have HW8 := Lib.hid hw8
          have HKF : Hid (KeepsFrom W9.heap.size Wr (w'.setCell ⟨w8.heap.size, 0, none⟩ (.int .i64 ((y : Int) + 1)))) := Lib.hid (((keeps_below hb').trans (KeepsOthers.setCell _ _ _)).from _)
          have HD9 := Lib.hid d9
          by_cases hs : (y : Int) + 1 = stop
          · have hse : ((y : Int) + 1 == stop) = true := by rw [hs]; exact beq_self_eq_true _
            have HEV : Hid (Env (w'.setCell ⟨w8.heap.size, 0, none⟩ (.int .i64 ((y : Int) + 1)))) := Lib.hid ((HE.out w8 HB08.out).below hw8 (HE.out w8 HB08.out).1)
            clear hw8 d9 b9 s9 q9 hb' hs
            generalize hW10 : w'.setCell ⟨w8.heap.size, 0, none⟩ (.int .i64 ((y : Int) + 1)) = W10 at *
            gi_wp2_with (refine ⟨trivial, ?_⟩; refine (CallsIn.inRound l' (callsIn_wide.2 (wakes_any _ HEV.out))).mono ?_; rintro e w11 ⟨rfl, hb11⟩; have b11 := Boxed.kept q10 (grown_bel hb11) (by simp); have f11 := b11.frozen; have e11 := b11.cell; have D11 := Lib.hid (b11.set (.bool true)); clear b11)
            exact ⟨(HKF.out.trans ((keeps_below hb11).from _)).trans ((KeepsOthers.setCell _ _ _).from _), rfl, by rw [HPF.out]; exact D11.out, (((HB0.out.trans (HB08.out.mono HB0.out.size)).trans (HW8.out.mono (by have := HB0.out.size; omega))).trans (hb11.mono (by have := HW8.out.size; omega))).setCell (p := ⟨w.heap.size + 1 + 1, 0, none⟩) (by simp; omega) _⟩
          · have hse : ((y : Int) + 1 == stop) = false := beqI hs
            have HKX : Hid (KX l' w8.heap.size (w8.heap.size + 1) Ws (w'.setCell ⟨w8.heap.size, 0, none⟩ (.int .i64 ((y : Int) + 1)))) := Lib.hid ⟨(HST.out.1.trans (hb'.mono hzr)).setCell (p := ⟨w8.heap.size, 0, none⟩) (Nat.le_refl _) _, fun b o hb hne hx => by
              have h1 := HST.out.2 b o hb hne hx
              have h2 := (hb'.block b (Array.getElem?_eq_some_iff.1 h1).1).trans h1
              exact ((grownBy_setCell' w' w8.heap.size _).block b (Array.getElem?_eq_some_iff.1 h2).1 (fun e => by have := Option.some.inj e; omega)).trans h2⟩
            clear hw8 d9 b9 s9 q9 hb' hs
            gi_wp2_with fail
            have h9 := HNX.out _ HW8.out (by simp) HD9.out
            exact ⟨HKF.out, HKX.out, by
              show Boxed _ _ _ (Value.int .i64 (((pre ++ [q]).length : Nat) : Int))
              rw [HPN.out]
              exact h9.1, h9.2.1, h9.2.2⟩
  case done =>
    rintro D xs Wr hD hS ⟨b1, hB1, hd⟩ hK
    have hlen : xs.length = (walkV x).length := by
      have := congrArg List.length hS
      rw [List.length_map] at this; exact this
    rw [hlen] at b1
    have hbr : Boxed Wr (w.heap.size + 1 + 1) 4 (.bool false) := (hB1.block _ (by omega)).trans ((HB08.out.block _ (by omega)).trans BR.out)
    have ba : Boxed Wr ga 23 (.slice (some ⟨g, 0, none⟩) (walkV x).length cap) := (hB1.block _ hga8).trans BA8.out
    have HWK : Hid (Env Wr) := Lib.hid ((HE.out w8 HB08.out).kb hB1)
    have HBW : Hid (Below w.heap.size w Wr) := Lib.hid ((HB0.out.trans (HB08.out.mono HB0.out.size)).trans (hB1.mono (by have := HB0.out.size; omega)))
    have c1 := b1.cell
    have ca := ba.cell
    have HK := Lib.hid hK
    clear hS hlen b1 ba hB1 hd hK
    gi_wp2_with (refine ⟨trivial, ?_⟩; refine (callsIn_wide.2 (wakes_any _ HWK.out)).mono ?_; rintro e w11 ⟨rfl, hb11⟩; have b11 := Boxed.kept hbr (grown_bel hb11) (by simp); have f11 := b11.frozen; have e11 := b11.cell; have D11 := Lib.hid (b11.set (.bool true)); have hD11 : w11.heap[D]? = some (.deferred (some [])) := (hb11.block D (Array.getElem?_eq_some_iff.1 HK.out).1).trans HK.out; have HD11 := Lib.hid hD11; clear b11 hD11)
    have hKs : (w11.setCell ⟨w.heap.size + 1 + 1, 0, none⟩ (.bool true)).heap[D]? = some (.deferred (some [])) := (KeepsOthers.setCell _ _ _).same D _ HD11.out rfl
    have d2 := cell_kept (a := ⟨w.heap.size + 1 + 1, 0, none⟩) D11.out.cell (grownBy_putObj' _ D (.deferred none)) (fun r e => by cases e; exact ⟨_, hKs, rfl⟩)
    refine ⟨by simp, .inl ⟨_, _, rfl, run_takeDeferred hKs, ?_⟩⟩
    refine ⟨.bool true, by simp [results, Tryd.results4, go_sem, d2], rfl, ?_⟩
    have hzz := HBW.out.size
    exact ((HBW.out.trans (hb11.mono hzz)).setCell (p := ⟨w.heap.size + 1 + 1, 0, none⟩) (by simp; omega) _).trans (belowK_b (w := w) (Nat.le_refl _) _ D _ _ (by omega) hKs rfl rfl)
  case stop =>
    rintro D c pre Wr hD hS ⟨rfl, b1, hB1⟩ hK
    rw [pf_yes hS] at b1
    have d1 := b1.cell
    have d2 := cell_kept (a := ⟨w.heap.size + 1 + 1, 0, none⟩) d1 (grownBy_putObj' _ D (.deferred none)) (fun r e => by cases e; exact ⟨_, hK, rfl⟩)
    have HB := Lib.hid hB1
    have HK := Lib.hid hK
    clear hS b1 hB1 hK
    gi_wp2_with fail
    refine ⟨by simp, .inl ⟨_, _, rfl, run_takeDeferred HK.out, ?_⟩⟩
    refine ⟨.bool true, by simp [results, Tryd.results4, go_sem, d2], rfl, ?_⟩
    have hzz := HB.out.size
    exact HB.out.trans (belowK_b (w := w) (Nat.le_refl _) _ D _ _ (by omega) HK.out rfl rfl)
end Go.Proofs.YtdbfpojgaalfmaaDoor
