/-
  FrameScans: the walk.
-/
import Derived.Test.YtjpkokmokdaddaaGr
import Derived.Test.YtjpkokmokdaddaaSt
set_option linter.unusedVariables false
namespace Go.Proofs.Ytjpkokmokdaddaa
open Go.RowKit Go.Shelf Go.Lib
attribute [local go_sem] Oper.semAt_some

theorem free_cell {B : Nat} {W W' : World} {row : Option Nat} (hg : W.grownBy W' row) (hr : NoRow B W row) (a : Addr) (c : Value) (hc : W.cell? a = some c) : W'.cell? a = some c := by
  have hlt := World.block_lt_of_cell? W a hc
  have hne : row ≠ some a.block := fun e => by
    obtain ⟨_, o, h1, h2⟩ := hr _ e
    unfold World.cell? at hc
    rw [h1] at hc
    cases o <;> first | (cases h2; done) | (simp at hc)
  exact (World.cell?_of_block (h := hg.block _ hlt (fun e => hne e.symm))).trans hc
theorem rds.keep {W W' : World} {L : List (List UInt8)} {v : Value} (h : rds W L v) (hc : ∀ a c, W.cell? a = some c → W'.cell? a = some c) : rds W' L v := by
  obtain ⟨o, a, cap, h1, h2, h3, h4, h5⟩ := h
  refine ⟨o, a, cap, h1, h2, h3, h4, fun i hi => ?_⟩
  obtain ⟨ob, cb, q1, q2⟩ := h5 i hi
  exact ⟨ob, cb, hc _ _ q1, q2.keep hc⟩
theorem free_rds {β : Type} (B : Nat) (L : List (List UInt8)) (v : Value) : Free B (fun (_ : β) W => rds W L v) := fun _ _ _ _ hs hg hr => hs.keep (free_cell hg hr)
theorem func_no (f : Fn) (xs bs : Array Value) (w : World) : (binOp .eql 35 (.func f xs bs) .nilFunc).run Try.prog w = .ok (.bool false) w := by kernel_rfl
/-- The number that is told, the answer, in boxes. -/
def ST (w : World) (n : Int) (W : World) : Prop := Below w.heap.size w W ∧ Boxed W w.heap.size 3 (.int .i64 n) ∧ Boxed W (w.heap.size + 1) 4 (.bool false)
theorem ST.below {w W W' : World} {n : Int} (h : ST w n W) (hb : Below W.heap.size W W') : ST w n W' := by
  obtain ⟨h1, h2, h3⟩ := h
  exact ⟨h1.trans (hb.mono h1.size), (hb.block _ (Array.getElem?_eq_some_iff.1 h2).1).trans h2, (hb.block _ (Array.getElem?_eq_some_iff.1 h3).1).trans h3⟩
set_option maxRecDepth 100000 in
set_option maxHeartbeats 4000000 in
theorem scans_short (v : Value) (x : List UInt8) (n : Int) (w : World) (hx0 : rd w x v ∧ fit v) (hlen : x.length ≤ 3000) : Calls Try.prog 5 #[v, .int .i64 n] w fun e w' => e = .returned (.bool true) ∧ Below w.heap.size w w' := by
  obtain ⟨hx, hft⟩ := hx0
  obtain ⟨o, c, rfl, hc1, hc2⟩ := hx.form
  have t1 : decide ((3000 : Int) < (x.length : Int)) = false := decide_eq_false (by omega)
  have t1' : decide (3000 < x.length) = false := decide_eq_false (by omega)
  have HX := Lib.hid (And.intro hx hft)
  have HL := Lib.hid hlen
  obtain ⟨L, hL⟩ : ∃ L, (scanL x).1 = L := ⟨_, rfl⟩
  obtain ⟨T, hT⟩ : ∃ T, (scanL x).2 = T := ⟨_, rfl⟩
  have HLT := Lib.hid (And.intro hL hT)
  have HS1 : Hid (∀ W, Below w.heap.size w W → Calls Try.prog 14 #[.slice o x.length c] W fun e w' => Hid (∃ o c, e = .returned (.tuple #[.slice o L.length c, .int .i64 (T : Nat)]) ∧ Hid (rdz W.heap.size w' L (.slice o L.length c) ∧ Below W.heap.size W w'))) := Lib.hid fun W hW => by
    have := pscan_any x _ W (hx.below hW) hft (by omega)
    rw [hL, hT] at this
    exact this.mono fun e w' h => Lib.hid h
  have HS2 : Hid (∀ W, Below w.heap.size w W → Calls Try.prog 15 #[.slice o x.length c] W fun e w' => Hid (∃ o c, e = .returned (.tuple #[.slice o L.length c, .int .i64 (T : Nat)]) ∧ Hid (rds w' L (.slice o L.length c) ∧ Below W.heap.size W w'))) := Lib.hid fun W hW => by
    have := rscan_any x _ W (hx.below hW) (by omega)
    refine this.mono fun e w' h => Lib.hid ?_
    obtain ⟨v', L', rfl, hq⟩ := h
    obtain ⟨rfl, rest, bv, hsc⟩ := hq.out
    rw [hL] at hsc
    obtain ⟨o5, a5, c5, rfl, q⟩ := hsc.rds
    rw [hT]
    exact ⟨o5, c5, rfl, Lib.hid ⟨hsc.rds, by obtain ⟨_, _, _, h, _⟩ := hsc; exact h⟩⟩
  clear hx hft hlen hc1 hc2 hL hT
  refine (callsIn_wide (n := 9)).1 ?_
  refine callsIn_of_wp_marks Try.func5 rfl trivial ?_ rfl
  simp only [Try.ntmps5, List.size_toArray, List.length_cons, List.length_nil, Nat.reduceAdd, Nat.reduceSub, Array.replicate_succ, Array.replicate_zero, List.push_toArray, List.append_toArray, List.nil_append, List.cons_append]
  gi_wp2_with fail
  obtain ⟨W0, hW0, hS0⟩ : ∃ W0, (w.alloc (Obj.cells #[Value.int IntKind.i64 n] 3)).alloc (Obj.cells #[Value.bool false] 4) = W0 ∧ ST w n W0 := by
    have h := World.alloc_heap_new (w.alloc (Obj.cells #[Value.int IntKind.i64 n] 3)) (Obj.cells #[Value.bool false] 4)
    rw [World.size_alloc] at h
    exact ⟨_, rfl, by go_grown, (Boxed.new w _ _).alloc _, h⟩
  rw [hW0]
  have HS0 := Lib.hid hS0
  clear hW0 hS0
  refine ⟨trivial, ?_⟩
  refine (callsIn_wide.2 (HS1.out W0 HS0.out.1)).mono ?_
  rintro e W1 hq
  obtain ⟨o1, c1, rfl, hq1⟩ := hq.out
  have HA1 := Lib.hid (HS0.out.below hq1.out.2)
  have HL1 := Lib.hid hq1.out.1.rds
  clear hq hq1 HS0 HS1
  gi_wp2_with fail
  refine ⟨trivial, ?_⟩
  refine (callsIn_wide.2 (HS2.out W1 HA1.out.1)).mono ?_
  rintro e W2 hq
  obtain ⟨o2, c2, rfl, hq2⟩ := hq.out
  have HA2 := Lib.hid (HA1.out.below hq2.out.2)
  have HL2 := Lib.hid (HL1.out.below hq2.out.2)
  have HM2 := Lib.hid hq2.out.1
  clear hq hq2 HS2 HL1 HA1
  gi_wp2_with fail
  obtain ⟨W3, hW3⟩ : ∃ W3, W2.alloc (.cells #[.slice o2 L.length c2] 29) = W3 := ⟨_, rfl⟩
  have hb3 : Below W2.heap.size W2 W3 := by rw [← hW3]; exact (Below.refl _ _).alloc (Nat.le_refl _) _
  have bM3 : Boxed W3 W2.heap.size 29 (.slice o2 L.length c2) := by rw [← hW3]; exact Boxed.new W2 _ _
  have hSM := rsame_any L L _ _ W3 (HL2.out.below hb3) (HM2.out.below hb3)
  rw [decide_eq_true rfl] at hSM
  have HSM := Lib.hid hSM
  have HA3 := Lib.hid (HA2.out.below hb3)
  have BM3 := Lib.hid bM3
  have HM3 := Lib.hid (HM2.out.below hb3)
  have HZ2 := Lib.hid HA2.out.1.size
  rw [hW3]
  generalize hMB : W2.heap.size = MB at *
  have HMB : Hid (w.heap.size + 2 ≤ MB) := Lib.hid (by have := HA2.out.2.2; have := (Array.getElem?_eq_some_iff.1 this).1; omega)
  clear hW3 hb3 bM3 hSM HA2 HL2 HM2 hMB
  refine ⟨trivial, ?_⟩
  refine (callsIn_wide.2 HSM.out).mono ?_
  rintro e W4 ⟨rfl, hq4⟩
  have HA4 := Lib.hid (HA3.out.below hq4.out)
  have BM4 : Hid (Boxed W4 MB 29 (.slice o2 L.length c2)) := Lib.hid ((hq4.out.block _ (Array.getElem?_eq_some_iff.1 BM3.out).1).trans BM3.out)
  have HM4 := Lib.hid (HM3.out.below hq4.out)
  have HAL := Lib.hid ((pall_any x _ W4 (HX.out.1.below HA4.out.1) HX.out.2 (by have := HL.out; omega)).mono fun e w' h => Lib.hid h)
  clear hq4 HSM HA3 BM3 HM3
  gi_wp2_with fail
  refine ⟨trivial, ?_⟩
  refine (callsIn_wide.2 HAL.out).mono ?_
  rintro e W5 hq
  obtain ⟨Bx, oy, cy, rfl, hq5⟩ := hq.out
  obtain ⟨Y, hY⟩ : ∃ Y, wholeB x = Y := ⟨_, rfl⟩
  rw [hY] at hq5
  have hYL : (scanL Y).1 = L := by rw [← hY, scan_whole]; exact HLT.out.1
  have hYl : Y.length ≤ 3000 := by rw [← hY]; unfold wholeB; rw [List.length_take]; have := HL.out; omega
  have HYY := Lib.hid (And.intro hYL hYl)
  have HA5 := Lib.hid (HA4.out.below hq5.out.2.2)
  have BM5 : Hid (Boxed W5 MB 29 (.slice o2 L.length c2)) := Lib.hid ((hq5.out.2.2.block _ (Array.getElem?_eq_some_iff.1 BM4.out).1).trans BM4.out)
  have HM5 := Lib.hid (HM4.out.below hq5.out.2.2)
  have HQ5 := Lib.hid (And.intro hq5.out.1 hq5.out.2.1)
  have hfn := func_no (.func 20) #[] #[.pointer (some ⟨Bx, 0, none⟩)] W5
  clear hq hq5 HAL HA4 BM4 HM4 hYL hYl hY
  gi_wp2_with fail
  obtain ⟨A5, hA5⟩ : ∃ A5, W5.heap.size = A5 := ⟨_, rfl⟩
  obtain ⟨W6, hW6, hb6, hsz6, bA, bN⟩ : ∃ W6, (W5.alloc (Obj.cells #[Value.int IntKind.i64 0] 3)).alloc (Obj.cells #[Value.int IntKind.i64 0] 3) = W6 ∧ Below W5.heap.size W5 W6 ∧ W6.heap.size = A5 + 1 + 1 ∧ Boxed W6 A5 3 (.int .i64 0) ∧ Boxed W6 (A5 + 1) 3 (.int .i64 0) := by
    have h := World.alloc_heap_new (W5.alloc (.cells #[Value.int IntKind.i64 0] 3)) (.cells #[Value.int IntKind.i64 0] 3)
    rw [World.size_alloc, hA5] at h
    exact ⟨_, rfl, by go_grown, by simp [hA5], by rw [← hA5]; exact (Boxed.new W5 _ _).alloc _, h⟩
  rw [hW6, hA5]
  have hA6 := HA5.out.below hb6
  have bM6 : Boxed W6 MB 29 (.slice o2 L.length c2) := (hb6.block _ (Array.getElem?_eq_some_iff.1 BM5.out).1).trans BM5.out
  have hM6 := HM5.out.below hb6
  have hz5 := HA5.out.1.size
  have hlt5 := (Array.getElem?_eq_some_iff.1 HA5.out.2.2).1
  have hltM := (Array.getElem?_eq_some_iff.1 BM5.out).1
  rw [hA5] at hlt5 hltM hz5
  have hP : ∀ j, W6.heap.size ≤ j → (fun j => j ≠ A5 ∧ j ≠ A5 + 1) j := fun j hj => by show j ≠ A5 ∧ j ≠ A5 + 1; omega
  have SQ := all1_seq (9 - 1) (by omega) (fun j => j ≠ A5 ∧ j ≠ A5 + 1) Y _ Bx W6 ((ow.rd HQ5.out.2).below hb6) HQ5.out.2.fit (by have := HYY.out.2; omega) ((hb6.block _ (Array.getElem?_eq_some_iff.1 HQ5.out.1).1).trans HQ5.out.1) hP
  rw [HYY.out.1] at SQ
  have hI0 : Below W5.heap.size W5 W6 ∧ Boxed W6 A5 3 (.int .i64 (atL L 0 : Nat)) ∧ Boxed W6 (A5 + 1) 3 (.int .i64 (0 : Nat)) := ⟨hb6, by simpa [atL] using bA, bN⟩
  have HW5 := Lib.hid hA5
  have HZ := Lib.hid (And.intro hsz6 (And.intro hlt5 hltM))
  clear hb6 bA bN hA6 bM6 hM6 hlt5 hltM hW6 hA5 hP hfn HQ5 hz5
  refine range_ix (by omega) (gf := 20) (lb := #[.pointer (some ⟨Bx, 0, none⟩)]) rfl (enters_of Try.func20 (by kernel_rfl) rfl)
    SQ (Below.refl _ _) (fun _ _ => rfl)
    (fun k W => Below W5.heap.size W5 W ∧ Boxed W A5 3 (.int .i64 (atL L k : Nat)) ∧ Boxed W (A5 + 1) 3 (.int .i64 (k : Nat)))
    (fun c k W => c = .ret ∧ Below w.heap.size w W ∧ Boxed W (w.heap.size + 1) 4 (.bool true)) ?hI ?hIx hI0
    (fun k v => { tmps := #[Value.slice o x.length c, Value.int IntKind.i64 n, undef, Value.pointer (some { block := w.heap.size, off := 0 }), Value.pointer (some { block := w.heap.size + 1, off := 0 }), Value.slice o1 L.length c1, Value.int IntKind.i64 (T : Nat), Value.pointer (some { block := MB, off := 0 }), Value.int IntKind.i64 (T : Nat), Value.func (Fn.func 20) #[] #[Value.pointer (some { block := Bx, off := 0 })], Value.pointer (some { block := A5, off := 0 }), Value.pointer (some { block := A5 + 1, off := 0 }), .int .i64 (atL L k : Nat), v, Value.slice o x.length c, Value.int IntKind.i64 (x.length : Nat), Value.bool false, undef, Value.tuple #[Value.slice o1 L.length c1, Value.int IntKind.i64 (T : Nat)], Value.slice o x.length c, Value.tuple #[Value.slice o1 L.length c1, Value.int IntKind.i64 (T : Nat)], Value.slice o1 L.length c1, Value.int IntKind.i64 (T : Nat), Value.tuple #[Value.slice o2 L.length c2, Value.int IntKind.i64 (T : Nat)], Value.slice o x.length c, Value.tuple #[Value.slice o2 L.length c2, Value.int IntKind.i64 (T : Nat)], Value.slice o2 L.length c2, Value.int IntKind.i64 (T : Nat), Value.int IntKind.i64 (T : Nat), Value.int IntKind.i64 (T : Nat), Value.bool false, Value.bool false, Value.slice o1 L.length c1, Value.slice o2 L.length c2, Value.bool true, Value.bool false, Value.bool false, Value.slice o x.length c, Value.func (Fn.func 20) #[] #[Value.pointer (some { block := Bx, off := 0 })], Value.func (Fn.func 20) #[] #[Value.pointer (some { block := Bx, off := 0 })], Value.bool false, Value.func (Fn.func 20) #[] #[Value.pointer (some { block := Bx, off := 0 })], .int .i64 (atL L k : Nat), v, undef, undef, undef, undef, undef, undef, undef, undef, undef, undef, undef, undef, undef, undef, undef, undef, undef, undef, undef, undef, undef, undef, undef, undef, undef, undef, undef, undef, undef, undef, undef, undef, undef, undef, undef, undef, undef, undef, undef, undef], defers := [] })
    ?hpre ?assign ?body ?done ?stop
  case hI =>
    rintro k W W' row ⟨a, b, c⟩ hg hr
    have hz := HZ.out
    have hw := HW5.out
    exact ⟨free_below (β := Unit) (B := W6.heap.size) (m := W5.heap.size) (by omega) (Nat.le_refl _) () W W' row a hg hr, free_boxed (β := Unit) W6.heap.size _ _ (fun _ => _) () W W' row b hg hr, free_boxed (β := Unit) W6.heap.size _ _ (fun _ => _) () W W' row c hg hr⟩
  case hIx =>
    rintro c k W W' row ⟨rfl, a1, a2⟩ hg hr
    have hz := HZ.out
    exact ⟨rfl, free_below (β := Unit) (B := W6.heap.size) (m := w.heap.size) (by omega) (Nat.le_refl _) () W W' row a1 hg hr, free_boxed (β := Unit) W6.heap.size _ _ (fun _ => _) () W W' row a2 hg hr⟩
  case hpre =>
    rintro k v W l r o' _ hl ⟨a, hv, hr⟩
    exact ⟨a, hv, hr.keep fun a c h => cell_put hl rfl a c h⟩
  case assign =>
    rintro l' k v W K hK
    have HK := Lib.hid hK
    clear hK
    unfold encF
    generalize atL L k = A at *
    gi_wp2_with fail
    exact HK.out
  case body =>
    rintro l' k v W hl' _ hk ⟨sb, s3, s4⟩ ⟨av, hv, hr⟩
    subst hv
    obtain ⟨s0, s1, s2⟩ := HA5.out.below sb
    have s5 : Boxed W MB 29 (.slice o2 L.length c2) := (sb.block _ (Array.getElem?_eq_some_iff.1 BM5.out).1).trans BM5.out
    have s6 := HM5.out.below sb
    have qs := atL_succ L k hk
    obtain ⟨_, a2, _, he, _, _, ho2, hrow⟩ := id s6
    cases he
    obtain rfl := ho2 (by omega)
    obtain ⟨ob, cb, g1, g2⟩ := hrow k hk
    have hlk := lk_get hk
    rw [← hlk] at g1 g2
    have c1 := s1.cell
    have c3 := s3.cell
    have c4 := s4.cell
    have c5 := s5.cell
    have d1 := Boxed.cell (W := W.drew) s1
    have d3 := Boxed.cell (W := W.drew) s3
    have d4 := Boxed.cell (W := W.drew) s4
    have d5 := Boxed.cell (W := W.drew) s5
    have dg : W.drew.cell? (Addr.add a2 k) = some (.slice ob (lk L k).length cb) := g1
    have k1 := run_strF W _ _ _ _ hr
    have k2 := run_strF W _ _ _ _ g2
    have k3 := run_strF W.drew _ _ _ _ (hr.below (Below.refl W.heap.size W).drew)
    have k4 := run_strF W.drew _ _ _ _ (g2.below (Below.refl W.heap.size W).drew)
    have hklt : (k : Int) < (L.length : Int) := by omega
    have t6 : decide ((L.length : Int) ≤ (k : Int)) = false := decide_eq_false (by omega)
    have t6' : decide (L.length ≤ k) = false := decide_eq_false (by omega)
    have S0 := Lib.hid sb
    have S3 := Lib.hid s3
    have S4 := Lib.hid s4
    have QS := Lib.hid qs
    have HK := Lib.hid hk
    have hld := at_load Y k (by rw [HYY.out.1]; exact hk)
    rw [HYY.out.1] at hld
    have hax : atL L k + 4 + (lk L k).length ≤ 3000 := Nat.le_trans hld.2.2.2.2 HYY.out.2
    have HAX := Lib.hid hax
    have hkA := atL_ge L k (by omega)
    have HKA := Lib.hid hkA
    clear hkA
    clear hld hax
    generalize atL L k = A at *
    generalize hXX : lk L k = X at *
    clear qs sb s0 s1 s2 s3 s4 s5 s6 hrow hlk hr g2 hXX ho2 hk
    gi_wp2_with fail
    refine St.region_still (by kernel_rfl) (by kernel_rfl) (by kernel_rfl) ?_
    repeat still_step
    refine wpStill_nil ?_
    clear c1 c3 c4 c5 g1 k1 k2 k3 k4
    obtain ⟨V, hV⟩ : ∃ V, W.drew = V := ⟨_, rfl⟩
    have hKV : KeepsOthers W V ∧ KK (fun j => j ≠ A5 ∧ j ≠ A5 + 1) W V := by rw [← hV]; exact ⟨KeepsOthers.drew _, KK.below (Below.refl W.heap.size W).drew⟩
    have HKV := Lib.hid hKV
    have hBV : Below W5.heap.size W5 V := by rw [← hV]; exact S0.out.drew
    have r3 : Boxed V A5 3 (.int .i64 (A : Nat)) := by rw [← hV]; exact S3.out
    have r4 : Boxed V (A5 + 1) 3 (.int .i64 (k : Nat)) := by rw [← hV]; exact S4.out
    rw [hV] at d1 d3 d4 d5 dg ⊢
    have e3 := Boxed.cell (W := V.drew) r3
    have e4 := Boxed.cell (W := V.drew) r4
    have e5 : V.drew.cell? ⟨MB, 0, none⟩ = some (.slice (some a2) L.length c2) := d5
    have f3 := r3.frozen
    have eg : V.drew.cell? (Addr.add a2 k) = some (.slice ob X.length cb) := dg
    have RV := Lib.hid (And.intro hBV (And.intro r3 r4))
    have hwA : IntKind.i64.wrap ((A : Int) + (4 + (X.length : Int))) = (A : Int) + (4 + (X.length : Int)) := by
      have := HAX.out
      go_unwrap
    clear hKV hBV r3 r4 hV S0 S3 S4
    have hw4 : IntKind.i64.wrap (4 + (X.length : Int)) = 4 + (X.length : Int) := by
      have := HAX.out
      go_unwrap
    gi_wp2_with fail
    apply St.cutR
    case h =>
      refine St.region_tail 8 (by kernel_rfl) (by kernel_rfl) (by kernel_rfl) ?_
      simp only [List.take_succ_cons, List.take_zero, List.drop_succ_cons, List.drop_zero]
      repeat still_step
      refine wpStill_nil ?_
      gi_wp2_with fail
      exact ⟨rfl, rfl⟩
    clear d1 d3 d4 d5 dg e3 e4 e5 f3 eg hwA hw4
    obtain ⟨hBV, r3, r4⟩ := RV.out
    obtain ⟨U, hU⟩ : ∃ U, (V.setCell ⟨A5, 0, none⟩ (.int .i64 ((A : Int) + (4 + (X.length : Int))))).drew = U := ⟨_, rfl⟩
    have hz := HZ.out
    have hFU : Fr (fun j => j = A5) V U := by
      rw [← hU]
      exact (Fr.set (B := fun j => j = A5) V A5 0 _ rfl).trans ⟨⟨rfl, rfl, rfl, Nat.le_refl _⟩, fun _ _ h _ => h⟩
    have u3 : Boxed U A5 3 (.int .i64 ((A : Int) + (4 + (X.length : Int)))) := by rw [← hU]; exact r3.set _
    have u4 := hFU.boxed r4 (by omega)
    have hKU : KeepsOthers V U ∧ KK (fun j => j ≠ A5 ∧ j ≠ A5 + 1) V U := by
      rw [← hU]
      exact ⟨(KeepsOthers.setCell _ _ _).trans (KeepsOthers.drew _), (KK.set _ _ _ (fun h => h.1 rfl)).trans (KK.below (Below.refl _ _).drew)⟩
    have hBU : Below W5.heap.size W5 U := hBV.trans (hFU.below (fun j hj => by have := HW5.out; omega) hBV.size)
    obtain ⟨u0, u1, u2⟩ := HA5.out.below hBU
    have BU := Lib.hid (And.intro hBU (And.intro u3 (And.intro u4 (And.intro u2 (And.intro u0 hKU)))))
    have c4 := u4.cell
    have f4 := u4.frozen
    have hk3 : k ≤ 3000 := by
      have h1 := HK.out
      have h2 := HKA.out
      have h3 := HAX.out
      omega
    have hwk : IntKind.i64.wrap ((k : Int) + 1) = (k : Int) + 1 := by go_unwrap
    obtain ⟨U2, hU2⟩ : ∃ U2, U.setCell ⟨A5 + 1, 0, none⟩ (.int .i64 ((k : Int) + 1)) = U2 := ⟨_, rfl⟩
    have hF2 : Fr (fun j => j = A5 + 1) U U2 := by rw [← hU2]; exact Fr.set U (A5 + 1) 0 _ rfl
    have v1 := (hF2.boxed u1 (by omega)).cell
    have v4 : Boxed U2 (A5 + 1) 3 (.int .i64 ((k : Int) + 1)) := by rw [← hU2]; exact u4.set _
    have w4 := v4.cell
    have v2 := (hF2.boxed u2 (by omega)).cell
    have g2 := (hF2.boxed u2 (by omega)).frozen
    have B2 : Hid (Below W5.heap.size W5 U2 ∧ Below w.heap.size w U2) := Lib.hid (by
      have := hBU.trans (hF2.below (fun j hj => by have := HW5.out; omega) hBU.size)
      exact ⟨this, (HA5.out.below this).1⟩)
    have V4 := Lib.hid v4
    have V3 := Lib.hid (hF2.boxed u3 (by omega))
    have V2 := Lib.hid (hF2.boxed u2 (by omega))
    have KU2 : Hid (KeepsOthers V U2 ∧ KK (fun j => j ≠ A5 ∧ j ≠ A5 + 1) V U2) := Lib.hid (by
      rw [← hU2]
      exact ⟨hKU.1.trans (KeepsOthers.setCell _ _ _), hKU.2.trans (KK.set _ _ _ (fun h => h.2 rfl))⟩)
    rw [hU]
    clear hU hFU u0 u1 u2 u3 u4 hBU hKU hBV r3 r4 hF2 v4
    by_cases hst : (k : Int) + 1 = n
    · have t8 : ((k : Int) + 1 == n) = true := by rw [beq_iff_eq]; exact hst
      clear hst
      gi_wp2_with fail
      refine ⟨trivial, ?_⟩
      refine (CallsIn.inRound l' (callsIn_wide.2 (wakes_any U2))).mono ?_
      rintro e U3 ⟨rfl, hb3⟩
      have V23 : Boxed U3 (w.heap.size + 1) 4 (.bool false) := (hb3.out.block _ (Array.getElem?_eq_some_iff.1 V2.out).1).trans V2.out
      have v23 := V23.cell
      have f23 := V23.frozen
      have RES : Hid (ownPostN W6.heap.size (fun j => j ≠ A5 ∧ j ≠ A5 + 1) (fun k W => Below W5.heap.size W5 W ∧ Boxed W A5 3 (.int .i64 (atL L k : Nat)) ∧ Boxed W (A5 + 1) 3 (.int .i64 (k : Nat))) (fun c k W => c = .ret ∧ Below w.heap.size w W ∧ Boxed W (w.heap.size + 1) 4 (.bool true)) k W .ret { tmps := #[], defers := [] } (U3.setCell ⟨w.heap.size + 1, 0, none⟩ (.bool true))) := Lib.hid (by
        refine ⟨((((HKV.out.1.trans KU2.out.1).trans (keeps_below hb3.out)).trans (KeepsOthers.setCell _ _ _))).from _, rfl, ?_, V23.set _⟩
        exact (B2.out.2.trans (hb3.out.mono B2.out.2.size)).setCell (p := ⟨w.heap.size + 1, 0, none⟩) (by simp) _)
      clear hb3 V23 v1 w4 v2 g2 t8 c4 f4
      gi_wp2_with fail
      exact RES.out
    · have t8 : ((k : Int) + 1 == n) = false := by rw [beq_eq_false_iff_ne]; exact hst
      clear hst
      have RES : Hid (ownPostN W6.heap.size (fun j => j ≠ A5 ∧ j ≠ A5 + 1) (fun k W => Below W5.heap.size W5 W ∧ Boxed W A5 3 (.int .i64 (atL L k : Nat)) ∧ Boxed W (A5 + 1) 3 (.int .i64 (k : Nat))) (fun c k W => c = .ret ∧ Below w.heap.size w W ∧ Boxed W (w.heap.size + 1) 4 (.bool true)) k W .normal { tmps := #[], defers := [] } U2) := Lib.hid (by
        refine ⟨(HKV.out.1.trans KU2.out.1).from _, HKV.out.2.trans KU2.out.2, B2.out.1, ?_, ?_⟩
        · rw [QS.out, show ((A + (4 + X.length) : Nat) : Int) = (A : Int) + (4 + (X.length : Int)) by omega]
          exact V3.out
        · rw [show ((k + 1 : Nat) : Int) = (k : Int) + 1 by omega]
          exact V4.out)
      gi_wp2_with fail
      exact RES.out
  case done =>
    rintro D W hD ⟨sb, s3, s4⟩ hK
    have hbm : Boxed W MB 29 (.slice o2 L.length c2) := (sb.block _ (Array.getElem?_eq_some_iff.1 BM5.out).1).trans BM5.out
    obtain ⟨s0, s1, s2⟩ := HA5.out.below sb
    have c4 := s4.cell
    have c5 := hbm.cell
    have S0 := Lib.hid s0
    have S2 := Lib.hid s2
    have HK := Lib.hid hK
    have hDz := HZ.out
    have HD := Lib.hid hD
    clear s0 s1 s2 s3 s4 sb hbm hK hD
    gi_wp2_with fail
    refine ⟨trivial, ?_⟩
    refine (callsIn_wide.2 (wakes_any W)).mono ?_
    rintro e U3 ⟨rfl, hb3⟩
    have V23 : Boxed U3 (w.heap.size + 1) 4 (.bool false) := (hb3.out.block _ (Array.getElem?_eq_some_iff.1 S2.out).1).trans S2.out
    have v23 := V23.cell
    have f23 := V23.frozen
    have hK3 : U3.heap[D]? = some (.deferred (some [])) := (hb3.out.block _ (Array.getElem?_eq_some_iff.1 HK.out).1).trans HK.out
    obtain ⟨U4, hU4⟩ : ∃ U4, U3.setCell ⟨w.heap.size + 1, 0, none⟩ (.bool true) = U4 := ⟨_, rfl⟩
    have hb4 : Below w.heap.size w U4 := by rw [← hU4]; exact (S0.out.trans (hb3.out.mono S0.out.size)).setCell (p := ⟨w.heap.size + 1, 0, none⟩) (by simp) _
    have hK4 : U4.heap[D]? = some (.deferred (some [])) := by
      rw [← hU4]
      exact (Below.heap_setCell _ _ _ _ (by have := HD.out; simp; omega)).trans hK3
    have hr4 : Boxed U4 (w.heap.size + 1) 4 (.bool true) := by rw [← hU4]; exact V23.set _
    have k1 := (Boxed.kept hr4 (grownBy_putObj' U4 D (.deferred none)) (by intro e; have := HD.out; cases e; omega)).cell
    have HK4 := Lib.hid hK4
    have HQ : Hid (Below w.heap.size w (U4.putObj D (.deferred none))) := Lib.hid (hb4.trans (belowK_b (w := w) (Nat.le_refl _) U4 D _ _ (by have := HD.out; omega) hK4 rfl rfl))
    have HU4 := Lib.hid hU4
    clear hb3 V23 hK3 hU4 hb4 hK4 hr4 c4 c5
    gi_wp2_with fail
    rw [HU4.out]
    refine ⟨by simp, .inl ⟨_, _, rfl, run_takeDeferred HK4.out, ?_⟩⟩
    exact ⟨.bool true, by simp [results, Try.results5, go_sem, k1], rfl, HQ.out⟩
  case stop =>
    rintro D c k W hD hk ⟨rfl, hb, hbox⟩ hK
    have hDz := HZ.out
    have k1 := (Boxed.kept hbox (grownBy_putObj' W D (.deferred none)) (by intro e; cases e; omega)).cell
    have HQ : Hid (Below w.heap.size w (W.putObj D (.deferred none))) := Lib.hid (hb.trans (belowK_b (w := w) (Nat.le_refl _) W D _ _ (by omega) hK rfl rfl))
    have HK := Lib.hid hK
    clear hbox hb hK
    gi_wp2_with fail
    refine ⟨by simp, .inl ⟨_, _, rfl, run_takeDeferred HK.out, ?_⟩⟩
    exact ⟨.bool true, by simp [results, Try.results5, go_sem, k1], rfl, HQ.out⟩
set_option maxRecDepth 100000 in
set_option maxHeartbeats 4000000 in
theorem scans_walk (v : Value) (x : List UInt8) (n : Int) (w : World) (hx : rd w x v ∧ fit v) {p : Prop} (hp : p) : Calls Try.prog 5 #[v, .int .i64 n] w fun e w' => e = .returned (.bool true) ∧ Below w.heap.size w w' := by
  by_cases hlen : x.length ≤ 3000
  · exact scans_short v x n w hx hlen
  · obtain ⟨o, c, rfl, hc1, hc2⟩ := hx.1.form
    have t1 : decide ((3000 : Int) < (x.length : Int)) = true := decide_eq_true (by omega)
    have t1' : decide (3000 < x.length) = true := decide_eq_true (by omega)
    obtain ⟨W0, hW0, hb0, hr0⟩ : ∃ W0, (w.alloc (Obj.cells #[Value.int IntKind.i64 n] 3)).alloc (Obj.cells #[Value.bool false] 4) = W0 ∧ Below w.heap.size w W0 ∧ Boxed W0 (w.heap.size + 1) 4 (.bool false) := by
      have h := World.alloc_heap_new (w.alloc (Obj.cells #[Value.int IntKind.i64 n] 3)) (Obj.cells #[Value.bool false] 4)
      rw [World.size_alloc] at h
      exact ⟨_, rfl, by go_grown, h⟩
    have HB0 := Lib.hid hb0
    have HR0 := Lib.hid hr0
    have HW0 := Lib.hid hW0
    clear hx hlen hc1 hc2 hb0 hr0 hW0
    go_enter Try.func5, Try.ntmps5
    go_wp2_with (go_at_call 9; rw [HW0.out]; refine (wakes_any W0).mono ?_)
    rintro e W1 ⟨rfl, hb1⟩
    have b1 : Boxed W1 (w.heap.size + 1) 4 (.bool false) := (hb1.out.block _ (Array.getElem?_eq_some_iff.1 HR0.out).1).trans HR0.out
    have c1 := b1.cell
    have f1 := b1.frozen
    have k1 := (b1.set (.bool true)).cell
    have HB : Hid (Below w.heap.size w (W1.setCell ⟨w.heap.size + 1, 0, none⟩ (.bool true))) := Lib.hid ((HB0.out.trans (hb1.out.mono HB0.out.size)).setCell (p := ⟨w.heap.size + 1, 0, none⟩) (by simp) _)
    clear hb1 b1
    go_wp2_with fail
    refine ⟨rfl, .bool true, by simp [results, Try.results5, go_sem, k1], rfl, HB.out⟩
end Go.Proofs.Ytjpkokmokdaddaa
