/-
  over: the rows that are gone over.
-/
import Derived.Test.YtbjdbphnccdpbaaKb
import Derived.Test.YtbjdbphnccdpbaaSt
set_option linter.unusedVariables false
namespace Go.Proofs.Ytbjdbphnccdpbaa
open Go.RowKit Go.Shelf Go.Lib
attribute [local go_sem] Oper.semAt_some

theorem func_no (f : Fn) (xs bs : Array Value) (w : World) : (binOp .eql 65 (.func f xs bs) .nilFunc).run Try.prog w = .ok (.bool false) w := by kernel_rfl
/-- What is told of what over has at hand. -/
def OVS (w : World) (lv : Int) (vw : Value) (D : List (List UInt8)) (at' : Nat) (W : World) : Prop :=
  Below w.heap.size w W ∧ Boxed W w.heap.size 3 (.int .i64 lv) ∧ Boxed W (w.heap.size + 1) 4 (.bool false) ∧ Boxed W (w.heap.size + 2) 28 vw ∧ Boxed W (w.heap.size + 3) 3 (.int .i64 at') ∧ rds W D vw
theorem OVS.below {w W W' : World} {lv : Int} {vw : Value} {D : List (List UInt8)} {at' : Nat} (h : OVS w lv vw D at' W) (hb : Below W.heap.size W W') : OVS w lv vw D at' W' := by
  obtain ⟨h1, h2, h3, h4, h5, h6⟩ := h
  exact ⟨h1.trans (hb.mono h1.size), boxed_below h2 hb, boxed_below h3 hb, boxed_below h4 hb, boxed_below h5 hb, h6.below hb⟩
theorem rwP.lt {P : Nat → Prop} {E : Value → Prop} {W : World} {L : List (List UInt8)} {v : Value} (h : rwP P E W L v) : rwP (fun k => P k ∧ k < W.heap.size) E W L v := by
  obtain ⟨o, a, cap, h1, h2, h3, h4, h5⟩ := h
  refine ⟨o, a, cap, h1, h2, h3, fun h0 => ⟨(h4 h0).1, (h4 h0).2, ?_⟩, fun i hi => ?_⟩
  · obtain ⟨ob, cb, q1, _⟩ := h5 0 h0
    have := World.block_lt_of_cell? W _ q1
    rw [block_add] at this
    exact this
  · obtain ⟨ob, cb, q1, q2, q3, q4⟩ := h5 i hi
    exact ⟨ob, cb, q1, q2, q3, fun a' e hx => ⟨q4 a' e hx, q3.lt a' e hx⟩⟩
theorem was_le (L : List (List UInt8)) (st N : Nat) (h : ∀ x ∈ L, x.length ≤ N) : ∀ x ∈ wasL L st, x.length ≤ N := by
  intro x hx
  obtain ⟨i, hi, rfl⟩ := List.mem_iff_getElem.1 hx
  have hi2 : i < L.length := by rw [was_len] at hi; exact hi
  have e : (wasL L st)[i] = if i < st then [] else lk L i := by simp [wasL]
  rw [e]
  split
  · simp
  · exact h _ (lk_mem hi2)
set_option maxRecDepth 100000 in
set_option maxHeartbeats 8000000 in
theorem over_any (L : List (List UInt8)) (v : Value) (fr lv : Int) (st : Nat) (hst : (st : Int) = if fr < 0 then 0 else fr) (hs63 : (st : Int) ≤ 9223372036854775807) (w : World) (hv : rwP (fun k => k < w.heap.size) fit w L v) (hft : fit v) (hn : L.length ≤ 300000) (hx : ∀ x ∈ L, x.length ≤ 4000000) :
    Calls Try.prog 20 #[v, .int .i64 fr, .int .i64 lv] w fun e w' => e = .returned (.bool true) ∧ Hid (Below w.heap.size w w') := by
  obtain ⟨o, a, cap, rfl, _⟩ := id hv
  obtain ⟨at', hat⟩ : ∃ at' : Nat, at' = min st L.length := ⟨_, rfl⟩
  have hat2 : (at' : Int) = if fr < 0 then 0 else if (L.length : Int) < fr then (L.length : Int) else fr := by
    rw [hat]
    by_cases c1 : fr < 0
    · rw [if_pos c1] at hst ⊢; omega
    · rw [if_neg c1] at hst ⊢
      by_cases c2 : (L.length : Int) < fr
      · rw [if_pos c2]; omega
      · rw [if_neg c2]; omega
  have hdl : (L.drop at').length = L.length - st := by rw [List.length_drop, hat]; omega
  obtain ⟨W0, hW0, hb0, hz0, hB5, hB6⟩ : ∃ W0, (w.alloc (Obj.cells #[Value.int IntKind.i64 lv] 3)).alloc (Obj.cells #[Value.bool false] 4) = W0 ∧ Below w.heap.size w W0 ∧ W0.heap.size = w.heap.size + 2 ∧ Boxed W0 w.heap.size 3 (.int .i64 lv) ∧ Boxed W0 (w.heap.size + 1) 4 (.bool false) := by
    have h := World.alloc_heap_new (w.alloc (Obj.cells #[Value.int IntKind.i64 lv] 3)) (Obj.cells #[Value.bool false] 4)
    rw [World.size_alloc] at h
    exact ⟨_, rfl, by go_grown, by simp, (Boxed.new w _ _).alloc _, h⟩
  have HFR := Lib.hid ((from_any L _ fr at' hat2 W0 ⟨hv.rds.below hb0, hft⟩).mono fun e w' h => Lib.hid h)
  have HV := Lib.hid hv
  have HX := Lib.hid hx
  have HN := Lib.hid hn
  have HB0 := Lib.hid (And.intro hb0 (And.intro hz0 (And.intro hB5 hB6)))
  have HDL := Lib.hid hdl
  have HAT := Lib.hid hat
  clear hv hft hn hx hb0 hB5 hB6 hat2 hdl hz0 hat
  refine (callsIn_wide (n := 9)).1 ?_
  refine callsIn_of_wp_marks Try.func20 rfl trivial ?_ rfl
  simp only [Try.ntmps20, List.size_toArray, List.length_cons, List.length_nil, Nat.reduceAdd, Nat.reduceSub, Array.replicate_succ, Array.replicate_zero, List.push_toArray, List.append_toArray, List.nil_append, List.cons_append]
  gi_wp2_with fail
  clear hW0
  refine ⟨trivial, ?_⟩
  refine (callsIn_wide.2 HFR.out).mono ?_
  rintro e W1 hq
  obtain ⟨v1, rfl, hq1⟩ := hq.out
  obtain ⟨rfl, q2, q3⟩ := hq1.out
  have Q2 := Lib.hid q2
  have hv1 : ∃ o1 c1, v1 = .slice o1 (L.length - st) c1 := by
    obtain ⟨o1, a1, c1, e1, _⟩ := id q2
    rw [HDL.out] at e1
    exact ⟨_, _, e1⟩
  obtain ⟨o1, c1, rfl⟩ := hv1
  clear hq hq1 HFR q2 q3
  gi_wp2_with fail
  have hz1 : W1.heap.size = w.heap.size + 2 := HB0.out.2.1
  obtain ⟨W2, hW2, hz2, hb2, hO2⟩ : ∃ W2, (W1.alloc (Obj.cells #[Value.slice o1 (L.length - st) c1] 28)).alloc (Obj.cells #[Value.int IntKind.i64 (at' : Nat)] 3) = W2 ∧ W2.heap.size = w.heap.size + 4 ∧ Below W1.heap.size W1 W2 ∧ OVS w lv (.slice o1 (L.length - st) c1) (L.drop at') at' W2 := by
    have h := World.alloc_heap_new (W1.alloc (Obj.cells #[Value.slice o1 (L.length - st) c1] 28)) (Obj.cells #[Value.int IntKind.i64 (at' : Nat)] 3)
    have h0 := World.alloc_heap_new W1 (Obj.cells #[Value.slice o1 (L.length - st) c1] 28)
    rw [World.size_alloc] at h
    rw [hz1] at h h0
    obtain ⟨W2, hW2⟩ : ∃ W2, (W1.alloc (Obj.cells #[Value.slice o1 (L.length - st) c1] 28)).alloc (Obj.cells #[Value.int IntKind.i64 (at' : Nat)] 3) = W2 := ⟨_, rfl⟩
    have hb : Below W1.heap.size W1 W2 := by rw [← hW2]; go_grown
    obtain ⟨g1, g2, g3, g4⟩ := HB0.out
    refine ⟨W2, hW2, by rw [← hW2]; simp [hz1], hb, g1.trans (hb.mono g1.size), boxed_below g3 hb, boxed_below g4 hb, ?_, by rw [← hW2]; exact h, Q2.out.below hb⟩
    rw [← hW2]
    have hB := Boxed.new W1 28 (Value.slice o1 (L.length - st) c1)
    rw [hz1] at hB
    exact hB.alloc _
  rw [hW2]
  have HRP := Lib.hid ((replay_any L (.slice o L.length cap) fr st hst hs63 W2 (((HV.out.kk (KK.below HB0.out.1)).kk (KK.below hb2)).imp (fun k hk => by have := HB0.out.1.size; omega)) HN.out HX.out).mono fun e w' h => Lib.hid h)
  have HO2 := Lib.hid hO2
  rw [hz1]
  rw [hz2] at HRP
  clear hW2 hb2 hO2 HB0 HV Q2
  refine ⟨trivial, ?_⟩
  refine (callsIn_wide.2 HRP.out).mono ?_
  rintro e W3 hq
  obtain ⟨rfl, hq1⟩ := hq.out
  obtain ⟨bf, hwas⟩ := hq1.out
  have HWS := Lib.hid hwas
  have HBF := Lib.hid bf
  have HO3 : Hid (OVS w lv (.slice o1 (L.length - st) c1) (L.drop at') at' W3) := Lib.hid (HO2.out.below (by have := hwas.2.1; exact this))
  have hz3 : w.heap.size + 9 ≤ W3.heap.size := by have := hwas.2.2.1; omega
  have hfn := func_no (.func 68) #[] #[.pointer (some ⟨w.heap.size + 4 + 2, 0, none⟩), .pointer (some ⟨w.heap.size + 4, 0, none⟩)] W3
  clear hq hq1 HRP HO2 bf hwas
  gi_wp2_with fail
  obtain ⟨NB, hNB⟩ : ∃ NB, W3.heap.size = NB := ⟨_, rfl⟩
  obtain ⟨W4, hW4, hz4, hb4, bN⟩ : ∃ W4, W3.alloc (Obj.cells #[Value.int IntKind.i64 0] 3) = W4 ∧ W4.heap.size = NB + 1 ∧ Below W3.heap.size W3 W4 ∧ Boxed W4 NB 3 (.int .i64 0) := by
    rw [← hNB]
    exact ⟨_, rfl, by simp, by go_grown, Boxed.new W3 _ _⟩
  rw [hW4, hNB]
  rw [hNB] at hz3
  have hrw := ((HWS.out.rows HN.out).lt.imp (P' := fun j => j ≠ NB) (fun k hk => by have := hk.2; omega)).kk (KK.below hb4)
  have b2 := boxed_below HWS.out.1 hb4
  have b0 := boxed_below HBF.out hb4
  have SQ := replay1_seq (9 - 1) (by omega) (fun j => j ≠ NB) (wasL L st) _ fr st hst hs63 _ _ W4 hrw b2 b0 (by show _ ≠ NB; omega) (by show _ ≠ NB; omega) (fun k hk => by show k ≠ NB; omega) (was_le L st _ HX.out)
  rw [was_len, hz2] at SQ
  have HZ := Lib.hid (And.intro hNB (And.intro hz4 hz3))
  have HHS := Lib.hid (And.intro hst hs63)
  have HZ2 := Lib.hid hz2
  clear hW4 hrw b2 b0 HBF HWS hfn hz2 hst hs63
  refine range_im (by omega) (gf := 68) (lb := #[.pointer (some ⟨w.heap.size + 4 + 2, 0, none⟩), .pointer (some ⟨w.heap.size + 4, 0, none⟩)]) rfl (enters_of Try.func68 (by kernel_rfl) rfl)
    SQ (Below.refl _ _) (fun _ _ => rfl)
    (fun k Wr => Below W3.heap.size W3 Wr ∧ Boxed Wr NB 3 (.int .i64 (k : Nat)))
    (fun c k Wr => c = .exit 0 ∧ (k : Int) + 1 = lv ∧ Below W3.heap.size W3 Wr ∧ Boxed Wr NB 3 (.int .i64 ((k : Nat) + 1 : Int))) ?hI ?hIx ⟨hb4, bN⟩
    (fun k v => { tmps := #[Value.slice o L.length cap, Value.int IntKind.i64 fr, Value.int IntKind.i64 lv, undef, undef, Value.pointer (some { block := w.heap.size, off := 0 }), Value.pointer (some { block := w.heap.size + 1, off := 0 }), Value.pointer (some { block := w.heap.size + 2, off := 0 }), Value.pointer (some { block := w.heap.size + 2 + 1, off := 0 }), Value.func (Fn.func 68) #[] #[Value.pointer (some { block := w.heap.size + 4 + 2, off := 0 }), Value.pointer (some { block := w.heap.size + 4, off := 0 })], Value.pointer (some { block := NB, off := 0 }), .int .i64 ((st + k : Nat) : Int), v, Value.tuple #[Value.slice o1 (L.length - st) c1, Value.int IntKind.i64 (at' : Nat)], Value.slice o L.length cap, Value.int IntKind.i64 fr, Value.tuple #[Value.slice o1 (L.length - st) c1, Value.int IntKind.i64 (at' : Nat)], Value.slice o1 (L.length - st) c1, Value.int IntKind.i64 (at' : Nat), Value.slice o L.length cap, Value.int IntKind.i64 fr, Value.func (Fn.func 68) #[] #[Value.pointer (some { block := w.heap.size + 4 + 2, off := 0 }), Value.pointer (some { block := w.heap.size + 4, off := 0 })], Value.func (Fn.func 68) #[] #[Value.pointer (some { block := w.heap.size + 4 + 2, off := 0 }), Value.pointer (some { block := w.heap.size + 4, off := 0 })], Value.bool false, Value.func (Fn.func 68) #[] #[Value.pointer (some { block := w.heap.size + 4 + 2, off := 0 }), Value.pointer (some { block := w.heap.size + 4, off := 0 })], .int .i64 ((st + k : Nat) : Int), v, undef, undef, undef, undef, undef, undef, undef, undef, undef, undef, undef, undef, undef, undef, undef, undef, undef, undef, undef, undef, undef, undef, undef, undef, undef, undef, undef, undef, undef, undef, undef, undef, undef, undef, undef], defers := [] })
    ?hpre ?assign ?body ?done ?stop
  case hI =>
    rintro k A B row ⟨x, y⟩ hg hr
    exact ⟨free_below (β := Unit) (B := W4.heap.size) (m := W3.heap.size) (by omega) (Nat.le_refl _) () A B row x hg hr, free_boxed (β := Unit) W4.heap.size _ _ (fun _ => _) () A B row y hg hr⟩
  case hIx =>
    rintro c k A B row ⟨rfl, z, x, y⟩ hg hr
    exact ⟨rfl, z, free_below (β := Unit) (B := W4.heap.size) (m := W3.heap.size) (by omega) (Nat.le_refl _) () A B row x hg hr, free_boxed (β := Unit) W4.heap.size _ _ (fun _ => _) () A B row y hg hr⟩
  case hpre =>
    rintro k v W l r o' _ hl h
    exact h.put hl rfl
  case assign =>
    rintro l' k v W K hK
    have HK := Lib.hid hK
    clear hK
    unfold encB
    generalize st + k = i at *
    gi_wp2_with fail
    exact HK.out
  case body =>
    rintro l' k v W hl' _ hk ⟨sb, sN⟩ ⟨⟨ov, cv, hv⟩, _, hr⟩
    subst hv
    have hklt : st + k < L.length := by omega
    rw [was_lk L st k hklt] at hr ⊢
    obtain ⟨s1, s2, s3, s4, s5, s6⟩ := HO3.out.below sb
    have hat : at' = st := by have := HAT.out; omega
    obtain ⟨_, a1, _, he, _, _, ho, hrow⟩ := id s6
    have hdl := HDL.out
    injection he with e1 e2 e3
    subst e1 e3
    obtain rfl := ho (by omega)
    obtain ⟨ob, cb, g1, g2⟩ := hrow k (by omega)
    have hlk : (L.drop at')[k]'(by omega) = lk L (st + k) := by
      rw [lk_get hklt]
      simp [hat]
    rw [hlk] at g1 g2
    have c5 := s2.cell
    have c7 := s4.cell
    have c8 : W.cell? ⟨w.heap.size + 2 + 1, 0, none⟩ = some (.int .i64 (at' : Nat)) := s5.cell
    have c10 := sN.cell
    have d5 := Boxed.cell (W := W.drew) s2
    have d7 := Boxed.cell (W := W.drew) s4
    have d8 : W.drew.cell? ⟨w.heap.size + 2 + 1, 0, none⟩ = some (.int .i64 (at' : Nat)) := Boxed.cell (W := W.drew) s5
    have d10 := Boxed.cell (W := W.drew) sN
    have dg : W.drew.cell? (Addr.add a1 k) = some (.slice ob (lk L (st + k)).length cb) := g1
    have k1 := run_strF W _ _ _ _ hr
    have k2 := run_strF W _ _ _ _ g2
    have k3 := run_strF W.drew _ _ _ _ (hr.below (Below.refl W.heap.size W).drew)
    have k4 := run_strF W.drew _ _ _ _ (g2.below (Below.refl W.heap.size W).drew)
    have t6 : decide (((L.length - st : Nat) : Int) ≤ (k : Int)) = false := decide_eq_false (by omega)
    have t6' : decide (L.length - st ≤ k) = false := decide_eq_false (by omega)
    have hnn := HN.out
    have hwi : IntKind.i64.wrap ((at' : Int) + (k : Int)) = ((st + k : Nat) : Int) := by
      rw [hat, show (((st + k : Nat) : Int)) = (st : Int) + (k : Int) by omega]
      go_unwrap
    have hwk : IntKind.i64.wrap ((k : Int) + 1) = (k : Int) + 1 := by go_unwrap
    have SB := Lib.hid (And.intro sb sN)
    have HKL := Lib.hid (And.intro hk hklt)
    have hkn : k < L.length - st := hk
    obtain ⟨N', hN'⟩ : ∃ N', L.length - st = N' := ⟨_, rfl⟩
    have hcl : L.length - st ≤ cb + L.length := by omega
    rw [hN'] at c7 d7 t6 t6' hkn ⊢
    generalize hXX : lk L (st + k) = X at *
    generalize hii : st + k = i at *
    clear hr g2 sb sN s1 s2 s3 s4 s5 s6 hrow hlk hXX ho hdl hat hnn hk hcl
    gi_wp2_with fail
    refine St.region_still (by kernel_rfl) (by kernel_rfl) (by kernel_rfl) ?_
    repeat still_step
    refine wpStill_nil ?_
    clear c5 c7 c8 c10 g1 k1 k2 k3 k4 d5 d7 d8 d10 dg t6 t6' hwi
    obtain ⟨V, hV⟩ : ∃ V, W.drew = V := ⟨_, rfl⟩
    have hbV : Below W.heap.size W V := by rw [← hV]; exact (Below.refl W.heap.size W).drew
    have hzV : V.heap.size = W.heap.size := by rw [← hV]; rfl
    have vN := boxed_below SB.out.2 hbV
    obtain ⟨U2, hU2⟩ : ∃ U2, V.setCell ⟨NB, 0, none⟩ (.int .i64 ((k : Int) + 1)) = U2 := ⟨_, rfl⟩
    have hF2 : Fr (fun j => j = NB) V U2 := by rw [← hU2]; exact Fr.set V NB 0 _ rfl
    have hz := HZ.out
    have uN : Boxed U2 NB 3 (.int .i64 ((k : Int) + 1)) := by rw [← hU2]; exact vN.set _
    have hbU : Below W3.heap.size W3 U2 := (SB.out.1.trans (hbV.mono SB.out.1.size)).trans (hF2.below (fun j hj => by omega) (by have := SB.out.1.size; omega))
    have u5 := (HO3.out.below hbU).2.1
    have c10 := vN.cell
    have f10 := vN.frozen
    have w10 := uN.cell
    have w5 := u5.cell
    have KU : Hid (KeepsOthers W U2 ∧ KK (fun j => j ≠ NB) W U2) := Lib.hid (by
      rw [← hU2]
      exact ⟨(keeps_below hbV).trans (KeepsOthers.setCell _ _ _), (KK.below hbV).trans (KK.set _ _ _ (fun h => h rfl))⟩)
    have BU := Lib.hid (And.intro hbU uN)
    rw [hV]
    clear hV hbV vN hF2 uN hbU u5 hz
    by_cases hst : (k : Int) + 1 = lv
    · have t8 : ((k : Int) + 1 == lv) = true := by rw [beq_iff_eq]; exact hst
      have RES : Hid (ownPostN W4.heap.size (fun j => j ≠ NB) (fun k Wr => Below W3.heap.size W3 Wr ∧ Boxed Wr NB 3 (.int .i64 (k : Nat))) (fun c k Wr => c = .exit 0 ∧ (k : Int) + 1 = lv ∧ Below W3.heap.size W3 Wr ∧ Boxed Wr NB 3 (.int .i64 ((k : Nat) + 1 : Int))) k W (.exit 0) { tmps := #[], defers := [] } U2) := Lib.hid
        ⟨KU.out.1.from _, rfl, hst, BU.out.1, BU.out.2⟩
      clear hst
      gi_wp2_with fail
      exact RES.out
    · have t8 : ((k : Int) + 1 == lv) = false := by rw [beq_eq_false_iff_ne]; exact hst
      have RES : Hid (ownPostN W4.heap.size (fun j => j ≠ NB) (fun k Wr => Below W3.heap.size W3 Wr ∧ Boxed Wr NB 3 (.int .i64 (k : Nat))) (fun c k Wr => c = .exit 0 ∧ (k : Int) + 1 = lv ∧ Below W3.heap.size W3 Wr ∧ Boxed Wr NB 3 (.int .i64 ((k : Nat) + 1 : Int))) k W .normal { tmps := #[], defers := [] } U2) := Lib.hid
        ⟨KU.out.1.from _, KU.out.2, BU.out.1, by rw [show ((k + 1 : Nat) : Int) = (k : Int) + 1 by omega]; exact BU.out.2⟩
      clear hst
      gi_wp2_with fail
      exact RES.out
  case done =>
    rintro D W hD ⟨sb, sN⟩ hK
    obtain ⟨s1, s2, s3, s4, s5, s6⟩ := HO3.out.below sb
    have hz := HZ.out
    have c5 := s2.cell
    have c7 := s4.cell
    have c10 := sN.cell
    have c6 := s3.cell
    have f6 := s3.frozen
    obtain ⟨U, hU⟩ : ∃ U, W.setCell ⟨w.heap.size + 1, 0, none⟩ (.bool true) = U := ⟨_, rfl⟩
    have hK4 : U.heap[D]? = some (.deferred (some [])) := by
      rw [← hU]
      exact (Below.heap_setCell _ _ _ _ (by simp; omega)).trans hK
    have hr4 : Boxed U (w.heap.size + 1) 4 (.bool true) := by rw [← hU]; exact s3.set _
    have hb4 : Below w.heap.size w U := by rw [← hU]; exact s1.setCell (p := ⟨w.heap.size + 1, 0, none⟩) (by simp) _
    have k1 := (Boxed.kept hr4 (grownBy_putObj' U D (.deferred none)) (by intro e; cases e; omega)).cell
    have HQ : Hid (Below w.heap.size w (U.putObj D (.deferred none))) := Lib.hid (hb4.trans (belowK_b (w := w) (Nat.le_refl _) U D _ _ (by omega) hK4 rfl rfl))
    have HK4 := Lib.hid hK4
    have t8 : (((L.length - st : Nat) : Int) == ((L.length - st : Nat) : Int)) = true := by simp
    generalize L.length - st = N' at *
    clear sb sN hK s1 s2 s3 s4 s5 s6 hK4 hr4 hb4 hD hz
    gi_wp2_with fail
    refine ⟨by simp, .inl ⟨_, _, rfl, run_takeDeferred HK4.out, ?_⟩⟩
    exact ⟨.bool true, by simp [results, Try.results20, go_sem, k1], rfl, HQ⟩
  case stop =>
    rintro D c k W hD hk ⟨rfl, hlv, sb, sN⟩ hK
    obtain ⟨s1, s2, s3, s4, s5, s6⟩ := HO3.out.below sb
    have hz := HZ.out
    have c5 := s2.cell
    have c7 := s4.cell
    have c10 := sN.cell
    have c6 := s3.cell
    have f6 := s3.frozen
    obtain ⟨U, hU⟩ : ∃ U, W.setCell ⟨w.heap.size + 1, 0, none⟩ (.bool true) = U := ⟨_, rfl⟩
    have hK4 : U.heap[D]? = some (.deferred (some [])) := by
      rw [← hU]
      exact (Below.heap_setCell _ _ _ _ (by simp; omega)).trans hK
    have hr4 : Boxed U (w.heap.size + 1) 4 (.bool true) := by rw [← hU]; exact s3.set _
    have hb4 : Below w.heap.size w U := by rw [← hU]; exact s1.setCell (p := ⟨w.heap.size + 1, 0, none⟩) (by simp) _
    have k1 := (Boxed.kept hr4 (grownBy_putObj' U D (.deferred none)) (by intro e; cases e; omega)).cell
    have HQ : Hid (Below w.heap.size w (U.putObj D (.deferred none))) := Lib.hid (hb4.trans (belowK_b (w := w) (Nat.le_refl _) U D _ _ (by omega) hK4 rfl rfl))
    have HK4 := Lib.hid hK4
    have t8 : ((k : Int) + 1 == lv) = true := by rw [beq_iff_eq]; exact hlv
    generalize L.length - st = N' at *
    clear sb sN hK s1 s2 s3 s4 s5 s6 hK4 hr4 hb4 hD hz hlv
    by_cases hkN : (k : Int) + 1 = (N' : Int)
    · have t9 : ((k : Int) + 1 == (N' : Int)) = true := by rw [beq_iff_eq]; exact hkN
      clear hkN hk
      gi_wp2_with fail
      refine ⟨by simp, .inl ⟨_, _, rfl, run_takeDeferred HK4.out, ?_⟩⟩
      exact ⟨.bool true, by simp [results, Try.results20, go_sem, k1], rfl, HQ⟩
    · have t9 : ((k : Int) + 1 == (N' : Int)) = false := by rw [beq_eq_false_iff_ne]; exact hkN
      clear hkN hk
      gi_wp2_with fail
      refine ⟨by simp, .inl ⟨_, _, rfl, run_takeDeferred HK4.out, ?_⟩⟩
      exact ⟨.bool true, by simp [results, Try.results20, go_sem, k1], rfl, HQ⟩
end Go.Proofs.Ytbjdbphnccdpbaa
