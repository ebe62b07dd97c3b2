/-
  The program's journal: framed.
-/
import Derived.Test.YtbjdbphnccdpbaaJi
set_option linter.unusedVariables false
namespace Go.Proofs.Ytbjdbphnccdpbaa
open Go.RowKit Go.Shelf Go.Lib
attribute [local go_sem] Oper.semAt_some

theorem ow.free {base B : Nat} {W W' : World} {v : Value} {x : List UInt8} {row : Option Nat} (h : ow base W v x) (hg : W.grownBy W' row) (hr : NoRow B W row) : ow base W' v x :=
  h.keep fun k o hk ho => (hg.block k (Array.getElem?_eq_some_iff.1 ho).1 (fun e => by
    obtain ⟨_, o2, h1, h2⟩ := hr k e.symm
    obtain ⟨_, _, cur, hc⟩ := h.lt k hk
    rw [hc] at h1
    cases h1
    cases h2)).trans ho
/-- The frames so far, in a row that grows. -/
def FRI (w : World) (NB : Nat) (L : List (List UInt8)) (k : Nat) (W : World) : Prop :=
  ∃ rv xs, Boxed W NB 28 rv ∧ W.ownsRow w.heap.size 27 1 rv k xs ∧ (∀ i, i < k → ∃ c, xs[i]? = some c ∧ ow w.heap.size W c (frameL (lk L i))) ∧ Below w.heap.size w W ∧ NB + 3 ≤ W.heap.size ∧ ∀ g, rv.ownBlock = some g → g < NB ∨ NB + 2 < g
theorem FRI.free {w : World} {NB B : Nat} {L : List (List UInt8)} (hNB : w.heap.size ≤ B) : Free B (FRI w NB L) := fun k W W' row hs hg hr => by
  obtain ⟨rv, xs, s1, s2, s3, s4, s5, s6⟩ := hs
  refine ⟨rv, xs, free_boxed (β := Unit) B _ _ (fun _ => _) () W W' row s1 hg hr, free_row (β := Unit) s2 hg hr, fun i hi => ?_, free_below (β := Unit) hNB (Nat.le_refl _) () W W' row s4 hg hr, Nat.le_trans s5 hg.size, s6⟩
  obtain ⟨c, q1, q2⟩ := s3 i hi
  exact ⟨c, q1, q2.free hg hr⟩
theorem FRI.rds {w W : World} {NB : Nat} {L : List (List UInt8)} (h : FRI w NB L L.length W) : ∃ o c, Boxed W NB 28 (.slice o L.length c) ∧ rds W (L.map frameL) (.slice o L.length c) ∧ Below w.heap.size w W := by
  obtain ⟨rv, xs, s1, s2, s3, s4, _⟩ := h
  obtain ⟨o, ad, c, rfl, h1, h2, h3, h4, h5⟩ := row_form s2
  refine ⟨o, c, s1, ⟨o, ad, c, by rw [List.length_map], by rw [List.length_map]; exact h1, h2, fun h => h3 (by rw [List.length_map] at h; exact h), fun i hi => ?_⟩, s4⟩
  rw [List.length_map] at hi
  obtain ⟨c2, q1, q2⟩ := s3 i hi
  obtain ⟨o3, c3, rfl, _⟩ := q2.form
  have e : (L.map frameL)[i]'(by rw [List.length_map]; exact hi) = frameL (lk L i) := by rw [List.getElem_map, lk_get hi]
  rw [e]
  exact ⟨o3, c3, h5 i _ q1, q2.rd⟩
theorem flat_frames : ∀ (L : List (List UInt8)), (L.map frameL).flatten = framesL L
  | [] => rfl
  | x :: t => by rw [List.map_cons, List.flatten_cons, framesL, flat_frames t]
theorem frames_count (L : List (List UInt8)) : 4 * L.length ≤ (framesL L).length := by
  induction L with
  | nil => simp [framesL]
  | cons x t ih => rw [framesL, List.length_append, frame_length, List.length_cons]; omega
set_option maxRecDepth 100000 in
set_option maxHeartbeats 8000000 in
theorem framed_any (L : List (List UInt8)) (v : Value) (w : World) (hv : rds w L v) (hg : ∀ x ∈ L, goodL x) (hl : (framesL L).length ≤ 1048576) :
    Calls Try.prog 42 #[v] w fun e w' => ∃ o c, e = .returned (.slice o (framesL L).length c) ∧ Hid (ow w.heap.size w' (.slice o (framesL L).length c) (framesL L) ∧ Below w.heap.size w w') := by
  obtain ⟨o, a, cap, rfl, _⟩ := id hv
  have HV := Lib.hid hv
  have HG := Lib.hid hg
  have HFL := Lib.hid hl
  have hcnt := frames_count L
  have hLn : L.length ≤ 300000 := by omega
  have HLn := Lib.hid hLn
  have HFF := Lib.hid (flat_frames L)
  obtain ⟨FL, hFL⟩ : ∃ FL, framesL L = FL := ⟨_, rfl⟩
  rw [hFL] at HFL HFF ⊢
  clear hv hg hl hFL hcnt
  obtain ⟨ii, hi, hj⟩ := Option.map_eq_some_iff.1 infoSlR
  simp only [Prod.mk.injEq] at hj
  obtain ⟨hj1, hj2, hj3⟩ := hj
  refine (callsIn_wide (n := 9)).1 ?_
  refine callsIn_of_wp_marks Try.func42 rfl trivial ?_ rfl
  simp only [Try.ntmps42, List.size_toArray, List.length_cons, List.length_nil, Nat.reduceAdd, Nat.reduceSub, Array.replicate_succ, Array.replicate_zero, List.push_toArray, List.append_toArray, List.nil_append, List.cons_append]
  gi_wp2_with (gi_at_make; refine wpListIn_make_own _ rfl _ _ 28 rfl w.heap.size 27 ii _ 1 Try.underlying28 hi hj1 hj2 .i64 .i64 _ L.length rfl rfl rfl ?b2 ?b3 (Nat.le_refl _) ?_)
  case b2 => rw [hj3]; have := HLn.out; omega
  case b3 => have := HLn.out; unfold maxLen; omega
  intro w1 own1 gr1
  have OW1 := Lib.hid own1
  have HB1 : Hid (Below w.heap.size w w1) := Lib.hid ((Fr.grown (B := fun _ => False) gr1 (fun r hr => by cases hr)).below (fun k hk => hk.elim) (Nat.le_refl _))
  clear own1 gr1
  gi_wp2_with fail
  refine ⟨trivial, ?_⟩
  refine (behind_in _ _ _ _ _ _).mono ?_
  rintro e w' ⟨rfl, rfl⟩
  gi_wp2_with fail
  obtain ⟨NB, hNB⟩ : ∃ NB, w1.heap.size = NB := ⟨_, rfl⟩
  obtain ⟨W0, hW0, hB0, hsz, bT, bR, bF⟩ : ∃ W0, ((w1.alloc (Obj.cells #[Value.slice (some ⟨w.heap.size, 0, none⟩) 0 L.length] 28)).alloc (Obj.cells #[Value.slice o L.length cap] 28)).alloc (Obj.cells #[Value.int IntKind.i64 0] 3) = W0 ∧ Below w1.heap.size w1 W0 ∧ W0.heap.size = NB + 3 ∧ Boxed W0 NB 28 (.slice (some ⟨w.heap.size, 0, none⟩) 0 L.length) ∧ Boxed W0 (NB + 1) 28 (.slice o L.length cap) ∧ Boxed W0 (NB + 2) 3 (.int .i64 0) := by
    have h1 := World.alloc_heap_new (w1.alloc (.cells #[Value.slice (some ⟨w.heap.size, 0, none⟩) 0 L.length] 28)) (.cells #[Value.slice o L.length cap] 28)
    have h2 := World.alloc_heap_new ((w1.alloc (.cells #[Value.slice (some ⟨w.heap.size, 0, none⟩) 0 L.length] 28)).alloc (.cells #[Value.slice o L.length cap] 28)) (.cells #[Value.int IntKind.i64 0] 3)
    simp only [World.size_alloc, hNB] at h1 h2
    exact ⟨_, rfl, by go_grown, by simp [hNB], by rw [← hNB]; exact ((Boxed.new w1 _ _).alloc _).alloc _, Boxed.alloc (W := (w1.alloc (.cells #[Value.slice (some ⟨w.heap.size, 0, none⟩) 0 L.length] 28)).alloc (.cells #[Value.slice o L.length cap] 28)) h1 _, h2⟩
  rw [hW0, hNB]
  clear hW0
  have hlo : w.heap.size < NB := by
    rcases OW1.out.2 with ⟨h, _⟩ | ⟨g, cp, cur, h, _, hg, _⟩
    · cases h
    · cases h
      rw [← hNB]
      exact (Array.getElem?_eq_some_iff.1 hg).1
  have hbW0 : Below w.heap.size w W0 := HB1.out.trans (hB0.mono HB1.out.size)
  have hP : (fun k => k < w.heap.size ∨ k = NB + 1 ∨ k = NB + 2) = (fun k => k < w.heap.size ∨ k = NB + 1 ∨ k = NB + 2) := rfl
  have SQ := behind1_seq (9 - 1) (by omega) (fun k => k < w.heap.size ∨ k = NB + 1 ∨ k = NB + 2) (fun _ => True) L (.slice o L.length cap) 0 0 rfl (by omega) (NB + 1) (NB + 2) W0
    ((rwP.of (P := fun k => k < w.heap.size ∨ k = NB + 1 ∨ k = NB + 2) HV.out (fun k hk => .inl hk)).kk (KK.below hbW0)) bR bF (.inr (.inl rfl)) (.inr (.inr rfl))
  have HSZ := Lib.hid (And.intro hsz hlo)
  have HI0 : FRI w NB L 0 W0 := ⟨_, [], bT, OW1.out.kept (row := none) ⟨hB0.os, hB0.tape, hB0.output, hB0.size, fun k hk _ => hB0.block k hk⟩ (.inr (by simp [Value.ownBlock])), fun i hi => absurd hi (by omega), hbW0, by omega, fun g hg => by simp [Value.ownBlock] at hg; omega⟩
  rw [Nat.sub_zero] at SQ
  refine range_ix (by omega) (gf := 69) (lb := #[.pointer (some ⟨NB + 2, 0, none⟩), .pointer (some ⟨NB + 1, 0, none⟩)]) rfl (enters_of Try.func69 (by kernel_rfl) rfl)
    SQ (Below.refl _ _) (fun _ _ => rfl)
    (FRI w NB L) (fun _ _ _ => False) (FRI.free (by omega)) (fun _ _ _ _ _ hs _ _ => hs) HI0
    (fun k v => { tmps := #[Value.slice o L.length cap, undef, Value.slice none 0 0, Value.pointer (some { block := NB, off := 0 }), undef, v, undef, undef, Value.slice o L.length cap, .int .i64 (L.length : Nat), .slice (some ⟨w.heap.size, 0, none⟩) 0 L.length, Value.slice o L.length cap,
          Value.func (Fn.func 69) #[] #[Value.pointer (some { block := NB + 1 + 1, off := 0 }), Value.pointer (some { block := NB + 1, off := 0 })], .int .i64 (k : Nat), v,
          undef, undef, undef, undef, undef, undef, undef, undef, undef, undef, undef], defers := [] })
    ?hpre ?assign ?body ?done ?stop
  case hpre =>
    rintro k v W l r o' _ hl h
    exact h.put hl rfl
  case assign =>
    rintro l' k v W K hK
    have HK := Lib.hid hK
    clear hK
    unfold encB
    gi_wp2_with fail
    exact HK.out
  case body =>
    rintro l' k v W hl' _ hk hs ⟨⟨ov, cv, hv⟩, _, hr⟩
    rw [Nat.zero_add] at hv hr
    subst hv
    have HS := Lib.hid hs
    have HKK := Lib.hid hk
    obtain ⟨F, hF⟩ : ∃ F, frameL (lk L k) = F := ⟨_, rfl⟩
    have HF := Lib.hid hF
    have HFR : Hid (Calls Try.prog 29 #[.slice ov (lk L k).length cv] W fun e w' => ∃ o c, e = .returned (.tuple #[.slice o F.length c, .int .i64 0]) ∧ Hid (ow W.heap.size w' (.slice o F.length c) F ∧ Below W.heap.size W w')) := Lib.hid (by
      have hgd := HG.out _ (lk_mem hk)
      have h1 : frB (lk L k) = F := by unfold frB; rw [if_pos ⟨hgd.1, hgd.2⟩]; exact hF
      have h2 : frE (lk L k) = 0 := by unfold frE; rw [if_neg (by have := hgd.1; omega), if_neg (by have := hgd.2; omega)]
      have := pframe_any (lk L k) _ W hr
      rw [h1, h2] at this
      exact this)
    generalize (lk L k).length = m at *
    clear hs hk hr hF
    gi_wp2_with fail
    refine ⟨trivial, ?_⟩
    refine (CallsIn.inRound l' (callsIn_wide.2 HFR.out)).mono ?_
    rintro e U ⟨o3, c3, rfl, hq3⟩
    have hbU := hq3.out.2
    obtain ⟨rv, xs, s1, s2, s3, s4, s5, s6⟩ := (FRI.free (w := w) (NB := NB) (B := w.heap.size) (L := L) (Nat.le_refl _)).step HS.out hbU
    have hoU := hq3.out.1
    have hWw : w.heap.size ≤ W.heap.size := HS.out.choose_spec.choose_spec.2.2.2.1.size
    have HBU := Lib.hid hbU
    have HOU := Lib.hid (hoU.mono hWw)
    have S1 := Lib.hid s1
    have S2 := Lib.hid s2
    have S3 := Lib.hid s3
    have S4 := Lib.hid s4
    have S5 := Lib.hid s5
    have S6 := Lib.hid s6
    have HXL : Hid (xs.length = k) := Lib.hid (by have := s2.1; omega)
    have f1 := s1.frozen
    have c1 := s1.cell
    have hkL : Hid (k ≤ 300000) := Lib.hid (by have := HLn.out; have := HKK.out; omega)
    clear hq3 hoU hbU s1 s2 s3 s4 s5 s6 hWw
    gi_wp2_with (gi_at_builtin; refine wpListIn_append_own_at _ rfl _ _ 28 rfl w.heap.size 27 ii (.slice none 0 0) 1 24 Try.underlying28 hi hj1 hj2 hj3 rfl (by decide) rv k xs rfl (S2.out.alloc _) ⟨U.heap.size, 0, none⟩ 1 1 [.slice o3 F.length c3] rfl rfl (cell_one_new _ _ _) ?c2 ?c3 ?c4 ?c5 ?_)
    case c2 => intro u hu; simp at hu; subst hu; rfl
    case c3 => have := hkL.out; unfold maxLen; omega
    case c4 => have := hkL.out; omega
    case c5 => have := S4.out.size; simp; omega
    intro v6 w6 own6 gr6 nil6 at6
    obtain ⟨g6, c6, rfl⟩ : ∃ g cap, v6 = .slice (some ⟨g, 0, none⟩) (k + 1) cap := by
      rcases own6.2 with ⟨_, h0⟩ | ⟨g, cap, cur, hv, _⟩
      · omega
      · exact ⟨g, cap, hv⟩
    have hba : Below U.heap.size U (U.alloc (.cells #[.slice o3 F.length c3] 27)) := (Below.refl _ _).alloc (Nat.le_refl _) _
    have hlt := S2.out.lt
    have hszz := HSZ.out
    have hsix := S6.out
    have hfive := S5.out
    have hWU := HBU.out.size
    have hkk : KK (fun k => k < w.heap.size ∨ k = NB + 1 ∨ k = NB + 2) W w6 := (KK.below HBU.out).trans ((KK.below hba).trans (KK.grown gr6 (fun r e h => by
      have h1 := (hlt r e).1
      have h2 := hsix r e
      rcases h with h | h | h <;> omega)))
    have hko : KeepsOthers W w6 := (keeps_below HBU.out).trans ((KeepsOthers.alloc U _).trans (KeepsOthers.of_grownBy gr6 (fun j o e ho => by
      rcases S2.out.2 with ⟨rfl, _⟩ | ⟨g, cap, cur, rfl, _, hg, _⟩
      · cases e
      · have : g = j := by simpa [Value.ownBlock] using e
        subst this
        have h2 := (hba.block g (Array.getElem?_eq_some_iff.1 hg).1).trans hg
        rw [h2] at ho
        cases ho
        rfl)))
    have bT6 : Boxed w6 NB 28 rv := Boxed.kept (S1.out.alloc _) gr6 (by intro e; have := hsix _ e.symm; omega)
    have hown5 := S2.out.alloc (.cells #[.slice o3 F.length c3] 27)
    have hF6 := Fr.grown (B := fun k => rv.ownBlock = some k) gr6 (fun r hr => hr)
    have KEEP : ∀ c y, ow w.heap.size U c y → ow w.heap.size w6 c y := fun c y hy => by
      have h1 := ow_rd_below hy hba
      exact h1.keep fun k ob hk ho => hF6.2 k ob ho (ow_not_row h1 hown5 k hk)
    have hb6 : Below w.heap.size w w6 := ((S4.out.trans (hba.mono S4.out.size)).grown gr6 (by have := S4.out.size; have := hba.size; omega) (fun r e => by have := (hlt r e).1; omega))
    have f6 := bT6.frozen
    have d6 := bT6.cell
    have hg6 : g6 < NB ∨ NB + 2 < g6 := by
      rcases at6 with e | e
      · exact hsix g6 (by rw [← e]; simp [Value.ownBlock])
      · simp [Value.ownBlock] at e
        omega
    have hsz6 : NB + 3 ≤ w6.heap.size := by have := hba.size; have := gr6.size; omega
    have QF : Hid (ownPostN W0.heap.size (fun k => k < w.heap.size ∨ k = NB + 1 ∨ k = NB + 2) (FRI w NB L) (fun _ _ _ => False) k W .normal { tmps := #[], defers := [] } (w6.setCell ⟨NB, 0, none⟩ (.slice (some ⟨g6, 0, none⟩) (k + 1) c6))) := Lib.hid (by
      have hF7 := Fr.set (B := fun k => k = NB) w6 NB 0 (.slice (some ⟨g6, 0, none⟩) (k + 1) c6) rfl
      refine ⟨(hko.trans (KeepsOthers.setCell _ _ _)).from _, hkk.trans (KK.set _ _ _ (by omega)), _, xs ++ [.slice o3 F.length c3], bT6.set _, own6.kept (grownBy_setCell' w6 NB _) (.inr (by simp [Value.ownBlock]; omega)), fun i hi => ?_, hb6.setCell (p := ⟨NB, 0, none⟩) (by simp; omega) _, by simpa [World.setCell] using hsz6, fun g hg => by simp [Value.ownBlock] at hg; omega⟩
      by_cases e : i < k
      · obtain ⟨c, q1, q2⟩ := S3.out i e
        exact ⟨c, by rw [List.getElem?_append_left (by rw [HXL.out]; exact e)]; exact q1, (KEEP _ _ q2).store bT6 (by decide)⟩
      · obtain rfl : i = k := by omega
        refine ⟨_, by rw [List.getElem?_append_right (by rw [HXL.out]; exact Nat.le_refl _), HXL.out, Nat.sub_self]; rfl, ?_⟩
        rw [HF.out]
        exact (KEEP _ _ HOU.out).store bT6 (by decide))
    clear own6 gr6 nil6 at6 hba hlt hszz hsix hfive hWU hkk hko bT6 hown5 hF6 KEEP hb6 hg6 hsz6 c1 f1
    gi_wp2_with fail
    exact QF.out
  case done =>
    rintro D W hD hS hK
    obtain ⟨o5, c5, b1, hr5, hB1⟩ := hS.rds
    have cB := b1.cell
    have HB := Lib.hid hB1
    have HK := Lib.hid hK
    have HCL : Hid (Calls Try.prog 34 #[.slice o5 L.length c5] W fun e w' => ∃ o c, e = .returned (.slice o FL.length c) ∧ Hid (ow W.heap.size w' (.slice o FL.length c) FL ∧ Below W.heap.size W w')) := Lib.hid (by
      have := concat_any (L.map frameL) _ W hr5 (by rw [HFF.out]; have := HFL.out; omega)
      rw [HFF.out] at this
      exact this)
    have HWL := Lib.hid hB1.size
    clear b1 hr5 hB1 hK hS
    gi_wp2_with fail
    refine ⟨trivial, ?_⟩
    refine (callsIn_wide.2 HCL.out).mono ?_
    rintro e w9 ⟨o3, c3, rfl, HQ⟩
    have HD := (HQ.out.2.block D (Array.getElem?_eq_some_iff.1 HK.out).1).trans HK.out
    have HDD := Lib.hid HD
    have hszz := HSZ.out
    have HQQ : Hid (ow w.heap.size (w9.putObj D (.deferred none)) (.slice o3 FL.length c3) FL ∧ Below w.heap.size w (w9.putObj D (.deferred none))) := Lib.hid ⟨(HQ.out.1.mono HWL.out).put (by have := (Array.getElem?_eq_some_iff.1 HK.out).1; intro k hk e; have := (HQ.out.1.lt k hk).1; omega), by
      have h1 : Below w.heap.size w w9 := HB.out.trans (HQ.out.2.mono HWL.out)
      exact h1.trans (belowK_b (w := w) (Nat.le_refl _) w9 D _ _ (by omega) HD rfl rfl)⟩
    clear HD hszz
    gi_wp2_with fail
    refine ⟨by simp, .inl ⟨_, _, rfl, run_takeDeferred HDD.out, ?_⟩⟩
    exact ⟨_, results_tmp rfl _ _ _, o3, c3, rfl, HQQ⟩
  case stop =>
    rintro D c pre W hD hS h
    exact h.elim
end Go.Proofs.Ytbjdbphnccdpbaa
