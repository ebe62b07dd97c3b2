/-
  The program's journal: fit.
-/
import Derived.Test.YtbjdbphnccdpbaaJh
import Derived.Test.YtbjdbphnccdpbaaSt
set_option linter.unusedVariables false
namespace Go.Proofs.Ytbjdbphnccdpbaa
open Go.RowKit Go.Shelf Go.Lib
attribute [local go_sem] Oper.semAt_some

theorem atL_all : ∀ (L : List (List UInt8)), atL L L.length = (framesL L).length
  | [] => rfl
  | x :: t => by rw [List.length_cons, atL, framesL, List.length_append, frame_length, atL_all t]
theorem atL_mono (L : List (List UInt8)) : ∀ (d k : Nat), k + d ≤ L.length → atL L k ≤ atL L (k + d)
  | 0, k, _ => Nat.le_refl _
  | d + 1, k, h => by
    have h1 := atL_mono L d k (by omega)
    have h2 := atL_succ L (k + d) (by omega)
    rw [← Nat.add_assoc, h2]
    omega
theorem lk_mem {L : List (List UInt8)} {k : Nat} (h : k < L.length) : lk L k ∈ L := by
  rw [lk_get h]
  exact List.getElem_mem h
/-- ErrLong, if a file has no room for the frames. -/
def fitE (L : List (List UInt8)) : Int := if 1048576 < (framesL L).length then 3 else 0
/-- What is in the boxes. -/
def FI (w : World) (L : List (List UInt8)) (k : Nat) (W : World) : Prop := atL L k ≤ 1048576 ∧ Boxed W (w.heap.size + 1) 3 (.int .i64 (1048576 - (atL L k : Nat))) ∧ Boxed W w.heap.size 31 (.int .i64 0) ∧ Below w.heap.size w W
def FX (w : World) (L : List (List UInt8)) (c : Code) (_ : Nat) (W : World) : Prop := c = .ret ∧ Boxed W w.heap.size 31 (.int .i64 (fitE L)) ∧ Below w.heap.size w W
set_option maxRecDepth 100000 in
set_option maxHeartbeats 4000000 in
theorem fit_any (L : List (List UInt8)) (v : Value) (w : World) (hv : rds w L v) (hg : ∀ x ∈ L, goodL x) : Calls Try.prog 40 #[v] w fun e w' => e = .returned (.int .i64 (fitE L)) ∧ Hid (Below w.heap.size w w') := by
  obtain ⟨o, a, cap, rfl, _⟩ := id hv
  have HV := Lib.hid hv
  have HG := Lib.hid hg
  clear hv hg
  refine (callsIn_wide (n := 9)).1 ?_
  refine callsIn_of_wp_marks Try.func40 rfl trivial ?_ rfl
  simp only [Try.ntmps40, List.size_toArray, List.length_cons, List.length_nil, Nat.reduceAdd, Nat.reduceSub, Array.replicate_succ, Array.replicate_zero, List.push_toArray, List.append_toArray, List.nil_append, List.cons_append]
  gi_wp2_with fail
  refine ⟨trivial, ?_⟩
  refine (behind_in _ _ _ _ _ _).mono ?_
  rintro e w' ⟨rfl, rfl⟩
  gi_wp2_with fail
  obtain ⟨W0, hW0, hB0, hsz, bN, bT, bR, bF⟩ : ∃ W0, (((w.alloc (Obj.cells #[Value.int IntKind.i64 0] 31)).alloc (Obj.cells #[Value.int IntKind.i64 1048576] 3)).alloc (Obj.cells #[Value.slice o L.length cap] 28)).alloc (Obj.cells #[Value.int IntKind.i64 0] 3) = W0 ∧ Below w.heap.size w W0 ∧ W0.heap.size = w.heap.size + 4 ∧ Boxed W0 w.heap.size 31 (.int .i64 0) ∧ Boxed W0 (w.heap.size + 1) 3 (.int .i64 1048576) ∧ Boxed W0 (w.heap.size + 2) 28 (.slice o L.length cap) ∧ Boxed W0 (w.heap.size + 3) 3 (.int .i64 0) := by
    have h1 := World.alloc_heap_new (w.alloc (.cells #[Value.int IntKind.i64 0] 31)) (.cells #[Value.int IntKind.i64 1048576] 3)
    have h2 := World.alloc_heap_new ((w.alloc (.cells #[Value.int IntKind.i64 0] 31)).alloc (.cells #[Value.int IntKind.i64 1048576] 3)) (.cells #[Value.slice o L.length cap] 28)
    have h3 := World.alloc_heap_new (((w.alloc (.cells #[Value.int IntKind.i64 0] 31)).alloc (.cells #[Value.int IntKind.i64 1048576] 3)).alloc (.cells #[Value.slice o L.length cap] 28)) (.cells #[Value.int IntKind.i64 0] 3)
    simp only [World.size_alloc] at h1 h2 h3
    exact ⟨_, rfl, by go_grown, by simp, (((Boxed.new w _ _).alloc _).alloc _).alloc _, ((Boxed.alloc (W := (w.alloc (.cells #[Value.int IntKind.i64 0] 31)).alloc (.cells #[Value.int IntKind.i64 1048576] 3)) h1 _).alloc _), Boxed.alloc (W := ((w.alloc (.cells #[Value.int IntKind.i64 0] 31)).alloc (.cells #[Value.int IntKind.i64 1048576] 3)).alloc (.cells #[Value.slice o L.length cap] 28)) h2 _, h3⟩
  rw [hW0]
  clear hW0
  have SQ := behind1_seq (9 - 1) (by omega) (fun k => k ≠ w.heap.size ∧ k ≠ w.heap.size + 1) (fun _ => True) L (.slice o L.length cap) 0 0 rfl (by omega) (w.heap.size + 2) (w.heap.size + 3) W0
    ((rwP.of (P := fun k => k ≠ w.heap.size ∧ k ≠ w.heap.size + 1) HV.out (fun k hk => by show k ≠ w.heap.size ∧ k ≠ w.heap.size + 1; omega)).kk (KK.below hB0)) bR bF (by show w.heap.size + 2 ≠ w.heap.size ∧ w.heap.size + 2 ≠ w.heap.size + 1; omega) (by show w.heap.size + 3 ≠ w.heap.size ∧ w.heap.size + 3 ≠ w.heap.size + 1; omega)
  have HSZ := Lib.hid hsz
  rw [Nat.sub_zero] at SQ
  refine range_ix (by omega) (gf := 69) (lb := #[.pointer (some ⟨w.heap.size + 3, 0, none⟩), .pointer (some ⟨w.heap.size + 2, 0, none⟩)]) rfl (enters_of Try.func69 (by kernel_rfl) rfl)
    SQ (Below.refl _ _) (fun _ _ => rfl)
    (FI w L) (FX w L) ?hI ?hIx ⟨by simp [atL], by simpa [atL] using bT, bN, hB0⟩
    (fun k v => { tmps := #[Value.slice o L.length cap, undef, Value.pointer (some { block := w.heap.size, off := 0 }), Value.pointer (some { block := w.heap.size + 1, off := 0 }), undef, v, Value.slice o L.length cap,
          Value.func (Fn.func 69) #[] #[Value.pointer (some { block := w.heap.size + 1 + 1 + 1, off := 0 }), Value.pointer (some { block := w.heap.size + 1 + 1, off := 0 })], .int .i64 (k : Nat), v,
          undef, undef, undef, undef, undef, undef, undef], defers := [] })
    ?hpre ?assign ?body ?done ?stop
  case hI =>
    rintro k W W' row ⟨a, b, c, d⟩ hg hr
    exact ⟨a, free_boxed (β := Unit) W0.heap.size _ _ (fun _ => _) () W W' row b hg hr, free_boxed (β := Unit) W0.heap.size _ _ (fun _ => _) () W W' row c hg hr, free_below (β := Unit) (B := W0.heap.size) (m := w.heap.size) (by omega) (Nat.le_refl _) () W W' row d hg hr⟩
  case hIx =>
    rintro c k W W' row ⟨rfl, b, d⟩ hg hr
    exact ⟨rfl, free_boxed (β := Unit) W0.heap.size _ _ (fun _ => _) () W W' row b hg hr, free_below (β := Unit) (B := W0.heap.size) (m := w.heap.size) (by omega) (Nat.le_refl _) () W W' row d hg hr⟩
  case hpre =>
    rintro k v W l r o' _ hl h
    exact h.put hl rfl
  case assign =>
    rintro l' k v W K hK
    have HK := Lib.hid hK
    clear hK
    unfold encB
    gi_wp2_with fail
    exact HK.out
  case body =>
    rintro l' k v W hl' _ hk ⟨s0, s1, s2, s3⟩ ⟨⟨ov, cv, hv⟩, _, hr⟩
    rw [Nat.zero_add] at hv hr
    subst hv
    have S0 := Lib.hid s0
    have S1 := Lib.hid s1
    have S2 := Lib.hid s2
    have S3 := Lib.hid s3
    have HK := Lib.hid hk
    have qs := atL_succ L k hk
    have hgd := HG.out _ (lk_mem hk)
    have HS : Hid (sizeF ((lk L k).length : Int) = ((4 + (lk L k).length : Nat) : Int)) := Lib.hid (by unfold sizeF; rw [if_neg (by have := hgd.1; have := hgd.2; omega)]; omega)
    have hm2 := hgd.2
    have QS := Lib.hid qs
    have HMON := Lib.hid (atL_mono L (L.length - (k + 1)) (k + 1) (by omega))
    have c1 := s1.cell
    have f1 := s1.frozen
    have hmx : Try.prog.follows .mixedOrders = true := by kernel_rfl
    generalize hA : atL L k = A at *
    generalize (lk L k).length = m at *
    have hw7 : IntKind.i64.wrap ((1048576 : Int) - (A : Int) - (4 + (m : Int))) = (1048576 : Int) - (A : Int) - (4 + (m : Int)) := by go_unwrap
    obtain ⟨U, hU⟩ : ∃ U, (W.setCell ⟨w.heap.size + 1, 0, none⟩ (.int .i64 ((1048576 : Int) - (A : Int) - (4 + (m : Int))))).drew = U := ⟨_, rfl⟩
    have hFU : Fr (fun j => j = w.heap.size + 1) W U := by
      rw [← hU]
      exact (Fr.set (B := fun j => j = w.heap.size + 1) W _ 0 _ rfl).trans ⟨⟨rfl, rfl, rfl, Nat.le_refl _⟩, fun _ _ h _ => h⟩
    have u1 : Boxed U (w.heap.size + 1) 3 (.int .i64 ((1048576 : Int) - (A : Int) - (4 + (m : Int)))) := by rw [← hU]; exact s1.set _
    have u2 := hFU.boxed s2 (by omega)
    have u3 : Below w.heap.size w U := s3.trans (hFU.below (fun j hj => by omega) s3.size)
    have uk : KeepsOthers W U ∧ KK (fun k => k ≠ w.heap.size ∧ k ≠ w.heap.size + 1) W U := by
      rw [← hU]
      exact ⟨(KeepsOthers.setCell _ _ _).trans (KeepsOthers.drew _), (KK.set _ _ _ (fun h => h.2 rfl)).trans (KK.below (Below.refl _ _).drew)⟩
    have UU := Lib.hid (And.intro u1 (And.intro u2 (And.intro u3 uk)))
    have e1 := u1.cell
    have e2 := u2.cell
    have g2 := u2.frozen
    clear qs hgd s0 s1 s2 s3 hr hFU u1 u2 u3 uk
    gi_wp2_with fail
    apply St.cutR
    case h =>
      gi_region_with_o (refine ⟨trivial, ?_⟩; refine (CallsIn.inRound l' (callsIn_wide.2 (psize_any _ _))).mono ?_; rintro e w0 ⟨rfl, rfl⟩; rw [HS.out])
      all_goals exact ⟨rfl, rfl, rfl⟩
    clear hU c1 f1
    by_cases hb : 1048576 < A + (4 + m)
    · have t1 : decide ((1048576 : Int) - (A : Int) - (4 + (m : Int)) < 0) = true := decide_eq_true (by omega)
      have HFE : Hid (fitE L = 3) := Lib.hid (by
        have h1 := HMON.out
        rw [show k + 1 + (L.length - (k + 1)) = L.length by have := HK.out; omega, QS.out, atL_all] at h1
        unfold fitE
        rw [if_pos (by omega)])
      have RES : Hid (ownPostN W0.heap.size (fun k => k ≠ w.heap.size ∧ k ≠ w.heap.size + 1) (FI w L) (FX w L) k W .ret { tmps := #[], defers := [] } (U.setCell ⟨w.heap.size, 0, none⟩ (.int .i64 3))) := Lib.hid (by
        obtain ⟨u1, u2, u3, uk⟩ := UU.out
        refine ⟨(uk.1.trans (KeepsOthers.setCell _ _ _)).from _, rfl, ?_, u3.setCell (p := ⟨w.heap.size, 0, none⟩) (by simp) _⟩
        rw [HFE.out]
        exact u2.set _)
      clear hb hw7 hm2
      gi_wp2_with fail
      exact RES.out
    · have t1 : decide ((1048576 : Int) - (A : Int) - (4 + (m : Int)) < 0) = false := decide_eq_false (by omega)
      have RES : Hid (ownPostN W0.heap.size (fun k => k ≠ w.heap.size ∧ k ≠ w.heap.size + 1) (FI w L) (FX w L) k W .normal { tmps := #[], defers := [] } U) := Lib.hid (by
        obtain ⟨u1, u2, u3, uk⟩ := UU.out
        refine ⟨uk.1.from _, uk.2, by rw [QS.out]; omega, ?_, u2, u3⟩
        rw [QS.out, show (1048576 : Int) - ((A + (4 + m) : Nat) : Int) = (1048576 : Int) - (A : Int) - (4 + (m : Int)) by omega]
        exact u1)
      clear hb hw7 hm2
      gi_wp2_with fail
      exact RES.out
  case done =>
    rintro D W hD ⟨s0, s1, s2, s3⟩ hK
    have c1 := s2.cell
    have f1 := s2.frozen
    have HE : Hid (fitE L = 0) := Lib.hid (by rw [atL_all] at s0; unfold fitE; rw [if_neg (by omega)])
    obtain ⟨U4, hU4⟩ : ∃ U4, W.setCell ⟨w.heap.size, 0, none⟩ (.int .i64 0) = U4 := ⟨_, rfl⟩
    have hsz := HSZ.out
    have hb4 : Below w.heap.size w U4 := by rw [← hU4]; exact s3.setCell (p := ⟨w.heap.size, 0, none⟩) (by simp) _
    have hK4 : U4.heap[D]? = some (.deferred (some [])) := by
      rw [← hU4]
      exact (Below.heap_setCell _ _ _ _ (by simp; omega)).trans hK
    have hr4 : Boxed U4 w.heap.size 31 (.int .i64 0) := by rw [← hU4]; exact s2.set _
    have k1 := (Boxed.kept hr4 (grownBy_putObj' U4 D (.deferred none)) (by intro e; cases e; omega)).cell
    have HK4 := Lib.hid hK4
    have HQ : Hid (Below w.heap.size w (U4.putObj D (.deferred none))) := Lib.hid (hb4.trans (belowK_b (w := w) (Nat.le_refl _) U4 D _ _ (by omega) hK4 rfl rfl))
    have HU4 := Lib.hid hU4
    clear hU4 hb4 hK4 hr4 s0 s1 s2 s3 hK
    gi_wp2_with fail
    rw [HU4.out]
    refine ⟨by simp, .inl ⟨_, _, rfl, run_takeDeferred HK4.out, ?_⟩⟩
    exact ⟨.int .i64 0, by simp [results, Try.results40, go_sem, k1], by rw [HE.out], HQ⟩
  case stop =>
    rintro D c k W hD hk ⟨rfl, hbox, hb⟩ hK
    have hsz := HSZ.out
    have k1 := (Boxed.kept hbox (grownBy_putObj' W D (.deferred none)) (by intro e; cases e; omega)).cell
    have HQ : Hid (Below w.heap.size w (W.putObj D (.deferred none))) := Lib.hid (hb.trans (belowK_b (w := w) (Nat.le_refl _) W D _ _ (by omega) hK rfl rfl))
    have HK := Lib.hid hK
    clear hbox hb hK
    gi_wp2_with fail
    refine ⟨by simp, .inl ⟨_, _, rfl, run_takeDeferred HK.out, ?_⟩⟩
    exact ⟨.int .i64 (fitE L), by simp [results, Try.results40, go_sem, k1], rfl, HQ⟩
end Go.Proofs.Ytbjdbphnccdpbaa
