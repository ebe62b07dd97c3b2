/-
  The program's journal: sound.
-/
import Derived.Test.YtbjdbphnccdpbaaJg
set_option linter.unusedVariables false
namespace Go.Proofs.Ytbjdbphnccdpbaa
open Go.RowKit Go.Shelf Go.Lib
attribute [local go_sem] Oper.semAt_some

theorem PreB.put {E : Value → Prop} {L : List (List UInt8)} {st k l : Nat} {v : Value} {W : World} {o o' : Obj} (hl : W.heap[l]? = some o) (hc : o.isCells = false) (h : PreB E L st k v W) : PreB E L st k v (W.putObj l o') :=
  ⟨h.1, h.2.1, h.2.2.keep fun a c h => cell_put hl hc a c h⟩
theorem behind1_seq (n : Nat) (hn : 1 ≤ n) (P : Nat → Prop) (E : Value → Prop) (L : List (List UInt8)) (v : Value) (fr : Int) (st : Nat) (hst : (st : Int) = if fr < 0 then 0 else fr) (hs63 : (st : Int) ≤ 9223372036854775807) (Br Bf : Nat) (w : World)
    (hb : rwP P E w L v) (hBr : Boxed w Br 28 v) (hBf : Boxed w Bf 3 (.int .i64 fr)) (hPr : P Br) (hPf : P Bf) :
    SeqK n 69 #[.pointer (some ⟨Bf, 0, none⟩), .pointer (some ⟨Br, 0, none⟩)] (encB st) P (PreB E L st) (L.length - st) w := fun l J Jx W hW hJ hJx hY h0 =>
  behind1_in n hn P E L v fr st hst hs63 l Br Bf J Jx W (hb.kk (KK.below hW)) ((hW.block Br hBr.lt).trans hBr) ((hW.block Bf hBf.lt).trans hBf) hPr hPf hY h0
/-- The error of the first load that has one. -/
def soundE : List (List UInt8) → Int
  | [] => 0
  | x :: t => if frE x = 0 then soundE t else frE x
theorem sound_at : ∀ (L : List (List UInt8)) (k : Nat), (∀ i, i < k → frE (lk L i) = 0) → k < L.length → frE (lk L k) ≠ 0 → soundE L = frE (lk L k)
  | [], k, _, h, _ => absurd h (by simp)
  | x :: t, 0, _, _, h => by unfold soundE; rw [if_neg (by simpa [lk] using h)]; simp [lk]
  | x :: t, k + 1, h1, h2, h3 => by
    have e : lk (x :: t) (k + 1) = lk t k := by simp [lk]
    have h0 : frE x = 0 := by simpa [lk] using h1 0 (by omega)
    rw [e] at h3 ⊢
    unfold soundE
    rw [if_pos h0]
    exact sound_at t k (fun i hi => by have := h1 (i + 1) (by omega); simpa [lk] using this) (by simpa using h2) h3
theorem sound_all : ∀ (L : List (List UInt8)), (∀ i, i < L.length → frE (lk L i) = 0) → soundE L = 0
  | [], _ => rfl
  | x :: t, h => by
    have h0 : frE x = 0 := by simpa [lk] using h 0 (by simp)
    unfold soundE
    rw [if_pos h0]
    exact sound_all t (fun i hi => by have := h (i + 1) (by simpa using hi); simpa [lk] using this)
theorem size_zero (x : List UInt8) : sizeF (x.length : Int) = 0 ↔ frE x ≠ 0 := by
  unfold sizeF frE
  by_cases h0 : x.length = 0
  · rw [if_pos (by omega), if_pos h0]; simp
  · rw [if_neg h0]
    by_cases h1 : 524288 < x.length
    · rw [if_pos (by omega), if_pos h1]; simp
    · rw [if_neg (by omega), if_neg h1]; simp; omega
set_option maxRecDepth 100000 in
set_option maxHeartbeats 4000000 in
theorem sound_any (L : List (List UInt8)) (v : Value) (w : World) (hv : rds w L v) : Calls Try.prog 38 #[v] w fun e w' => e = .returned (.int .i64 (soundE L)) ∧ Hid (Below w.heap.size w w') := by
  obtain ⟨o, a, cap, rfl, _⟩ := id hv
  have HV := Lib.hid hv
  clear hv
  refine (callsIn_wide (n := 9)).1 ?_
  refine callsIn_of_wp_marks Try.func38 rfl trivial ?_ rfl
  simp only [Try.ntmps38, List.size_toArray, List.length_cons, List.length_nil, Nat.reduceAdd, Nat.reduceSub, Array.replicate_succ, Array.replicate_zero, List.push_toArray, List.append_toArray, List.nil_append, List.cons_append]
  gi_wp2_with fail
  refine ⟨trivial, ?_⟩
  refine (behind_in _ _ _ _ _ _).mono ?_
  rintro e w' ⟨rfl, rfl⟩
  gi_wp2_with fail
  obtain ⟨W0, hW0, hB0, hsz, bN, bR, bF⟩ : ∃ W0, ((w.alloc (Obj.cells #[Value.int IntKind.i64 0] 31)).alloc (Obj.cells #[Value.slice o L.length cap] 28)).alloc (Obj.cells #[Value.int IntKind.i64 0] 3) = W0 ∧ Below w.heap.size w W0 ∧ W0.heap.size = w.heap.size + 3 ∧ Boxed W0 w.heap.size 31 (.int .i64 0) ∧ Boxed W0 (w.heap.size + 1) 28 (.slice o L.length cap) ∧ Boxed W0 (w.heap.size + 2) 3 (.int .i64 0) := by
    have h1 := World.alloc_heap_new (w.alloc (.cells #[Value.int IntKind.i64 0] 31)) (.cells #[Value.slice o L.length cap] 28)
    have h2 := World.alloc_heap_new ((w.alloc (.cells #[Value.int IntKind.i64 0] 31)).alloc (.cells #[Value.slice o L.length cap] 28)) (.cells #[Value.int IntKind.i64 0] 3)
    simp only [World.size_alloc] at h1 h2
    exact ⟨_, rfl, by go_grown, by simp, ((Boxed.new w _ _).alloc _).alloc _, Boxed.alloc (W := (w.alloc (.cells #[Value.int IntKind.i64 0] 31)).alloc (.cells #[Value.slice o L.length cap] 28)) h1 _, h2⟩
  rw [hW0]
  clear hW0
  have SQ := behind1_seq (9 - 1) (by omega) (fun k => k ≠ w.heap.size) (fun _ => True) L (.slice o L.length cap) 0 0 rfl (by omega) (w.heap.size + 1) (w.heap.size + 2) W0
    ((rwP.of (P := fun k => k ≠ w.heap.size) HV.out (fun k hk => by show k ≠ w.heap.size; omega)).kk (KK.below hB0)) bR bF (by show w.heap.size + 1 ≠ w.heap.size; omega) (by show w.heap.size + 2 ≠ w.heap.size; omega)
  have HSZ := Lib.hid hsz
  have HB0 := Lib.hid hB0
  rw [Nat.sub_zero] at SQ
  refine range_ix (by omega) (gf := 69) (lb := #[.pointer (some ⟨w.heap.size + 2, 0, none⟩), .pointer (some ⟨w.heap.size + 1, 0, none⟩)]) rfl (enters_of Try.func69 (by kernel_rfl) rfl)
    SQ (Below.refl _ _) (fun _ _ => rfl)
    (fun k W => (∀ i, i < k → frE (lk L i) = 0) ∧ Boxed W w.heap.size 31 (.int .i64 0) ∧ Below w.heap.size w W)
    (fun c k W => c = .ret ∧ Boxed W w.heap.size 31 (.int .i64 (soundE L)) ∧ Below w.heap.size w W) ?hI ?hIx ⟨fun i hi => absurd hi (by omega), bN, hB0⟩
    (fun k v => { tmps := #[Value.slice o L.length cap, undef, Value.pointer (some { block := w.heap.size, off := 0 }), undef, v, undef, undef, Value.slice o L.length cap,
          Value.func (Fn.func 69) #[] #[Value.pointer (some { block := w.heap.size + 1 + 1, off := 0 }), Value.pointer (some { block := w.heap.size + 1, off := 0 })], .int .i64 (k : Nat), v,
          undef, undef, undef, undef, undef, undef, undef, undef, undef, undef], defers := [] })
    ?hpre ?assign ?body ?done ?stop
  case hI =>
    rintro k W W' row ⟨a, b, c⟩ hg hr
    exact ⟨a, free_boxed (β := Unit) W0.heap.size _ _ (fun _ => _) () W W' row b hg hr, free_below (β := Unit) (B := W0.heap.size) (m := w.heap.size) (by omega) (Nat.le_refl _) () W W' row c hg hr⟩
  case hIx =>
    rintro c k W W' row ⟨rfl, b, d⟩ hg hr
    exact ⟨rfl, free_boxed (β := Unit) W0.heap.size _ _ (fun _ => _) () W W' row b hg hr, free_below (β := Unit) (B := W0.heap.size) (m := w.heap.size) (by omega) (Nat.le_refl _) () W W' row d hg hr⟩
  case hpre =>
    rintro k v W l r o' _ hl h
    exact h.put hl rfl
  case assign =>
    rintro l' k v W K hK
    have HK := Lib.hid hK
    clear hK
    unfold encB
    gi_wp2_with fail
    exact HK.out
  case body =>
    rintro l' k v W hl' _ hk ⟨s0, s1, s2⟩ ⟨⟨ov, cv, hv⟩, _, hr⟩
    rw [Nat.zero_add] at hv hr
    subst hv
    have S0 := Lib.hid s0
    have S1 := Lib.hid s1
    have S2 := Lib.hid s2
    have HK := Lib.hid hk
    have HFR := Lib.hid (pframe_any (lk L k) _ W hr)
    have hsz := size_zero (lk L k)
    by_cases hE : frE (lk L k) = 0
    · have hz : sizeF ((lk L k).length : Int) ≠ 0 := fun h => hsz.1 h hE
      have RES : Hid (ownPostN W0.heap.size (fun k => k ≠ w.heap.size) (fun k W => (∀ i, i < k → frE (lk L i) = 0) ∧ Boxed W w.heap.size 31 (.int .i64 0) ∧ Below w.heap.size w W) (fun c k W => c = .ret ∧ Boxed W w.heap.size 31 (.int .i64 (soundE L)) ∧ Below w.heap.size w W) k W .normal { tmps := #[], defers := [] } W) := Lib.hid
        ⟨KeepsFrom.refl _ _, KK.refl _ _, fun i hi => if e : i = k then by rw [e]; exact hE else S0.out i (by omega), S1.out, S2.out⟩
      have hz' : (sizeF ((lk L k).length : Int) == 0) = false := by rw [beq_eq_false_iff_ne]; exact hz
      generalize lk L k = X at *
      clear hsz hE hz s0 s1 s2 hr
      gi_wp2_with first
        | (refine ⟨trivial, ?_⟩; refine (CallsIn.inRound l' (callsIn_wide.2 (psize_any _ _))).mono ?_; rintro e w0 ⟨rfl, rfl⟩)
      exact RES.out
    · have hz' : (sizeF ((lk L k).length : Int) == 0) = true := by rw [beq_iff_eq]; exact hsz.2 hE
      have SE := Lib.hid (sound_at L k s0 hk hE)
      generalize hXX : lk L k = X at *
      clear hsz hE s0 s1 s2 hr hXX
      gi_wp2_with first
        | (refine ⟨trivial, ?_⟩; refine (CallsIn.inRound l' (callsIn_wide.2 (psize_any _ _))).mono ?_; rintro e w0 ⟨rfl, rfl⟩)
      refine ⟨trivial, ?_⟩
      refine (CallsIn.inRound l' (callsIn_wide.2 HFR.out)).mono ?_
      rintro e U3 ⟨o3, c3, rfl, hq3⟩
      have hb3 := hq3.out.2
      have V1 : Boxed U3 w.heap.size 31 (.int .i64 0) := (hb3.block _ S1.out.lt).trans S1.out
      have v1 := V1.cell
      have f1 := V1.frozen
      have RES : Hid (ownPostN W0.heap.size (fun k => k ≠ w.heap.size) (fun k W => (∀ i, i < k → frE (lk L i) = 0) ∧ Boxed W w.heap.size 31 (.int .i64 0) ∧ Below w.heap.size w W) (fun c k W => c = .ret ∧ Boxed W w.heap.size 31 (.int .i64 (soundE L)) ∧ Below w.heap.size w W) k W .ret { tmps := #[], defers := [] } (U3.setCell ⟨w.heap.size, 0, none⟩ (.int .i64 (frE X)))) := Lib.hid (by
        refine ⟨((keeps_below hb3).trans (KeepsOthers.setCell _ _ _)).from _, rfl, ?_, (S2.out.trans (hb3.mono S2.out.size)).setCell (p := ⟨w.heap.size, 0, none⟩) (by simp) _⟩
        rw [SE.out]
        exact V1.set _)
      generalize frE X = fe at *
      clear hb3 V1 hq3 hz'
      gi_wp2_with fail
      exact RES.out
  case done =>
    rintro D W hD ⟨s0, s1, s2⟩ hK
    have c1 := s1.cell
    have f1 := s1.frozen
    have HE := Lib.hid (sound_all L s0)
    obtain ⟨U4, hU4⟩ : ∃ U4, W.setCell ⟨w.heap.size, 0, none⟩ (.int .i64 0) = U4 := ⟨_, rfl⟩
    have hsz := HSZ.out
    have hb4 : Below w.heap.size w U4 := by rw [← hU4]; exact s2.setCell (p := ⟨w.heap.size, 0, none⟩) (by simp) _
    have hK4 : U4.heap[D]? = some (.deferred (some [])) := by
      rw [← hU4]
      exact (Below.heap_setCell _ _ _ _ (by simp; omega)).trans hK
    have hr4 : Boxed U4 w.heap.size 31 (.int .i64 0) := by rw [← hU4]; exact s1.set _
    have k1 := (Boxed.kept hr4 (grownBy_putObj' U4 D (.deferred none)) (by intro e; cases e; omega)).cell
    have HK4 := Lib.hid hK4
    have HQ : Hid (Below w.heap.size w (U4.putObj D (.deferred none))) := Lib.hid (hb4.trans (belowK_b (w := w) (Nat.le_refl _) U4 D _ _ (by omega) hK4 rfl rfl))
    have HU4 := Lib.hid hU4
    clear hU4 hb4 hK4 hr4 s0 s1 s2 hK
    gi_wp2_with fail
    rw [HU4.out]
    refine ⟨by simp, .inl ⟨_, _, rfl, run_takeDeferred HK4.out, ?_⟩⟩
    exact ⟨.int .i64 0, by simp [results, Try.results38, go_sem, k1], by rw [HE.out], HQ⟩
  case stop =>
    rintro D c k W hD hk ⟨rfl, hbox, hb⟩ hK
    have hsz := HSZ.out
    have k1 := (Boxed.kept hbox (grownBy_putObj' W D (.deferred none)) (by intro e; cases e; omega)).cell
    have HQ : Hid (Below w.heap.size w (W.putObj D (.deferred none))) := Lib.hid (hb.trans (belowK_b (w := w) (Nat.le_refl _) W D _ _ (by omega) hK rfl rfl))
    have HK := Lib.hid hK
    clear hbox hb hK
    gi_wp2_with fail
    refine ⟨by simp, .inl ⟨_, _, rfl, run_takeDeferred HK.out, ?_⟩⟩
    exact ⟨.int .i64 (soundE L), by simp [results, Try.results38, go_sem, k1], rfl, HQ⟩
end Go.Proofs.Ytbjdbphnccdpbaa
