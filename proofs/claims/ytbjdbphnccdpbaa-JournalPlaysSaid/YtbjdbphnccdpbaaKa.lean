/-
  The program's journal: Replay, as an iterator.
-/
import Derived.Test.YtbjdbphnccdpbaaJz
set_option linter.unusedVariables false
namespace Go.Proofs.Ytbjdbphnccdpbaa
open Go.RowKit Go.Shelf Go.Lib
attribute [local go_sem] Oper.semAt_some

theorem RoundIn.wide {a b l l' f : Nat} {tmps : Array Value} {assign body : Code} {W : World} {R : Ending → World → Prop} (h : RoundIn Fence.wide a Try.prog l f tmps assign body W R) : RoundIn (Fence.wide.inRound l') b Try.prog l f tmps assign body W R :=
  ⟨h.1, fun c cs _ => h.2 c cs (room_wide _)⟩
theorem keepsFrom_up {B B' : Nat} {W W' : World} (h : KeepsFrom B W W') (hB : B ≤ B') : KeepsFrom B' W W' := ⟨h.size, fun k o hk => h.same k o (by omega)⟩
set_option maxRecDepth 100000 in
set_option maxHeartbeats 8000000 in
theorem replay1_seq (n : Nat) (hn : 3 ≤ n) (P : Nat → Prop) (L : List (List UInt8)) (v : Value) (fr : Int) (st : Nat) (hst : (st : Int) = if fr < 0 then 0 else fr) (hs63 : (st : Int) ≤ 9223372036854775807) (Bw Bf : Nat) (w : World)
    (hv : rwP P fit w L v) (hBw : Boxed w Bw 28 v) (hBf : Boxed w Bf 3 (.int .i64 fr)) (hPw : P Bw) (hPf : P Bf) (hP : ∀ k, w.heap.size ≤ k → P k) (hx : ∀ x ∈ L, x.length ≤ 4000000) :
    SeqM n 68 #[.pointer (some ⟨Bw, 0, none⟩), .pointer (some ⟨Bf, 0, none⟩)] (encB st) P (PreB fit L st) (L.length - st) w := fun l J Jx W hW hJ hJx hY h0 => by
  have hn1 : 1 ≤ n := by omega
  have hn2 : 1 ≤ n - 1 := by omega
  have hn3 : 1 ≤ n - 1 - 1 := by omega
  obtain ⟨o, a, cap, rfl, _⟩ := id hv
  have hBw2 : Boxed W Bw 28 (.slice o L.length cap) := (hW.block Bw hBw.lt).trans hBw
  have hBf2 : Boxed W Bf 3 (.int .i64 fr) := (hW.block Bf hBf.lt).trans hBf
  have cw := hBw2.cell
  have cf := hBf2.cell
  have hz := hW.size
  have HV := Lib.hid hv
  have HX := Lib.hid hx
  have HY := Lib.hid hY
  have HJ := Lib.hid hJ
  have HJx := Lib.hid hJx
  have H0 := Lib.hid h0
  have HP := Lib.hid hP
  have HW := Lib.hid hW
  have hlw := hBw2.lt
  have hlf := hBf2.lt
  have HBW2 := Lib.hid hBw2
  have HBF2 := Lib.hid hBf2
  have kw1 : (W.alloc (.cells #[.func (.yield l) #[] #[]] 71)).cell? ⟨Bw, 0, none⟩ = some (.slice o L.length cap) := (hBw2.alloc _).cell
  have kf1 : (W.alloc (.cells #[.func (.yield l) #[] #[]] 71)).cell? ⟨Bf, 0, none⟩ = some (.int .i64 fr) := (hBf2.alloc _).cell
  clear hv hBw hBf hY hJ hJx h0 hP hW hx hBw2 hBf2
  refine callsIn_of_wp_marks Try.func68 rfl trivial ?_ rfl
  simp only [Try.ntmps68, List.size_toArray, List.length_cons, List.length_nil, Nat.reduceAdd, Nat.reduceSub, Array.replicate_succ, Array.replicate_zero, List.push_toArray, List.append_toArray, List.nil_append, List.cons_append]
  gi_wp2_with fail
  refine ⟨trivial, ?_⟩
  refine (behind_in _ _ _ _ _ _).mono ?_
  rintro e w' ⟨rfl, rfl⟩
  gi_wp2_with fail
  obtain ⟨W3, hW3, hb3, hsz, bY, bR, bF⟩ : ∃ W3, ((W.alloc (Obj.cells #[Value.func (.yield l) #[] #[]] 71)).alloc (Obj.cells #[Value.slice o L.length cap] 28)).alloc (Obj.cells #[Value.int IntKind.i64 fr] 3) = W3 ∧ Below W.heap.size W W3 ∧ W3.heap.size = W.heap.size + 3 ∧ Boxed W3 W.heap.size 71 (.func (.yield l) #[] #[]) ∧ Boxed W3 (W.heap.size + 1) 28 (.slice o L.length cap) ∧ Boxed W3 (W.heap.size + 2) 3 (.int .i64 fr) := by
    have h1 := World.alloc_heap_new (W.alloc (.cells #[Value.func (.yield l) #[] #[]] 71)) (.cells #[Value.slice o L.length cap] 28)
    have h2 := World.alloc_heap_new ((W.alloc (.cells #[Value.func (.yield l) #[] #[]] 71)).alloc (.cells #[Value.slice o L.length cap] 28)) (.cells #[Value.int IntKind.i64 fr] 3)
    simp only [World.size_alloc] at h1 h2
    exact ⟨_, rfl, by go_grown, by simp, ((Boxed.new W _ _).alloc _).alloc _, Boxed.alloc (W := (W.alloc (.cells #[Value.func (.yield l) #[] #[]] 71)).alloc (.cells #[Value.slice o L.length cap] 28)) h1 _, h2⟩
  rw [hW3]
  clear hW3 kw1 kf1
  have SQ := behind1_seq (n - 1) (by omega) P fit L (.slice o L.length cap) fr st hst hs63 (W.heap.size + 1) (W.heap.size + 2) W3 ((HV.out.kk (KK.below HW.out)).kk (KK.below hb3)) bR bF (HP.out _ (by omega)) (HP.out _ (by omega))
  have HSZ := Lib.hid hsz
  refine range_ix (by omega) (gf := 69) (lb := #[.pointer (some ⟨W.heap.size + 2, 0, none⟩), .pointer (some ⟨W.heap.size + 1, 0, none⟩)]) rfl (enters_of Try.func69 (by kernel_rfl) rfl)
    SQ (Below.refl _ _) (fun _ _ => rfl)
    (fun k Wr => J k Wr ∧ Boxed Wr W.heap.size 71 (.func (.yield l) #[] #[]) ∧ W.heap.size + 3 ≤ Wr.heap.size) (fun c k Wr => c = .ret ∧ Jx k Wr) ?hI ?hIx ⟨HJ.out.step H0.out hb3, bY, by omega⟩
    (fun k v => { tmps := #[Value.func (Fn.yield l) #[] #[], Value.pointer (some { block := Bw, off := 0 }), Value.pointer (some { block := Bf, off := 0 }), Value.pointer (some { block := W.heap.size, off := 0 }),
          .int .i64 ((st + k : Nat) : Int), v, Value.slice o L.length cap, Value.int IntKind.i64 fr,
          Value.func (Fn.func 69) #[] #[Value.pointer (some { block := W.heap.size + 1 + 1, off := 0 }), Value.pointer (some { block := W.heap.size + 1, off := 0 })], .int .i64 ((st + k : Nat) : Int), v,
          undef, undef, undef, undef, undef, undef], defers := [] })
    ?hpre ?assign ?body ?done ?stop
  case hI =>
    rintro k A B row ⟨x, y, z⟩ hg hr
    exact ⟨HJ.out.up (by omega) k A B row x hg hr, free_boxed (β := Unit) W3.heap.size _ _ (fun _ => _) () A B row y hg hr, Nat.le_trans z hg.size⟩
  case hIx =>
    rintro c k A B row ⟨rfl, x⟩ hg hr
    exact ⟨rfl, HJx.out.up (by omega) k A B row x hg hr⟩
  case hpre =>
    rintro k v W l r o' _ hl h
    exact h.put hl rfl
  case assign =>
    rintro l' k v W K hK
    have HK := Lib.hid hK
    clear hK
    unfold encB
    generalize st + k = i at *
    gi_wp2_with fail
    exact HK.out
  case body =>
    rintro l' k v Wr hl' _ hk ⟨hj, hby, hzr⟩ ⟨⟨ov, cv, hv⟩, hft, hr⟩
    subst hv
    have hkl : st + k < L.length := by omega
    have hXm := HX.out _ (lk_mem hkl)
    have HCL : Hid (∀ W2, Below Wr.heap.size Wr W2 → Calls Try.prog 67 #[.slice ov (lk L (st + k)).length cv] W2 fun e w' => Hid (∃ o c, e = .returned (.slice o (lk L (st + k)).length c) ∧ rd w' (lk L (st + k)) (.slice o (lk L (st + k)).length c) ∧ fit (.slice o (lk L (st + k)).length c) ∧ Below Wr.heap.size Wr w')) := Lib.hid fun W2 hW2 =>
      (clone_any _ _ W2 (hr.below hW2) hft hXm).mono fun e w' ⟨o, c, h1, h2⟩ => Lib.hid ⟨o, c, h1, h2.out.1.rd, h2.out.1.fit, hW2.trans (h2.out.2.mono hW2.size)⟩
    have STEP : Hid (∀ U o c, rd U (lk L (st + k)) (.slice o (lk L (st + k)).length c) ∧ fit (.slice o (lk L (st + k)).length c) ∧ Below Wr.heap.size Wr U → U.cell? ⟨W.heap.size, 0, none⟩ = some (.func (.yield l) #[] #[]) ∧
        YieldAt Fence.wide (n - 1) Try.prog l #[.int .i64 ((st + k : Nat) : Int), .slice o (lk L (st + k)).length c] U fun e W' => Hid (∃ b : Bool, e = .returned (.bool b) ∧ ownPostN W3.heap.size P (fun k Wr => J k Wr ∧ Boxed Wr W.heap.size 71 (.func (.yield l) #[] #[]) ∧ W.heap.size + 3 ≤ Wr.heap.size) (fun c k Wr => c = .ret ∧ Jx k Wr) k Wr (if b then .normal else .ret) { tmps := #[], defers := [] } W')) := Lib.hid fun U o c hq => by
      have hbU := boxed_below hby hq.2.2
      have hsz := HSZ.out
      refine ⟨hbU.cell, ?_⟩
      refine YieldAt.mono (HY.out k _ U hk (HJ.out.step hj hq.2.2) ⟨⟨o, c, rfl⟩, hq.2.1, hq.1⟩) ?_
      rintro e W' (⟨rfl, h1, h2, h3⟩ | ⟨rfl, h1, h3⟩)
      · exact Lib.hid ⟨true, rfl, ⟨((keeps_below hq.2.2).from _).trans (keepsFrom_up h3 (by omega)), (KK.below hq.2.2).trans h2, h1, h2.2 _ _ _ _ (HP.out _ HW.out.size) hbU, by have := hq.2.2.size; have := h2.1; omega⟩⟩
      · exact Lib.hid ⟨false, rfl, ⟨((keeps_below hq.2.2).from _).trans (keepsFrom_up h3 (by omega)), rfl, h1⟩⟩
    have c5 := hby.cell
    have c5d := Boxed.cell (W := Wr.drew) hby
    have HBd : Hid (Below Wr.heap.size Wr Wr.drew) := Lib.hid (Below.refl _ _).drew
    have hmx : Try.prog.follows .mixedOrders = true := by kernel_rfl
    generalize (lk L (st + k)).length = m at *
    generalize lk L (st + k) = X at *
    generalize st + k = i at *
    clear hj hby hft hr hXm
    gi_wp2_with fail
    gi_region_with_o (first
      | (refine ⟨trivial, ?_⟩; go_loud (refine (CallsIn.inRound l' (callsIn_wide.2 (HCL.out _ (by first | exact Below.refl _ _ | exact HBd.out)))).mono ?_); rintro e U hq0; obtain ⟨o3, c3, rfl, hq⟩ := hq0.out; obtain ⟨y1, fn, tmps, assign, body, hy, hR⟩ := STEP.out _ _ _ hq; have HR := Lib.hid hR; clear hq0 hR hq)
      | (go_loud (refine (RoundIn.wide HR.out).mono ?_); rintro e W7 hq7; obtain ⟨b7, rfl, hq8⟩ := hq7.out; have HQ8 := Lib.hid hq8; clear hq7 hq8))
    all_goals (rcases b7 with _ | _)
    all_goals gi_wp2_with fail
    all_goals (have hQ9 := HQ8.out; first | exact hQ9 | (rw [HSZ.out] at hQ9; exact hQ9))
  case done =>
    rintro D Wr hD ⟨hj, hby, hzr⟩ hK
    have HQ : Hid (J (L.length - st) (Wr.putObj D (.deferred none))) := Lib.hid (HJ.out.put _ hj (by omega) hK rfl)
    have HK := Lib.hid hK
    clear hj hby hzr hK
    gi_wp2_with fail
    refine ⟨by simp, .inl ⟨_, _, rfl, run_takeDeferred HK.out, ?_⟩⟩
    exact ⟨.tuple #[], by simp [results, Try.results68, go_sem], ⟨_, rfl⟩, .inl HQ.out⟩
  case stop =>
    rintro D c k Wr hD hk ⟨rfl, hjx⟩ hK
    have HQ : Hid (Jx k (Wr.putObj D (.deferred none))) := Lib.hid (HJx.out.put _ hjx (by omega) hK rfl)
    have HK := Lib.hid hK
    clear hjx hK
    gi_wp2_with fail
    refine ⟨by simp, .inl ⟨_, _, rfl, run_takeDeferred HK.out, ?_⟩⟩
    exact ⟨.tuple #[], by simp [results, Try.results68, go_sem], ⟨_, rfl⟩, .inr ⟨k, hk, HQ.out⟩⟩
end Go.Proofs.Ytbjdbphnccdpbaa
