/-
  The program's frames: whole, the bytes of the frames alone.
-/
import Derived.Test.YtbjdbphnccdpbaaGe
set_option linter.unusedVariables false
namespace Go.Proofs.Ytbjdbphnccdpbaa
open Go.RowKit Go.Shelf Go.Lib
attribute [local go_sem] Oper.semAt_some

/-- The bytes that are no torn ones. -/
def wholeB (x : List UInt8) : List UInt8 := x.take (x.length - (scanL x).2)
theorem scan_whole (x : List UInt8) : scanL (wholeB x) = ((scanL x).1, 0) := by
  have := scan_join [] x.length x (Nat.le_refl _)
  rw [List.append_nil, scan_nil, List.append_nil] at this
  exact this
theorem ow.mono {base base' : Nat} {W : World} {v : Value} {x : List UInt8} (h : ow base W v x) (hb : base' ≤ base) : ow base' W v x := by
  rcases h with h | ⟨g, cap, cur, h1, h2, h3⟩
  · exact .inl h
  · exact .inr ⟨g, cap, cur, h1, Nat.le_trans hb h2, h3⟩
theorem ow.put {base D : Nat} {W : World} {v : Value} {x : List UInt8} {o' : Obj} (h : ow base W v x) (hD : ∀ k, v.ownBlock = some k → k ≠ D) : ow base (W.putObj D o') v x :=
  h.keep fun k o hk ho => (World.putObj_heap_other (hD k hk)).trans ho
set_option maxRecDepth 100000 in
set_option maxHeartbeats 4000000 in
theorem whole_any (x : List UInt8) (v : Value) (w : World) (hx : rd w x v) (hf : fit v) (hl : x.length ≤ 4000000) :
    Calls Try.prog 64 #[v] w fun e w' => ∃ o c, e = .returned (.slice o (wholeB x).length c) ∧ Hid (ow w.heap.size w' (.slice o (wholeB x).length c) (wholeB x) ∧ Below w.heap.size w w') := by
  obtain ⟨o, c, rfl, hc1, hc2⟩ := hx.form
  have HX := Lib.hid hx
  have HF := Lib.hid hf
  have HC := Lib.hid (And.intro hc1 (And.intro hc2 hl))
  obtain ⟨Y, hY⟩ : ∃ Y, wholeB x = Y := ⟨_, rfl⟩
  rw [hY]
  have HY := Lib.hid hY
  clear hx hf hc1 hc2 hl hY
  refine (callsIn_wide (n := 9)).1 ?_
  refine callsIn_of_wp_marks Try.func64 rfl trivial ?_ rfl
  simp only [Try.ntmps64, List.size_toArray, List.length_cons, List.length_nil, Nat.reduceAdd, Nat.reduceSub, Array.replicate_succ, Array.replicate_zero, List.push_toArray, List.append_toArray, List.nil_append, List.cons_append]
  gi_wp2_with fail
  refine ⟨trivial, ?_⟩
  refine (frames_in _ _ _ _ _).mono ?_
  rintro e w' ⟨rfl, rfl⟩
  gi_wp2_with fail
  obtain ⟨W0, hW0, hB0, hsz, bN, bS⟩ : ∃ W0, (w.alloc (Obj.cells #[Value.int IntKind.i64 0] 3)).alloc (Obj.cells #[Value.slice o x.length c] 27) = W0 ∧ Below w.heap.size w W0 ∧ W0.heap.size = w.heap.size + 1 + 1 ∧ Boxed W0 w.heap.size 3 (.int .i64 0) ∧ Boxed W0 (w.heap.size + 1) 27 (.slice o x.length c) := by
    have h := World.alloc_heap_new (w.alloc (.cells #[Value.int IntKind.i64 0] 3)) (.cells #[Value.slice o x.length c] 27)
    rw [World.size_alloc] at h
    exact ⟨_, rfl, by go_grown, by simp, (Boxed.new w _ _).alloc _, h⟩
  rw [hW0]
  clear hW0
  have hbuf : buf (fun k => k ≠ w.heap.size) W0 x (.slice o x.length c) := by
    refine ⟨HX.out.below hB0, HF.out, fun a n c' h hx => ?_⟩
    obtain ⟨o2, a2, c2, e2, _, _, e3, e4⟩ := HX.out
    cases e2
    cases h
    obtain rfl := Option.some.inj (e3 hx)
    have hcl := e4 0 (.int .u8 (x[0].toNat : Int)) (by simp [byteCells, List.getElem?_eq_getElem hx])
    have hlt := World.block_lt_of_cell? w _ hcl
    have : (a.add 0).block = a.block := by unfold Addr.add; split <;> rfl
    rw [this] at hlt
    show a.block ≠ w.heap.size
    omega
  obtain ⟨N, hN⟩ : ∃ N, N = (scanL x).1.length := ⟨_, rfl⟩
  refine range_ix (by omega) (gf := 70) (lb := #[.pointer (some ⟨w.heap.size + 1, 0, none⟩)]) rfl (enters_of Try.func70 (by kernel_rfl) rfl)
    (frames_seq (9 - 1) (by omega) (fun k => k ≠ w.heap.size) x _ (w.heap.size + 1) W0 hbuf bS (by show w.heap.size + 1 ≠ w.heap.size; omega)) (Below.refl _ _) (fun _ _ => rfl)
    (fun k W => Boxed W w.heap.size 3 (.int .i64 (atL (scanL x).1 k : Nat)) ∧ Below w.heap.size w W)
    (fun _ _ _ => False) ?hI (fun _ _ _ _ _ hs _ _ => hs) ?h0
    (fun k v => { tmps := #[Value.slice o x.length c, undef, Value.slice none 0 0, Value.pointer (some { block := w.heap.size, off := 0 }), .int .i64 (atL (scanL x).1 k : Nat), v, Value.slice o x.length c,
          Value.func (Fn.func 70) #[] #[Value.pointer (some { block := w.heap.size + 1, off := 0 })], .int .i64 (atL (scanL x).1 k : Nat), v,
          undef, undef, undef, undef, undef, undef, undef, undef, undef], defers := [] })
    (fun k v W l r o' _ _ h => h) ?assign ?body ?done ?stop
  case hI => exact Free.and (free_boxed _ _ _ _) (free_below (by omega) (Nat.le_refl _))
  case h0 => exact ⟨by simpa [atL] using bN, hB0⟩
  case assign =>
    rintro l' k v W K hK
    have HK := Lib.hid hK
    clear hK
    unfold encF
    generalize atL (scanL x).1 k = A at *
    gi_wp2_with fail
    exact HK.out
  case body =>
    rintro l' k v W hl' _ hk ⟨b1, hB1⟩ hpre
    obtain ⟨q1, q2, q3, q4, q5⟩ := at_load x k hk
    have qs := atL_succ (scanL x).1 k hk
    unfold PreF at hpre
    obtain ⟨aa, haa⟩ : ∃ aa, aa = (adr (.slice o x.length c)).add (atL (scanL x).1 k + 4) := ⟨_, rfl⟩
    rw [← haa] at hpre
    subst hpre
    have B1 := Lib.hid b1
    have HB := Lib.hid hB1
    have hsf : sizeF ((lk (scanL x).1 k).length : Int) = ((4 + (lk (scanL x).1 k).length : Nat) : Int) := by unfold sizeF; rw [if_neg (by omega)]; omega
    have HS := Lib.hid hsf
    have f2 := b1.frozen
    have c2 := b1.cell
    have HQ : Hid (∀ v', v' = .int .i64 ((atL (scanL x).1 k : Int) + (4 + ((lk (scanL x).1 k).length : Int))) → Boxed W w.heap.size 3 v' → Boxed W w.heap.size 3 (.int .i64 (atL (scanL x).1 (k + 1) : Nat))) := Lib.hid fun v' e h => by
      rw [e] at h
      rw [qs]
      simpa using h
    have QS := Lib.hid qs
    have HX5 := Lib.hid q5
    generalize atL (scanL x).1 k = A at *
    generalize (lk (scanL x).1 k).length = m at *
    have hw2 : IntKind.i64.wrap ((A : Int) + (4 + (m : Int))) = (A : Int) + (4 + (m : Int)) := by have := HC.out.2.2; go_unwrap
    clear q1 q2 q3 q4 q5 qs hsf b1 hB1 haa
    gi_wp2_with first
      | (refine ⟨trivial, ?_⟩; refine (CallsIn.inRound l' (callsIn_wide.2 (psize_any _ _))).mono ?_; rintro e w0 ⟨rfl, rfl⟩; rw [HS.out])
    refine ⟨(KeepsOthers.setCell _ _ _).from _, KK.set _ _ _ (fun h => h rfl), ?_, HB.out.setCell (p := ⟨w.heap.size, 0, none⟩) (by simp) _⟩
    rw [QS.out, show ((A + (4 + m) : Nat) : Int) = (A : Int) + (4 + (m : Int)) by omega]
    exact B1.out.set _
  case done =>
    rintro D W hD ⟨b1, hB1⟩ hK
    obtain ⟨q1, q2⟩ := at_end x
    have he : Y = x.take (atL (scanL x).1 (scanL x).1.length) := by rw [← HY.out]; unfold wholeB; congr 1; omega
    generalize atL (scanL x).1 (scanL x).1.length = E at *
    have c2 := b1.cell
    have HB := Lib.hid hB1
    have HK := Lib.hid hK
    have hE : E ≤ x.length := by omega
    have hEi : (E : Int) ≤ (x.length : Int) := by omega
    have hl : Y.length = E := by rw [he, List.length_take]; omega
    have hrd : rd W Y (.slice o E c) := by rw [he]; exact (HX.out.below hB1).cut E c hE (by have := HC.out.1; omega) HC.out.2.1
    have hft : fit (.slice o E c) := by
      rcases HF.out with h | ⟨a, n, c', h⟩
      · simp only [Value.slice.injEq] at h
        obtain ⟨rfl, h2, rfl⟩ := h
        obtain rfl : E = 0 := by omega
        exact .inl rfl
      · cases h
        exact .inr ⟨_, _, _, rfl⟩
    have HCL := Lib.hid (clone_any Y _ W hrd hft (by have := HC.out.2.2; omega))
    have HWL := Lib.hid hB1.size
    have hec : (E : Int) ≤ (c : Int) := by have := HC.out.1; omega
    clear q1 q2 he b1 hB1 hK hrd hft hl hB0 bN bS hE
    gi_wp2_with first
      | (refine ⟨trivial, ?_⟩; refine (callsIn_wide.2 HCL.out).mono ?_; rintro e w0 ⟨o3, c3, rfl, HQ⟩)
    have HD := (HQ.out.2.block D (Array.getElem?_eq_some_iff.1 HK.out).1).trans HK.out
    refine ⟨by simp, .inl ⟨_, _, rfl, run_takeDeferred HD, ?_⟩⟩
    refine ⟨_, results_tmp rfl _ _ _, o3, c3, rfl, Lib.hid ⟨(HQ.out.1.mono HWL.out).put (by have := (Array.getElem?_eq_some_iff.1 HK.out).1; intro k hk e; have := (HQ.out.1.lt k hk).1; omega), ?_⟩⟩
    have hz := HWL.out
    have h1 : Below w.heap.size w w0 := HB.out.trans (HQ.out.2.mono hz)
    exact h1.trans (belowK_b (w := w) (Nat.le_refl _) w0 D _ _ (by omega) HD rfl rfl)
  case stop =>
    rintro D c pre W hD hS h
    exact h.elim
end Go.Proofs.Ytbjdbphnccdpbaa
