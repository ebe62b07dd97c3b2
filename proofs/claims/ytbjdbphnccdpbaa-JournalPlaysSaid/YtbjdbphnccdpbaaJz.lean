/-
  The program's journal: Replay.
-/
import Derived.Test.YtbjdbphnccdpbaaJy
import Derived.Test.YtbjdbphnccdpbaaSt
set_option linter.unusedVariables false
namespace Go.Proofs.Ytbjdbphnccdpbaa
open Go.RowKit Go.Shelf Go.Lib
attribute [local go_sem] Oper.semAt_some

/-- The copied rows, of those from st on. -/
def wasL (L : List (List UInt8)) (st : Nat) : List (List UInt8) := (List.range L.length).map fun i => if i < st then [] else lk L i
theorem was_len (L : List (List UInt8)) (st : Nat) : (wasL L st).length = L.length := by simp [wasL]
theorem was_lk (L : List (List UInt8)) (st k : Nat) (h : st + k < L.length) : lk (wasL L st) (st + k) = lk L (st + k) := by
  rw [lk_get (by rw [was_len]; exact h)]
  simp only [wasL, List.getElem_map, List.getElem_range]
  rw [if_neg (by omega)]
/-- The row that is filled. -/
def WAS (w : World) (L : List (List UInt8)) (st k : Nat) (W : World) : Prop :=
  Boxed W (w.heap.size + 2) 28 (.slice (some ⟨w.heap.size + 1, 0, none⟩) L.length L.length) ∧ Below w.heap.size w W ∧ w.heap.size + 5 ≤ W.heap.size ∧
  ∃ cur : Array Value, W.heap[w.heap.size + 1]? = some (.cells cur 27 (0, 0)) ∧ cur.size = L.length ∧ ∀ i, i < L.length → ((i < st ∨ st + k ≤ i) → cur[i]? = some (.slice none 0 0)) ∧ (st ≤ i → i < st + k → ∃ c, cur[i]? = some c ∧ ow w.heap.size W c (lk L i))
theorem WAS.free {w : World} {L : List (List UInt8)} {st B : Nat} (hB : w.heap.size ≤ B) : Free B (WAS w L st) := fun k W W' row hs hg hr => by
  obtain ⟨s1, s2, s3, cur, s4, s5, s6⟩ := hs
  refine ⟨free_boxed (β := Unit) B _ _ (fun _ => _) () W W' row s1 hg hr, free_below (β := Unit) hB (Nat.le_refl _) () W W' row s2 hg hr, Nat.le_trans s3 hg.size, cur, free_cells (β := Unit) B _ _ (fun _ => cur) (0, 0) () W W' row s4 hg hr, s5, fun i hi => ⟨(s6 i hi).1, fun h1 h2 => ?_⟩⟩
  obtain ⟨c, q1, q2⟩ := (s6 i hi).2 h1 h2
  exact ⟨c, q1, q2.free hg hr⟩
theorem WAS.rows {w W : World} {L : List (List UInt8)} {st : Nat} (h : WAS w L st (L.length - st) W) (hl : L.length ≤ 300000) : rwP (fun k => w.heap.size ≤ k) fit W (wasL L st) (.slice (some ⟨w.heap.size + 1, 0, none⟩) L.length L.length) := by
  obtain ⟨s1, s2, s3, cur, s4, s5, s6⟩ := h
  refine ⟨some ⟨w.heap.size + 1, 0, none⟩, ⟨w.heap.size + 1, 0, none⟩, L.length, by rw [was_len], by rw [was_len]; exact Nat.le_refl _, by unfold maxLen; omega, fun _ => ⟨rfl, by show w.heap.size ≤ w.heap.size + 1; omega⟩, fun i hi => ?_⟩
  have hi2 : i < L.length := by rw [was_len] at hi; exact hi
  have e : (wasL L st)[i] = if i < st then [] else lk L i := by simp [wasL]
  by_cases hst : i < st
  · rw [e, if_pos hst]
    exact ⟨none, 0, row_cell s4 _ ((s6 i hi2).1 (.inl hst)), .inl rfl, rd_nil W, fun a' e => by cases e⟩
  · rw [e, if_neg hst]
    obtain ⟨c, q1, q2⟩ := (s6 i hi2).2 (by omega) (by omega)
    obtain ⟨o, cc, rfl, _⟩ := q2.form
    refine ⟨o, cc, row_cell s4 _ q1, q2.fit, q2.rd, fun a' e hx => ?_⟩
    subst e
    rcases q2 with ⟨hv, _⟩ | ⟨g, cap, cur2, hv, hg, _⟩
    · cases hv
    · cases hv; exact hg
theorem WAS.set {w W U : World} {L : List (List UInt8)} {st k : Nat} {o : Option Addr} {c : Nat} (h : WAS w L st k W) (hb : Below W.heap.size W U) (hk : st + k < L.length) (hn : ow w.heap.size U (.slice o (lk L (st + k)).length c) (lk L (st + k))) :
    WAS w L st (k + 1) (U.setCell ⟨w.heap.size + 1, st + k, none⟩ (.slice o (lk L (st + k)).length c)) := by
  obtain ⟨s1, s2, s3, cur, s4, s5, s6⟩ := (WAS.free (w := w) (L := L) (st := st) (B := w.heap.size) (Nat.le_refl _)).step h hb
  have hF := Fr.set (B := fun j => j = w.heap.size + 1) U (w.heap.size + 1) (st + k) (.slice o (lk L (st + k)).length c) rfl
  have hOK : ∀ v x, ow w.heap.size U v x → ow w.heap.size (U.setCell ⟨w.heap.size + 1, st + k, none⟩ (.slice o (lk L (st + k)).length c)) v x := fun v x hv =>
    hv.keep fun j ob hj ho => hF.2 j ob ho (fun e => by
      obtain ⟨_, _, c2, hc2⟩ := hv.lt j hj
      subst e
      rw [s4] at hc2
      cases hc2)
  refine ⟨hF.boxed s1 (by omega), s2.trans (hF.below (fun j hj => by omega) s2.size), Nat.le_trans s3 hF.size, cur.set! (st + k) (.slice o (lk L (st + k)).length c), ?_, by simpa using s5, fun i hi => ⟨fun h1 => ?_, fun h1 h2 => ?_⟩⟩
  · simp [World.setCell, Array.getElem?_modify, s4]
  · rw [Array.set!_eq_setIfInBounds, Array.getElem?_setIfInBounds_ne (by omega)]
    exact (s6 i hi).1 (by omega)
  · by_cases e : i = st + k
    · subst e
      exact ⟨_, by rw [Array.set!_eq_setIfInBounds, Array.getElem?_setIfInBounds_self_of_lt (by omega)], hOK _ _ hn⟩
    · obtain ⟨c', q1, q2⟩ := (s6 i hi).2 h1 (by omega)
      exact ⟨c', by rw [Array.set!_eq_setIfInBounds, Array.getElem?_setIfInBounds_ne (by omega)]; exact q1, hOK _ _ q2⟩
set_option maxRecDepth 100000 in
set_option maxHeartbeats 8000000 in
theorem replay_any (L : List (List UInt8)) (v : Value) (fr : Int) (st : Nat) (hst : (st : Int) = if fr < 0 then 0 else fr) (hs63 : (st : Int) ≤ 9223372036854775807) (w : World) (hv : rwP (fun k => k < w.heap.size) fit w L v) (hn : L.length ≤ 300000) (hx : ∀ x ∈ L, x.length ≤ 4000000) :
    Calls Try.prog 55 #[v, .int .i64 fr] w fun e w' => e = .returned (.func (.func 68) #[] #[.pointer (some ⟨w.heap.size + 2, 0, none⟩), .pointer (some ⟨w.heap.size, 0, none⟩)]) ∧ Hid (Boxed w' w.heap.size 3 (.int .i64 fr) ∧ WAS w L st (L.length - st) w') := by
  obtain ⟨o, a, cap, rfl, _⟩ := id hv
  have HV := Lib.hid hv
  have HN := Lib.hid hn
  have HX := Lib.hid hx
  have hmk := run_make_row' (P := Try.prog) 28 27 (.slice none 0 0) 24 Try.underlying28 infoSlR rfl .i64 .i64 L.length (by omega) (by omega)
  clear hv hx
  refine (callsIn_wide (n := 9)).1 ?_
  refine callsIn_of_wp_marks Try.func55 rfl trivial ?_ rfl
  simp only [Try.ntmps55, List.size_toArray, List.length_cons, List.length_nil, Nat.reduceAdd, Nat.reduceSub, Array.replicate_succ, Array.replicate_zero, List.push_toArray, List.append_toArray, List.nil_append, List.cons_append]
  gi_wp2_with fail
  refine ⟨trivial, ?_⟩
  refine (behind_in _ _ _ _ _ _).mono ?_
  rintro e w' ⟨rfl, rfl⟩
  gi_wp2_with fail
  obtain ⟨W0, hW0, hsz, bF0, hI0, bR, bF⟩ : ∃ W0, (((((w.alloc (Obj.cells #[Value.int IntKind.i64 fr] 3)).alloc (Obj.cells (madeCells #[Value.slice none 0 0] L.length) 27)).alloc (Obj.cells #[Value.slice (some { block := w.heap.size + 1, off := 0 }) L.length L.length] 28)).alloc (Obj.cells #[Value.slice o L.length cap] 28)).alloc (Obj.cells #[Value.int IntKind.i64 fr] 3)) = W0 ∧ W0.heap.size = w.heap.size + 5 ∧ Boxed W0 w.heap.size 3 (.int .i64 fr) ∧ WAS w L st 0 W0 ∧ Boxed W0 (w.heap.size + 3) 28 (.slice o L.length cap) ∧ Boxed W0 (w.heap.size + 4) 3 (.int .i64 fr) := by
    obtain ⟨W0, hW0⟩ : ∃ W0, (((((w.alloc (Obj.cells #[Value.int IntKind.i64 fr] 3)).alloc (Obj.cells (madeCells #[Value.slice none 0 0] L.length) 27)).alloc (Obj.cells #[Value.slice (some { block := w.heap.size + 1, off := 0 }) L.length L.length] 28)).alloc (Obj.cells #[Value.slice o L.length cap] 28)).alloc (Obj.cells #[Value.int IntKind.i64 fr] 3)) = W0 := ⟨_, rfl⟩
    have h1 := World.alloc_heap_new (w.alloc (.cells #[Value.int IntKind.i64 fr] 3)) (.cells (madeCells #[Value.slice none 0 0] L.length) 27)
    have h2 := World.alloc_heap_new ((w.alloc (.cells #[Value.int IntKind.i64 fr] 3)).alloc (.cells (madeCells #[Value.slice none 0 0] L.length) 27)) (.cells #[Value.slice (some { block := w.heap.size + 1, off := 0 }) L.length L.length] 28)
    have h3 := World.alloc_heap_new (((w.alloc (.cells #[Value.int IntKind.i64 fr] 3)).alloc (.cells (madeCells #[Value.slice none 0 0] L.length) 27)).alloc (.cells #[Value.slice (some { block := w.heap.size + 1, off := 0 }) L.length L.length] 28)) (.cells #[Value.slice o L.length cap] 28)
    have h4 := World.alloc_heap_new ((((w.alloc (.cells #[Value.int IntKind.i64 fr] 3)).alloc (.cells (madeCells #[Value.slice none 0 0] L.length) 27)).alloc (.cells #[Value.slice (some { block := w.heap.size + 1, off := 0 }) L.length L.length] 28)).alloc (.cells #[Value.slice o L.length cap] 28)) (.cells #[Value.int IntKind.i64 fr] 3)
    simp only [World.size_alloc] at h1 h2 h3 h4
    have hb : Below w.heap.size w W0 := by rw [← hW0]; go_grown
    have k1 : W0.heap[w.heap.size + 1]? = some (.cells (madeCells #[Value.slice none 0 0] L.length) 27 (0, 0)) := by
      rw [← hW0]
      exact (Below.heap_alloc _ _ _ (by simp)).trans ((Below.heap_alloc _ _ _ (by simp)).trans ((Below.heap_alloc _ _ _ (by simp)).trans h1))
    refine ⟨W0, hW0, by rw [← hW0]; simp, by rw [← hW0]; exact ((((Boxed.new w _ _).alloc _).alloc _).alloc _).alloc _, ⟨?_, hb, by rw [← hW0]; simp, _, k1, by simp [madeCells], fun i hi => ⟨fun _ => ?_, fun h1 h2 => absurd h2 (by omega)⟩⟩, ?_, by rw [← hW0]; exact h4⟩
    · rw [← hW0]; exact (Boxed.alloc (W := (((w.alloc (.cells #[Value.int IntKind.i64 fr] 3)).alloc (.cells (madeCells #[Value.slice none 0 0] L.length) 27)).alloc (.cells #[Value.slice (some { block := w.heap.size + 1, off := 0 }) L.length L.length] 28))) h2 _).alloc _
    · simp [madeCells, hi, Nat.mod_one]
    · rw [← hW0]; exact Boxed.alloc (W := ((((w.alloc (.cells #[Value.int IntKind.i64 fr] 3)).alloc (.cells (madeCells #[Value.slice none 0 0] L.length) 27)).alloc (.cells #[Value.slice (some { block := w.heap.size + 1, off := 0 }) L.length L.length] 28)).alloc (.cells #[Value.slice o L.length cap] 28))) h3 _
  rw [hW0]
  clear hW0 hmk
  have SQ := behind1_seq (9 - 1) (by omega) (fun k => k < w.heap.size ∨ k = w.heap.size + 3 ∨ k = w.heap.size + 4) fit L (.slice o L.length cap) fr st hst hs63 (w.heap.size + 3) (w.heap.size + 4) W0
    ((HV.out.imp (P' := fun k => k < w.heap.size ∨ k = w.heap.size + 3 ∨ k = w.heap.size + 4) (fun k hk => .inl hk)).kk (KK.below hI0.2.1)) bR bF (.inr (.inl rfl)) (.inr (.inr rfl))
  have HSZ := Lib.hid hsz
  refine range_ix (by omega) (gf := 69) (lb := #[.pointer (some ⟨w.heap.size + 4, 0, none⟩), .pointer (some ⟨w.heap.size + 3, 0, none⟩)]) rfl (enters_of Try.func69 (by kernel_rfl) rfl)
    SQ (Below.refl _ _) (fun _ _ => rfl)
    (fun k W => WAS w L st k W ∧ Boxed W w.heap.size 3 (.int .i64 fr)) (fun _ _ _ => False) ?hI (fun _ _ _ _ _ hs _ _ => hs) ⟨hI0, bF0⟩
    (fun k v => { tmps := #[Value.slice o L.length cap, Value.int IntKind.i64 fr, undef, Value.pointer (some { block := w.heap.size, off := 0 }), Value.nilFunc, Value.pointer (some { block := w.heap.size + 1 + 1, off := 0 }), .int .i64 ((st + k : Nat) : Int), v, Value.slice o L.length cap,
          Value.int IntKind.i64 ↑L.length, Value.slice (some { block := w.heap.size + 1, off := 0 }) L.length L.length, Value.slice o L.length cap, Value.int IntKind.i64 fr,
          Value.func (Fn.func 69) #[] #[Value.pointer (some { block := w.heap.size + 1 + 1 + 1 + 1, off := 0 }), Value.pointer (some { block := w.heap.size + 1 + 1 + 1, off := 0 })], .int .i64 ((st + k : Nat) : Int), v,
          undef, undef, undef, undef, undef, undef], defers := [] })
    ?hpre ?assign ?body ?done ?stop
  case hI => exact Free.and (WAS.free (by omega)) (fun k W W' row b hg hr => free_boxed (β := Unit) W0.heap.size _ _ (fun _ => _) () W W' row b hg hr)
  case hpre =>
    rintro k v W l r o' _ hl h
    exact h.put hl rfl
  case assign =>
    rintro l' k v W K hK
    have HK := Lib.hid hK
    clear hK
    unfold encB
    generalize st + k = i at *
    gi_wp2_with fail
    exact HK.out
  case body =>
    rintro l' k v W hl' _ hk ⟨hs, hbf⟩ ⟨⟨ov, cv, hv⟩, hft, hr⟩
    subst hv
    have hkl : st + k < L.length := by omega
    have hXm := HX.out _ (lk_mem hkl)
    have HS := Lib.hid hs
    have HCL : Hid (∀ W2, Below W.heap.size W W2 → Calls Try.prog 67 #[.slice ov (lk L (st + k)).length cv] W2 fun e w' => Hid (∃ o c, e = .returned (.slice o (lk L (st + k)).length c) ∧ ow w.heap.size w' (.slice o (lk L (st + k)).length c) (lk L (st + k)) ∧ Below W.heap.size W w')) := Lib.hid fun W2 hW2 =>
      (clone_any _ _ W2 (hr.below hW2) hft hXm).mono fun e w' ⟨o, c, h1, h2⟩ => Lib.hid ⟨o, c, h1, h2.out.1.mono (Nat.le_trans hs.2.1.size hW2.size), hW2.trans (h2.out.2.mono hW2.size)⟩
    have STEP : Hid (∀ U o c, ow w.heap.size U (.slice o (lk L (st + k)).length c) (lk L (st + k)) ∧ Below W.heap.size W U → U.cell? ⟨w.heap.size + 1 + 1, 0, none⟩ = some (.slice (some ⟨w.heap.size + 1, 0, none⟩) L.length L.length) ∧ U.cell? ⟨w.heap.size + 1, st + k, none⟩ = some (.slice none 0 0) ∧ U.frozen? ⟨w.heap.size + 1, st + k, none⟩ = false ∧
        Hid (∀ W', (W' = U.setCell ⟨w.heap.size + 1, st + k, none⟩ (.slice o (lk L (st + k)).length c) ∨ W' = (U.setCell ⟨w.heap.size + 1, st + k, none⟩ (.slice o (lk L (st + k)).length c)).drew) → ownPostN W0.heap.size (fun k => k < w.heap.size ∨ k = w.heap.size + 3 ∨ k = w.heap.size + 4) (fun k W => WAS w L st k W ∧ Boxed W w.heap.size 3 (.int .i64 fr)) (fun _ _ _ => False) k W .normal { tmps := #[], defers := [] } W')) := Lib.hid fun U o c hq => by
      have hsU := (WAS.free (w := w) (L := L) (st := st) (B := w.heap.size) (Nat.le_refl _)).step hs hq.2
      obtain ⟨_, _, _, cur, s4, s5, s6⟩ := id hsU
      have hb1 := hsU.1
      refine ⟨hb1.cell, ?_, by simp [World.frozen?, s4], Lib.hid fun W' hW' => ?_⟩
      · rw [cell_of_row U _ _ cur _ _ s4]
        exact (s6 (st + k) hkl).1 (.inr (Nat.le_refl _))
      · have h1 := hs.set hq.2 hkl hq.1
        have hF := Fr.set (B := fun j => j = w.heap.size + 1) U (w.heap.size + 1) (st + k) (.slice o (lk L (st + k)).length c) rfl
        have h2 := hF.boxed (boxed_below hbf hq.2) (by omega)
        have hko : KeepsOthers W (U.setCell ⟨w.heap.size + 1, st + k, none⟩ (.slice o (lk L (st + k)).length c)) := (keeps_below hq.2).trans (KeepsOthers.setCell _ _ _)
        have hkk : KK (fun k => k < w.heap.size ∨ k = w.heap.size + 3 ∨ k = w.heap.size + 4) W (U.setCell ⟨w.heap.size + 1, st + k, none⟩ (.slice o (lk L (st + k)).length c)) := (KK.below hq.2).trans ⟨hF.size, fun j cs t ro hj hx => hF.2 j _ hx (by omega)⟩
        rcases hW' with rfl | rfl
        · exact ⟨hko.from _, hkk, h1, h2⟩
        · exact ⟨(hko.trans (KeepsOthers.drew _)).from _, hkk.trans (KK.below (Below.refl _ _).drew), (WAS.free (w := w) (L := L) (st := st) (B := w.heap.size) (Nat.le_refl _)).step h1 (Below.refl _ _).drew, boxed_below h2 (Below.refl _ _).drew⟩
    have c5 := hs.1.cell
    have c5d := Boxed.cell (W := W.drew) hs.1
    have hii : ((st + k : Nat) : Int) < (L.length : Int) := by omega
    have HBd : Hid (Below W.heap.size W W.drew) := Lib.hid (Below.refl _ _).drew
    have hmx : Try.prog.follows .mixedOrders = true := by kernel_rfl
    generalize (lk L (st + k)).length = m at *
    generalize lk L (st + k) = X at *
    generalize st + k = i at *
    clear hs hbf hft hr hXm
    gi_wp2_with fail
    gi_region_with_o (refine ⟨trivial, ?_⟩; go_loud (refine (CallsIn.inRound l' (callsIn_wide.2 (HCL.out _ (by first | exact Below.refl _ _ | exact HBd.out)))).mono ?_); rintro e U hq0; obtain ⟨o3, c3, rfl, hq⟩ := hq0.out; obtain ⟨y1, y2, y3, y4⟩ := STEP.out _ _ _ hq; clear hq0)
    all_goals first | exact y4.out _ (.inl rfl) | exact y4.out _ (.inr rfl)
  case done =>
    rintro D W hD ⟨hs, hb⟩ hK
    have hsz := HSZ.out
    have HQ : Hid (Boxed (W.putObj D (.deferred none)) w.heap.size 3 (.int .i64 fr) ∧ WAS w L st (L.length - st) (W.putObj D (.deferred none))) := Lib.hid
      ⟨Boxed.kept hb (grownBy_putObj' W D (.deferred none)) (by intro e; cases e; omega), (WAS.free (w := w) (L := L) (st := st) (B := w.heap.size) (Nat.le_refl _)).put _ hs (by omega) hK rfl⟩
    have HK := Lib.hid hK
    clear hs hb hK
    gi_wp2_with fail
    refine ⟨by simp, .inl ⟨_, _, rfl, run_takeDeferred HK.out, ?_⟩⟩
    exact ⟨_, results_tmp rfl _ _ _, rfl, HQ⟩
  case stop =>
    rintro D c pre W hD hS h
    exact h.elim
end Go.Proofs.Ytbjdbphnccdpbaa
