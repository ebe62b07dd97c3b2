/-
  The program's fault: what is wrong with a value itself.
-/
import Derived.Test.YtdbfpojgaalfmaaDoorDT
import Derived.Test.YtdbfpojgaalfmaaDoorDSh
import Derived.Test.YtdbfpojgaalfmaaDoorShelfB
set_option linter.unusedVariables false
namespace Go.Proofs.YtdbfpojgaalfmaaDoor
open Go.RowKit Go.Shelf

/-- The package variables hold utf8's two tables. -/
def Env (w : World) : Prop := 2 ≤ w.heap.size ∧ Lib.Utf8Tabs 0 1 w
theorem tabs_below {n : Nat} {w w' : World} (h : Lib.Utf8Tabs 0 1 w) (hb : Below n w w') (hn : 2 ≤ n) : Lib.Utf8Tabs 0 1 w' :=
  ⟨fun c hc => (hb.cell (p := ⟨0, c, none⟩) (by simp; omega)).trans (h.1 c hc),
   fun i hi => ⟨(hb.cell (p := ⟨1, 2 * i, none⟩) (by simp; omega)).trans (h.2 i hi).1, (hb.cell (p := ⟨1, 2 * i + 1, none⟩) (by simp; omega)).trans (h.2 i hi).2⟩⟩
theorem Env.below {n : Nat} {w w' : World} (h : Env w) (hb : Below n w w') (hn : 2 ≤ n) : Env w' := ⟨Nat.le_trans h.1 hb.size, tabs_below h.2 hb (by omega)⟩
theorem Env.kb {w w' : World} (h : Env w) (hb : KB w w') : Env w' := h.below hb h.1

set_option maxHeartbeats 1000000 in
theorem valid_any (s : ByteArray) (hs : s.size ≤ maxLen) (w : World) (hE : Env w) : Calls Tryd.prog 87 #[.string s] w fun e w' => e = .returned (.bool (validS s)) ∧ Below w.heap.size w w' := by
  have HV := Lib.hid (Tryd.utf8_ValidString s w (by unfold maxLen at hs; omega) hE.2)
  unfold validS
  generalize Lib.validD s.data.toList = r at *
  clear hE hs
  go_enter Tryd.func87, Tryd.ntmps87
  go_wp2_with (go_at_call 113; refine HV.out.mono ?_; rintro e w5 ⟨rfl, hb5⟩)
  go_ret
  exact ⟨rfl, hb5⟩
set_option maxHeartbeats 1000000 in
theorem noText_any (s : ByteArray) (hs : s.size ≤ maxLen) (w : World) (hE : Env w) : Calls Tryd.prog 89 #[.string s] w fun e w' => e = .returned (.bool (!validS s)) ∧ Below w.heap.size w w' := by
  have HV := Lib.hid (valid_any s hs w hE)
  generalize validS s = r at *
  clear hE hs
  go_enter Tryd.func89, Tryd.ntmps89
  go_wp2_with (go_at_call 87; refine HV.out.mono ?_; rintro e w5 ⟨rfl, hb5⟩)
  go_ret
  exact ⟨rfl, hb5⟩

set_option maxRecDepth 100000 in
set_option maxHeartbeats 2000000 in
/-- slices.IndexFunc of the keys: is there one that is no text? -/
theorem idxNo_any (ks : List ByteArray) (v : Value) (w : World) (hE : Env w) (hl : ks.length ≤ 1000000) (h : isK w ks v) :
    Calls Tryd.prog 114 #[v, .func (.func 89) #[] #[]] w fun e w' => (∃ i : Int, e = .returned (.int .i64 i) ∧ decide (0 ≤ i) = !(ks.all validS)) ∧ Below w.heap.size w w' := by
  obtain ⟨a, cap, ⟨o, rfl, hc1, hc2, ho⟩, hks⟩ := h
  unfold maxLen at hc2
  have HK := Lib.hid hks
  have HE := Lib.hid hE
  obtain ⟨r, hr⟩ : ∃ r, (!(ks.all validS)) = r := ⟨_, rfl⟩
  rw [hr]
  have HR := Lib.hid hr
  have ef : ∀ args w, (callFunc 89 args).run Tryd.prog w = .ok (.enter 89 args) w := enters_of Tryd.func89 (by kernel_rfl) rfl
  clear hks hr hE
  go_enter Tryd.func114, Tryd.ntmps114
  go_wp2_with fail
  go_loopw [8] (fun i wr => ∃ (j : Nat), j ≤ ks.length ∧ i = .int .i64 j ∧ Hid ((ks.take j).all validS = true) ∧ Hid (Below w.heap.size w wr)) (fun i _ => ks.length - (intOf i).toNat)
  case atStart => exact ⟨0, by omega, rfl, Lib.hid rfl, Lib.hid (Below.refl _ _)⟩
  case round =>
    obtain ⟨j, hj, rfl, hA, hB⟩ := hrel
    by_cases hlt : j < ks.length
    · obtain rfl := ho (by omega)
      have hcell := cell_below hB.out _ _ (HK.out j hlt).1
      have HN := Lib.hid (noText_any ks[j] (HK.out j hlt).2 wr (HE.out.below hB.out HE.out.1))
      cases hv : validS ks[j] with
      | false =>
        rw [hv] at HN
        have hr2 : r = true := by
          rw [← HR.out]
          have : ks.all validS = false := by
            rw [Bool.eq_false_iff]
            intro h
            have := List.all_eq_true.1 h _ (List.getElem_mem hlt)
            rw [hv] at this; cases this
          rw [this]; rfl
        have HR2 := Lib.hid hr2
        clear hr2 hv
        generalize ks[j] = s at *
        go_wp2_with (go_at_fn 89; refine HN.out.mono ?_; rintro e w5 ⟨rfl, hb5⟩)
        go_ret
        exact ⟨⟨_, rfl, by rw [HR2.out, decide_eq_true]; omega⟩, hB.out.trans (hb5.mono hB.out.size)⟩
      | true =>
        rw [hv] at HN
        have HA : Hid ((ks.take (j + 1)).all validS = true) := Lib.hid (by rw [List.take_succ_eq_append_getElem hlt, List.all_append, hA.out]; simp [hv])
        clear hv
        generalize ks[j] = s at *
        go_wp2_with (go_at_fn 89; refine HN.out.mono ?_; rintro e w5 ⟨rfl, hb5⟩)
        go_roundw
        case rel => exact ⟨j + 1, by omega, by go_num, HA, Lib.hid (hB.out.trans (hb5.mono hB.out.size))⟩
        case measure => simp [intOf]; omega
    · obtain rfl : j = ks.length := by omega
      have HRES : Hid (r = false) := Lib.hid (by
        have := hA.out
        rw [List.take_of_length_le (Nat.le_refl _)] at this
        rw [← HR.out, this]; rfl)
      go_wp2_with fail
      go_ret
      exact ⟨⟨_, rfl, by rw [HRES.out]; rfl⟩, hB.out⟩

set_option maxHeartbeats 1000000 in
theorem contains_any (ks : List ByteArray) (v : Value) (w : World) (hE : Env w) (hl : ks.length ≤ 1000000) (h : isK w ks v) :
    Calls Tryd.prog 88 #[v, .func (.func 89) #[] #[]] w fun e w' => e = .returned (.bool (!(ks.all validS))) ∧ Below w.heap.size w w' := by
  have HI := Lib.hid (idxNo_any ks v w hE hl h)
  obtain ⟨a, cap, ⟨o, rfl, _⟩, _⟩ := h
  generalize (!(ks.all validS)) = r at *
  clear hE
  go_enter Tryd.func88, Tryd.ntmps88
  go_wp2_with (go_at_call 114; refine HI.out.mono ?_; rintro e w5 ⟨⟨i, rfl, hi⟩, hb5⟩; have HI5 := Lib.hid hi; clear hi)
  go_ret
  exact ⟨ret_bool HI5.out, hb5⟩

theorem isV_keys {w : World} {x : V} {c0 c1 c2 c3 c4 c5 : Value} (h : isV w x (.agg #[c0, c1, c2, c3, c4, c5])) : isK w x.keys c5 := by
  obtain ⟨k, b, n, s, l, ks⟩ := x
  unfold isV at h
  obtain ⟨lv, kv, he, _, _, _, _, h7⟩ := h
  simp only [Value.agg.injEq, Array.mk.injEq, List.cons.injEq, and_true] at he
  obtain ⟨_, _, _, _, _, rfl⟩ := he
  exact h7
theorem isV_num {w : World} {x : V} {k n : Int} {b : Bool} {s : ByteArray} {c4 c5 : Value} (h : isV w x (.agg #[.int .i8 k, .bool b, .int .i64 n, .string s, c4, c5])) : x.kind = k ∧ x.bool = b ∧ x.num = n ∧ x.text = s ∧ s.size ≤ maxLen := by
  obtain ⟨k', b', n', s', l, ks⟩ := x
  unfold isV at h
  obtain ⟨lv, kv, he, _, _, hs, _⟩ := h
  simp only [Value.agg.injEq, Array.mk.injEq, List.cons.injEq, and_true] at he
  obtain ⟨h1, h2, h3, h4, _⟩ := he
  cases h1; cases h2; cases h3; cases h4
  exact ⟨rfl, rfl, rfl, rfl, hs⟩

set_option maxRecDepth 100000 in
set_option maxHeartbeats 4000000 in
/-- What is wrong with a value itself, whatever its parts are. -/
theorem fault_any (x : V) (v : Value) (w : World) (hE : Env w) (hl : x.keys.length ≤ 1000000) (h : isV w x v) :
    Calls Tryd.prog 65 #[v] w fun e w' => e = .returned (.int .i64 (ownW x)) ∧ Below w.heap.size w w' := by
  obtain ⟨k, b, n, s, o, m, c, o2, m2, c2, rfl⟩ := isV_six h
  obtain ⟨e1, e2, e3, e4, hs⟩ := isV_num h
  have hO : ownW x = if plainB x = false then 2 else if fitB n = false then 20 else if validS s = false then 10 else if x.keys.all validS = false then 10 else if onceB x.keys = false then 41 else 0 := by
    unfold ownW fitB
    rw [e3, e4]
    by_cases hf : n < -9007199254740992 ∨ 9007199254740992 < n
    · rw [if_pos hf, if_pos (show decide (-9007199254740992 ≤ n ∧ n ≤ 9007199254740992) = false from decide_eq_false (by omega))]
    · rw [if_neg hf, if_neg (show ¬ decide (-9007199254740992 ≤ n ∧ n ≤ 9007199254740992) = false by rw [decide_eq_true (by omega)]; simp)]
  have P1 : Hid (∀ w1, KB (w.alloc (.cells #[.int .i8 k, .bool b, .int .i64 n, .string s, .slice o m c, .slice o2 m2 c2] 26)) w1 → Calls Tryd.prog 85 #[.agg #[.int .i8 k, .bool b, .int .i64 n, .string s, .slice o m c, .slice o2 m2 c2]] w1 fun e w' => e = .returned (.bool (plainB x)) ∧ KB (w.alloc (.cells #[.int .i8 k, .bool b, .int .i64 n, .string s, .slice o m c, .slice o2 m2 c2] 26)) w') := Lib.hid fun w1 hK => Calls.kb hK (shaped_any x _ w1 (isV_below hK (isV_below kbA h)))
  have P2 : Hid (∀ w1, KB (w.alloc (.cells #[.int .i8 k, .bool b, .int .i64 n, .string s, .slice o m c, .slice o2 m2 c2] 26)) w1 → Calls Tryd.prog 86 #[.int .i64 n] w1 fun e w' => e = .returned (.bool (fitB n)) ∧ KB (w.alloc (.cells #[.int .i8 k, .bool b, .int .i64 n, .string s, .slice o m c, .slice o2 m2 c2] 26)) w') := Lib.hid fun w1 hK => Calls.k0 hK (fits_any n w1)
  have P3 : Hid (∀ w1, KB (w.alloc (.cells #[.int .i8 k, .bool b, .int .i64 n, .string s, .slice o m c, .slice o2 m2 c2] 26)) w1 → Calls Tryd.prog 87 #[.string s] w1 fun e w' => e = .returned (.bool (validS s)) ∧ KB (w.alloc (.cells #[.int .i8 k, .bool b, .int .i64 n, .string s, .slice o m c, .slice o2 m2 c2] 26)) w') := Lib.hid fun w1 hK => Calls.kb hK (valid_any s hs w1 ((hE.kb kbA).kb hK))
  have P4 : Hid (∀ w1, KB (w.alloc (.cells #[.int .i8 k, .bool b, .int .i64 n, .string s, .slice o m c, .slice o2 m2 c2] 26)) w1 → Calls Tryd.prog 88 #[.slice o2 m2 c2, .func (.func 89) #[] #[]] w1 fun e w' => e = .returned (.bool (!(x.keys.all validS))) ∧ KB (w.alloc (.cells #[.int .i8 k, .bool b, .int .i64 n, .string s, .slice o m c, .slice o2 m2 c2] 26)) w') := Lib.hid fun w1 hK => Calls.kb hK (contains_any _ _ w1 ((hE.kb kbA).kb hK) hl (isV_keys (isV_below hK (isV_below kbA h))))
  have P5 : Hid (∀ w1, KB (w.alloc (.cells #[.int .i8 k, .bool b, .int .i64 n, .string s, .slice o m c, .slice o2 m2 c2] 26)) w1 → Calls Tryd.prog 90 #[.slice o2 m2 c2] w1 fun e w' => e = .returned (.bool (!(onceB x.keys))) ∧ KB (w.alloc (.cells #[.int .i8 k, .bool b, .int .i64 n, .string s, .slice o m c, .slice o2 m2 c2] 26)) w') := Lib.hid fun w1 hK => Calls.kb hK (twice_any _ _ w1 hl (isV_keys (isV_below hK (isV_below kbA h))))
  have HB0 : Hid (KB w (w.alloc (.cells #[.int .i8 k, .bool b, .int .i64 n, .string s, .slice o m c, .slice o2 m2 c2] 26))) := Lib.hid kbA
  have HC : Hid (∀ w1, KB (w.alloc (.cells #[.int .i8 k, .bool b, .int .i64 n, .string s, .slice o m c, .slice o2 m2 c2] 26)) w1 → w1.cell? ⟨w.heap.size, 0, none⟩ = some (.int .i8 k) ∧ w1.cell? ⟨w.heap.size, 1, none⟩ = some (.bool b) ∧ w1.cell? ⟨w.heap.size, 2, none⟩ = some (.int .i64 n) ∧ w1.cell? ⟨w.heap.size, 3, none⟩ = some (.string s) ∧ w1.cell? ⟨w.heap.size, 4, none⟩ = some (.slice o m c) ∧ w1.cell? ⟨w.heap.size, 5, none⟩ = some (.slice o2 m2 c2)) := Lib.hid fun w1 hK =>
    ⟨cell_below hK _ _ (by simp), cell_below hK _ _ (by simp), cell_below hK _ _ (by simp), cell_below hK _ _ (by simp), cell_below hK _ _ (by simp), cell_below hK _ _ (by simp)⟩
  obtain ⟨r, hr⟩ : ∃ r, ownW x = r := ⟨_, rfl⟩
  rw [hr] at hO ⊢
  generalize plainB x = p1 at *
  generalize fitB n = p2 at *
  generalize validS s = p3 at *
  generalize x.keys.all validS = p4 at *
  generalize onceB x.keys = p5 at *
  have HO := Lib.hid hO
  clear h hE hl hr e1 e2 e3 e4 hs hO
  go_enter Tryd.func65, Tryd.ntmps65
  go_wp2_with fail
  generalize hW1 : w.alloc (.cells #[.int .i8 k, .bool b, .int .i64 n, .string s, .slice o m c, .slice o2 m2 c2] 26) = W1 at *
  clear hW1
  refine (P1.out W1 (Below.refl _ _)).mono ?_
  clear P1
  rintro e w1 ⟨rfl, hb1⟩
  obtain ⟨r0, r1, r2, r3, r4, r5⟩ := HC.out w1 hb1
  have HB1 := Lib.hid hb1
  clear hb1 r0 r1 r3 r4 r5
  cases p1 with
  | false =>
    go_wp2_with fail
    go_ret
    exact ⟨ret_int (by rw [HO.out]; rfl), HB0.out.trans (HB1.out.mono HB0.out.size)⟩
  | true =>
  go_wp2_with fail
  refine (P2.out w1 HB1.out).mono ?_
  clear P2 HB1 r2
  rintro e w2 ⟨rfl, hb2⟩
  obtain ⟨r0, r1, r2, r3, r4, r5⟩ := HC.out w2 hb2
  have HB2 := Lib.hid hb2
  clear hb2 r0 r1 r2 r4 r5
  cases p2 with
  | false =>
    go_wp2_with fail
    go_ret
    exact ⟨ret_int (by rw [HO.out]; rfl), HB0.out.trans (HB2.out.mono HB0.out.size)⟩
  | true =>
  go_wp2_with fail
  refine (P3.out w2 HB2.out).mono ?_
  clear P3 HB2 r3
  rintro e w3 ⟨rfl, hb3⟩
  obtain ⟨r0, r1, r2, r3, r4, r5⟩ := HC.out w3 hb3
  have HB3 := Lib.hid hb3
  clear hb3 r0 r1 r2 r3 r4
  cases p3 with
  | false =>
    go_wp2_with fail
    go_ret
    exact ⟨ret_int (by rw [HO.out]; rfl), HB0.out.trans (HB3.out.mono HB0.out.size)⟩
  | true =>
  go_wp2_with fail
  refine (P4.out w3 HB3.out).mono ?_
  clear P4 HB3 r5
  rintro e w4 ⟨rfl, hb4⟩
  obtain ⟨r0, r1, r2, r3, r4, r5⟩ := HC.out w4 hb4
  have HB4 := Lib.hid hb4
  clear hb4 r0 r1 r2 r3 r4
  cases p4 with
  | false =>
    go_wp2_with fail
    go_ret
    exact ⟨ret_int (by rw [HO.out]; rfl), HB0.out.trans (HB4.out.mono HB0.out.size)⟩
  | true =>
  go_wp2_with fail
  refine (P5.out w4 HB4.out).mono ?_
  clear P5 HB4 r5
  rintro e w5 ⟨rfl, hb5⟩
  have HB5 := Lib.hid hb5
  clear hb5
  cases p5 with
  | false =>
    go_wp2_with fail
    go_ret
    exact ⟨ret_int (by rw [HO.out]; rfl), HB0.out.trans (HB5.out.mono HB0.out.size)⟩
  | true =>
    go_wp2_with fail
    go_ret
    exact ⟨ret_int (by rw [HO.out]; rfl), HB0.out.trans (HB5.out.mono HB0.out.size)⟩
end Go.Proofs.YtdbfpojgaalfmaaDoor
