/-
  The program's fault: what is wrong with a value itself. · The program's wrong: why a value may not be.
-/
import Derived.Test.YtllkcldckehipaaGreatDoorGF
import Derived.Test.YtllkcldckehipaaGreatDoorShelfB
import Derived.Test.YtllkcldckehipaaGreatDoorGE
set_option linter.unusedVariables false
set_option linter.unusedSimpArgs false
namespace Go.Proofs.YtllkcldckehipaaGreatDoor
open Go.RowKit Go.Shelf

/-- The package variables hold utf8's two tables. -/
def Env (w : World) : Prop := 2 ≤ w.heap.size ∧ Lib.Utf8Tabs 0 1 w
theorem tabs_below {n : Nat} {w w' : World} (h : Lib.Utf8Tabs 0 1 w) (hb : Below n w w') (hn : 2 ≤ n) : Lib.Utf8Tabs 0 1 w' :=
  ⟨fun c hc => (hb.cell (p := ⟨0, c, none⟩) (by simp; omega)).trans (h.1 c hc),
   fun i hi => ⟨(hb.cell (p := ⟨1, 2 * i, none⟩) (by simp; omega)).trans (h.2 i hi).1, (hb.cell (p := ⟨1, 2 * i + 1, none⟩) (by simp; omega)).trans (h.2 i hi).2⟩⟩
theorem Env.below {n : Nat} {w w' : World} (h : Env w) (hb : Below n w w') (hn : 2 ≤ n) : Env w' := ⟨Nat.le_trans h.1 hb.size, tabs_below h.2 hb (by omega)⟩
theorem Env.kb {w w' : World} (h : Env w) (hb : KB w w') : Env w' := h.below hb h.1

set_option maxHeartbeats 1000000 in
theorem valid_any (s : ByteArray) (hs : s.size ≤ maxLen) (w : World) (hE : Env w) : Calls Tryz.prog 27 #[.string s] w fun e w' => e = .returned (.bool (validS s)) ∧ Below w.heap.size w w' := by
  have HV := Lib.hid (Tryz.utf8_ValidString s w (by unfold maxLen at hs; omega) hE.2)
  unfold validS
  generalize Lib.validD s.data.toList = r at *
  clear hE hs
  go_enter Tryz.func27, Tryz.ntmps27
  go_wp2_with (go_at_call 43; refine HV.out.mono ?_; rintro e w5 ⟨rfl, hb5⟩)
  go_ret
  exact ⟨rfl, hb5⟩
set_option maxHeartbeats 1000000 in
theorem noText_any (s : ByteArray) (hs : s.size ≤ maxLen) (w : World) (hE : Env w) : Calls Tryz.prog 82 #[.string s] w fun e w' => e = .returned (.bool (!validS s)) ∧ Below w.heap.size w w' := by
  have HV := Lib.hid (valid_any s hs w hE)
  generalize validS s = r at *
  clear hE hs
  go_enter Tryz.func82, Tryz.ntmps82
  go_wp2_with (go_at_call 27; refine HV.out.mono ?_; rintro e w5 ⟨rfl, hb5⟩)
  go_ret
  exact ⟨rfl, hb5⟩

set_option maxRecDepth 100000 in
set_option maxHeartbeats 2000000 in
/-- slices.IndexFunc of the keys: is there one that is no text? -/
theorem idxNo_any (ks : List ByteArray) (v : Value) (w : World) (hE : Env w) (hl : ks.length ≤ 1000000) (h : isK w ks v) :
    Calls Tryz.prog 96 #[v, .func (.func 82) #[] #[]] w fun e w' => (∃ i : Int, e = .returned (.int .i64 i) ∧ decide (0 ≤ i) = !(ks.all validS)) ∧ Below w.heap.size w w' := by
  obtain ⟨a, cap, ⟨o, rfl, hc1, hc2, ho⟩, hks⟩ := h
  unfold maxLen at hc2
  have HK := Lib.hid hks
  have HE := Lib.hid hE
  obtain ⟨r, hr⟩ : ∃ r, (!(ks.all validS)) = r := ⟨_, rfl⟩
  rw [hr]
  have HR := Lib.hid hr
  have ef : ∀ args w, (callFunc 82 args).run Tryz.prog w = .ok (.enter 82 args) w := enters_of Tryz.func82 (by kernel_rfl) rfl
  clear hks hr hE
  go_enter Tryz.func96, Tryz.ntmps96
  go_wp2_with fail
  go_loopw [8] (fun i wr => ∃ (j : Nat), j ≤ ks.length ∧ i = .int .i64 j ∧ Hid ((ks.take j).all validS = true) ∧ Hid (Below w.heap.size w wr)) (fun i _ => ks.length - (intOf i).toNat)
  case atStart => exact ⟨0, by omega, rfl, Lib.hid rfl, Lib.hid (Below.refl _ _)⟩
  case round =>
    obtain ⟨j, hj, rfl, hA, hB⟩ := hrel
    by_cases hlt : j < ks.length
    · obtain rfl := ho (by omega)
      have hcell := cell_below hB.out _ _ (HK.out j hlt).1
      have HN := Lib.hid (noText_any ks[j] (HK.out j hlt).2 wr (HE.out.below hB.out HE.out.1))
      cases hv : validS ks[j] with
      | false =>
        rw [hv] at HN
        have hr2 : r = true := by
          rw [← HR.out]
          have : ks.all validS = false := by
            rw [Bool.eq_false_iff]
            intro h
            have := List.all_eq_true.1 h _ (List.getElem_mem hlt)
            rw [hv] at this; cases this
          rw [this]; rfl
        have HR2 := Lib.hid hr2
        clear hr2 hv
        generalize ks[j] = s at *
        go_wp2_with (go_at_fn 82; refine HN.out.mono ?_; rintro e w5 ⟨rfl, hb5⟩)
        go_ret
        exact ⟨⟨_, rfl, by rw [HR2.out, decide_eq_true]; omega⟩, hB.out.trans (hb5.mono hB.out.size)⟩
      | true =>
        rw [hv] at HN
        have HA : Hid ((ks.take (j + 1)).all validS = true) := Lib.hid (by rw [List.take_succ_eq_append_getElem hlt, List.all_append, hA.out]; simp [hv])
        clear hv
        generalize ks[j] = s at *
        go_wp2_with (go_at_fn 82; refine HN.out.mono ?_; rintro e w5 ⟨rfl, hb5⟩)
        go_roundw
        case rel => exact ⟨j + 1, by omega, by go_num, HA, Lib.hid (hB.out.trans (hb5.mono hB.out.size))⟩
        case measure => simp [intOf]; omega
    · obtain rfl : j = ks.length := by omega
      have HRES : Hid (r = false) := Lib.hid (by
        have := hA.out
        rw [List.take_of_length_le (Nat.le_refl _)] at this
        rw [← HR.out, this]; rfl)
      go_wp2_with fail
      go_ret
      exact ⟨⟨_, rfl, by rw [HRES.out]; rfl⟩, hB.out⟩

set_option maxHeartbeats 1000000 in
theorem contains_any (ks : List ByteArray) (v : Value) (w : World) (hE : Env w) (hl : ks.length ≤ 1000000) (h : isK w ks v) :
    Calls Tryz.prog 81 #[v, .func (.func 82) #[] #[]] w fun e w' => e = .returned (.bool (!(ks.all validS))) ∧ Below w.heap.size w w' := by
  have HI := Lib.hid (idxNo_any ks v w hE hl h)
  obtain ⟨a, cap, ⟨o, rfl, _⟩, _⟩ := h
  generalize (!(ks.all validS)) = r at *
  clear hE
  go_enter Tryz.func81, Tryz.ntmps81
  go_wp2_with (go_at_call 96; refine HI.out.mono ?_; rintro e w5 ⟨⟨i, rfl, hi⟩, hb5⟩; have HI5 := Lib.hid hi; clear hi)
  go_ret
  exact ⟨ret_bool HI5.out, hb5⟩

theorem isV_keys {w : World} {x : V} {c0 c1 c2 c3 c4 c5 : Value} (h : isV w x (.agg #[c0, c1, c2, c3, c4, c5])) : isK w x.keys c5 := by
  obtain ⟨k, b, n, s, l, ks⟩ := x
  unfold isV at h
  obtain ⟨lv, kv, he, _, _, _, _, h7⟩ := h
  simp only [Value.agg.injEq, Array.mk.injEq, List.cons.injEq, and_true] at he
  obtain ⟨_, _, _, _, _, rfl⟩ := he
  exact h7
theorem isV_num {w : World} {x : V} {k n : Int} {b : Bool} {s : ByteArray} {c4 c5 : Value} (h : isV w x (.agg #[.int .i8 k, .bool b, .int .i64 n, .string s, c4, c5])) : x.kind = k ∧ x.bool = b ∧ x.num = n ∧ x.text = s ∧ s.size ≤ maxLen := by
  obtain ⟨k', b', n', s', l, ks⟩ := x
  unfold isV at h
  obtain ⟨lv, kv, he, _, _, hs, _⟩ := h
  simp only [Value.agg.injEq, Array.mk.injEq, List.cons.injEq, and_true] at he
  obtain ⟨h1, h2, h3, h4, _⟩ := he
  cases h1; cases h2; cases h3; cases h4
  exact ⟨rfl, rfl, rfl, rfl, hs⟩

set_option maxRecDepth 100000 in
set_option maxHeartbeats 4000000 in
/-- What is wrong with a value itself, whatever its parts are. -/
theorem fault_any (x : V) (v : Value) (w : World) (hE : Env w) (hl : x.keys.length ≤ 1000000) (h : isV w x v) :
    Calls Tryz.prog 60 #[v] w fun e w' => e = .returned (.int .i64 (ownW x)) ∧ Below w.heap.size w w' := by
  obtain ⟨k, b, n, s, o, m, c, o2, m2, c2, rfl⟩ := isV_six h
  obtain ⟨e1, e2, e3, e4, hs⟩ := isV_num h
  have hO : ownW x = if plainB x = false then 2 else if fitB n = false then 20 else if validS s = false then 10 else if x.keys.all validS = false then 10 else if onceB x.keys = false then 41 else 0 := by
    unfold ownW fitB
    rw [e3, e4]
    by_cases hf : n < -9007199254740992 ∨ 9007199254740992 < n
    · rw [if_pos hf, if_pos (show decide (-9007199254740992 ≤ n ∧ n ≤ 9007199254740992) = false from decide_eq_false (by omega))]
    · rw [if_neg hf, if_neg (show ¬ decide (-9007199254740992 ≤ n ∧ n ≤ 9007199254740992) = false by rw [decide_eq_true (by omega)]; simp)]
  have P1 : Hid (∀ w1, KB (w.alloc (.cells #[.int .i8 k, .bool b, .int .i64 n, .string s, .slice o m c, .slice o2 m2 c2] 26)) w1 → Calls Tryz.prog 79 #[.agg #[.int .i8 k, .bool b, .int .i64 n, .string s, .slice o m c, .slice o2 m2 c2]] w1 fun e w' => e = .returned (.bool (plainB x)) ∧ KB (w.alloc (.cells #[.int .i8 k, .bool b, .int .i64 n, .string s, .slice o m c, .slice o2 m2 c2] 26)) w') := Lib.hid fun w1 hK => Calls.kb hK (shaped_any x _ w1 (isV_below hK (isV_below kbA h)))
  have P2 : Hid (∀ w1, KB (w.alloc (.cells #[.int .i8 k, .bool b, .int .i64 n, .string s, .slice o m c, .slice o2 m2 c2] 26)) w1 → Calls Tryz.prog 80 #[.int .i64 n] w1 fun e w' => e = .returned (.bool (fitB n)) ∧ KB (w.alloc (.cells #[.int .i8 k, .bool b, .int .i64 n, .string s, .slice o m c, .slice o2 m2 c2] 26)) w') := Lib.hid fun w1 hK => Calls.k0 hK (fits_any n w1)
  have P3 : Hid (∀ w1, KB (w.alloc (.cells #[.int .i8 k, .bool b, .int .i64 n, .string s, .slice o m c, .slice o2 m2 c2] 26)) w1 → Calls Tryz.prog 27 #[.string s] w1 fun e w' => e = .returned (.bool (validS s)) ∧ KB (w.alloc (.cells #[.int .i8 k, .bool b, .int .i64 n, .string s, .slice o m c, .slice o2 m2 c2] 26)) w') := Lib.hid fun w1 hK => Calls.kb hK (valid_any s hs w1 ((hE.kb kbA).kb hK))
  have P4 : Hid (∀ w1, KB (w.alloc (.cells #[.int .i8 k, .bool b, .int .i64 n, .string s, .slice o m c, .slice o2 m2 c2] 26)) w1 → Calls Tryz.prog 81 #[.slice o2 m2 c2, .func (.func 82) #[] #[]] w1 fun e w' => e = .returned (.bool (!(x.keys.all validS))) ∧ KB (w.alloc (.cells #[.int .i8 k, .bool b, .int .i64 n, .string s, .slice o m c, .slice o2 m2 c2] 26)) w') := Lib.hid fun w1 hK => Calls.kb hK (contains_any _ _ w1 ((hE.kb kbA).kb hK) hl (isV_keys (isV_below hK (isV_below kbA h))))
  have P5 : Hid (∀ w1, KB (w.alloc (.cells #[.int .i8 k, .bool b, .int .i64 n, .string s, .slice o m c, .slice o2 m2 c2] 26)) w1 → Calls Tryz.prog 83 #[.slice o2 m2 c2] w1 fun e w' => e = .returned (.bool (!(onceB x.keys))) ∧ KB (w.alloc (.cells #[.int .i8 k, .bool b, .int .i64 n, .string s, .slice o m c, .slice o2 m2 c2] 26)) w') := Lib.hid fun w1 hK => Calls.kb hK (twice_any _ _ w1 hl (isV_keys (isV_below hK (isV_below kbA h))))
  have HB0 : Hid (KB w (w.alloc (.cells #[.int .i8 k, .bool b, .int .i64 n, .string s, .slice o m c, .slice o2 m2 c2] 26))) := Lib.hid kbA
  have HC : Hid (∀ w1, KB (w.alloc (.cells #[.int .i8 k, .bool b, .int .i64 n, .string s, .slice o m c, .slice o2 m2 c2] 26)) w1 → w1.cell? ⟨w.heap.size, 0, none⟩ = some (.int .i8 k) ∧ w1.cell? ⟨w.heap.size, 1, none⟩ = some (.bool b) ∧ w1.cell? ⟨w.heap.size, 2, none⟩ = some (.int .i64 n) ∧ w1.cell? ⟨w.heap.size, 3, none⟩ = some (.string s) ∧ w1.cell? ⟨w.heap.size, 4, none⟩ = some (.slice o m c) ∧ w1.cell? ⟨w.heap.size, 5, none⟩ = some (.slice o2 m2 c2)) := Lib.hid fun w1 hK =>
    ⟨cell_below hK _ _ (by simp), cell_below hK _ _ (by simp), cell_below hK _ _ (by simp), cell_below hK _ _ (by simp), cell_below hK _ _ (by simp), cell_below hK _ _ (by simp)⟩
  obtain ⟨r, hr⟩ : ∃ r, ownW x = r := ⟨_, rfl⟩
  rw [hr] at hO ⊢
  generalize plainB x = p1 at *
  generalize fitB n = p2 at *
  generalize validS s = p3 at *
  generalize x.keys.all validS = p4 at *
  generalize onceB x.keys = p5 at *
  have HO := Lib.hid hO
  clear h hE hl hr e1 e2 e3 e4 hs hO
  go_enter Tryz.func60, Tryz.ntmps60
  go_wp2_with fail
  generalize hW1 : w.alloc (.cells #[.int .i8 k, .bool b, .int .i64 n, .string s, .slice o m c, .slice o2 m2 c2] 26) = W1 at *
  clear hW1
  refine (P1.out W1 (Below.refl _ _)).mono ?_
  clear P1
  rintro e w1 ⟨rfl, hb1⟩
  obtain ⟨r0, r1, r2, r3, r4, r5⟩ := HC.out w1 hb1
  have HB1 := Lib.hid hb1
  clear hb1 r0 r1 r3 r4 r5
  cases p1 with
  | false =>
    go_wp2_with fail
    go_ret
    exact ⟨ret_int (by rw [HO.out]; rfl), HB0.out.trans (HB1.out.mono HB0.out.size)⟩
  | true =>
  go_wp2_with fail
  refine (P2.out w1 HB1.out).mono ?_
  clear P2 HB1 r2
  rintro e w2 ⟨rfl, hb2⟩
  obtain ⟨r0, r1, r2, r3, r4, r5⟩ := HC.out w2 hb2
  have HB2 := Lib.hid hb2
  clear hb2 r0 r1 r2 r4 r5
  cases p2 with
  | false =>
    go_wp2_with fail
    go_ret
    exact ⟨ret_int (by rw [HO.out]; rfl), HB0.out.trans (HB2.out.mono HB0.out.size)⟩
  | true =>
  go_wp2_with fail
  refine (P3.out w2 HB2.out).mono ?_
  clear P3 HB2 r3
  rintro e w3 ⟨rfl, hb3⟩
  obtain ⟨r0, r1, r2, r3, r4, r5⟩ := HC.out w3 hb3
  have HB3 := Lib.hid hb3
  clear hb3 r0 r1 r2 r3 r4
  cases p3 with
  | false =>
    go_wp2_with fail
    go_ret
    exact ⟨ret_int (by rw [HO.out]; rfl), HB0.out.trans (HB3.out.mono HB0.out.size)⟩
  | true =>
  go_wp2_with fail
  refine (P4.out w3 HB3.out).mono ?_
  clear P4 HB3 r5
  rintro e w4 ⟨rfl, hb4⟩
  obtain ⟨r0, r1, r2, r3, r4, r5⟩ := HC.out w4 hb4
  have HB4 := Lib.hid hb4
  clear hb4 r0 r1 r2 r3 r4
  cases p4 with
  | false =>
    go_wp2_with fail
    go_ret
    exact ⟨ret_int (by rw [HO.out]; rfl), HB0.out.trans (HB4.out.mono HB0.out.size)⟩
  | true =>
  go_wp2_with fail
  refine (P5.out w4 HB4.out).mono ?_
  clear P5 HB4 r5
  rintro e w5 ⟨rfl, hb5⟩
  have HB5 := Lib.hid hb5
  clear hb5
  cases p5 with
  | false =>
    go_wp2_with fail
    go_ret
    exact ⟨ret_int (by rw [HO.out]; rfl), HB0.out.trans (HB5.out.mono HB0.out.size)⟩
  | true =>
    go_wp2_with fail
    go_ret
    exact ⟨ret_int (by rw [HO.out]; rfl), HB0.out.trans (HB5.out.mono HB0.out.size)⟩
end Go.Proofs.YtllkcldckehipaaGreatDoor

namespace Go.Proofs.YtllkcldckehipaaGreatDoor
open Go.RowKit Go.Shelf
attribute [local go_sem] Oper.semAt_some

/-- The first that is not 0. -/
def firstNZ : List Int → Int | [] => 0 | e :: t => if e = 0 then firstNZ t else e
theorem firstNZ_app : ∀ (a b : List Int), firstNZ (a ++ b) = if firstNZ a = 0 then firstNZ b else firstNZ a
  | [], b => by simp [firstNZ]
  | e :: t, b => by
    have ih := firstNZ_app t b
    by_cases h : e = 0
    · simp [firstNZ, h, ih]
    · simp [firstNZ, h]
mutual
theorem firstNZ_walk : ∀ x : V, firstNZ ((walkV x).map ownW) = wrongV x
  | .mk k b n s l ks => by
    rw [walkV, List.map_cons, firstNZ, firstNZ_walks l, wrongV]
theorem firstNZ_walks : ∀ l : List V, firstNZ ((walkVs l).map ownW) = wrongVs l
  | [] => by simp [walkVs, firstNZ, wrongVs]
  | x :: t => by
    rw [walkVs, List.map_append, firstNZ_app, firstNZ_walk x, firstNZ_walks t, wrongVs]
end
/-- Why a value may not be; 0: it may. -/
noncomputable def pwrongV (x : V) : Int := if 24 < depthV x then 30 else wrongV x
/-- No row of keys is too long. -/
def fineV (x : V) : Prop := ∀ y ∈ walkV x, y.keys.length ≤ 3000

set_option maxRecDepth 100000 in
set_option maxHeartbeats 8000000 in
theorem pwrong_any (x : V) (v : Value) (w : World) (hE : Env w) (hM : sizeV x ≤ 1000000) (hF : fineV x) (h : isV w x v) :
    Calls Tryz.prog 45 #[v] w fun e w' => e = .returned (.int .i64 (pwrongV x)) ∧ Below w.heap.size w w' := by
  have hwl := walk_le x
  have HX := Lib.hid h
  have HM : Hid ((walkV x).length ≤ 1000000) := Lib.hid (by omega)
  have HF := Lib.hid hF
  have HE := Lib.hid hE
  have HW := Lib.hid (firstNZ_walk x)
  obtain ⟨k, b, n, s, o, m, c, o2, m2, c2, rfl⟩ := isV_six h
  obtain ⟨z, hz⟩ : ∃ z, min (depthV x) 25 = z := ⟨_, rfl⟩
  have HI : Hid (∀ w1, KB w w1 → Calls Tryz.prog 58 #[.agg #[.int .i8 k, .bool b, .int .i64 n, .string s, .slice o m c, .slice o2 m2 c2], .int .i64 24] w1 fun e w' => e = .returned (.int .i64 z) ∧ Below w1.heap.size w1 w') := Lib.hid fun w1 hK => by
    have := pdepth_any 24 x _ w1 (by omega) hM (isV_below hK h)
    rw [show min (depthV x) (24 + 1) = z from hz] at this
    exact this
  obtain ⟨r, hr⟩ : ∃ r, pwrongV x = r := ⟨_, rfl⟩
  rw [hr]
  by_cases hd : 24 < depthV x
  · have hzz : (24 : Int) < (z : Int) := by omega
    have HR : Hid (r = 30) := Lib.hid (by rw [← hr, pwrongV, if_pos hd])
    have HB0 : Hid (KB w ((w.alloc (.cells #[.int .i8 k, .bool b, .int .i64 n, .string s, .slice o m c, .slice o2 m2 c2] 26)).alloc (.cells #[.int .i64 0] 29))) := Lib.hid (by unfold KB; go_grown)
    have bR := Boxed.new (w.alloc (.cells #[.int .i8 k, .bool b, .int .i64 n, .string s, .slice o m c, .slice o2 m2 c2] 26)) 29 (.int .i64 0)
    rw [World.size_alloc] at bR
    clear h hE hM hF hz hr hd hwl
    go_enter Tryz.func45, Tryz.ntmps45
    go_wp2_with fail
    generalize hW1 : (w.alloc (.cells #[.int .i8 k, .bool b, .int .i64 n, .string s, .slice o m c, .slice o2 m2 c2] 26)).alloc (.cells #[.int .i64 0] 29) = W1 at *
    clear hW1
    refine (HI.out W1 HB0.out).mono ?_
    rintro e w5 ⟨rfl, hb5⟩
    have b5 := bR.kept (grown_bel hb5) (by simp)
    have f5 := b5.frozen
    have e5 := b5.cell
    have d5 := (b5.set (.int .i64 30)).cell
    have HB5 := Lib.hid (HB0.out.trans (hb5.mono HB0.out.size))
    clear hb5 b5 bR
    go_wp2_with fail
    refine bodyPost_ret (v := .int .i64 30) (by simp [results, Tryz.results45, go_sem, d5]) rfl ⟨ret_int HR.out.symm, ?_⟩
    exact HB5.out.setCell (p := ⟨w.heap.size + 1, 0, none⟩) (by simp) _
  · have hzz : decide ((24 : Int) < (z : Int)) = false := decide_eq_false (by omega)
    have hzz2 : decide (24 < z) = false := decide_eq_false (by omega)
    have HR : Hid (r = wrongV x) := Lib.hid (by rw [← hr, pwrongV, if_neg hd])
    have hB0 : KB w ((w.alloc (.cells #[.int .i8 k, .bool b, .int .i64 n, .string s, .slice o m c, .slice o2 m2 c2] 26)).alloc (.cells #[.int .i64 0] 29)) := by unfold KB; go_grown
    have bR := Boxed.new (w.alloc (.cells #[.int .i8 k, .bool b, .int .i64 n, .string s, .slice o m c, .slice o2 m2 c2] 26)) 29 (.int .i64 0)
    have bX : ((w.alloc (.cells #[.int .i8 k, .bool b, .int .i64 n, .string s, .slice o m c, .slice o2 m2 c2] 26)).alloc (.cells #[.int .i64 0] 29)).heap[w.heap.size]? = some (.cells #[.int .i8 k, .bool b, .int .i64 n, .string s, .slice o m c, .slice o2 m2 c2] 26 (0, 0)) := (Below.heap_alloc _ _ _ (by simp)).trans (World.alloc_heap_new w _)
    have hs2 : ((w.alloc (.cells #[.int .i8 k, .bool b, .int .i64 n, .string s, .slice o m c, .slice o2 m2 c2] 26)).alloc (.cells #[.int .i64 0] 29)).heap.size = w.heap.size + 2 := by simp
    rw [World.size_alloc] at bR
    clear h hE hM hF hz hr hd hwl
    refine (callsIn_wide (n := 9)).1 ?_
    refine callsIn_of_wp_marks Tryz.func45 rfl trivial ?_ rfl
    simp only [Tryz.ntmps45, List.size_toArray, List.length_cons, List.length_nil, Nat.reduceAdd, Nat.reduceSub, Array.replicate_succ, Array.replicate_zero, List.push_toArray, List.append_toArray, List.nil_append, List.cons_append]
    gi_wp2_with fail
    generalize hW1 : (w.alloc (.cells #[.int .i8 k, .bool b, .int .i64 n, .string s, .slice o m c, .slice o2 m2 c2] 26)).alloc (.cells #[.int .i64 0] 29) = W1 at *
    clear hW1
    refine ⟨trivial, ?_⟩
    refine (callsIn_wide.2 (HI.out W1 hB0)).mono ?_
    rintro e w5 ⟨rfl, hb5⟩
    have b5 := bR.kept (grown_bel hb5) (by simp)
    have x5 := (hb5.block w.heap.size (by omega)).trans bX
    have hz5 := hb5.size
    have hB5 : Below w.heap.size w w5 := hB0.trans (hb5.mono hB0.size)
    obtain ⟨r0, r1, r2, r3, r4, r5⟩ := six_cells x5
    have X5 := Lib.hid b5
    have HB5 := Lib.hid hB5
    clear hb5 bR bX hB0 x5 b5 hB5
    gi_wp2_with fail
    refine ⟨trivial, ?_⟩
    refine (all_in _ _ _ _ _ _ _ _ _ _ _ _ rfl _).mono ?_
    rintro e w' ⟨rfl, rfl⟩
    gi_wp2_with fail
    have hz5' := HB5.out.size
    have hB6 : Below w.heap.size w (w5.alloc (.cells #[.int .i8 k, .bool b, .int .i64 n, .string s, .slice o m c, .slice o2 m2 c2] 26)) := HB5.out.alloc hz5' _
    have x6 := World.alloc_heap_new w5 (.cells #[.int .i8 k, .bool b, .int .i64 n, .string s, .slice o m c, .slice o2 m2 c2] 26)
    have b6 := X5.out.alloc (.cells #[.int .i8 k, .bool b, .int .i64 n, .string s, .slice o m c, .slice o2 m2 c2] 26)
    have hs6 : (w5.alloc (.cells #[.int .i8 k, .bool b, .int .i64 n, .string s, .slice o m c, .slice o2 m2 c2] 26)).heap.size = w5.heap.size + 1 := by simp
    clear r0 r1 r2 r3 r4 r5 hzz hzz2
    generalize hW6 : w5.alloc (.cells #[.int .i8 k, .bool b, .int .i64 n, .string s, .slice o m c, .slice o2 m2 c2] 26) = W6 at *
    clear hW6
    refine range_own (by omega) (gf := 78) (lb := #[.pointer (some ⟨w5.heap.size, 0, none⟩)]) rfl (enters_of Tryz.func78 (by kernel_rfl) rfl)
      (all_seq (9 - 1) (by omega) w (w.heap.size + 2) (fun y => y.keys.length ≤ 3000) x _ HX.out HF.out HM.out w5.heap.size W6 hB6 (by omega) (by omega) _ rfl x6) kc_t (kc_b (by omega)) (Below.refl _ _) (fun _ => rfl)
      (fun pre W => Boxed W (w.heap.size + 1) 29 (.int .i64 0) ∧ (Below w.heap.size w W ∧ firstNZ (pre.map fun y => ownW y.1.1) = 0))
      (fun c pre W => c = .ret ∧ (Boxed W (w.heap.size + 1) 29 (.int .i64 (firstNZ (pre.map fun y => ownW y.1.1))) ∧ (Below w.heap.size w W ∧ firstNZ (pre.map fun y => ownW y.1.1) ≠ 0)))
      ?hI ?hIx ?h0
      (fun x a' W => ∃ (Bx : Nat) (k' : Int) (b' : Bool) (n' : Int) (s' : ByteArray) (o1 : Option Addr) (m1 p1 : Nat) (o3 : Option Addr) (m3 p3 : Nat), x.1.2 = .agg #[.int .i8 k', .bool b', .int .i64 n', .string s', .slice o1 m1 p1, .slice o3 m3 p3] ∧ W.heap[Bx]? = some (.cells #[.int .i8 k', .bool b', .int .i64 n', .string s', .slice o1 m1 p1, .slice o3 m3 p3] 26 (0, 0)) ∧ a' = {
        tmps := #[.agg #[.int .i8 k, .bool b, .int .i64 n, .string s, .slice o m c, .slice o2 m2 c2], .pointer (some ⟨w.heap.size, 0, none⟩), .pointer (some ⟨w.heap.size + 1, 0, none⟩), .pointer (some ⟨Bx, 0, none⟩), undef, .agg #[.int .i8 k, .bool b, .int .i64 n, .string s, .slice o m c, .slice o2 m2 c2], .int .i64 z, .bool false, .agg #[.int .i8 k, .bool b, .int .i64 n, .string s, .slice o m c, .slice o2 m2 c2],
          .func (.func 78) #[] #[.pointer (some ⟨w5.heap.size, 0, none⟩)], .agg #[.int .i8 k', .bool b', .int .i64 n', .string s', .slice o1 m1 p1, .slice o3 m3 p3], undef, undef, undef, undef, undef],
        defers := [] })
      ?hAx ?assign ?body ?done ?stop
    case hI => exact Free.and (free_boxed (by omega) _ _) (Free.and (free_below (by omega) (Nat.le_refl _)) (free_pure _ _))
    case hIx =>
      intro c
      exact Free.and (free_pure _ _) (Free.and (free_boxed (by omega) _ _) (Free.and (free_below (by omega) (Nat.le_refl _)) (free_pure _ _)))
    case h0 => exact ⟨b6, hB6, rfl⟩
    case hAx =>
      rintro x a' W l r o' hl hr ⟨Bx, k', b', n', s', o1, m1, p1, o3, m3, p3, h1, h2, h3⟩
      refine ⟨Bx, k', b', n', s', o1, m1, p1, o3, m3, p3, h1, ?_, h3⟩
      exact (World.putObj_heap_other (fun e => by subst e; rw [hr] at h2; cases h2)).trans h2
    case assign =>
      rintro l' pre x W K ⟨b1, hB1, hd⟩ hK
      obtain ⟨k', b', n', s', o1, m1, p1, o3, m3, p3, hx⟩ := isV_six x.2.1
      have hen : encEl x = #[.agg #[.int .i8 k', .bool b', .int .i64 n', .string s', .slice o1 m1 p1, .slice o3 m3 p3]] := by unfold encEl; rw [hx]
      rw [hen]
      have HK := Lib.hid hK
      have HD := Lib.hid hd
      clear hK hd
      gi_wp2_with fail
      refine HK.out _ _ ?_ ?_ ?_ ⟨W.heap.size, k', b', n', s', o1, m1, p1, o3, m3, p3, hx, ?_, rfl⟩
      · exact (KeepsOthers.alloc _ _).from _
      · exact kc_below (by go_grown) hB1.size
      · exact ⟨b1.alloc _, hB1.alloc hB1.size _, HD.out⟩
      · exact World.alloc_heap_new W _
    case body =>
      rintro l' pre x a' W hl _ ⟨b1, hB1, hd⟩ ⟨Bx, k', b', n', s', o1, m1, p1, o3, m3, p3, hx, hbx, rfl⟩ hlen
      obtain ⟨r0, r1, r2, r3, r4, r5⟩ := six_cells hbx
      have hv5 := x.2.1
      rw [hx] at hv5
      have HC := Lib.hid (fault_any x.1.1 _ W (HE.out.below hB1 HE.out.1) (by have := x.2.2; omega) (isV_below hB1 hv5))
      have hN : firstNZ ((pre ++ [x]).map fun y => ownW y.1.1) = ownW x.1.1 := by
        rw [List.map_append, firstNZ_app, if_pos hd]
        simp only [List.map_cons, List.map_nil, firstNZ]
        split
        · rename_i h; rw [h]
        · rfl
      generalize ownW x.1.1 = q at *
      have HN := Lib.hid hN
      have B1 := Lib.hid b1
      have HB := Lib.hid hB1
      clear hbx hv5 hN hx hd b1 hB1
      gi_wp2_with fail
      refine ⟨trivial, ?_⟩
      refine (CallsIn.inRound l' (callsIn_wide.2 HC.out)).mono ?_
      clear r0 r1 r2 r3 r4 r5 HC
      rintro e w7 ⟨rfl, hb7⟩
      have b7 := B1.out.kept (grown_bel hb7) (by simp)
      have hz7 := hb7.size
      have hzW := HB.out.size
      have HB7 := Lib.hid hb7
      by_cases hq : q = 0
      · subst hq
        clear hb7
        have BB := Lib.hid b7
        clear b7
        gi_wp2_with fail
        exact ⟨(keeps_below HB7.out).from _, kc_below HB7.out hzW, BB.out, HB.out.trans (HB7.out.mono hzW), HN.out⟩
      · have hqb : (q != 0) = true := bne_iff_ne.2 hq
        have hqb2 : (q == 0) = false := beqI hq
        have f7 := b7.frozen
        have e7 := b7.cell
        have BB := Lib.hid (b7.set (.int .i64 q))
        have HQ := Lib.hid hq
        clear hb7 b7 hq
        gi_wp2_with fail
        exact ⟨((keeps_below HB7.out).trans (KeepsOthers.setCell _ _ _)).from _, rfl, by rw [HN.out]; exact BB.out, (HB.out.trans (HB7.out.mono hzW)).setCell (p := ⟨w.heap.size + 1, 0, none⟩) (by simp) _, by rw [HN.out]; exact HQ.out⟩
    case done =>
      rintro D xs W hD hS ⟨b1, hB1, hd⟩ hK
      have hr0 : r = 0 := by
        rw [HR.out, ← HW.out, ← hS, List.map_map]; exact hd
      have HR0 := Lib.hid hr0
      have f1 := b1.frozen
      have e1 := b1.cell
      have d1 := (b1.set (.int .i64 0)).cell
      have HB := Lib.hid hB1
      have HK := Lib.hid hK
      have hKs : (W.setCell ⟨w.heap.size + 1, 0, none⟩ (.int .i64 0)).heap[D]? = some (.deferred (some [])) := (KeepsOthers.setCell _ _ _).same D _ hK rfl
      have HKS := Lib.hid hKs
      have d2 := cell_kept (a := ⟨w.heap.size + 1, 0, none⟩) d1 (grownBy_putObj' _ D (.deferred none)) (fun r e => by cases e; exact ⟨_, hKs, rfl⟩)
      clear hS hr0 b1 hB1 hK hd b6 x6 hB6 hKs
      gi_wp2_with fail
      refine ⟨by simp, .inl ⟨_, _, rfl, run_takeDeferred HKS.out, ?_⟩⟩
      refine ⟨.int .i64 0, by simp [results, Tryz.results45, go_sem, d2], ret_int HR0.out.symm, ?_⟩
      have hzz := HB.out.size
      exact (HB.out.setCell (p := ⟨w.heap.size + 1, 0, none⟩) (by simp) _).trans (belowK_b (w := w) (Nat.le_refl _) _ D _ _ (by omega) HKS.out rfl rfl)
    case stop =>
      rintro D c pre W hD hS ⟨rfl, b1, hB1, hd⟩ hK
      have hr0 : r = firstNZ (pre.map fun y => ownW y.1.1) := by
        obtain ⟨t, ht⟩ := hS
        rw [HR.out, ← HW.out, ← ht, List.map_append, firstNZ_app, List.map_map]
        exact if_neg hd
      rw [← hr0] at b1
      have d1 := b1.cell
      have HB := Lib.hid hB1
      have HK := Lib.hid hK
      have d2 := cell_kept (a := ⟨w.heap.size + 1, 0, none⟩) d1 (grownBy_putObj' _ D (.deferred none)) (fun r e => by cases e; exact ⟨_, hK, rfl⟩)
      clear hS hr0 b1 hB1 hK hd b6 x6 hB6
      gi_wp2_with fail
      refine ⟨by simp, .inl ⟨_, _, rfl, run_takeDeferred HK.out, ?_⟩⟩
      refine ⟨.int .i64 r, by simp [results, Tryz.results45, go_sem, d2], rfl, ?_⟩
      have hzz := HB.out.size
      exact HB.out.trans (belowK_b (w := w) (Nat.le_refl _) _ D _ _ (by omega) HK.out rfl rfl)
end Go.Proofs.YtllkcldckehipaaGreatDoor
