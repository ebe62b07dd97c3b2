/-
  The program's fault: what is wrong with a value itself. · The program's wrong: why a value may not be. · The program's order: the places of a value's parts, an object's by their keys.
-/
import Derived.Test.YtlamkadllbgamaaGreatDoorGF
import Derived.Test.YtlamkadllbgamaaGreatDoorShelfB
import Derived.Test.YtlamkadllbgamaaGreatDoorGE
import Derived.Test.YtlamkadllbgamaaGreatDoorShelfA
import Derived.Test.YtlamkadllbgamaaGreatDoorGD
import Derived.Shelf.SlSortCmp.NoneTotal
import Derived.Deep.OwnRows
set_option linter.unusedVariables false
set_option linter.unusedSimpArgs false
namespace Go.Proofs.YtlamkadllbgamaaGreatDoor
open Go.RowKit Go.Shelf

/-- The package variables hold utf8's two tables. -/
def Env (w : World) : Prop := 2 ≤ w.heap.size ∧ Lib.Utf8Tabs 0 1 w
theorem tabs_below {n : Nat} {w w' : World} (h : Lib.Utf8Tabs 0 1 w) (hb : Below n w w') (hn : 2 ≤ n) : Lib.Utf8Tabs 0 1 w' :=
  ⟨fun c hc => (hb.cell (p := ⟨0, c, none⟩) (by simp; omega)).trans (h.1 c hc),
   fun i hi => ⟨(hb.cell (p := ⟨1, 2 * i, none⟩) (by simp; omega)).trans (h.2 i hi).1, (hb.cell (p := ⟨1, 2 * i + 1, none⟩) (by simp; omega)).trans (h.2 i hi).2⟩⟩
theorem Env.below {n : Nat} {w w' : World} (h : Env w) (hb : Below n w w') (hn : 2 ≤ n) : Env w' := ⟨Nat.le_trans h.1 hb.size, tabs_below h.2 hb (by omega)⟩
theorem Env.kb {w w' : World} (h : Env w) (hb : KB w w') : Env w' := h.below hb h.1

set_option maxHeartbeats 1000000 in
theorem valid_any (s : ByteArray) (hs : s.size ≤ maxLen) (w : World) (hE : Env w) : Calls Tryz.prog 65 #[.string s] w fun e w' => e = .returned (.bool (validS s)) ∧ Below w.heap.size w w' := by
  have HV := Lib.hid (Tryz.utf8_ValidString s w (by unfold maxLen at hs; omega) hE.2)
  unfold validS
  generalize Lib.validD s.data.toList = r at *
  clear hE hs
  go_enter Tryz.func65, Tryz.ntmps65
  go_wp2_with (go_at_call 74; refine HV.out.mono ?_; rintro e w5 ⟨rfl, hb5⟩)
  go_ret
  exact ⟨rfl, hb5⟩
set_option maxHeartbeats 1000000 in
theorem noText_any (s : ByteArray) (hs : s.size ≤ maxLen) (w : World) (hE : Env w) : Calls Tryz.prog 89 #[.string s] w fun e w' => e = .returned (.bool (!validS s)) ∧ Below w.heap.size w w' := by
  have HV := Lib.hid (valid_any s hs w hE)
  generalize validS s = r at *
  clear hE hs
  go_enter Tryz.func89, Tryz.ntmps89
  go_wp2_with (go_at_call 65; refine HV.out.mono ?_; rintro e w5 ⟨rfl, hb5⟩)
  go_ret
  exact ⟨rfl, hb5⟩

set_option maxRecDepth 100000 in
set_option maxHeartbeats 2000000 in
/-- slices.IndexFunc of the keys: is there one that is no text? -/
theorem idxNo_any (ks : List ByteArray) (v : Value) (w : World) (hE : Env w) (hl : ks.length ≤ 1000000) (h : isK w ks v) :
    Calls Tryz.prog 95 #[v, .func (.func 89) #[] #[]] w fun e w' => (∃ i : Int, e = .returned (.int .i64 i) ∧ decide (0 ≤ i) = !(ks.all validS)) ∧ Below w.heap.size w w' := by
  obtain ⟨a, cap, ⟨o, rfl, hc1, hc2, ho⟩, hks⟩ := h
  unfold maxLen at hc2
  have HK := Lib.hid hks
  have HE := Lib.hid hE
  obtain ⟨r, hr⟩ : ∃ r, (!(ks.all validS)) = r := ⟨_, rfl⟩
  rw [hr]
  have HR := Lib.hid hr
  have ef : ∀ args w, (callFunc 89 args).run Tryz.prog w = .ok (.enter 89 args) w := enters_of Tryz.func89 (by kernel_rfl) rfl
  clear hks hr hE
  go_enter Tryz.func95, Tryz.ntmps95
  go_wp2_with fail
  go_loopw [8] (fun i wr => ∃ (j : Nat), j ≤ ks.length ∧ i = .int .i64 j ∧ Hid ((ks.take j).all validS = true) ∧ Hid (Below w.heap.size w wr)) (fun i _ => ks.length - (intOf i).toNat)
  case atStart => exact ⟨0, by omega, rfl, Lib.hid rfl, Lib.hid (Below.refl _ _)⟩
  case round =>
    obtain ⟨j, hj, rfl, hA, hB⟩ := hrel
    by_cases hlt : j < ks.length
    · obtain rfl := ho (by omega)
      have hcell := cell_below hB.out _ _ (HK.out j hlt).1
      have HN := Lib.hid (noText_any ks[j] (HK.out j hlt).2 wr (HE.out.below hB.out HE.out.1))
      cases hv : validS ks[j] with
      | false =>
        rw [hv] at HN
        have hr2 : r = true := by
          rw [← HR.out]
          have : ks.all validS = false := by
            rw [Bool.eq_false_iff]
            intro h
            have := List.all_eq_true.1 h _ (List.getElem_mem hlt)
            rw [hv] at this; cases this
          rw [this]; rfl
        have HR2 := Lib.hid hr2
        clear hr2 hv
        generalize ks[j] = s at *
        go_wp2_with (go_at_fn 89; refine HN.out.mono ?_; rintro e w5 ⟨rfl, hb5⟩)
        go_ret
        exact ⟨⟨_, rfl, by rw [HR2.out, decide_eq_true]; omega⟩, hB.out.trans (hb5.mono hB.out.size)⟩
      | true =>
        rw [hv] at HN
        have HA : Hid ((ks.take (j + 1)).all validS = true) := Lib.hid (by rw [List.take_succ_eq_append_getElem hlt, List.all_append, hA.out]; simp [hv])
        clear hv
        generalize ks[j] = s at *
        go_wp2_with (go_at_fn 89; refine HN.out.mono ?_; rintro e w5 ⟨rfl, hb5⟩)
        go_roundw
        case rel => exact ⟨j + 1, by omega, by go_num, HA, Lib.hid (hB.out.trans (hb5.mono hB.out.size))⟩
        case measure => simp [intOf]; omega
    · obtain rfl : j = ks.length := by omega
      have HRES : Hid (r = false) := Lib.hid (by
        have := hA.out
        rw [List.take_of_length_le (Nat.le_refl _)] at this
        rw [← HR.out, this]; rfl)
      go_wp2_with fail
      go_ret
      exact ⟨⟨_, rfl, by rw [HRES.out]; rfl⟩, hB.out⟩

set_option maxHeartbeats 1000000 in
theorem contains_any (ks : List ByteArray) (v : Value) (w : World) (hE : Env w) (hl : ks.length ≤ 1000000) (h : isK w ks v) :
    Calls Tryz.prog 88 #[v, .func (.func 89) #[] #[]] w fun e w' => e = .returned (.bool (!(ks.all validS))) ∧ Below w.heap.size w w' := by
  have HI := Lib.hid (idxNo_any ks v w hE hl h)
  obtain ⟨a, cap, ⟨o, rfl, _⟩, _⟩ := h
  generalize (!(ks.all validS)) = r at *
  clear hE
  go_enter Tryz.func88, Tryz.ntmps88
  go_wp2_with (go_at_call 95; refine HI.out.mono ?_; rintro e w5 ⟨⟨i, rfl, hi⟩, hb5⟩; have HI5 := Lib.hid hi; clear hi)
  go_ret
  exact ⟨ret_bool HI5.out, hb5⟩

theorem isV_keys {w : World} {x : V} {c0 c1 c2 c3 c4 c5 : Value} (h : isV w x (.agg #[c0, c1, c2, c3, c4, c5])) : isK w x.keys c5 := by
  obtain ⟨k, b, n, s, l, ks⟩ := x
  unfold isV at h
  obtain ⟨lv, kv, he, _, _, _, _, h7⟩ := h
  simp only [Value.agg.injEq, Array.mk.injEq, List.cons.injEq, and_true] at he
  obtain ⟨_, _, _, _, _, rfl⟩ := he
  exact h7
theorem isV_num {w : World} {x : V} {k n : Int} {b : Bool} {s : ByteArray} {c4 c5 : Value} (h : isV w x (.agg #[.int .i8 k, .bool b, .int .i64 n, .string s, c4, c5])) : x.kind = k ∧ x.bool = b ∧ x.num = n ∧ x.text = s ∧ s.size ≤ maxLen := by
  obtain ⟨k', b', n', s', l, ks⟩ := x
  unfold isV at h
  obtain ⟨lv, kv, he, _, _, hs, _⟩ := h
  simp only [Value.agg.injEq, Array.mk.injEq, List.cons.injEq, and_true] at he
  obtain ⟨h1, h2, h3, h4, _⟩ := he
  cases h1; cases h2; cases h3; cases h4
  exact ⟨rfl, rfl, rfl, rfl, hs⟩

set_option maxRecDepth 100000 in
set_option maxHeartbeats 4000000 in
/-- What is wrong with a value itself, whatever its parts are. -/
theorem fault_any (x : V) (v : Value) (w : World) (hE : Env w) (hl : x.keys.length ≤ 1000000) (h : isV w x v) :
    Calls Tryz.prog 77 #[v] w fun e w' => e = .returned (.int .i64 (ownW x)) ∧ Below w.heap.size w w' := by
  obtain ⟨k, b, n, s, o, m, c, o2, m2, c2, rfl⟩ := isV_six h
  obtain ⟨e1, e2, e3, e4, hs⟩ := isV_num h
  have hO : ownW x = if plainB x = false then 2 else if fitB n = false then 20 else if validS s = false then 10 else if x.keys.all validS = false then 10 else if onceB x.keys = false then 41 else 0 := by
    unfold ownW fitB
    rw [e3, e4]
    by_cases hf : n < -9007199254740992 ∨ 9007199254740992 < n
    · rw [if_pos hf, if_pos (show decide (-9007199254740992 ≤ n ∧ n ≤ 9007199254740992) = false from decide_eq_false (by omega))]
    · rw [if_neg hf, if_neg (show ¬ decide (-9007199254740992 ≤ n ∧ n ≤ 9007199254740992) = false by rw [decide_eq_true (by omega)]; simp)]
  have P1 : Hid (∀ w1, KB (w.alloc (.cells #[.int .i8 k, .bool b, .int .i64 n, .string s, .slice o m c, .slice o2 m2 c2] 33)) w1 → Calls Tryz.prog 86 #[.agg #[.int .i8 k, .bool b, .int .i64 n, .string s, .slice o m c, .slice o2 m2 c2]] w1 fun e w' => e = .returned (.bool (plainB x)) ∧ KB (w.alloc (.cells #[.int .i8 k, .bool b, .int .i64 n, .string s, .slice o m c, .slice o2 m2 c2] 33)) w') := Lib.hid fun w1 hK => Calls.kb hK (shaped_any x _ w1 (isV_below hK (isV_below kbA h)))
  have P2 : Hid (∀ w1, KB (w.alloc (.cells #[.int .i8 k, .bool b, .int .i64 n, .string s, .slice o m c, .slice o2 m2 c2] 33)) w1 → Calls Tryz.prog 87 #[.int .i64 n] w1 fun e w' => e = .returned (.bool (fitB n)) ∧ KB (w.alloc (.cells #[.int .i8 k, .bool b, .int .i64 n, .string s, .slice o m c, .slice o2 m2 c2] 33)) w') := Lib.hid fun w1 hK => Calls.k0 hK (fits_any n w1)
  have P3 : Hid (∀ w1, KB (w.alloc (.cells #[.int .i8 k, .bool b, .int .i64 n, .string s, .slice o m c, .slice o2 m2 c2] 33)) w1 → Calls Tryz.prog 65 #[.string s] w1 fun e w' => e = .returned (.bool (validS s)) ∧ KB (w.alloc (.cells #[.int .i8 k, .bool b, .int .i64 n, .string s, .slice o m c, .slice o2 m2 c2] 33)) w') := Lib.hid fun w1 hK => Calls.kb hK (valid_any s hs w1 ((hE.kb kbA).kb hK))
  have P4 : Hid (∀ w1, KB (w.alloc (.cells #[.int .i8 k, .bool b, .int .i64 n, .string s, .slice o m c, .slice o2 m2 c2] 33)) w1 → Calls Tryz.prog 88 #[.slice o2 m2 c2, .func (.func 89) #[] #[]] w1 fun e w' => e = .returned (.bool (!(x.keys.all validS))) ∧ KB (w.alloc (.cells #[.int .i8 k, .bool b, .int .i64 n, .string s, .slice o m c, .slice o2 m2 c2] 33)) w') := Lib.hid fun w1 hK => Calls.kb hK (contains_any _ _ w1 ((hE.kb kbA).kb hK) hl (isV_keys (isV_below hK (isV_below kbA h))))
  have P5 : Hid (∀ w1, KB (w.alloc (.cells #[.int .i8 k, .bool b, .int .i64 n, .string s, .slice o m c, .slice o2 m2 c2] 33)) w1 → Calls Tryz.prog 90 #[.slice o2 m2 c2] w1 fun e w' => e = .returned (.bool (!(onceB x.keys))) ∧ KB (w.alloc (.cells #[.int .i8 k, .bool b, .int .i64 n, .string s, .slice o m c, .slice o2 m2 c2] 33)) w') := Lib.hid fun w1 hK => Calls.kb hK (twice_any _ _ w1 hl (isV_keys (isV_below hK (isV_below kbA h))))
  have HB0 : Hid (KB w (w.alloc (.cells #[.int .i8 k, .bool b, .int .i64 n, .string s, .slice o m c, .slice o2 m2 c2] 33))) := Lib.hid kbA
  have HC : Hid (∀ w1, KB (w.alloc (.cells #[.int .i8 k, .bool b, .int .i64 n, .string s, .slice o m c, .slice o2 m2 c2] 33)) w1 → w1.cell? ⟨w.heap.size, 0, none⟩ = some (.int .i8 k) ∧ w1.cell? ⟨w.heap.size, 1, none⟩ = some (.bool b) ∧ w1.cell? ⟨w.heap.size, 2, none⟩ = some (.int .i64 n) ∧ w1.cell? ⟨w.heap.size, 3, none⟩ = some (.string s) ∧ w1.cell? ⟨w.heap.size, 4, none⟩ = some (.slice o m c) ∧ w1.cell? ⟨w.heap.size, 5, none⟩ = some (.slice o2 m2 c2)) := Lib.hid fun w1 hK =>
    ⟨cell_below hK _ _ (by simp), cell_below hK _ _ (by simp), cell_below hK _ _ (by simp), cell_below hK _ _ (by simp), cell_below hK _ _ (by simp), cell_below hK _ _ (by simp)⟩
  obtain ⟨r, hr⟩ : ∃ r, ownW x = r := ⟨_, rfl⟩
  rw [hr] at hO ⊢
  generalize plainB x = p1 at *
  generalize fitB n = p2 at *
  generalize validS s = p3 at *
  generalize x.keys.all validS = p4 at *
  generalize onceB x.keys = p5 at *
  have HO := Lib.hid hO
  clear h hE hl hr e1 e2 e3 e4 hs hO
  go_enter Tryz.func77, Tryz.ntmps77
  go_wp2_with fail
  generalize hW1 : w.alloc (.cells #[.int .i8 k, .bool b, .int .i64 n, .string s, .slice o m c, .slice o2 m2 c2] 33) = W1 at *
  clear hW1
  refine (P1.out W1 (Below.refl _ _)).mono ?_
  clear P1
  rintro e w1 ⟨rfl, hb1⟩
  obtain ⟨r0, r1, r2, r3, r4, r5⟩ := HC.out w1 hb1
  have HB1 := Lib.hid hb1
  clear hb1 r0 r1 r3 r4 r5
  cases p1 with
  | false =>
    go_wp2_with fail
    go_ret
    exact ⟨ret_int (by rw [HO.out]; rfl), HB0.out.trans (HB1.out.mono HB0.out.size)⟩
  | true =>
  go_wp2_with fail
  refine (P2.out w1 HB1.out).mono ?_
  clear P2 HB1 r2
  rintro e w2 ⟨rfl, hb2⟩
  obtain ⟨r0, r1, r2, r3, r4, r5⟩ := HC.out w2 hb2
  have HB2 := Lib.hid hb2
  clear hb2 r0 r1 r2 r4 r5
  cases p2 with
  | false =>
    go_wp2_with fail
    go_ret
    exact ⟨ret_int (by rw [HO.out]; rfl), HB0.out.trans (HB2.out.mono HB0.out.size)⟩
  | true =>
  go_wp2_with fail
  refine (P3.out w2 HB2.out).mono ?_
  clear P3 HB2 r3
  rintro e w3 ⟨rfl, hb3⟩
  obtain ⟨r0, r1, r2, r3, r4, r5⟩ := HC.out w3 hb3
  have HB3 := Lib.hid hb3
  clear hb3 r0 r1 r2 r3 r4
  cases p3 with
  | false =>
    go_wp2_with fail
    go_ret
    exact ⟨ret_int (by rw [HO.out]; rfl), HB0.out.trans (HB3.out.mono HB0.out.size)⟩
  | true =>
  go_wp2_with fail
  refine (P4.out w3 HB3.out).mono ?_
  clear P4 HB3 r5
  rintro e w4 ⟨rfl, hb4⟩
  obtain ⟨r0, r1, r2, r3, r4, r5⟩ := HC.out w4 hb4
  have HB4 := Lib.hid hb4
  clear hb4 r0 r1 r2 r3 r4
  cases p4 with
  | false =>
    go_wp2_with fail
    go_ret
    exact ⟨ret_int (by rw [HO.out]; rfl), HB0.out.trans (HB4.out.mono HB0.out.size)⟩
  | true =>
  go_wp2_with fail
  refine (P5.out w4 HB4.out).mono ?_
  clear P5 HB4 r5
  rintro e w5 ⟨rfl, hb5⟩
  have HB5 := Lib.hid hb5
  clear hb5
  cases p5 with
  | false =>
    go_wp2_with fail
    go_ret
    exact ⟨ret_int (by rw [HO.out]; rfl), HB0.out.trans (HB5.out.mono HB0.out.size)⟩
  | true =>
    go_wp2_with fail
    go_ret
    exact ⟨ret_int (by rw [HO.out]; rfl), HB0.out.trans (HB5.out.mono HB0.out.size)⟩
end Go.Proofs.YtlamkadllbgamaaGreatDoor

namespace Go.Proofs.YtlamkadllbgamaaGreatDoor
open Go.RowKit Go.Shelf
attribute [local go_sem] Oper.semAt_some

/-- The first that is not 0. -/
def firstNZ : List Int → Int | [] => 0 | e :: t => if e = 0 then firstNZ t else e
theorem firstNZ_app : ∀ (a b : List Int), firstNZ (a ++ b) = if firstNZ a = 0 then firstNZ b else firstNZ a
  | [], b => by simp [firstNZ]
  | e :: t, b => by
    have ih := firstNZ_app t b
    by_cases h : e = 0
    · simp [firstNZ, h, ih]
    · simp [firstNZ, h]
mutual
theorem firstNZ_walk : ∀ x : V, firstNZ ((walkV x).map ownW) = wrongV x
  | .mk k b n s l ks => by
    rw [walkV, List.map_cons, firstNZ, firstNZ_walks l, wrongV]
theorem firstNZ_walks : ∀ l : List V, firstNZ ((walkVs l).map ownW) = wrongVs l
  | [] => by simp [walkVs, firstNZ, wrongVs]
  | x :: t => by
    rw [walkVs, List.map_append, firstNZ_app, firstNZ_walk x, firstNZ_walks t, wrongVs]
end
/-- Why a value may not be; 0: it may. -/
noncomputable def pwrongV (x : V) : Int := if 24 < depthV x then 30 else wrongV x
/-- No row of keys is too long. -/
def fineV (x : V) : Prop := ∀ y ∈ walkV x, y.keys.length ≤ 3000

set_option maxRecDepth 100000 in
set_option maxHeartbeats 8000000 in
theorem pwrong_any (x : V) (v : Value) (w : World) (hE : Env w) (hM : sizeV x ≤ 1000000) (hF : fineV x) (h : isV w x v) :
    Calls Tryz.prog 66 #[v] w fun e w' => e = .returned (.int .i64 (pwrongV x)) ∧ Below w.heap.size w w' := by
  have hwl := walk_le x
  have HX := Lib.hid h
  have HM : Hid ((walkV x).length ≤ 1000000) := Lib.hid (by omega)
  have HF := Lib.hid hF
  have HE := Lib.hid hE
  have HW := Lib.hid (firstNZ_walk x)
  obtain ⟨k, b, n, s, o, m, c, o2, m2, c2, rfl⟩ := isV_six h
  obtain ⟨z, hz⟩ : ∃ z, min (depthV x) 25 = z := ⟨_, rfl⟩
  have HI : Hid (∀ w1, KB w w1 → Calls Tryz.prog 75 #[.agg #[.int .i8 k, .bool b, .int .i64 n, .string s, .slice o m c, .slice o2 m2 c2], .int .i64 24] w1 fun e w' => e = .returned (.int .i64 z) ∧ Below w1.heap.size w1 w') := Lib.hid fun w1 hK => by
    have := pdepth_any 24 x _ w1 (by omega) hM (isV_below hK h)
    rw [show min (depthV x) (24 + 1) = z from hz] at this
    exact this
  obtain ⟨r, hr⟩ : ∃ r, pwrongV x = r := ⟨_, rfl⟩
  rw [hr]
  by_cases hd : 24 < depthV x
  · have hzz : (24 : Int) < (z : Int) := by omega
    have HR : Hid (r = 30) := Lib.hid (by rw [← hr, pwrongV, if_pos hd])
    have HB0 : Hid (KB w ((w.alloc (.cells #[.int .i8 k, .bool b, .int .i64 n, .string s, .slice o m c, .slice o2 m2 c2] 33)).alloc (.cells #[.int .i64 0] 26))) := Lib.hid (by unfold KB; go_grown)
    have bR := Boxed.new (w.alloc (.cells #[.int .i8 k, .bool b, .int .i64 n, .string s, .slice o m c, .slice o2 m2 c2] 33)) 26 (.int .i64 0)
    rw [World.size_alloc] at bR
    clear h hE hM hF hz hr hd hwl
    go_enter Tryz.func66, Tryz.ntmps66
    go_wp2_with fail
    generalize hW1 : (w.alloc (.cells #[.int .i8 k, .bool b, .int .i64 n, .string s, .slice o m c, .slice o2 m2 c2] 33)).alloc (.cells #[.int .i64 0] 26) = W1 at *
    clear hW1
    refine (HI.out W1 HB0.out).mono ?_
    rintro e w5 ⟨rfl, hb5⟩
    have b5 := bR.kept (grown_bel hb5) (by simp)
    have f5 := b5.frozen
    have e5 := b5.cell
    have d5 := (b5.set (.int .i64 30)).cell
    have HB5 := Lib.hid (HB0.out.trans (hb5.mono HB0.out.size))
    clear hb5 b5 bR
    go_wp2_with fail
    refine bodyPost_ret (v := .int .i64 30) (by simp [results, Tryz.results66, go_sem, d5]) rfl ⟨ret_int HR.out.symm, ?_⟩
    exact HB5.out.setCell (p := ⟨w.heap.size + 1, 0, none⟩) (by simp) _
  · have hzz : decide ((24 : Int) < (z : Int)) = false := decide_eq_false (by omega)
    have hzz2 : decide (24 < z) = false := decide_eq_false (by omega)
    have HR : Hid (r = wrongV x) := Lib.hid (by rw [← hr, pwrongV, if_neg hd])
    have hB0 : KB w ((w.alloc (.cells #[.int .i8 k, .bool b, .int .i64 n, .string s, .slice o m c, .slice o2 m2 c2] 33)).alloc (.cells #[.int .i64 0] 26)) := by unfold KB; go_grown
    have bR := Boxed.new (w.alloc (.cells #[.int .i8 k, .bool b, .int .i64 n, .string s, .slice o m c, .slice o2 m2 c2] 33)) 26 (.int .i64 0)
    have bX : ((w.alloc (.cells #[.int .i8 k, .bool b, .int .i64 n, .string s, .slice o m c, .slice o2 m2 c2] 33)).alloc (.cells #[.int .i64 0] 26)).heap[w.heap.size]? = some (.cells #[.int .i8 k, .bool b, .int .i64 n, .string s, .slice o m c, .slice o2 m2 c2] 33 (0, 0)) := (Below.heap_alloc _ _ _ (by simp)).trans (World.alloc_heap_new w _)
    have hs2 : ((w.alloc (.cells #[.int .i8 k, .bool b, .int .i64 n, .string s, .slice o m c, .slice o2 m2 c2] 33)).alloc (.cells #[.int .i64 0] 26)).heap.size = w.heap.size + 2 := by simp
    rw [World.size_alloc] at bR
    clear h hE hM hF hz hr hd hwl
    refine (callsIn_wide (n := 9)).1 ?_
    refine callsIn_of_wp_marks Tryz.func66 rfl trivial ?_ rfl
    simp only [Tryz.ntmps66, List.size_toArray, List.length_cons, List.length_nil, Nat.reduceAdd, Nat.reduceSub, Array.replicate_succ, Array.replicate_zero, List.push_toArray, List.append_toArray, List.nil_append, List.cons_append]
    gi_wp2_with fail
    generalize hW1 : (w.alloc (.cells #[.int .i8 k, .bool b, .int .i64 n, .string s, .slice o m c, .slice o2 m2 c2] 33)).alloc (.cells #[.int .i64 0] 26) = W1 at *
    clear hW1
    refine ⟨trivial, ?_⟩
    refine (callsIn_wide.2 (HI.out W1 hB0)).mono ?_
    rintro e w5 ⟨rfl, hb5⟩
    have b5 := bR.kept (grown_bel hb5) (by simp)
    have x5 := (hb5.block w.heap.size (by omega)).trans bX
    have hz5 := hb5.size
    have hB5 : Below w.heap.size w w5 := hB0.trans (hb5.mono hB0.size)
    obtain ⟨r0, r1, r2, r3, r4, r5⟩ := six_cells x5
    have X5 := Lib.hid b5
    have HB5 := Lib.hid hB5
    clear hb5 bR bX hB0 x5 b5 hB5
    gi_wp2_with fail
    refine ⟨trivial, ?_⟩
    refine (all_in _ _ _ _ _ _ _ _ _ _ _ _ rfl _).mono ?_
    rintro e w' ⟨rfl, rfl⟩
    gi_wp2_with fail
    have hz5' := HB5.out.size
    have hB6 : Below w.heap.size w (w5.alloc (.cells #[.int .i8 k, .bool b, .int .i64 n, .string s, .slice o m c, .slice o2 m2 c2] 33)) := HB5.out.alloc hz5' _
    have x6 := World.alloc_heap_new w5 (.cells #[.int .i8 k, .bool b, .int .i64 n, .string s, .slice o m c, .slice o2 m2 c2] 33)
    have b6 := X5.out.alloc (.cells #[.int .i8 k, .bool b, .int .i64 n, .string s, .slice o m c, .slice o2 m2 c2] 33)
    have hs6 : (w5.alloc (.cells #[.int .i8 k, .bool b, .int .i64 n, .string s, .slice o m c, .slice o2 m2 c2] 33)).heap.size = w5.heap.size + 1 := by simp
    clear r0 r1 r2 r3 r4 r5 hzz hzz2
    generalize hW6 : w5.alloc (.cells #[.int .i8 k, .bool b, .int .i64 n, .string s, .slice o m c, .slice o2 m2 c2] 33) = W6 at *
    clear hW6
    refine range_own (by omega) (gf := 85) (lb := #[.pointer (some ⟨w5.heap.size, 0, none⟩)]) rfl (enters_of Tryz.func85 (by kernel_rfl) rfl)
      (all_seq (9 - 1) (by omega) w (w.heap.size + 2) (fun y => y.keys.length ≤ 3000) x _ HX.out HF.out HM.out w5.heap.size W6 hB6 (by omega) (by omega) _ rfl x6) kc_t (kc_b (by omega)) (Below.refl _ _) (fun _ => rfl)
      (fun pre W => Boxed W (w.heap.size + 1) 26 (.int .i64 0) ∧ (Below w.heap.size w W ∧ firstNZ (pre.map fun y => ownW y.1.1) = 0))
      (fun c pre W => c = .ret ∧ (Boxed W (w.heap.size + 1) 26 (.int .i64 (firstNZ (pre.map fun y => ownW y.1.1))) ∧ (Below w.heap.size w W ∧ firstNZ (pre.map fun y => ownW y.1.1) ≠ 0)))
      ?hI ?hIx ?h0
      (fun x a' W => ∃ (Bx : Nat) (k' : Int) (b' : Bool) (n' : Int) (s' : ByteArray) (o1 : Option Addr) (m1 p1 : Nat) (o3 : Option Addr) (m3 p3 : Nat), x.1.2 = .agg #[.int .i8 k', .bool b', .int .i64 n', .string s', .slice o1 m1 p1, .slice o3 m3 p3] ∧ W.heap[Bx]? = some (.cells #[.int .i8 k', .bool b', .int .i64 n', .string s', .slice o1 m1 p1, .slice o3 m3 p3] 33 (0, 0)) ∧ a' = {
        tmps := #[.agg #[.int .i8 k, .bool b, .int .i64 n, .string s, .slice o m c, .slice o2 m2 c2], .pointer (some ⟨w.heap.size, 0, none⟩), .pointer (some ⟨w.heap.size + 1, 0, none⟩), .pointer (some ⟨Bx, 0, none⟩), undef, .agg #[.int .i8 k, .bool b, .int .i64 n, .string s, .slice o m c, .slice o2 m2 c2], .int .i64 z, .bool false, .agg #[.int .i8 k, .bool b, .int .i64 n, .string s, .slice o m c, .slice o2 m2 c2],
          .func (.func 85) #[] #[.pointer (some ⟨w5.heap.size, 0, none⟩)], .agg #[.int .i8 k', .bool b', .int .i64 n', .string s', .slice o1 m1 p1, .slice o3 m3 p3], undef, undef, undef, undef, undef],
        defers := [] })
      ?hAx ?assign ?body ?done ?stop
    case hI => exact Free.and (free_boxed (by omega) _ _) (Free.and (free_below (by omega) (Nat.le_refl _)) (free_pure _ _))
    case hIx =>
      intro c
      exact Free.and (free_pure _ _) (Free.and (free_boxed (by omega) _ _) (Free.and (free_below (by omega) (Nat.le_refl _)) (free_pure _ _)))
    case h0 => exact ⟨b6, hB6, rfl⟩
    case hAx =>
      rintro x a' W l r o' hl hr ⟨Bx, k', b', n', s', o1, m1, p1, o3, m3, p3, h1, h2, h3⟩
      refine ⟨Bx, k', b', n', s', o1, m1, p1, o3, m3, p3, h1, ?_, h3⟩
      exact (World.putObj_heap_other (fun e => by subst e; rw [hr] at h2; cases h2)).trans h2
    case assign =>
      rintro l' pre x W K ⟨b1, hB1, hd⟩ hK
      obtain ⟨k', b', n', s', o1, m1, p1, o3, m3, p3, hx⟩ := isV_six x.2.1
      have hen : encEl x = #[.agg #[.int .i8 k', .bool b', .int .i64 n', .string s', .slice o1 m1 p1, .slice o3 m3 p3]] := by unfold encEl; rw [hx]
      rw [hen]
      have HK := Lib.hid hK
      have HD := Lib.hid hd
      clear hK hd
      gi_wp2_with fail
      refine HK.out _ _ ?_ ?_ ?_ ⟨W.heap.size, k', b', n', s', o1, m1, p1, o3, m3, p3, hx, ?_, rfl⟩
      · exact (KeepsOthers.alloc _ _).from _
      · exact kc_below (by go_grown) hB1.size
      · exact ⟨b1.alloc _, hB1.alloc hB1.size _, HD.out⟩
      · exact World.alloc_heap_new W _
    case body =>
      rintro l' pre x a' W hl _ ⟨b1, hB1, hd⟩ ⟨Bx, k', b', n', s', o1, m1, p1, o3, m3, p3, hx, hbx, rfl⟩ hlen
      obtain ⟨r0, r1, r2, r3, r4, r5⟩ := six_cells hbx
      have hv5 := x.2.1
      rw [hx] at hv5
      have HC := Lib.hid (fault_any x.1.1 _ W (HE.out.below hB1 HE.out.1) (by have := x.2.2; omega) (isV_below hB1 hv5))
      have hN : firstNZ ((pre ++ [x]).map fun y => ownW y.1.1) = ownW x.1.1 := by
        rw [List.map_append, firstNZ_app, if_pos hd]
        simp only [List.map_cons, List.map_nil, firstNZ]
        split
        · rename_i h; rw [h]
        · rfl
      generalize ownW x.1.1 = q at *
      have HN := Lib.hid hN
      have B1 := Lib.hid b1
      have HB := Lib.hid hB1
      clear hbx hv5 hN hx hd b1 hB1
      gi_wp2_with fail
      refine ⟨trivial, ?_⟩
      refine (CallsIn.inRound l' (callsIn_wide.2 HC.out)).mono ?_
      clear r0 r1 r2 r3 r4 r5 HC
      rintro e w7 ⟨rfl, hb7⟩
      have b7 := B1.out.kept (grown_bel hb7) (by simp)
      have hz7 := hb7.size
      have hzW := HB.out.size
      have HB7 := Lib.hid hb7
      by_cases hq : q = 0
      · subst hq
        clear hb7
        have BB := Lib.hid b7
        clear b7
        gi_wp2_with fail
        exact ⟨(keeps_below HB7.out).from _, kc_below HB7.out hzW, BB.out, HB.out.trans (HB7.out.mono hzW), HN.out⟩
      · have hqb : (q != 0) = true := bne_iff_ne.2 hq
        have hqb2 : (q == 0) = false := beqI hq
        have f7 := b7.frozen
        have e7 := b7.cell
        have BB := Lib.hid (b7.set (.int .i64 q))
        have HQ := Lib.hid hq
        clear hb7 b7 hq
        gi_wp2_with fail
        exact ⟨((keeps_below HB7.out).trans (KeepsOthers.setCell _ _ _)).from _, rfl, by rw [HN.out]; exact BB.out, (HB.out.trans (HB7.out.mono hzW)).setCell (p := ⟨w.heap.size + 1, 0, none⟩) (by simp) _, by rw [HN.out]; exact HQ.out⟩
    case done =>
      rintro D xs W hD hS ⟨b1, hB1, hd⟩ hK
      have hr0 : r = 0 := by
        rw [HR.out, ← HW.out, ← hS, List.map_map]; exact hd
      have HR0 := Lib.hid hr0
      have f1 := b1.frozen
      have e1 := b1.cell
      have d1 := (b1.set (.int .i64 0)).cell
      have HB := Lib.hid hB1
      have HK := Lib.hid hK
      have hKs : (W.setCell ⟨w.heap.size + 1, 0, none⟩ (.int .i64 0)).heap[D]? = some (.deferred (some [])) := (KeepsOthers.setCell _ _ _).same D _ hK rfl
      have HKS := Lib.hid hKs
      have d2 := cell_kept (a := ⟨w.heap.size + 1, 0, none⟩) d1 (grownBy_putObj' _ D (.deferred none)) (fun r e => by cases e; exact ⟨_, hKs, rfl⟩)
      clear hS hr0 b1 hB1 hK hd b6 x6 hB6 hKs
      gi_wp2_with fail
      refine ⟨by simp, .inl ⟨_, _, rfl, run_takeDeferred HKS.out, ?_⟩⟩
      refine ⟨.int .i64 0, by simp [results, Tryz.results66, go_sem, d2], ret_int HR0.out.symm, ?_⟩
      have hzz := HB.out.size
      exact (HB.out.setCell (p := ⟨w.heap.size + 1, 0, none⟩) (by simp) _).trans (belowK_b (w := w) (Nat.le_refl _) _ D _ _ (by omega) HKS.out rfl rfl)
    case stop =>
      rintro D c pre W hD hS ⟨rfl, b1, hB1, hd⟩ hK
      have hr0 : r = firstNZ (pre.map fun y => ownW y.1.1) := by
        obtain ⟨t, ht⟩ := hS
        rw [HR.out, ← HW.out, ← ht, List.map_append, firstNZ_app, List.map_map]
        exact if_neg hd
      rw [← hr0] at b1
      have d1 := b1.cell
      have HB := Lib.hid hB1
      have HK := Lib.hid hK
      have d2 := cell_kept (a := ⟨w.heap.size + 1, 0, none⟩) d1 (grownBy_putObj' _ D (.deferred none)) (fun r e => by cases e; exact ⟨_, hK, rfl⟩)
      clear hS hr0 b1 hB1 hK hd b6 x6 hB6
      gi_wp2_with fail
      refine ⟨by simp, .inl ⟨_, _, rfl, run_takeDeferred HK.out, ?_⟩⟩
      refine ⟨.int .i64 r, by simp [results, Tryz.results66, go_sem, d2], rfl, ?_⟩
      have hzz := HB.out.size
      exact HB.out.trans (belowK_b (w := w) (Nat.le_refl _) _ D _ _ (by omega) HK.out rfl rfl)
end Go.Proofs.YtlamkadllbgamaaGreatDoor

namespace Go.Proofs.YtlamkadllbgamaaGreatDoor
open Go.RowKit Go.Shelf

/-- How two keys stand to one another. -/
def cmpK (s t : ByteArray) : Int := Lib.compareBytes s.data.toList t.data.toList

set_option maxRecDepth 100000 in
set_option maxHeartbeats 2000000 in
/-- The closure that compares two places by their keys. -/
theorem order1_any (ks : List ByteArray) (a2 : Addr) (cap2 : Nat) (N : Nat) (w : World) (hc : w.cell? ⟨N, 5, none⟩ = some (.slice (some a2) ks.length cap2)) (hks : ∀ i (h : i < ks.length), w.cell? (a2.add i) = some (.string ks[i])) (i j : Nat) (hi : i < ks.length) (hj : j < ks.length) (hl : ks.length ≤ 1000000) :
    Calls Tryz.prog 108 #[.int .i64 i, .int .i64 j, .pointer (some ⟨N, 0, none⟩)] w fun e w' => e = .returned (.int .i64 (cmpK ks[i] ks[j])) ∧ ∃ q, w' = w.drewN q := by
  have h1 := hks i hi
  have h2 := hks j hj
  unfold cmpK
  generalize ks[i] = s at *
  generalize ks[j] = t at *
  have HS := Lib.hid (Tryz.strings_Compare s t)
  generalize Lib.compareBytes s.data.toList t.data.toList = r at *
  clear hks
  go_enter Tryz.func108, Tryz.ntmps108
  go_wp2_with fail
  go_quiet (first | (go_at_call 99; exact Calls.quiet_of_same (HS.out _)))
  rename_i nq
  go_wp2_with fail
  go_ret
  exact ⟨rfl, nq, rfl⟩

theorem cmpB_neg : ∀ a b : List UInt8, Lib.compareBytes a b < 0 ↔ a < b
  | [], [] => by simp [Lib.compareBytes]
  | [], b :: tb => by simp [Lib.compareBytes]
  | a :: ta, [] => by simp [Lib.compareBytes]
  | a :: ta, b :: tb => by
    have ih := cmpB_neg ta tb
    rw [List.cons_lt_cons_iff, Lib.compareBytes]
    by_cases h1 : a < b
    · simp [h1]
    · rw [if_neg h1]
      by_cases h2 : b < a
      · rw [if_pos h2]
        have : a ≠ b := fun e => by subst e; exact h1 h2
        simp [h1, this]
      · rw [if_neg h2]
        have : a = b := UInt8.le_antisymm (UInt8.not_lt.1 h2) (UInt8.not_lt.1 h1)
        simp [this, ih]
theorem cmpB_zero : ∀ a b : List UInt8, Lib.compareBytes a b = 0 ↔ a = b
  | [], [] => by simp [Lib.compareBytes]
  | [], b :: tb => by simp [Lib.compareBytes]
  | a :: ta, [] => by simp [Lib.compareBytes]
  | a :: ta, b :: tb => by
    have ih := cmpB_zero ta tb
    rw [Lib.compareBytes]
    by_cases h1 : a < b
    · rw [if_pos h1]
      simp only [List.cons.injEq]
      constructor
      · intro h; omega
      · rintro ⟨rfl, _⟩; exact absurd h1 (UInt8.lt_irrefl _)
    · rw [if_neg h1]
      by_cases h2 : b < a
      · rw [if_pos h2]
        simp only [List.cons.injEq]
        constructor
        · intro h; omega
        · rintro ⟨rfl, _⟩; exact absurd h2 (UInt8.lt_irrefl _)
      · rw [if_neg h2]
        have : a = b := UInt8.le_antisymm (UInt8.not_lt.1 h2) (UInt8.not_lt.1 h1)
        simp [this, ih]
theorem cmpK_neg (s t : ByteArray) : cmpK s t < 0 ↔ s.data.toList < t.data.toList := cmpB_neg _ _
theorem cmpK_zero (s t : ByteArray) : cmpK s t = 0 ↔ s = t := (cmpB_zero _ _).trans ⟨fun h => ByteArray.ext (by simpa using congrArg List.toArray h), fun h => by rw [h]⟩

/-- Behind the sort: what was there, but for the row. -/
theorem sorted_grown {α : Type} [Inhabited α] {enc : α → Value} {w : World} {g n : Nat} {os : Array Obj} (d : Array α) : w.grownBy (sortWorld enc w g 0 n d os) (some g) := by
  refine ⟨rfl, rfl, rfl, by simp [sortWorld, Sort.grow, Sort.putRow, Sort.mapBlock, Sort.ahead], fun k hk hne => ?_⟩
  have : g ≠ k := fun e => hne (by rw [e])
  have hk2 : k < (Sort.putRow enc (Sort.ahead w n) g 0 d).heap.size := by simpa [Sort.ahead] using hk
  show (Sort.grow _ _).heap[k]? = _
  rw [Sort.heap_grow_old _ _ hk2]
  simp [Sort.putRow, Sort.mapBlock, Sort.ahead, Array.getElem?_modify, this]
theorem sorted_cell {α : Type} [Inhabited α] {enc : α → Value} {w : World} {g n : Nat} {os : Array Obj} {d0 d : Array α} (h0 : Sort.Holds enc w g 0 d0) (hs : d.size = d0.size) (j : Nat) (hj : j < d.size) : (sortWorld enc w g 0 n d os).cell? ⟨g, j, none⟩ = some (enc d[j]!) := by
  have h1 := (Sort.holds_putRow enc (Sort.ahead w n) g 0 d0 d h0 hs j hj).1
  rw [Nat.zero_add] at h1
  show (Sort.grow _ _).cell? _ = _
  exact (Sort.cell?_grow _ _ _ (World.block_lt_of_cell? _ _ h1)).trans h1

theorem infoI : (Tryz.prog.info? 3).map (fun i => (i.zero, i.size, i.bytes)) = some (some (.int .i64 0), 1, 8) := by kernel_rfl

/-- The places of the parts: as they stand; an object's by their keys. -/
def isOrd (x : V) (ps : List Nat) : Prop := ps.Perm (List.range x.list.length) ∧ (x.kind ≠ 5 → ps = List.range x.list.length) ∧
  (x.kind = 5 → ∀ i j (hi : i < j) (hj : j < ps.length), ¬ cmpK (x.keys.getD (ps[j]) ⟨#[]⟩) (x.keys.getD (ps[i]'(by omega)) ⟨#[]⟩) < 0)

/-- SortFunc of the places, by their keys. -/
theorem sortK_any (ks : List ByteArray) (hl : ks.length ≤ 1000000) (a2 : Addr) (cap2 : Nat) (ho : 0 < ks.length → True) (N : Nat) (g : Nat) (o2 : Option Addr) (ho2 : 0 < ks.length → o2 = some a2) (w : World) (hN : N ≠ g) (hg : g < w.heap.size)
    (hc : w.cell? ⟨N, 5, none⟩ = some (.slice o2 ks.length cap2)) (hks : ∀ i (h : i < ks.length), w.cell? (a2.add i) = some (.string ks[i])) (ha : 0 < ks.length → a2.block ≠ g)
    (hrow : ∀ j, j < ks.length → w.cell? ⟨g, j, none⟩ = some (.int .i64 j) ∧ w.frozen? ⟨g, j, none⟩ = false) :
    Calls Tryz.prog 107 #[.slice (some ⟨g, 0, none⟩) ks.length ks.length, .func (.func 108) #[] #[.pointer (some ⟨N, 0, none⟩)]] w fun e w' => e = .returned (.tuple #[]) ∧ w.grownBy w' (some g) ∧
      ∃ ps : List Nat, ps.Perm (List.range ks.length) ∧ (∀ i j (hi : i < j) (hj : j < ps.length), ¬ cmpK (ks.getD (ps[j]) ⟨#[]⟩) (ks.getD (ps[i]'(by omega)) ⟨#[]⟩) < 0) ∧ ∀ j (hj : j < ps.length), w'.cell? ⟨g, j, none⟩ = some (.int .i64 ps[j]) := by
  rcases Nat.eq_zero_or_pos ks.length with h0 | h0
  · rw [h0]
    refine (AnyF.slices_SortFunc_none { Tryz.laysSlF6_f107 with } (some ⟨g, 0, none⟩) 0 _ w).mono ?_
    rintro e w' ⟨rfl, rfl⟩
    exact ⟨rfl, ⟨rfl, rfl, rfl, Nat.le_refl _, fun _ _ _ => rfl⟩, [], by simp, fun i j hi hj => absurd hj (by simp), fun j hj => absurd hj (by simp)⟩
  · obtain rfl := ho2 h0
    let α := Fin ks.length
    letI : Inhabited α := ⟨⟨0, h0⟩⟩
    let enc : α → Value := fun i => .int .i64 (i.1 : Nat)
    let cf : α → α → Int := fun i j => cmpK ks[i.1] ks[j.1]
    have hlt : ∀ i j : α, ltOf cf i j = decide (ks[i.1].data.toList < ks[j.1].data.toList) := fun i j => by
      unfold ltOf
      exact decide_eq_decide.2 (cmpK_neg _ _)
    have hO : Sort.SWO (ltOf cf) := {
      irrefl := fun i => by rw [hlt]; exact decide_eq_false (List.lt_irrefl _)
      trans := fun i j k h1 h2 => by
        rw [hlt] at *
        exact decide_eq_true (List.lt_trans (of_decide_eq_true h1) (of_decide_eq_true h2))
      ntrans := fun i j k h1 h2 => by
        rw [hlt] at *
        exact decide_eq_false (fun h => by
          have n1 := of_decide_eq_false h1
          have n2 := of_decide_eq_false h2
          exact absurd h (List.not_lt.2 (List.le_trans (List.not_lt.1 n2) (List.not_lt.1 n1)))) }
    let d : Array α := Array.ofFn (fun i : Fin ks.length => i)
    have hd : d.size = ks.length := by simp [d]
    have hdj : ∀ j (h : j < ks.length), d[j]! = ⟨j, h⟩ := fun j h => by
      rw [getElem!_pos d j (by rw [hd]; exact h)]
      simp [d]
    have hH : Sort.Holds enc w g 0 d := fun j hj => by
      rw [hd] at hj
      rw [hdj j hj, Nat.zero_add]
      exact hrow j hj
    have hcmp : CmpLays1 Tryz.prog 108 #[.pointer (some ⟨N, 0, none⟩)] enc cf g 0 d.size w := fun m os dk hs i j => by
      have hgr := sorted_grown (enc := enc) (w := w) (g := g) (n := m) (os := os) dk
      have k0 := hgr.cell hc (fun e => hN (Option.some.inj e))
      have k1 : ∀ q (h : q < ks.length), (sortWorld enc w g 0 m dk os).cell? (a2.add q) = some (.string ks[q]) := fun q h => hgr.cell (hks q h) (fun e => ha h0 (by have := Option.some.inj e; rw [add_block] at this; exact this))
      refine (order1_any ks a2 cap2 N _ k0 k1 i.1 j.1 i.2 j.2 hl).mono ?_
      rintro e w' ⟨rfl, q, rfl⟩
      exact ⟨rfl, q, #[], by rw [Sort.grow_empty]⟩
    have hS := Tryz.slices_SortFunc enc (fun _ => rfl) cf hO 108 #[.pointer (some ⟨N, 0, none⟩)] g 0 ks.length d w (enters_of Tryz.func108 (by kernel_rfl) rfl) hcmp hH hg (by omega)
    rw [hd] at hS
    refine hS.mono ?_
    rintro e w' ⟨rfl, d', n, os, hp, hs, rfl⟩
    obtain ⟨hp1, _, hp3⟩ := hp
    have hx : ∀ (z : Array α), z.size = ks.length → (z.extract 0 ks.length) = z := fun z hz => by rw [← hz]; simp
    rw [hx d hd, hx d' (by rw [hp1, hd])] at hp3
    refine ⟨rfl, sorted_grown d', d'.toList.map (·.1), ?_, ?_, ?_⟩
    · have := hp3.map (fun i : Fin ks.length => i.1)
      refine this.trans ?_
      rw [show d.toList.map (fun i : Fin ks.length => i.1) = List.range ks.length from by
        apply List.ext_getElem
        · simp [hd]
        · intro i h1 h2; simp [d]]
    · intro i j hi hj
      simp only [List.length_map, Array.length_toList] at hj
      have hj' : j < ks.length := by omega
      have h1 := hs i j (Nat.zero_le _) hi hj'
      rw [hlt, getElem!_pos d' i (by omega), getElem!_pos d' j hj] at h1
      have h2 := of_decide_eq_false h1
      rw [cmpK_neg]
      simpa using h2
    · intro j hj
      simp only [List.length_map, Array.length_toList] at hj
      have := sorted_cell (n := n) (os := os) (d := d') hH hp1 j hj
      rw [getElem!_pos d' j hj] at this
      simpa [enc] using this

set_option maxRecDepth 100000 in
set_option maxHeartbeats 4000000 in
theorem order_any (x : V) (v : Value) (w : World) (hl : x.list.length ≤ 1000000) (hk : x.kind = 5 → x.keys.length = x.list.length) (h : isV w x v) :
    Calls Tryz.prog 102 #[v] w fun e w' => ∃ (g : Nat) (ps : List Nat), e = .returned (.slice (some ⟨g, 0, none⟩) x.list.length x.list.length) ∧ w.heap.size ≤ g ∧ isOrd x ps ∧ (∀ j (hj : j < ps.length), w'.cell? ⟨g, j, none⟩ = some (.int .i64 ps[j])) ∧ Below w.heap.size w w' := by
  have HX := Lib.hid h
  obtain ⟨kk, b, n, s, l, ks⟩ := x
  unfold isV at h
  obtain ⟨lv, kv, rfl, hkk, hn, hs, ⟨a, cap, ⟨o, rfl, hc1, hc2, ho⟩, hvs⟩, ⟨a2, cap2, ⟨o2, rfl, hc3, hc4, ho2⟩, hks⟩⟩ := h
  unfold maxLen at hs hc2 hc4
  change l.length ≤ 1000000 at hl
  change kk = 5 → ks.length = l.length at hk
  have HKS : Hid (∀ i (h : i < ks.length), w.cell? (a2.add i) = some (.string ks[i])) := Lib.hid fun i h => (hks i h).1
  have HK := Lib.hid hk
  have HO2 := Lib.hid ho2
  show Calls Tryz.prog 102 _ _ fun e w' => ∃ (g : Nat) (ps : List Nat), e = .returned (.slice (some ⟨g, 0, none⟩) l.length l.length) ∧ _
  have hmk := run_make_row' (P := Tryz.prog) 122 3 (.int .i64 0) 8 Tryz.underlying122 infoI rfl .i64 .i64 l.length (by omega) (by omega)
  clear hkk hn ho hvs hks hk ho2
  go_enter Tryz.func102, Tryz.ntmps102
  go_wp2_with fail
  go_loopw [11] (fun i wr => ∃ (j : Nat), j ≤ l.length ∧ i = .int .i64 j ∧ Hid (wr.rowIs (w.heap.size + 1) 3 l.length (fun i => if i < j then .int .i64 i else .int .i64 0)) ∧ Hid (Below w.heap.size w wr ∧ wr.heap[w.heap.size]? = some (.cells #[.int .i8 kk, .bool b, .int .i64 n, .string s, .slice o l.length cap, .slice o2 ks.length cap2] 33 (0, 0)))) (fun i _ => l.length - (intOf i).toNat)
  case atStart =>
    refine ⟨0, by omega, rfl, Lib.hid ?_, Lib.hid ⟨by go_grown, ?_⟩⟩
    · have := World.rowIs_made (w.alloc (.cells #[.int .i8 kk, .bool b, .int .i64 n, .string s, .slice o l.length cap, .slice o2 ks.length cap2] 33)) (.int .i64 0) l.length 3
      rw [World.size_alloc] at this
      exact this.congr (fun i hi => by simp)
    · exact (Below.heap_alloc _ _ _ (by simp)).trans (World.alloc_heap_new w _)
  case round =>
    obtain ⟨j, hj, rfl, hR, hB⟩ := hrel
    by_cases hlt : j < l.length
    · have c0 : wr.cell? ⟨w.heap.size + 1, j, none⟩ = some (.int .i64 0) := by have := hR.out.cell hlt; simpa using this
      have f0 := hR.out.frozen j
      have HR2 : Hid ((wr.setCell ⟨w.heap.size + 1, j, none⟩ (.int .i64 j)).rowIs (w.heap.size + 1) 3 l.length (fun i => if i < j + 1 then .int .i64 i else .int .i64 0)) := Lib.hid ((hR.out.set j (.int .i64 j)).congr (fun i hi => by
        by_cases e : i = j
        · subst e; simp
        · rw [if_neg e]
          by_cases e2 : i < j
          · rw [if_pos e2, if_pos (by omega)]
          · rw [if_neg e2, if_neg (by omega)]))
      have HB2 : Hid (Below w.heap.size w (wr.setCell ⟨w.heap.size + 1, j, none⟩ (.int .i64 j)) ∧ (wr.setCell ⟨w.heap.size + 1, j, none⟩ (.int .i64 j)).heap[w.heap.size]? = some (.cells #[.int .i8 kk, .bool b, .int .i64 n, .string s, .slice o l.length cap, .slice o2 ks.length cap2] 33 (0, 0))) := Lib.hid ⟨hB.out.1.setCell (p := ⟨w.heap.size + 1, j, none⟩) (by simp) _, (Deep.blk_setCell_other _ _ _ _ (by simp)).trans hB.out.2⟩
      go_wp2_with fail
      go_roundw
      case rel => exact ⟨j + 1, by omega, by go_num, HR2, HB2⟩
      case measure => simp [intOf]; omega
    · obtain rfl : j = l.length := by omega
      obtain ⟨r0, r1, r2, r3, r4, r5⟩ := six_cells hB.out.2
      have hrow : ∀ i, i < l.length → wr.cell? ⟨w.heap.size + 1, i, none⟩ = some (.int .i64 i) ∧ wr.frozen? ⟨w.heap.size + 1, i, none⟩ = false := fun i hi => ⟨by have := hR.out.cell hi; simpa [hi] using this, hR.out.frozen i⟩
      have HROW := Lib.hid hrow
      have hgl := hR.out.lt
      clear hrow
      by_cases h5 : kk = 5
      · subst h5
        have hkl := HK.out rfl
        have hS := sortK_any ks (by omega) a2 cap2 (fun _ => trivial) w.heap.size (w.heap.size + 1) o2 HO2.out wr (by omega) hgl r5 (fun i h => cell_below hB.out.1 _ _ (HKS.out i h)) (fun h e => by
          have := World.block_lt_of_cell? w _ (HKS.out 0 h)
          rw [add_block] at this; omega) (fun j hj => HROW.out j (by omega))
        rw [hkl] at hS
        have HS := Lib.hid hS
        have HKL := Lib.hid hkl
        clear hS hkl r1 r2 r3 r4 r5 hgl
        go_wp2_with (go_at_call 107; refine HS.out.mono ?_; rintro e w5 ⟨rfl, hg5, ps, hp1, hp2, hp3⟩; have HP := Lib.hid (And.intro hp1 (And.intro hp2 hp3)); have HG := Lib.hid hg5; clear hp1 hp2 hp3 hg5)
        go_ret
        refine ⟨w.heap.size + 1, ps, rfl, by omega, ⟨HP.out.1, fun h => absurd rfl h, fun _ i j hi hj => Int.not_lt.2 (HP.out.2.1 i j hi hj)⟩, HP.out.2.2, ?_⟩
        exact hB.out.1.grown HG.out hB.out.1.size (fun r e => by cases e; omega)
      · have k5 : (kk == 5) = false := beqI h5
        have H5 := Lib.hid h5
        clear h5 hgl
        go_wp2_with fail
        go_ret
        refine ⟨w.heap.size + 1, List.range l.length, rfl, by omega, ⟨List.Perm.refl _, fun _ => rfl, fun h => absurd h H5.out⟩, ?_, hB.out.1⟩
        intro j hj
        have hj' : j < l.length := by simpa using hj
        rw [(HROW.out j hj').1]
        simp
end Go.Proofs.YtlamkadllbgamaaGreatDoor
