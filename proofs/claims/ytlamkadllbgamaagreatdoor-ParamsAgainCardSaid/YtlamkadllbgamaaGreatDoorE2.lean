/-
  The program's ofKind, some, among, allowed.
-/
import Derived.Test.YtlamkadllbgamaaGreatDoorE1
set_option linter.unusedVariables false
set_option linter.unusedSimpArgs false
namespace Go.Proofs.YtlamkadllbgamaaGreatDoor
open Go.RowKit

theorem isP_ten {W : World} {p : PR} {v : Value} (h : isP W p v) : ∃ (k : Int) (b : Bool) (n : Int) (s : ByteArray) (o : Option Addr) (m c : Nat) (o2 : Option Addr) (m2 c2 : Nat) (oa : Option Addr) (ca : Nat), v = .agg #[.string p.nm, .bool p.num, .bool p.has, .int .i8 k, .bool b, .int .i64 n, .string s, .slice o m c, .slice o2 m2 c2, .slice oa p.al.length ca] ∧ isV W p.d (.agg #[.int .i8 k, .bool b, .int .i64 n, .string s, .slice o m c, .slice o2 m2 c2]) ∧ isVl W p.al (.slice oa p.al.length ca) := by
  obtain ⟨k, b, n, s, o, m, c, o2, m2, c2, oa, ca, a, e, h1, h2, h3, h4⟩ := h
  exact ⟨k, b, n, s, o, m, c, o2, m2, c2, oa, ca, e, h1, a, ca, h2, h3⟩
theorem any_find {α : Type} (L : List α) (f : α → Bool) : (L.find? f).isSome = L.any f := by
  rw [Bool.eq_iff_iff, List.find?_isSome, List.any_eq_true]

set_option maxRecDepth 100000 in
set_option maxHeartbeats 4000000 in
theorem ofKind_any (x : V) (num : Bool) (v : Value) (w : World) (hE : Env w) (hM : sizeV x ≤ 1000000) (hF : fineV x) (h : isV w x v) :
    Calls Tryz.prog 20 #[v, .bool num] w fun e w' => e = .returned (.bool (kindB num x)) ∧ Below w.heap.size w w' := by
  obtain ⟨k, b, n, s, o, m, c, o2, m2, c2, rfl⟩ := isV_six h
  obtain ⟨hk, ht, hs, _⟩ := isV_parts h
  have HB0 : Hid (KB w (w.alloc (.cells #[.int .i8 k, .bool b, .int .i64 n, .string s, .slice o m c, .slice o2 m2 c2] 33))) := Lib.hid kbA
  have HX := Lib.hid (World.alloc_heap_new w (.cells #[.int .i8 k, .bool b, .int .i64 n, .string s, .slice o m c, .slice o2 m2 c2] 33))
  have P2 : Hid (∀ w1, KB (w.alloc (.cells #[.int .i8 k, .bool b, .int .i64 n, .string s, .slice o m c, .slice o2 m2 c2] 33)) w1 → Calls Tryz.prog 49 #[.agg #[.int .i8 k, .bool b, .int .i64 n, .string s, .slice o m c, .slice o2 m2 c2]] w1 fun e w' => e = .returned (.int .i64 (pcheckV x)) ∧ KB (w.alloc (.cells #[.int .i8 k, .bool b, .int .i64 n, .string s, .slice o m c, .slice o2 m2 c2] 33)) w') := Lib.hid fun w1 hK => Calls.kb hK (pcheck_any x _ w1 ((hE.kb kbA).kb hK) hM hF (isV_below hK (isV_below kbA h)))
  have PW : Hid (∀ w1, KB (w.alloc (.cells #[.int .i8 k, .bool b, .int .i64 n, .string s, .slice o m c, .slice o2 m2 c2] 33)) w1 → Calls Tryz.prog 48 #[.string s] w1 fun e w' => e = .returned (.bool (wordB s)) ∧ KB (w.alloc (.cells #[.int .i8 k, .bool b, .int .i64 n, .string s, .slice o m c, .slice o2 m2 c2] 33)) w') := Lib.hid fun w1 hK => Calls.kb hK (Word_any s hs w1 ((hE.kb kbA).kb hK))
  have HC : Hid (∀ w1, KB (w.alloc (.cells #[.int .i8 k, .bool b, .int .i64 n, .string s, .slice o m c, .slice o2 m2 c2] 33)) w1 → w1.cell? ⟨w.heap.size, 0, none⟩ = some (.int .i8 k) ∧ w1.cell? ⟨w.heap.size, 1, none⟩ = some (.bool b) ∧ w1.cell? ⟨w.heap.size, 2, none⟩ = some (.int .i64 n) ∧ w1.cell? ⟨w.heap.size, 3, none⟩ = some (.string s) ∧ w1.cell? ⟨w.heap.size, 4, none⟩ = some (.slice o m c) ∧ w1.cell? ⟨w.heap.size, 5, none⟩ = some (.slice o2 m2 c2)) := Lib.hid fun w1 hK => six_cells' ((hK.block w.heap.size (by simp)).trans HX.out)
  unfold kindB
  rw [hk, ht]
  generalize pcheckV x = C at *
  generalize wordB s = R at *
  clear h hE hM hF hk ht
  by_cases h3 : k = 3
  · subst h3
    rw [if_pos rfl]
    cases R with
    | false =>
      rw [Bool.false_and]
      go_enter Tryz.func20, Tryz.ntmps20
      go_wp2_with (go_at_call 48; refine (PW.out _ (Below.refl _ _)).mono ?_; rintro e w5 ⟨rfl, hb5⟩)
      go_ret
      exact ⟨rfl, HB0.out.trans (hb5.mono HB0.out.size)⟩
    | true =>
      rw [Bool.true_and]
      cases num with
      | true =>
        go_enter Tryz.func20, Tryz.ntmps20
        go_wp2_with (go_at_call 48; refine (PW.out _ (Below.refl _ _)).mono ?_; rintro e w5 ⟨rfl, hb5⟩; obtain ⟨r0, r1, r2, r3, r4, r5⟩ := HC.out _ hb5)
        go_ret
        exact ⟨rfl, HB0.out.trans (hb5.mono HB0.out.size)⟩
      | false =>
        rw [Bool.not_false, Bool.true_and]
        by_cases hC : C = 0
        · subst hC
          rw [decide_eq_true rfl]
          go_enter Tryz.func20, Tryz.ntmps20
          go_wp2_with (first | (go_at_call 48; refine (PW.out _ (Below.refl _ _)).mono ?_; rintro e w5 ⟨rfl, hb5⟩; obtain ⟨r0, r1, r2, r3, r4, r5⟩ := HC.out _ hb5) | (go_at_call 49; refine (P2.out _ hb5).mono ?_; rintro e w6 ⟨rfl, hb6⟩))
          go_ret
          exact ⟨rfl, HB0.out.trans (hb6.mono HB0.out.size)⟩
        · rw [decide_eq_false hC]
          have z1 : (C == 0) = false := beqI hC
          have z2 : (C != 0) = true := bne_iff_ne.2 hC
          go_enter Tryz.func20, Tryz.ntmps20
          go_wp2_with (first | (go_at_call 48; refine (PW.out _ (Below.refl _ _)).mono ?_; rintro e w5 ⟨rfl, hb5⟩; obtain ⟨r0, r1, r2, r3, r4, r5⟩ := HC.out _ hb5) | (go_at_call 49; refine (P2.out _ hb5).mono ?_; rintro e w6 ⟨rfl, hb6⟩))
          go_ret
          exact ⟨rfl, HB0.out.trans (hb6.mono HB0.out.size)⟩
  · rw [if_neg h3]
    have z1 : (k == 3) = false := beqI h3
    have z2 : (k != 3) = true := bne_iff_ne.2 h3
    by_cases h2 : k = 2
    · subst h2
      rw [if_pos rfl]
      clear h3
      cases num with
      | false =>
        go_enter Tryz.func20, Tryz.ntmps20
        go_wp2_with fail
        go_ret
        exact ⟨rfl, HB0.out⟩
      | true =>
        rw [Bool.true_and]
        by_cases hC : C = 0
        · subst hC
          rw [decide_eq_true rfl]
          go_enter Tryz.func20, Tryz.ntmps20
          go_wp2_with (go_at_call 49; refine (P2.out _ (Below.refl _ _)).mono ?_; rintro e w6 ⟨rfl, hb6⟩)
          go_ret
          exact ⟨rfl, HB0.out.trans (hb6.mono HB0.out.size)⟩
        · rw [decide_eq_false hC]
          have z3 : (C == 0) = false := beqI hC
          have z4 : (C != 0) = true := bne_iff_ne.2 hC
          go_enter Tryz.func20, Tryz.ntmps20
          go_wp2_with (go_at_call 49; refine (P2.out _ (Below.refl _ _)).mono ?_; rintro e w6 ⟨rfl, hb6⟩)
          go_ret
          exact ⟨rfl, HB0.out.trans (hb6.mono HB0.out.size)⟩
    · rw [if_neg h2]
      have z3 : (k == 2) = false := beqI h2
      have z4 : (k != 2) = true := bne_iff_ne.2 h2
      clear h3 h2
      go_enter Tryz.func20, Tryz.ntmps20
      go_wp2_with fail
      go_ret
      exact ⟨rfl, HB0.out⟩

set_option maxRecDepth 100000 in
set_option maxHeartbeats 4000000 in
theorem someV_any (L : List V) (f : V → Bool) (g9 : Nat) (lb : Array Value) (v : Value) (w : World) (hl : L.length ≤ 1000000) (h : isVl w L v)
    (ef : ∀ args w, (callFunc g9 args).run Tryz.prog w = .ok (.enter g9 args) w)
    (hf : ∀ w1, KB w w1 → ∀ i (h : i < L.length) u, isV w1 L[i] u → Calls Tryz.prog g9 (#[u] ++ lb) w1 fun e w' => e = .returned (.bool (f L[i])) ∧ Below w1.heap.size w1 w') :
    Calls Tryz.prog 68 #[v, .func (.func g9) #[] lb] w fun e w' => e = .returned (.bool (L.any f)) ∧ Below w.heap.size w w' := by
  have HF := Lib.hid (findV_any L f g9 lb v w w (Below.refl _ _) hl h ef hf)
  rw [any_find] at HF
  generalize L.any f = r at *
  obtain ⟨a, cap, ⟨o, rfl, -⟩, -⟩ := h
  clear hf
  go_enter Tryz.func68, Tryz.ntmps68
  go_wp2_with (go_at_call 78; refine HF.out.mono ?_; rintro e w5 ⟨⟨v', rfl, hx⟩, hb5⟩; obtain ⟨k1, b1, m1, s1, o1, l1, p1, o2, l2, p2, rfl⟩ := isV_six hx; have HX := Lib.hid hx; clear hx)
  go_ret
  exact ⟨rfl, hb5.trans (kbA.mono hb5.size)⟩
set_option maxRecDepth 100000 in
set_option maxHeartbeats 4000000 in
theorem someP_any (L : List PR) (f : PR → Bool) (g9 : Nat) (lb : Array Value) (v : Value) (w : World) (hl : L.length ≤ 1000000) (h : isPs w L v)
    (ef : ∀ args w, (callFunc g9 args).run Tryz.prog w = .ok (.enter g9 args) w)
    (hf : ∀ w1, KB w w1 → ∀ i (h : i < L.length) u, isP w1 L[i] u → Calls Tryz.prog g9 (#[u] ++ lb) w1 fun e w' => e = .returned (.bool (f L[i])) ∧ Below w1.heap.size w1 w') :
    Calls Tryz.prog 28 #[v, .func (.func g9) #[] lb] w fun e w' => e = .returned (.bool (L.any f)) ∧ Below w.heap.size w w' := by
  have HF := Lib.hid (findP_any L f g9 lb v w w (Below.refl _ _) hl h ef hf)
  rw [any_find] at HF
  generalize L.any f = r at *
  obtain ⟨a, cap, ⟨o, rfl, -⟩, -⟩ := h
  clear hf
  go_enter Tryz.func28, Tryz.ntmps28
  go_wp2_with (go_at_call 41; refine HF.out.mono ?_; rintro e w5 ⟨⟨v', rfl, hx⟩, hb5⟩; obtain ⟨k1, b1, m1, s1, o1, l1, p1, o2, l2, p2, o3, p3, rfl, -⟩ := isP_ten hx; have HX := Lib.hid hx; clear hx)
  go_ret
  exact ⟨rfl, hb5.trans (kbA.mono hb5.size)⟩

set_option maxRecDepth 100000 in
set_option maxHeartbeats 4000000 in
theorem amongC_any (x y : V) (b9 : Nat) (u : Value) (w : World) (hE : Env w) (hM : sizeV x ≤ 1000000) (hF : fineV x) (hM' : sizeV y ≤ 1000000) (hF' : fineV y) {k n : Int} {b : Bool} {s : ByteArray} {o o2 : Option Addr} {m c m2 c2 : Nat} (hx : isV w x (.agg #[.int .i8 k, .bool b, .int .i64 n, .string s, .slice o m c, .slice o2 m2 c2])) (hb : w.heap[b9]? = some (.cells #[.int .i8 k, .bool b, .int .i64 n, .string s, .slice o m c, .slice o2 m2 c2] 33 (0, 0))) (h : isV w y u) :
    Calls Tryz.prog 69 #[u, .pointer (some ⟨b9, 0, none⟩)] w fun e w' => e = .returned (.bool (eqA x y)) ∧ Below w.heap.size w w' := by
  obtain ⟨k3, b3, n3, s3, o3, m3, c3, o4, m4, c4, rfl⟩ := isV_six h
  have HB0 : Hid (KB w (w.alloc (.cells #[.int .i8 k3, .bool b3, .int .i64 n3, .string s3, .slice o3 m3 c3, .slice o4 m4 c4] 33))) := Lib.hid kbA
  have HQ : Hid (∀ w1, KB w w1 → Calls Tryz.prog 70 #[.agg #[.int .i8 k, .bool b, .int .i64 n, .string s, .slice o m c, .slice o2 m2 c2], .agg #[.int .i8 k3, .bool b3, .int .i64 n3, .string s3, .slice o3 m3 c3, .slice o4 m4 c4]] w1 fun e w' => e = .returned (.bool (eqA x y)) ∧ Below w1.heap.size w1 w') := Lib.hid fun w1 hk => peq_any x y _ _ w1 (hE.kb hk) hM hF hM' hF' (isV_below hk hx) (isV_below hk h)
  obtain ⟨r0, r1, r2, r3, r4, r5⟩ := six_cells' ((HB0.out.block b9 (Array.getElem?_eq_some_iff.1 hb).1).trans hb)
  generalize eqA x y = r at *
  clear h hx hb hE hM hF hM' hF'
  go_enter Tryz.func69, Tryz.ntmps69
  go_wp2_with (go_at_call 70; refine (HQ.out _ HB0.out).mono ?_; rintro e w5 ⟨rfl, hb5⟩)
  go_ret
  exact ⟨rfl, HB0.out.trans (hb5.mono HB0.out.size)⟩
set_option maxRecDepth 100000 in
set_option maxHeartbeats 4000000 in
theorem among_any (L : List V) (x : V) (v u : Value) (w : World) (hE : Env w) (hL : fineL L) (hM : sizeV x ≤ 1000000) (hF : fineV x) (h : isVl w L v) (hx : isV w x u) :
    Calls Tryz.prog 50 #[v, u] w fun e w' => e = .returned (.bool (amongB L x)) ∧ Below w.heap.size w w' := by
  obtain ⟨k, b, n, s, o, m, c, o2, m2, c2, rfl⟩ := isV_six hx
  have HB0 : Hid (KB w (w.alloc (.cells #[.int .i8 k, .bool b, .int .i64 n, .string s, .slice o m c, .slice o2 m2 c2] 33))) := Lib.hid kbA
  have hn := World.alloc_heap_new w (.cells #[.int .i8 k, .bool b, .int .i64 n, .string s, .slice o m c, .slice o2 m2 c2] 33)
  have HS := Lib.hid (someV_any L (fun y => eqA x y) 69 #[.pointer (some ⟨w.heap.size, 0, none⟩)] v (w.alloc (.cells #[.int .i8 k, .bool b, .int .i64 n, .string s, .slice o m c, .slice o2 m2 c2] 33)) hL.1 (isVl_below HB0.out h) (enters_of Tryz.func69 (by kernel_rfl) rfl) (fun w1 hK i hi u hu => amongC_any x L[i] w.heap.size u w1 (hE.kb (HB0.out.trans (hK.mono HB0.out.size))) hM hF (hL.2 _ (List.getElem_mem hi)).1 (hL.2 _ (List.getElem_mem hi)).2 (isV_below (HB0.out.trans (hK.mono HB0.out.size)) hx) ((hK.block w.heap.size (by simp)).trans hn) hu))
  show Calls Tryz.prog 50 _ w fun e w' => e = .returned (.bool (L.any fun y => eqA x y)) ∧ Below w.heap.size w w'
  generalize (L.any fun y => eqA x y) = r at *
  obtain ⟨a, cap, ⟨o', rfl, -⟩, -⟩ := h
  clear hn hx hE hL hM hF
  go_enter Tryz.func50, Tryz.ntmps50
  go_wp2_with (go_at_call 68; refine HS.out.mono ?_; rintro e w5 ⟨rfl, hb5⟩)
  go_ret
  exact ⟨rfl, HB0.out.trans (hb5.mono HB0.out.size)⟩
set_option maxRecDepth 100000 in
set_option maxHeartbeats 4000000 in
theorem allowed_any (p : PR) (x : V) (v u : Value) (w : World) (hE : Env w) (hL : fineL p.al) (hM : sizeV x ≤ 1000000) (hF : fineV x) (h : isP w p v) (hx : isV w x u) :
    Calls Tryz.prog 21 #[v, u] w fun e w' => e = .returned (.bool (allowedB p x)) ∧ Below w.heap.size w w' := by
  obtain ⟨k, b, n, s, o, m, c, o2, m2, c2, oa, ca, rfl, hd, ha⟩ := isP_ten h
  obtain ⟨k3, b3, n3, s3, o3, m3, c3, o4, m4, c4, rfl⟩ := isV_six hx
  have HB0 : Hid (KB w ((w.alloc (.cells #[.string p.nm, .bool p.num, .bool p.has, .int .i8 k, .bool b, .int .i64 n, .string s, .slice o m c, .slice o2 m2 c2, .slice oa p.al.length ca] 37)).alloc (.cells #[.int .i8 k3, .bool b3, .int .i64 n3, .string s3, .slice o3 m3 c3, .slice o4 m4 c4] 33))) := Lib.hid (by unfold KB; go_grown)
  have HA : Hid (∀ w1, KB w w1 → Calls Tryz.prog 50 #[.slice oa p.al.length ca, .agg #[.int .i8 k3, .bool b3, .int .i64 n3, .string s3, .slice o3 m3 c3, .slice o4 m4 c4]] w1 fun e w' => e = .returned (.bool (amongB p.al x)) ∧ Below w1.heap.size w1 w') := Lib.hid fun w1 hk => among_any p.al x _ _ w1 (hE.kb hk) hL hM hF (isVl_below hk ha) (isV_below hk hx)
  unfold allowedB
  generalize amongB p.al x = r at *
  have hlen := hL.1
  clear h hd ha hx hE hM hF hL
  generalize p.al.length = q at *
  by_cases h0 : q = 0
  · subst h0
    rw [decide_eq_true rfl, Bool.true_or]
    go_enter Tryz.func21, Tryz.ntmps21
    go_wp2_with fail
    go_ret
    exact ⟨rfl, HB0.out⟩
  · rw [decide_eq_false h0, Bool.false_or]
    have z1 : (q == 0) = false := beq_eq_false_iff_ne.2 h0
    have z2 : ((q : Int) == 0) = false := beq_eq_false_iff_ne.2 (by omega)
    go_enter Tryz.func21, Tryz.ntmps21
    go_wp2_with (go_at_call 50; refine (HA.out _ HB0.out).mono ?_; rintro e w5 ⟨rfl, hb5⟩)
    go_ret
    exact ⟨rfl, HB0.out.trans (hb5.mono HB0.out.size)⟩
end Go.Proofs.YtlamkadllbgamaaGreatDoor
