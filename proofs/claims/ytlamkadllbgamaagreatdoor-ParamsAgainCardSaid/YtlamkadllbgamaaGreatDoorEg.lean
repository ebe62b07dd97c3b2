/-
  The reference's Equal of one value without lists.
-/
import Derived.Test.YtlamkadllbgamaaGreatDoorEf
import Derived.Test.YtlamkadllbgamaaGreatDoorGD
import Derived.Deep.RegionWith
set_option linter.unusedVariables false
set_option linter.unusedSimpArgs false
namespace Go.Proofs.YtlamkadllbgamaaGreatDoor
open Go.RowKit

theorem checkV_of {num : Bool} {x : V} (h : kindB num x = true) : checkV x = 0 := by
  have hp := (kind_flat h).2.1
  have h0 : pwrongV x = 0 := by
    refine Classical.byContradiction fun e => ?_
    unfold pcheckV at hp
    rw [if_pos e] at hp
    exact e hp
  unfold pcheckV at hp
  rw [if_neg (by simpa using h0)] at hp
  refine check_of (pwrong_zero h0).2 (pwrong_zero h0).1 ?_
  by_cases hc : 4096 < countV x
  · rw [if_pos hc] at hp; cases hp
  · omega
set_option maxRecDepth 100000 in
set_option maxHeartbeats 4000000 in
theorem rsortF_any (k n : Int) (b : Bool) (s : ByteArray) (o o2 : Option Addr) (c c2 : Nat) (w : World) :
    Calls Tryz.prog 25 #[.agg #[.int .i8 k, .bool b, .int .i64 n, .string s, .slice o 0 c, .slice o2 0 c2]] w fun e w' => e = .returned (.agg #[.int .i8 k, .bool b, .int .i64 n, .string s, .slice none 0 0, .slice none 0 0]) ∧ Below w.heap.size w w' := by
  have HB0 : Hid (KB w (((w.alloc (.cells #[.int .i8 k, .bool b, .int .i64 n, .string s, .slice o 0 c, .slice o2 0 c2] 33)).alloc (.cells #[.int .i8 0, .bool false, .int .i64 0, .string ⟨#[]⟩, .slice none 0 0, .slice none 0 0] 33)).alloc (.cells #[.int .i8 k, .bool b, .int .i64 n, .string s, .slice none 0 0, .slice none 0 0] 33))) := Lib.hid (by unfold KB; go_grown)
  have h3 := three_heaps w (.cells #[.int .i8 k, .bool b, .int .i64 n, .string s, .slice o 0 c, .slice o2 0 c2] 33) (.cells #[.int .i8 0, .bool false, .int .i64 0, .string ⟨#[]⟩, .slice none 0 0, .slice none 0 0] 33) (.cells #[.int .i8 k, .bool b, .int .i64 n, .string s, .slice none 0 0, .slice none 0 0] 33)
  have HX := Lib.hid h3
  clear h3
  go_enter Tryz.func25, Tryz.ntmps25
  go_wp2_with fail
  generalize hW3 : (((w.alloc (.cells #[.int .i8 k, .bool b, .int .i64 n, .string s, .slice o 0 c, .slice o2 0 c2] 33)).alloc (.cells #[.int .i8 0, .bool false, .int .i64 0, .string ⟨#[]⟩, .slice none 0 0, .slice none 0 0] 33)).alloc (.cells #[.int .i8 k, .bool b, .int .i64 n, .string s, .slice none 0 0, .slice none 0 0] 33)) = W3 at *
  clear hW3
  obtain ⟨x0, x1, x2, x3, x4, x5⟩ := six_cells' HX.out.1
  obtain ⟨r0, r1, r2, r3, r4, r5⟩ := six_cells' HX.out.2.2
  go_loopw [4] (fun i wr => i = .int .i64 0 ∧ wr = W3) (fun _ _ => 0)
  case atStart => exact ⟨rfl, rfl⟩
  case round =>
    obtain ⟨rfl, rfl⟩ := hrel
    obtain ⟨y1, y2, y3, y4, y5, y6, ⟨⟨_, t0⟩, t0', t0''⟩, ⟨⟨_, t1⟩, t1', t1''⟩, ⟨⟨_, t2⟩, t2', t2''⟩, ⟨⟨_, t3⟩, t3', t3''⟩, ⟨⟨_, t4⟩, t4', t4''⟩, ⟨⟨_, t5⟩, t5', t5''⟩, hg7, u0, u1, u2, u3, u4, u5⟩ := fill_six (d0 := .int .i8 k) (d1 := .bool b) (d2 := .int .i64 n) (d3 := .string s) (d4 := .slice none 0 0) (d5 := .slice none 0 0) HX.out.2.1
    have HG := Lib.hid (And.intro hg7 (And.intro u0 (And.intro u1 (And.intro u2 (And.intro u3 (And.intro u4 u5))))))
    clear hg7 u0 u1 u2 u3 u4 u5
    go_wp2_with fail
    obtain ⟨hg7, u0, u1, u2, u3, u4, u5⟩ := HG.out
    refine bodyPost_ret (v := .agg #[.int .i8 k, .bool b, .int .i64 n, .string s, .slice none 0 0, .slice none 0 0]) (by simp [results, Tryz.results25, go_sem, u0, u1, u2, u3, u4, u5]) rfl ?_
    exact ⟨rfl, HB0.out.grown hg7 HB0.out.size (fun r e => by cases e; omega)⟩
set_option maxRecDepth 100000 in
set_option maxHeartbeats 4000000 in
theorem rcmpF_any (k n : Int) (b : Bool) (s : ByteArray) (w : World) :
    Calls Tryz.prog 24 #[.agg #[.int .i8 k, .bool b, .int .i64 n, .string s, .slice none 0 0, .slice none 0 0], .agg #[.int .i8 k, .bool b, .int .i64 n, .string s, .slice none 0 0, .slice none 0 0]] w fun e w' => e = .returned (.int .i64 0) ∧ Below w.heap.size w w' := by
  have HB0 : Hid (KB w ((w.alloc (.cells #[.int .i8 k, .bool b, .int .i64 n, .string s, .slice none 0 0, .slice none 0 0] 33)).alloc (.cells #[.int .i8 k, .bool b, .int .i64 n, .string s, .slice none 0 0, .slice none 0 0] 33))) := Lib.hid (by unfold KB; go_grown)
  have hn1 := (Below.heap_alloc (w.alloc (.cells #[.int .i8 k, .bool b, .int .i64 n, .string s, .slice none 0 0, .slice none 0 0] 33)) (.cells #[.int .i8 k, .bool b, .int .i64 n, .string s, .slice none 0 0, .slice none 0 0] 33) w.heap.size (by simp)).trans (World.alloc_heap_new w _)
  have hn2 := World.alloc_heap_new (w.alloc (.cells #[.int .i8 k, .bool b, .int .i64 n, .string s, .slice none 0 0, .slice none 0 0] 33)) (.cells #[.int .i8 k, .bool b, .int .i64 n, .string s, .slice none 0 0, .slice none 0 0] 33)
  rw [World.size_alloc] at hn2
  have hz : (s.toList == s.toList) = true := beq_self_eq_true _
  go_enter Tryz.func24, Tryz.ntmps24
  go_wp2_with fail
  generalize hW2 : ((w.alloc (.cells #[.int .i8 k, .bool b, .int .i64 n, .string s, .slice none 0 0, .slice none 0 0] 33)).alloc (.cells #[.int .i8 k, .bool b, .int .i64 n, .string s, .slice none 0 0, .slice none 0 0] 33)) = W2 at *
  clear hW2
  obtain ⟨x0, x1, x2, x3, x4, x5⟩ := six_cells' hn1
  obtain ⟨r0, r1, r2, r3, r4, r5⟩ := six_cells' hn2
  clear hn1 hn2
  go_wp2_with fail
  go_loopw [5] (fun i wr => i = .int .i64 0 ∧ wr = W2) (fun _ _ => 0)
  case atStart => exact ⟨rfl, rfl⟩
  case round =>
    obtain ⟨rfl, rfl⟩ := hrel
    go_wp2_with fail
    go_ret
    exact ⟨rfl, HB0.out⟩

theorem flat_agg {W : World} {x : V} {v : Value} (hf : flatV x) (h : isV W x v) : ∃ (o : Option Addr) (c : Nat) (o2 : Option Addr) (c2 : Nat), v = .agg #[.int .i8 x.kind, .bool x.bool, .int .i64 x.num, .string x.text, .slice o 0 c, .slice o2 0 c2] := by
  obtain ⟨k, b, n, s, o, m, c, o2, m2, c2, rfl⟩ := isV_six h
  obtain ⟨e1, e2, e3, e4, e5, hk⟩ := isV_all h
  obtain ⟨o9, c9, e9⟩ := isK_form hk
  simp only [Value.slice.injEq] at e9
  obtain ⟨rfl, rfl, rfl⟩ := e9
  rw [hf.1] at e5
  rw [hf.2]
  simp only [List.length_nil] at e5 ⊢
  subst e5
  exact ⟨o, c, o2, c2, by rw [e1, e2, e3, e4]⟩
set_option maxRecDepth 100000 in
set_option maxHeartbeats 8000000 in
theorem rEqF_any (x : V) (hf : flatV x) (hc : checkV x = 0) (v u : Value) (w : World) (hM : sizeV x ≤ 1000000) (h : isV w x v) (h' : isV w x u) :
    Calls Tryz.prog 10 #[v, u] w fun e w' => e = .returned (.bool true) ∧ Below w.heap.size w w' := by
  have C1 : Hid (∀ w1, KB w w1 → Calls Tryz.prog 23 #[v] w1 fun e w' => e = .returned (.int .i64 0) ∧ Below w1.heap.size w1 w') := Lib.hid fun w1 hk => by
    have k := check_any x v w1 hM (isV_below hk h)
    rwa [hc] at k
  have C2 : Hid (∀ w1, KB w w1 → Calls Tryz.prog 23 #[u] w1 fun e w' => e = .returned (.int .i64 0) ∧ Below w1.heap.size w1 w') := Lib.hid fun w1 hk => by
    have k := check_any x u w1 hM (isV_below hk h')
    rwa [hc] at k
  obtain ⟨o, c, o2, c2, rfl⟩ := flat_agg hf h
  obtain ⟨o', c', o2', c2', rfl⟩ := flat_agg hf h'
  generalize x.kind = k at *
  generalize x.bool = b at *
  generalize x.num = n at *
  generalize x.text = s at *
  clear h h' hM hc hf
  have HB0 : Hid (KB w ((w.alloc (.cells #[.int .i8 k, .bool b, .int .i64 n, .string s, .slice o 0 c, .slice o2 0 c2] 33)).alloc (.cells #[.int .i8 k, .bool b, .int .i64 n, .string s, .slice o' 0 c', .slice o2' 0 c2'] 33))) := Lib.hid (by unfold KB; go_grown)
  have hn1 := (Below.heap_alloc (w.alloc (.cells #[.int .i8 k, .bool b, .int .i64 n, .string s, .slice o 0 c, .slice o2 0 c2] 33)) (.cells #[.int .i8 k, .bool b, .int .i64 n, .string s, .slice o' 0 c', .slice o2' 0 c2'] 33) w.heap.size (by simp)).trans (World.alloc_heap_new w _)
  have hn2 := World.alloc_heap_new (w.alloc (.cells #[.int .i8 k, .bool b, .int .i64 n, .string s, .slice o 0 c, .slice o2 0 c2] 33)) (.cells #[.int .i8 k, .bool b, .int .i64 n, .string s, .slice o' 0 c', .slice o2' 0 c2'] 33)
  rw [World.size_alloc] at hn2
  go_enter Tryz.func10, Tryz.ntmps10
  go_wp2_with fail
  generalize hW2 : ((w.alloc (.cells #[.int .i8 k, .bool b, .int .i64 n, .string s, .slice o 0 c, .slice o2 0 c2] 33)).alloc (.cells #[.int .i8 k, .bool b, .int .i64 n, .string s, .slice o' 0 c', .slice o2' 0 c2'] 33)) = W2 at *
  clear hW2
  have HX : Hid (∀ w1, KB W2 w1 → w1.heap[w.heap.size]? = some (.cells #[.int .i8 k, .bool b, .int .i64 n, .string s, .slice o 0 c, .slice o2 0 c2] 33 (0, 0)) ∧ w1.heap[w.heap.size + 1]? = some (.cells #[.int .i8 k, .bool b, .int .i64 n, .string s, .slice o' 0 c', .slice o2' 0 c2'] 33 (0, 0)) ∧ KB w w1) := Lib.hid fun w1 hk => ⟨(hk.block _ (Array.getElem?_eq_some_iff.1 hn1).1).trans hn1, (hk.block _ (Array.getElem?_eq_some_iff.1 hn2).1).trans hn2, HB0.out.trans (hk.mono HB0.out.size)⟩
  have D1 : Hid (∀ w1, KB W2 w1 → Calls Tryz.prog 23 #[.agg #[.int .i8 k, .bool b, .int .i64 n, .string s, .slice o 0 c, .slice o2 0 c2]] w1 fun e w' => e = .returned (.int .i64 0) ∧ Below w1.heap.size w1 w') := Lib.hid fun w1 hk => C1.out w1 (HX.out w1 hk).2.2
  have D2 : Hid (∀ w1, KB W2 w1 → Calls Tryz.prog 23 #[.agg #[.int .i8 k, .bool b, .int .i64 n, .string s, .slice o' 0 c', .slice o2' 0 c2']] w1 fun e w' => e = .returned (.int .i64 0) ∧ Below w1.heap.size w1 w') := Lib.hid fun w1 hk => C2.out w1 (HX.out w1 hk).2.2
  obtain ⟨x0, x1, x2, x3, x4, x5⟩ := six_cells' hn1
  obtain ⟨r0, r1, r2, r3, r4, r5⟩ := six_cells' hn2
  clear hn1 hn2 C1 C2
  go_region_with (first
    | (go_at_call 23; have q := HK5; refine (D2.out _ HK5.out).mono ?_; rintro e w6 ⟨rfl, hb6⟩; have HK6 := Lib.hid (HK5.out.trans (hb6.mono HK5.out.size)); clear q hb6; obtain ⟨hx1, hx2, -⟩ := HX.out _ HK6.out; obtain ⟨x0, x1, x2, x3, x4, x5⟩ := six_cells' hx1; obtain ⟨r0, r1, r2, r3, r4, r5⟩ := six_cells' hx2; clear hx1 hx2)
    | (go_at_call 23; refine (D1.out _ (drewB1 _ _)).mono ?_; rintro e w5 ⟨rfl, hb5⟩; have HK5 := Lib.hid (below_drew_of hb5); clear hb5; obtain ⟨hx1, hx2, -⟩ := HX.out _ HK5.out; obtain ⟨x0, x1, x2, x3, x4, x5⟩ := six_cells' hx1; obtain ⟨r0, r1, r2, r3, r4, r5⟩ := six_cells' hx2; clear hx1 hx2)
    | (go_at_call 25; have q := HK7; refine (rsortF_any _ _ _ _ _ _ _ _ _).mono ?_; rintro e w8 ⟨rfl, hb8⟩; have HK8 := Lib.hid (HK7.out.trans (hb8.mono HK7.out.size)); clear q hb8)
    | (go_at_call 25; refine (rsortF_any _ _ _ _ _ _ _ _ _).mono ?_; rintro e w7 ⟨rfl, hb7⟩; have HK7 := Lib.hid (HK6.out.trans (hb7.mono HK6.out.size)); clear hb7; obtain ⟨hx1, hx2, -⟩ := HX.out _ HK7.out; obtain ⟨x0, x1, x2, x3, x4, x5⟩ := six_cells' hx1; obtain ⟨r0, r1, r2, r3, r4, r5⟩ := six_cells' hx2; clear hx1 hx2)
    | (go_at_call 24; refine (rcmpF_any _ _ _ _ _).mono ?_; rintro e w9 ⟨rfl, hb9⟩; have HK9 := Lib.hid (HK8.out.trans (hb9.mono HK8.out.size)); clear hb9))
  all_goals
    go_wp2_with fail
    go_ret
    exact ⟨rfl, (HX.out _ HK9.out).2.2⟩
end Go.Proofs.YtlamkadllbgamaaGreatDoor
