/-
  The reference's texts of any value that may be; Sorted, Print, Broad, Len. · The reference's Sorted, Print, Broad, Len. · The reference's Print, Broad, Len.
-/
import Derived.Test.YtllkcldckehipaaGreatDoorIC
import Derived.Test.YtllkcldckehipaaGreatDoorIB
import Derived.Test.YtllkcldckehipaaGreatDoorHK
import Derived.Test.YtllkcldckehipaaGreatDoorHE
set_option linter.unusedVariables false
set_option linter.unusedSimpArgs false
namespace Go.Proofs.YtllkcldckehipaaGreatDoor
open Go.RowKit Go.Shelf

set_option maxRecDepth 100000 in
set_option maxHeartbeats 2000000 in
theorem rshort_leaf (k : Int) (b : Bool) (n : Int) (s : ByteArray) (o : Option Addr) (m c : Nat) (o2 : Option Addr) (m2 c2 : Nat) (w : World) (h4 : k ≠ 4) (h5 : k ≠ 5)
    (HD : k = 2 → ∀ W, Calls Tryz.prog 51 #[.int .i64 n] W fun e w' => e = .returned (.string (tx (Nu.txt n))) ∧ Below W.heap.size W w')
    (hv : k = 3 → validS s = true ∧ s.size ≤ 20000) :
    Calls Tryz.prog 23 #[.agg #[.int .i8 k, .bool b, .int .i64 n, .string s, .slice o m c, .slice o2 m2 c2]] w fun e w' => e = .returned (.string (tx (leafT k b n s))) ∧ Below w.heap.size w w' := by
  have HB := Lib.hid (kbA (w := w) (o := .cells #[.int .i8 k, .bool b, .int .i64 n, .string s, .slice o m c, .slice o2 m2 c2] 26))
  have HL := Lib.hid (fun W => rleaf_any k b n s o m c o2 m2 c2 W HD hv)
  obtain ⟨R, hR⟩ : ∃ R, tx (leafT k b n s) = R := ⟨_, rfl⟩
  rw [hR] at HL ⊢
  have z4 : (k == 4) = false := beqI h4
  have z5 : (k == 5) = false := beqI h5
  have y4 : (k != 4) = true := bne_iff_ne.2 h4
  have y5 : (k != 5) = true := bne_iff_ne.2 h5
  clear HD hv hR h4 h5
  go_enter Tryz.func23, Tryz.ntmps23
  go_wp2_with (go_at_call 39; refine (HL.out _).mono ?_; rintro e w2 ⟨rfl, hb⟩)
  go_ret
  exact ⟨rfl, HB.out.trans (hb.mono HB.out.size)⟩
set_option maxRecDepth 100000 in
set_option maxHeartbeats 2000000 in
theorem rbroad_leaf (k : Int) (b : Bool) (n : Int) (s : ByteArray) (o : Option Addr) (m c : Nat) (o2 : Option Addr) (m2 c2 : Nat) (inn : ByteArray) (w : World) (h4 : k ≠ 4) (h5 : k ≠ 5)
    (HD : k = 2 → ∀ W, Calls Tryz.prog 51 #[.int .i64 n] W fun e w' => e = .returned (.string (tx (Nu.txt n))) ∧ Below W.heap.size W w')
    (hv : k = 3 → validS s = true ∧ s.size ≤ 20000) :
    Calls Tryz.prog 26 #[.agg #[.int .i8 k, .bool b, .int .i64 n, .string s, .slice o m c, .slice o2 m2 c2], .string inn] w fun e w' => e = .returned (.string (tx (leafT k b n s))) ∧ Below w.heap.size w w' := by
  have HB := Lib.hid (kbA (w := w) (o := .cells #[.int .i8 k, .bool b, .int .i64 n, .string s, .slice o m c, .slice o2 m2 c2] 26))
  have HL := Lib.hid (fun W => rleaf_any k b n s o m c o2 m2 c2 W HD hv)
  obtain ⟨R, hR⟩ : ∃ R, tx (leafT k b n s) = R := ⟨_, rfl⟩
  rw [hR] at HL ⊢
  have z4 : (k == 4) = false := beqI h4
  have z5 : (k == 5) = false := beqI h5
  have y4 : (k != 4) = true := bne_iff_ne.2 h4
  have y5 : (k != 5) = true := bne_iff_ne.2 h5
  clear HD hv hR h4 h5
  go_enter Tryz.func26, Tryz.ntmps26
  go_wp2_with (go_at_call 39; refine (HL.out _).mono ?_; rintro e w2 ⟨rfl, hb⟩)
  go_ret
  exact ⟨rfl, HB.out.trans (hb.mono HB.out.size)⟩

theorem I0_len (d : Nat) (_ : d ≤ 200) : (I0 d).length ≤ 450 := Nat.zero_le _
theorem I2_len4 (d : Nat) (h : d ≤ 200) : (I2 d).length ≤ 450 := by
  unfold I2
  rw [List.length_cons, List.length_replicate]
  omega
theorem keyS_le2 {ks : List ByteArray} {q : ByteArray} (h : q ∈ ks) : q.size ≤ keysS ks := by have := keyS_le h; omega
/-- What a part keeps. -/
theorem part_ok {k : Int} {b : Bool} {n : Int} {s : ByteArray} {l : List V} {ks : List ByteArray} {N d : Nat} (hs : sizeV (.mk k b n s l ks) ≤ N + 1) (hw : wrongV (.mk k b n s l ks) = 0) (hd : d + depthV (.mk k b n s l ks) ≤ 200) (i : Nat) (hi : i < l.length) :
    sizeV l[i] ≤ N ∧ wrongV l[i] = 0 ∧ d + 1 + depthV l[i] ≤ 200 := by
  refine ⟨?_, ?_, ?_⟩
  · have := sizeVs_get l i hi
    unfold sizeV at hs
    omega
  · exact wrong_iff.2 fun z hz => wrong_iff.1 hw z (part_in (x := .mk k b n s l ks) (List.getElem_mem hi) z hz)
  · have := depth_part (l := l) (List.getElem_mem hi)
    unfold depthV at hd
    omega
theorem rshort_aux : ∀ (N : Nat) (x : V) (d : Nat), sizeV x ≤ N → N ≤ 20000 → wrongV x = 0 → d + depthV x ≤ 200 → ShC d x
  | 0, x, d, h, _, _, _ => absurd (sizeV_pos x) (by omega)
  | N + 1, .mk k b n s l ks, d, hs, hN, hw, hd => fun v w h => by
    have hb := ft_bound (C := [58]) (I := I0) (by decide) I0_len _ _ d (Nat.le_refl _) hd (okP_of hw (by omega))
    have hp := own_parts (wrong_iff.1 hw _ (self_in _))
    obtain ⟨⟨⟨a1, a1'⟩, a2, a3, a4, a5, a6, a7⟩, an, av, ak, _⟩ := hp
    simp only [V.kind, V.num, V.text, V.list, V.keys] at a1 a1' a5 a6 a7 an av ak
    have hsz : sizeV (.mk k b n s l ks) = 1 + s.size + keysS ks + sizeVs l := by rw [sizeV]
    have IH : ∀ i (hi : i < l.length), ShC (d + 1) l[i] := fun i hi => by
      obtain ⟨h1, h2, h3⟩ := part_ok hs hw hd i hi
      exact rshort_aux N _ _ h1 (by omega) h2 h3
    by_cases h4 : k = 4
    · subst h4
      exact rshort4 d b n s l ks v w h (by omega) IH
    · by_cases h5 : k = 5
      · subst h5
        exact rshort5 d b n s l ks (a6 rfl) (fun q hq => ⟨List.all_eq_true.1 ak q hq, by have := keyS_le2 hq; omega⟩) v w h (by omega) IH
      · rw [leaf_ft a1 h4 h5 a1']
        obtain ⟨kk, bb, nn, ss, o, m, c, o2, m2, c2, he⟩ := isV_six h
        unfold isV at h
        obtain ⟨lv, kv, hv, -⟩ := h
        rw [hv] at he
        simp only [Value.agg.injEq, Array.mk.injEq, List.cons.injEq, and_true, Value.int.injEq, Value.bool.injEq, Value.string.injEq, true_and] at he
        obtain ⟨-, -, -, -, e5, e6⟩ := he
        rw [hv, e5, e6]
        exact rshort_leaf k b n s o m c o2 m2 c2 w h4 h5 (fun _ W => rdigits_any n an.1 an.2 W) (fun _ => ⟨av, by omega⟩)
theorem rbroad_aux : ∀ (N : Nat) (x : V) (d : Nat), sizeV x ≤ N → N ≤ 20000 → wrongV x = 0 → d + depthV x ≤ 200 → BrC d x
  | 0, x, d, h, _, _, _ => absurd (sizeV_pos x) (by omega)
  | N + 1, .mk k b n s l ks, d, hs, hN, hw, hd => fun v w h => by
    have hb := ft_bound (C := [58, 32]) (I := I2) (by decide) I2_len4 _ _ d (Nat.le_refl _) hd (okP_of hw (by omega))
    have hp := own_parts (wrong_iff.1 hw _ (self_in _))
    obtain ⟨⟨⟨a1, a1'⟩, a2, a3, a4, a5, a6, a7⟩, an, av, ak, _⟩ := hp
    simp only [V.kind, V.num, V.text, V.list, V.keys] at a1 a1' a5 a6 a7 an av ak
    have hsz : sizeV (.mk k b n s l ks) = 1 + s.size + keysS ks + sizeVs l := by rw [sizeV]
    have hdd : d ≤ 1000 := by omega
    have IH : ∀ i (hi : i < l.length), BrC (d + 1) l[i] := fun i hi => by
      obtain ⟨h1, h2, h3⟩ := part_ok hs hw hd i hi
      exact rbroad_aux N _ _ h1 (by omega) h2 h3
    by_cases h4 : k = 4
    · subst h4
      exact rbroad4 d hdd b n s l ks v w h (by omega) IH
    · by_cases h5 : k = 5
      · subst h5
        exact rbroad5 d hdd b n s l ks (a6 rfl) (fun q hq => ⟨List.all_eq_true.1 ak q hq, by have := keyS_le2 hq; omega⟩) v w h (by omega) IH
      · rw [leaf_ft a1 h4 h5 a1']
        obtain ⟨kk, bb, nn, ss, o, m, c, o2, m2, c2, he⟩ := isV_six h
        unfold isV at h
        obtain ⟨lv, kv, hv, -⟩ := h
        rw [hv] at he
        simp only [Value.agg.injEq, Array.mk.injEq, List.cons.injEq, and_true, Value.int.injEq, Value.bool.injEq, Value.string.injEq, true_and] at he
        obtain ⟨-, -, -, -, e5, e6⟩ := he
        rw [hv, e5, e6]
        exact rbroad_leaf k b n s o m c o2 m2 c2 _ w h4 h5 (fun _ W => rdigits_any n an.1 an.2 W) (fun _ => ⟨av, by omega⟩)
end Go.Proofs.YtllkcldckehipaaGreatDoor

namespace Go.Proofs.YtllkcldckehipaaGreatDoor
open Go.RowKit Go.Shelf

theorem pcheck_eq (x : V) : pcheckV x = checkV x := by
  unfold pcheckV checkV pwrongV
  by_cases h : 24 < depthV x
  · rw [if_pos h, if_pos h]; simp
  · rw [if_neg h, if_neg h]
set_option maxRecDepth 100000 in
set_option maxHeartbeats 4000000 in
theorem rsortedT_any (x : V) (v : Value) (w : World) (hc : checkV x = 0) (hM : sizeV x ≤ 1000000) (h : isV w x v) :
    Calls Tryz.prog 24 #[v] w fun e w' => ∃ v', e = .returned v' ∧ isV w' (psortV x) v' ∧ Below w.heap.size w w' := by
  have hw := wrong_of_check hc
  obtain ⟨k, b, n, s, o, m, c, o2, m2, c2, rfl⟩ := isV_six h
  obtain ⟨W2, hW2⟩ : ∃ W2, (w.alloc (.cells #[.int .i8 k, .bool b, .int .i64 n, .string s, .slice o m c, .slice o2 m2 c2] 26)).alloc (.cells #[.int .i8 0, .bool false, .int .i64 0, .string ⟨#[]⟩, .slice none 0 0, .slice none 0 0] 26) = W2 := ⟨_, rfl⟩
  have hb2 : KB w W2 := by rw [← hW2]; unfold KB; go_grown
  have hn1 : W2.heap[w.heap.size]? = some (.cells #[.int .i8 k, .bool b, .int .i64 n, .string s, .slice o m c, .slice o2 m2 c2] 26 (0, 0)) := by
    rw [← hW2]
    exact (Below.heap_alloc (w.alloc (.cells #[.int .i8 k, .bool b, .int .i64 n, .string s, .slice o m c, .slice o2 m2 c2] 26)) _ w.heap.size (by simp)).trans (World.alloc_heap_new w _)
  have hn2 : W2.heap[w.heap.size + 1]? = some (.cells #[.int .i8 0, .bool false, .int .i64 0, .string ⟨#[]⟩, .slice none 0 0, .slice none 0 0] 26 (0, 0)) := by
    rw [← hW2]
    have := World.alloc_heap_new (w.alloc (.cells #[.int .i8 k, .bool b, .int .i64 n, .string s, .slice o m c, .slice o2 m2 c2] 26)) (.cells #[.int .i8 0, .bool false, .int .i64 0, .string ⟨#[]⟩, .slice none 0 0, .slice none 0 0] 26)
    rw [World.size_alloc] at this
    exact this
  have hs2 : w.heap.size + 2 = W2.heap.size := by rw [← hW2]; simp
  have HCK : Hid (∀ W, KB W2 W → Calls Tryz.prog 21 #[.agg #[.int .i8 k, .bool b, .int .i64 n, .string s, .slice o m c, .slice o2 m2 c2]] W fun e w' => e = .returned (.int .i64 0) ∧ KB W2 w') := Lib.hid fun W hk => by
    have := Calls.kb hk (check_any x _ W hM (isV_below (hb2.trans (Below.mono hk hb2.size)) h))
    rwa [hc] at this
  have HSO : Hid (∀ W, KB W2 W → Calls Tryz.prog 30 #[.agg #[.int .i8 k, .bool b, .int .i64 n, .string s, .slice o m c, .slice o2 m2 c2]] W fun e w' => ∃ v', e = .returned v' ∧ Hid (isVa w' (fun q => W2.heap.size ≤ q) (psortV x) v') ∧ KB W2 w') := Lib.hid fun W hk => by
    refine (rsorted_any x hM hw _ W (isV_below (hb2.trans (Below.mono hk hb2.size)) h)).mono ?_
    rintro e w' ⟨v', rfl, hv, hb⟩
    exact ⟨v', rfl, Lib.hid (isVa_mono (fun q hq => Nat.le_trans hk.size hq) _ _ hv), Below.trans hk (hb.mono hk.size)⟩
  have HC : Hid (∀ W, KB W2 W → W.cell? ⟨w.heap.size, 0, none⟩ = some (.int .i8 k) ∧ W.cell? ⟨w.heap.size, 1, none⟩ = some (.bool b) ∧ W.cell? ⟨w.heap.size, 2, none⟩ = some (.int .i64 n) ∧ W.cell? ⟨w.heap.size, 3, none⟩ = some (.string s) ∧ W.cell? ⟨w.heap.size, 4, none⟩ = some (.slice o m c) ∧ W.cell? ⟨w.heap.size, 5, none⟩ = some (.slice o2 m2 c2)) := Lib.hid fun W hk =>
    six_cells ((Below.block hk _ (by omega)).trans hn1)
  have HZ : Hid (∀ W, KB W2 W → W.heap[w.heap.size + 1]? = some (.cells #[.int .i8 0, .bool false, .int .i64 0, .string ⟨#[]⟩, .slice none 0 0, .slice none 0 0] 26 (0, 0))) := Lib.hid fun W hk => (Below.block hk _ (by omega)).trans hn2
  have HB2 := Lib.hid hb2
  have HS2 := Lib.hid hs2
  obtain ⟨r0, r1, r2, r3, r4, r5⟩ := HC.out W2 (Below.refl _ _)
  clear h hn1 hn2 hs2 hb2 hc hM hw
  go_enter Tryz.func24, Tryz.ntmps24
  go_wp2_with fail
  try rw [hW2]
  refine (HCK.out W2 (Below.refl _ _)).mono ?_
  rintro e w3 ⟨rfl, hk3⟩
  clear hW2 r0 r1 r2 r3 r4 r5
  obtain ⟨r0, r1, r2, r3, r4, r5⟩ := HC.out w3 hk3
  go_wp2_with fail
  refine (HSO.out w3 hk3).mono ?_
  rintro e w5 ⟨v', rfl, hv5, hk5⟩
  obtain ⟨k', b', n', s', o', m', c', o2', m2', c2', rfl⟩ := isV_six (isV_of_a _ _ hv5.out)
  obtain ⟨x1, x2, x3, x4, x5, x6, f', ⟨⟨_, t1⟩, t1', t1''⟩, ⟨⟨_, t2⟩, t2', t2''⟩, ⟨⟨_, t3⟩, t3', t3''⟩, ⟨⟨_, t4⟩, t4', t4''⟩, ⟨⟨_, t5⟩, t5', t5''⟩, ⟨⟨_, t6⟩, t6', t6''⟩, hf7, hg7, e0, e1, e2, e3, e4, e5, -⟩ := store_six (rowIs_six (HZ.out w5 hk5)) 0 (by decide) (.int .i8 k') (.bool b') (.int .i64 n') (.string s') (.slice o' m' c') (.slice o2' m2' c2') (by intro u hu; simp only [List.mem_cons, List.not_mem_nil, or_false] at hu; rcases hu with rfl | rfl | rfl | rfl | rfl | rfl <;> rfl)
  simp only [Nat.zero_add] at t2 t2' t2'' t3 t3' t3'' t4 t4' t4'' t5 t5' t5'' t6 t6' t6'' e1 e2 e3 e4 e5
  have d0 := hf7.cell (show 0 < 6 by decide)
  have d1 := hf7.cell (show 1 < 6 by decide)
  have d2 := hf7.cell (show 2 < 6 by decide)
  have d3 := hf7.cell (show 3 < 6 by decide)
  have d4 := hf7.cell (show 4 < 6 by decide)
  have d5 := hf7.cell (show 5 < 6 by decide)
  rw [e0] at d0
  rw [e1] at d1
  rw [e2] at d2
  rw [e3] at d3
  rw [e4] at d4
  rw [e5] at d5
  have HD := Lib.hid (And.intro d0 (And.intro d1 (And.intro d2 (And.intro d3 (And.intro d4 d5)))))
  have HEND : Hid (isV x6 (psortV x) (.agg #[.int .i8 k', .bool b', .int .i64 n', .string s', .slice o' m' c', .slice o2' m2' c2']) ∧ KB w x6) := Lib.hid ⟨isV_of_a _ _ (isVa_keep (fun a c hB hc => by
    have hl := World.block_lt_of_cell? w5 a hc
    have hs := HS2.out
    have hB' : W2.heap.size ≤ a.block := hB
    have := hg7.block a.block hl (fun e => by have := Option.some.inj e; omega)
    rw [← hc]
    exact World.cell?_of_block this) _ _ hv5.out), (HB2.out.trans (Below.mono hk5 HB2.out.size)).grown hg7 (by have := HS2.out; have := HB2.out.size; have := hk5.size; omega) (fun r e => by have := Option.some.inj e; omega)⟩
  clear hf7 hg7 e0 e1 e2 e3 e4 e5 d0 d1 d2 d3 d4 d5 hv5 HZ
  go_wp2_with fail
  obtain ⟨d0, d1, d2, d3, d4, d5⟩ := HD.out
  refine bodyPost_ret (v := .agg #[.int .i8 k', .bool b', .int .i64 n', .string s', .slice o' m' c', .slice o2' m2' c2']) (by simp [results, Tryz.results24, go_sem, d0, d1, d2, d3, d4, d5]) rfl ?_
  exact ⟨_, rfl, HEND.out.1, HEND.out.2⟩
end Go.Proofs.YtllkcldckehipaaGreatDoor

namespace Go.Proofs.YtllkcldckehipaaGreatDoor
open Go.RowKit Go.Shelf

set_option maxRecDepth 100000 in
set_option maxHeartbeats 4000000 in
theorem rprintT_any (x : V) (v : Value) (w : World) (hM : sizeV x ≤ 20000) (h : isV w x v) :
    Calls Tryz.prog 9 #[v] w fun e w' => e = .returned (.tuple #[.string (tx (outS [58] I0 x)), .int .i64 (outE [58] I0 x)]) ∧ Below w.heap.size w w' := by
  obtain ⟨k, b, n, s, o, m, c, o2, m2, c2, rfl⟩ := isV_six h
  have HB0 : Hid (KB w (w.alloc (.cells #[.int .i8 k, .bool b, .int .i64 n, .string s, .slice o m c, .slice o2 m2 c2] 26))) := Lib.hid kbA
  have HN := Lib.hid (World.alloc_heap_new w (.cells #[.int .i8 k, .bool b, .int .i64 n, .string s, .slice o m c, .slice o2 m2 c2] 26))
  have HCK : Hid (∀ w1, KB w w1 → Calls Tryz.prog 21 #[.agg #[.int .i8 k, .bool b, .int .i64 n, .string s, .slice o m c, .slice o2 m2 c2]] w1 fun e w' => e = .returned (.int .i64 (checkV x)) ∧ Below w1.heap.size w1 w') := Lib.hid fun w1 hK => check_any x _ w1 (by omega) (isV_below hK h)
  have HSO : Hid (checkV x = 0 → ∀ w1, KB w w1 → Calls Tryz.prog 24 #[.agg #[.int .i8 k, .bool b, .int .i64 n, .string s, .slice o m c, .slice o2 m2 c2]] w1 fun e w' => ∃ v', e = .returned v' ∧ Hid (isV w' (psortV x) v') ∧ Below w1.heap.size w1 w') := Lib.hid fun hc w1 hK => by
    refine (rsortedT_any x _ w1 hc (by omega) (isV_below hK h)).mono ?_
    rintro e w' ⟨v', rfl, h1, h2⟩
    exact ⟨v', rfl, Lib.hid h1, h2⟩
  have hS : outS [58] I0 x = if pcheckV x ≠ 0 then [] else if 32768 < (outT [58] I0 x).length then [] else outT [58] I0 x := rfl
  have hEr : outE [58] I0 x = if pcheckV x ≠ 0 then pcheckV x else if 32768 < (outT [58] I0 x).length then 3 else 0 := rfl
  rw [pcheck_eq] at hS hEr
  have HSH : Hid (checkV x = 0 → ∀ v' w1, isV w1 (psortV x) v' → Calls Tryz.prog 23 #[v'] w1 fun e w' => e = .returned (.string (tx (outT [58] I0 x))) ∧ Below w1.heap.size w1 w') := Lib.hid fun hc v' w1 hv => by
    have hw := wrong_of_check hc
    have hsw := sort_wrong (sort_p x) hw
    have hss := sort_size (sort_p x) (once_of_wrong hw)
    have hd : depthV x ≤ 24 := by
      unfold checkV at hc
      by_cases h1 : 24 < depthV x
      · rw [if_pos h1] at hc; omega
      · omega
    exact rshort_aux _ (psortV x) 0 (Nat.le_refl _) (by omega) hsw.1 (by omega) v' w1 hv
  clear h hM
  obtain ⟨T, hT⟩ : ∃ T, outT [58] I0 x = T := ⟨_, rfl⟩
  obtain ⟨cc, hcc⟩ : ∃ cc, checkV x = cc := ⟨_, rfl⟩
  rw [hT, hcc] at HSH hS hEr
  rw [hcc] at HCK HSO
  rw [hS, hEr]
  clear hS hEr hT hcc
  by_cases h0 : cc = 0
  · subst h0
    have HSO2 := Lib.hid (HSO.out rfl)
    have HSH2 := Lib.hid (HSH.out rfl)
    clear HSO HSH
    rw [if_neg (show ¬ ((0 : Int) ≠ 0) by simp), if_neg (show ¬ ((0 : Int) ≠ 0) by simp)]
    have HLI := Lib.hid (fun W => rlimited_any (tx T) W)
    rw [tx_size] at HLI
    obtain ⟨tt, htt⟩ : ∃ tt, tx T = tt := ⟨_, rfl⟩
    obtain ⟨aS, haS⟩ : ∃ q, (if 32768 < T.length then (⟨#[]⟩ : ByteArray) else tx T) = q := ⟨_, rfl⟩
    obtain ⟨aE, haE⟩ : ∃ q : Int, (if 32768 < T.length then 3 else 0) = q := ⟨_, rfl⟩
    have HA : Hid (tx (if 32768 < T.length then [] else T) = aS) := Lib.hid (by rw [← haS]; split <;> rfl)
    rw [haS, haE, htt] at HLI
    rw [haE, HA.out]
    rw [htt] at HSH2
    clear HA haS haE htt
    go_enter Tryz.func9, Tryz.ntmps9
    go_wp2_with fail
    refine (HCK.out _ HB0.out).mono ?_
    rintro e w2 ⟨rfl, hb2⟩
    have HB2 := Lib.hid (HB0.out.trans (hb2.mono HB0.out.size))
    obtain ⟨r0, r1, r2, r3, r4, r5⟩ := six_cells ((hb2.block _ (Array.getElem?_eq_some_iff.1 HN.out).1).trans HN.out)
    clear hb2
    go_wp2_with fail
    refine (HSO2.out _ HB2.out).mono ?_
    rintro e w3 ⟨v', rfl, hv', hb3⟩
    have HB3 := Lib.hid (HB2.out.trans (hb3.mono HB2.out.size))
    clear hb3 r0 r1 r2 r3 r4 r5
    obtain ⟨k', b', n', s', o', m', c', o2', m2', c2', rfl⟩ := isV_six hv'.out
    go_wp2_with fail
    refine (HSH2.out _ _ hv'.out).mono ?_
    rintro e w4 ⟨rfl, hb4⟩
    have HB4 := Lib.hid (HB3.out.trans (hb4.mono HB3.out.size))
    clear hb4 hv'
    go_wp2_with fail
    refine (HLI.out _).mono ?_
    rintro e w5 ⟨rfl, rfl⟩
    go_wp2_with fail
    go_ret2
    exact ⟨rfl, HB4.out⟩
  · rw [if_pos h0, if_pos h0]
    have z1 : (cc == 0) = false := beqI h0
    have z2 : (cc != 0) = true := bne_iff_ne.2 h0
    clear HSO HSH h0
    go_enter Tryz.func9, Tryz.ntmps9
    go_wp2_with fail
    refine (HCK.out _ HB0.out).mono ?_
    rintro e w2 ⟨rfl, hb2⟩
    go_wp2_with fail
    go_ret2
    exact ⟨rfl, HB0.out.trans (hb2.mono HB0.out.size)⟩
set_option maxRecDepth 100000 in
set_option maxHeartbeats 4000000 in
theorem rbroadT_any (x : V) (v : Value) (w : World) (hM : sizeV x ≤ 20000) (h : isV w x v) :
    Calls Tryz.prog 11 #[v] w fun e w' => e = .returned (.tuple #[.string (tx (outS [58, 32] I2 x)), .int .i64 (outE [58, 32] I2 x)]) ∧ Below w.heap.size w w' := by
  obtain ⟨k, b, n, s, o, m, c, o2, m2, c2, rfl⟩ := isV_six h
  have HB0 : Hid (KB w (w.alloc (.cells #[.int .i8 k, .bool b, .int .i64 n, .string s, .slice o m c, .slice o2 m2 c2] 26))) := Lib.hid kbA
  have HN := Lib.hid (World.alloc_heap_new w (.cells #[.int .i8 k, .bool b, .int .i64 n, .string s, .slice o m c, .slice o2 m2 c2] 26))
  have HCK : Hid (∀ w1, KB w w1 → Calls Tryz.prog 21 #[.agg #[.int .i8 k, .bool b, .int .i64 n, .string s, .slice o m c, .slice o2 m2 c2]] w1 fun e w' => e = .returned (.int .i64 (checkV x)) ∧ Below w1.heap.size w1 w') := Lib.hid fun w1 hK => check_any x _ w1 (by omega) (isV_below hK h)
  have HSO : Hid (checkV x = 0 → ∀ w1, KB w w1 → Calls Tryz.prog 24 #[.agg #[.int .i8 k, .bool b, .int .i64 n, .string s, .slice o m c, .slice o2 m2 c2]] w1 fun e w' => ∃ v', e = .returned v' ∧ Hid (isV w' (psortV x) v') ∧ Below w1.heap.size w1 w') := Lib.hid fun hc w1 hK => by
    refine (rsortedT_any x _ w1 hc (by omega) (isV_below hK h)).mono ?_
    rintro e w' ⟨v', rfl, h1, h2⟩
    exact ⟨v', rfl, Lib.hid h1, h2⟩
  have hS : outS [58, 32] I2 x = if pcheckV x ≠ 0 then [] else if 32768 < (outT [58, 32] I2 x).length then [] else outT [58, 32] I2 x := rfl
  have hEr : outE [58, 32] I2 x = if pcheckV x ≠ 0 then pcheckV x else if 32768 < (outT [58, 32] I2 x).length then 3 else 0 := rfl
  rw [pcheck_eq] at hS hEr
  have HSH : Hid (checkV x = 0 → ∀ v' w1, isV w1 (psortV x) v' → Calls Tryz.prog 26 #[v', .string ⟨#[]⟩] w1 fun e w' => e = .returned (.string (tx (outT [58, 32] I2 x))) ∧ Below w1.heap.size w1 w') := Lib.hid fun hc v' w1 hv => by
    have hw := wrong_of_check hc
    have hsw := sort_wrong (sort_p x) hw
    have hss := sort_size (sort_p x) (once_of_wrong hw)
    have hd : depthV x ≤ 24 := by
      unfold checkV at hc
      by_cases h1 : 24 < depthV x
      · rw [if_pos h1] at hc; omega
      · omega
    exact rbroad_aux _ (psortV x) 0 (Nat.le_refl _) (by omega) hsw.1 (by omega) v' w1 hv
  clear h hM
  obtain ⟨T, hT⟩ : ∃ T, outT [58, 32] I2 x = T := ⟨_, rfl⟩
  obtain ⟨cc, hcc⟩ : ∃ cc, checkV x = cc := ⟨_, rfl⟩
  rw [hT, hcc] at HSH hS hEr
  rw [hcc] at HCK HSO
  rw [hS, hEr]
  clear hS hEr hT hcc
  by_cases h0 : cc = 0
  · subst h0
    have HSO2 := Lib.hid (HSO.out rfl)
    have HSH2 := Lib.hid (HSH.out rfl)
    clear HSO HSH
    rw [if_neg (show ¬ ((0 : Int) ≠ 0) by simp), if_neg (show ¬ ((0 : Int) ≠ 0) by simp)]
    have HLI := Lib.hid (fun W => rlimited_any (tx T) W)
    rw [tx_size] at HLI
    obtain ⟨tt, htt⟩ : ∃ tt, tx T = tt := ⟨_, rfl⟩
    obtain ⟨aS, haS⟩ : ∃ q, (if 32768 < T.length then (⟨#[]⟩ : ByteArray) else tx T) = q := ⟨_, rfl⟩
    obtain ⟨aE, haE⟩ : ∃ q : Int, (if 32768 < T.length then 3 else 0) = q := ⟨_, rfl⟩
    have HA : Hid (tx (if 32768 < T.length then [] else T) = aS) := Lib.hid (by rw [← haS]; split <;> rfl)
    rw [haS, haE, htt] at HLI
    rw [haE, HA.out]
    rw [htt] at HSH2
    clear HA haS haE htt
    go_enter Tryz.func11, Tryz.ntmps11
    go_wp2_with fail
    refine (HCK.out _ HB0.out).mono ?_
    rintro e w2 ⟨rfl, hb2⟩
    have HB2 := Lib.hid (HB0.out.trans (hb2.mono HB0.out.size))
    obtain ⟨r0, r1, r2, r3, r4, r5⟩ := six_cells ((hb2.block _ (Array.getElem?_eq_some_iff.1 HN.out).1).trans HN.out)
    clear hb2
    go_wp2_with fail
    refine (HSO2.out _ HB2.out).mono ?_
    rintro e w3 ⟨v', rfl, hv', hb3⟩
    have HB3 := Lib.hid (HB2.out.trans (hb3.mono HB2.out.size))
    clear hb3 r0 r1 r2 r3 r4 r5
    obtain ⟨k', b', n', s', o', m', c', o2', m2', c2', rfl⟩ := isV_six hv'.out
    go_wp2_with fail
    refine (HSH2.out _ _ hv'.out).mono ?_
    rintro e w4 ⟨rfl, hb4⟩
    have HB4 := Lib.hid (HB3.out.trans (hb4.mono HB3.out.size))
    clear hb4 hv'
    go_wp2_with fail
    refine (HLI.out _).mono ?_
    rintro e w5 ⟨rfl, rfl⟩
    go_wp2_with fail
    go_ret2
    exact ⟨rfl, HB4.out⟩
  · rw [if_pos h0, if_pos h0]
    have z1 : (cc == 0) = false := beqI h0
    have z2 : (cc != 0) = true := bne_iff_ne.2 h0
    clear HSO HSH h0
    go_enter Tryz.func11, Tryz.ntmps11
    go_wp2_with fail
    refine (HCK.out _ HB0.out).mono ?_
    rintro e w2 ⟨rfl, hb2⟩
    go_wp2_with fail
    go_ret2
    exact ⟨rfl, HB0.out.trans (hb2.mono HB0.out.size)⟩
set_option maxRecDepth 100000 in
set_option maxHeartbeats 2000000 in
theorem rlenT_any (x : V) (v : Value) (w : World) (hM : sizeV x ≤ 20000) (h : isV w x v) :
    Calls Tryz.prog 13 #[v] w fun e w' => e = .returned (.int .i64 (outS [58] I0 x).length) ∧ Below w.heap.size w w' := by
  obtain ⟨k, b, n, s, o, m, c, o2, m2, c2, rfl⟩ := isV_six h
  have hb : Below w.heap.size w (w.alloc (.cells #[.int .i8 k, .bool b, .int .i64 n, .string s, .slice o m c, .slice o2 m2 c2] 26)) := kbA
  have HP := Lib.hid (rprintT_any x _ _ hM (isV_below hb h))
  have HB := Lib.hid hb
  have hl := outS_len (C := [58]) (I := I0) x
  obtain ⟨S, hS⟩ : ∃ S : ByteArray, tx (outS [58] I0 x) = S := ⟨_, rfl⟩
  have hs : S.size = (outS [58] I0 x).length := by rw [← hS]; exact tx_size _
  rw [hS] at HP
  obtain ⟨q, hq⟩ : ∃ q, (outS [58] I0 x).length = q := ⟨_, rfl⟩
  rw [hq] at hs hl ⊢
  obtain ⟨ee, hee⟩ : ∃ ee, outE [58] I0 x = ee := ⟨_, rfl⟩
  rw [hee] at HP
  clear hM h hb hS hq hee
  go_enter Tryz.func13, Tryz.ntmps13
  go_wp2_with fail
  refine HP.out.mono ?_
  rintro e w2 ⟨rfl, hb2⟩
  have HB2 := Lib.hid (HB.out.trans (hb2.mono HB.out.size))
  clear hb2 HP
  go_wp2_with fail
  go_ret
  exact ⟨rfl, HB2.out⟩
end Go.Proofs.YtllkcldckehipaaGreatDoor
