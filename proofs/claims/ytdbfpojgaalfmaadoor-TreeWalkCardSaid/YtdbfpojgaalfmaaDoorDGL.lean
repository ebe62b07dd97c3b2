/-
  TreeGet, walked.
-/
import Derived.Test.YtdbfpojgaalfmaaDoorDGet
import Derived.Test.YtdbfpojgaalfmaaDoorDU1
import Derived.Deep.RegionHeld3
set_option linter.unusedVariables false
namespace Go.Proofs.YtdbfpojgaalfmaaDoor
open Go.RowKit Go.Shelf

theorem check_facts {b : Bool} {n : Int} {s : ByteArray} {l : List V} {ks : List ByteArray} (h : checkV (.mk 5 b n s l ks) = 0) : ks.length = l.length ∧ ks.Nodup := by
  have hw : wrongV (.mk 5 b n s l ks) = 0 := by
    unfold checkV at h
    split at h
    · cases h
    · split at h
      · rename_i h1; exact absurd h h1
      · rename_i h1; exact Decidable.not_not.1 h1
  have ho : ownW (.mk 5 b n s l ks) = 0 := by
    rw [wrongV] at hw
    by_cases e : ownW (.mk 5 b n s l ks) = 0
    · exact e
    · rw [if_neg e] at hw; exact hw
  rw [ownW_mk] at ho
  split at ho
  · cases ho
  rename_i h1
  split at ho
  · cases ho
  split at ho
  · cases ho
  split at ho
  · cases ho
  split at ho
  · cases ho
  rename_i h5
  have hp := plain_eq (x := .mk 5 b n s l ks) (by cases e : plainB (.mk 5 b n s l ks) <;> simp_all)
  refine ⟨?_, ?_⟩
  · have := hp
    unfold plainP at this
    simp at this
    omega
  · by_cases hd : ks.Nodup
    · exact hd
    · exact absurd (once_no hd) h5
theorem look_nodup : ∀ (ks : List ByteArray) (l : List V) (j : Nat) (h : j < ks.length) (h' : j < l.length), ks.Nodup → look ks l ks[j] = some l[j] := fun ks l j h h' hd =>
  look_at ks l _ j h h' (fun q hq e => by
    obtain ⟨hql, e2⟩ := List.getElem?_eq_some_iff.1 e
    exact absurd ((List.getElem_inj hd).1 e2) (by omega)) rfl
theorem look_isSome : ∀ (ks : List ByteArray) (l : List V) (key : ByteArray), ks.length = l.length → ((look ks l key).isSome = true ↔ key ∈ ks)
  | [], l, key, h => by cases l <;> simp [look] at *
  | k :: ks, [], key, h => by simp at h
  | k :: ks, x :: l, key, h => by
    by_cases e : k = key
    · simp [look, e]
    · simp only [look, if_neg e]
      rw [look_isSome ks l key (by simpa using h)]
      simp [Ne.symm e]
theorem getP_no {k : Int} {b : Bool} {n : Int} {s : ByteArray} {l : List V} {ks : List ByteArray} {key : ByteArray} (h : k ≠ 5) : getP (.mk k b n s l ks) key = none := if_neg h
theorem getP_yes {b : Bool} {n : Int} {s : ByteArray} {l : List V} {ks : List ByteArray} {key : ByteArray} : getP (.mk 5 b n s l ks) key = look ks l key := if_pos rfl
theorem kbt {a b c : World} (h : KB a b) (k : KB b c) : KB a c := h.trans (k.mono h.size)

set_option maxRecDepth 100000 in
set_option maxHeartbeats 8000000 in
theorem getLaw_any (va : Value) (x : V) (key : ByteArray) (w : World) (hE : Env w) (h : isV w x va) (hk : key.size ≤ maxLen) :
    Calls Tryd.prog 7 #[va, .string key] w fun e w' => e = .returned (.bool true) ∧ Below w.heap.size w w' := by
  have h0 := h
  obtain ⟨k, b, n, s, l, ks⟩ := x
  unfold isV at h
  obtain ⟨lv, kv, rfl, hkk, hn, hs, ⟨a, cap, ⟨o, rfl, hc1, hc2, ho⟩, hvs⟩, hKK⟩ := h
  have hKK' := hKK
  obtain ⟨a2, cap2, ⟨o2, rfl, hc3, hc4, ho2⟩, hks⟩ := hKK'
  obtain ⟨X, hX⟩ : ∃ X, V.mk k b n s l ks = X := ⟨_, rfl⟩
  have hB0 : KB w (w.alloc (.cells #[.int .i8 k, .bool b, .int .i64 n, .string s, .slice o l.length cap, .slice o2 ks.length cap2] 26)) := kbA
  have bX := World.alloc_heap_new w (.cells #[.int .i8 k, .bool b, .int .i64 n, .string s, .slice o l.length cap, .slice o2 ks.length cap2] 26)
  rw [hX] at h0
  have G : Hid (∀ w1, KB (w.alloc (.cells #[.int .i8 k, .bool b, .int .i64 n, .string s, .slice o l.length cap, .slice o2 ks.length cap2] 26)) w1 → Calls Tryd.prog 12 #[.agg #[.int .i8 k, .bool b, .int .i64 n, .string s, .slice o l.length cap, .slice o2 ks.length cap2]] w1 fun e w' => e = .returned (.bool (greatB X)) ∧ KB (w.alloc (.cells #[.int .i8 k, .bool b, .int .i64 n, .string s, .slice o l.length cap, .slice o2 ks.length cap2] 26)) w') := Lib.hid fun w1 hK => Calls.kb hK (great_any X _ w1 (isV_below hK (isV_below hB0 h0)))
  have WK : Hid (∀ w1, KB (w.alloc (.cells #[.int .i8 k, .bool b, .int .i64 n, .string s, .slice o l.length cap, .slice o2 ks.length cap2] 26)) w1 → Calls Tryd.prog 13 #[] w1 fun e w' => e = .returned (.bool true) ∧ KB (w.alloc (.cells #[.int .i8 k, .bool b, .int .i64 n, .string s, .slice o l.length cap, .slice o2 ks.length cap2] 26)) w') := Lib.hid fun w1 hK => Calls.kb hK (wakes_any w1 ((hE.kb hB0).kb hK))
  have CX : Hid (∀ w1, KB (w.alloc (.cells #[.int .i8 k, .bool b, .int .i64 n, .string s, .slice o l.length cap, .slice o2 ks.length cap2] 26)) w1 → w1.heap[w.heap.size]? = some (.cells #[.int .i8 k, .bool b, .int .i64 n, .string s, .slice o l.length cap, .slice o2 ks.length cap2] 26 (0, 0))) := Lib.hid fun w1 hK => (hK.block _ (Array.getElem?_eq_some_iff.1 bX).1).trans bX
  have HV : Hid (∀ w1, KB (w.alloc (.cells #[.int .i8 k, .bool b, .int .i64 n, .string s, .slice o l.length cap, .slice o2 ks.length cap2] 26)) w1 → isVs w1 l a) := Lib.hid fun w1 hK => isVs_keep (cell_below (kbt hB0 hK)) _ _ hvs
  have HKS : Hid (∀ w1, KB (w.alloc (.cells #[.int .i8 k, .bool b, .int .i64 n, .string s, .slice o l.length cap, .slice o2 ks.length cap2] 26)) w1 → ∀ i (h : i < ks.length), w1.cell? (a2.add i) = some (.string ks[i])) := Lib.hid fun w1 hK i h => cell_below (kbt hB0 hK) _ _ (hks i h).1
  have HX : Hid (∀ w1, KB (w.alloc (.cells #[.int .i8 k, .bool b, .int .i64 n, .string s, .slice o l.length cap, .slice o2 ks.length cap2] 26)) w1 → isV w1 X (.agg #[.int .i8 k, .bool b, .int .i64 n, .string s, .slice o l.length cap, .slice o2 ks.length cap2])) := Lib.hid fun w1 hK => isV_below (kbt hB0 hK) h0
  have HB0 := Lib.hid hB0
  have HKZ := Lib.hid (fun i h => (hks i h).2)
  unfold maxLen at hc2 hc4
  clear hkk hn hs hvs hks hKK h0 hE bX hB0
  generalize hW0 : w.alloc (.cells #[.int .i8 k, .bool b, .int .i64 n, .string s, .slice o l.length cap, .slice o2 ks.length cap2] 26) = W0 at *
  have HW0 := Lib.hid hW0
  clear hW0
  cases hg : greatB X with
  | true =>
    rw [hg] at G
    clear hg
    go_enter Tryd.func7, Tryd.ntmps7
    go_wp2_with fail
    rw [HW0.out]
    refine (G.out _ (Below.refl _ _)).mono ?_
    rintro e w5 ⟨rfl, hb5⟩
    go_wp2_with fail
    refine (WK.out _ hb5).mono ?_
    rintro e w6 ⟨rfl, hb6⟩
    go_wp2_with fail
    go_ret
    exact ⟨rfl, kbt HB0.out hb6⟩
  | false =>
  have HS := Lib.hid (great_no hg)
  have HF := Lib.hid (great_fine hg)
  rw [hg] at G
  clear hg
  by_cases hks : 1000 < key.size
  · have hkd : decide ((1000 : Int) < (key.size : Int)) = true := decide_eq_true (by omega)
    go_enter Tryd.func7, Tryd.ntmps7
    go_wp2_with fail
    rw [HW0.out]
    refine (G.out _ (Below.refl _ _)).mono ?_
    rintro e w5 ⟨rfl, hb5⟩
    go_wp2_with fail
    refine (WK.out _ hb5).mono ?_
    rintro e w6 ⟨rfl, hb6⟩
    go_wp2_with fail
    go_ret
    exact ⟨rfl, kbt HB0.out hb6⟩
  have hkd : decide ((1000 : Int) < (key.size : Int)) = false := decide_eq_false (by omega)
  have GP : Hid (∀ (q : ByteArray) w1, KB W0 w1 → Calls Tryd.prog 14 #[.agg #[.int .i8 k, .bool b, .int .i64 n, .string s, .slice o l.length cap, .slice o2 ks.length cap2], .string q] w1 (RetG (getP X q) w1)) := Lib.hid fun q w1 hK => pget_any X _ q w1 (by have := HS.out; omega) HF.out (HX.out w1 hK)
  have CK : Hid (∀ w1, KB W0 w1 → Calls Tryd.prog 18 #[.agg #[.int .i8 k, .bool b, .int .i64 n, .string s, .slice o l.length cap, .slice o2 ks.length cap2]] w1 fun e w' => e = .returned (.int .i64 (checkV X)) ∧ Below w1.heap.size w1 w') := Lib.hid fun w1 hK => check_any X _ w1 (by have := HS.out; omega) (HX.out w1 hK)
  have SM : Hid (∀ (Y Z : V) (y z : Value) w1, sizeV Y ≤ 1000000 → isV w1 Y y → isV w1 Z z → Calls Tryd.prog 16 #[y, z] w1 fun e w' => e = .returned (.bool (sm Y Z)) ∧ Below w1.heap.size w1 w') := Lib.hid fun Y Z y z w1 hy h1 h2 => same_any 1000000 Y Z y z w1 hy h1 h2
  have HXE := Lib.hid hX
  clear hks hX
  go_enter Tryd.func7, Tryd.ntmps7
  go_wp2_with fail
  rw [HW0.out]
  refine (G.out _ (Below.refl _ _)).mono ?_
  rintro e w5 ⟨rfl, hb5⟩
  obtain ⟨s0, s1, s2, s3, s4, s5⟩ := six_cells (CX.out w5 hb5)
  go_wp2_with fail
  refine (GP.out key w5 hb5).mono ?_
  rintro e w6 ⟨v6, rfl, hv6, hb6⟩
  have HV6 := Lib.hid hv6
  obtain ⟨k6, b6, n6, s6, o6, m6, p6, o7, m7, p7, rfl⟩ := isV_six hv6
  have hb06 : KB W0 w6 := kbt hb5 hb6
  have HB7 : Hid (KB W0 (w6.alloc (.cells #[.int .i8 k6, .bool b6, .int .i64 n6, .string s6, .slice o6 m6 p6, .slice o7 m7 p7] 26))) := Lib.hid (kbt hb06 kbA)
  have bx7 := World.alloc_heap_new w6 (.cells #[.int .i8 k6, .bool b6, .int .i64 n6, .string s6, .slice o6 m6 p6, .slice o7 m7 p7] 26)
  clear s0 s1 s2 s3 s4 s5 hb5 hb6 G
  obtain ⟨s0, s1, s2, s3, s4, s5⟩ := six_cells (CX.out w6 hb06)
  have t0 := cell_below (kbA (w := w6) (o := .cells #[.int .i8 k6, .bool b6, .int .i64 n6, .string s6, .slice o6 m6 p6, .slice o7 m7 p7] 26)) _ _ s0
  have t1 := cell_below (kbA (w := w6) (o := .cells #[.int .i8 k6, .bool b6, .int .i64 n6, .string s6, .slice o6 m6 p6, .slice o7 m7 p7] 26)) _ _ s1
  have t2 := cell_below (kbA (w := w6) (o := .cells #[.int .i8 k6, .bool b6, .int .i64 n6, .string s6, .slice o6 m6 p6, .slice o7 m7 p7] 26)) _ _ s2
  have t3 := cell_below (kbA (w := w6) (o := .cells #[.int .i8 k6, .bool b6, .int .i64 n6, .string s6, .slice o6 m6 p6, .slice o7 m7 p7] 26)) _ _ s3
  have t4 := cell_below (kbA (w := w6) (o := .cells #[.int .i8 k6, .bool b6, .int .i64 n6, .string s6, .slice o6 m6 p6, .slice o7 m7 p7] 26)) _ _ s4
  have t5 := cell_below (kbA (w := w6) (o := .cells #[.int .i8 k6, .bool b6, .int .i64 n6, .string s6, .slice o6 m6 p6, .slice o7 m7 p7] 26)) _ _ s5
  clear s0 s1 s2 s3 s4 s5 hv6 hb06
  obtain ⟨ok, hok⟩ : ∃ ok, (getP X key).isSome = ok := ⟨_, rfl⟩
  rw [hok]
  have HOK := Lib.hid hok
  clear hok
  by_cases q1 : k ≠ 5
  · have f2 : (k != 5) = true := bne_iff_ne.2 q1
    have f3 : (k == 5) = false := beqI q1
    obtain rfl : ok = false := by rw [← HOK.out, ← HXE.out, getP_no q1]; rfl
    clear q1 bx7
    go_wp2_with (go_at_call 13; refine (WK.out _ HB7.out).mono ?_; rintro e w8 ⟨rfl, hb8⟩)
    go_ret
    exact ⟨rfl, kbt HB0.out hb8⟩
  obtain rfl : k = 5 := Decidable.not_not.1 q1
  have CK7 := Lib.hid (CK.out _ HB7.out)
  by_cases q2 : checkV X ≠ 0
  · obtain ⟨c, hc⟩ : ∃ c, checkV X = c := ⟨_, rfl⟩
    rw [hc] at CK7 q2
    have f2 : (c != 0) = true := bne_iff_ne.2 q2
    clear q1 q2 bx7 hc CK
    go_wp2_with (first | (go_at_call 18; refine CK7.out.mono ?_; rintro e w8 ⟨rfl, hb8⟩; obtain ⟨s0, s1, s2, s3, s4, s5⟩ := six_cells (CX.out w8 (kbt HB7.out hb8))) | (go_at_call 13; refine (WK.out _ (kbt HB7.out hb8)).mono ?_; rintro e w9 ⟨rfl, hb9⟩))
    go_ret
    exact ⟨rfl, kbt HB0.out hb9⟩
  have hc0 : checkV X = 0 := Decidable.not_not.1 q2
  rw [hc0] at CK7
  have HCF : Hid (ks.length = l.length ∧ ks.Nodup) := Lib.hid (check_facts (b := b) (n := n) (s := s) (by rw [HXE.out]; exact hc0))
  clear q1 q2 hc0 CK
  go_wp2_with (go_at_call 18; refine CK7.out.mono ?_; rintro e w8 ⟨rfl, hb8⟩; obtain ⟨s0, s1, s2, s3, s4, s5⟩ := six_cells (CX.out w8 (kbt HB7.out hb8)))
  have HB8 := Lib.hid hb8
  have HB68 : Hid (KB w6 w8) := Lib.hid (kbt kbA hb8)
  have bx8 : w8.heap[w6.heap.size]? = some (.cells #[.int .i8 k6, .bool b6, .int .i64 n6, .string s6, .slice o6 m6 p6, .slice o7 m7 p7] 26 (0, 0)) := (hb8.block _ (Array.getElem?_eq_some_iff.1 bx7).1).trans bx7
  have HK8 : Hid (KB W0 w8) := Lib.hid (kbt HB7.out hb8)
  clear bx7 hb8 CK7 HB7 HB8 s0 s1 s2 s3 s4 s5 t0 t1 t2 t3 t4 t5
  obtain ⟨g6, hg6⟩ : ∃ g6, w6.heap.size = g6 := ⟨_, rfl⟩
  rw [hg6] at bx8 ⊢
  go_loopw [47, 7] (fun i hr wr => ∃ (j : Nat) (hb : Bool), j ≤ ks.length ∧ i = .int .i64 j ∧ hr = .bool hb ∧ Hid (hb = true ↔ key ∈ ks.take j) ∧ Hid (KB w8 wr)) (fun i _ _ => ks.length - (intOf i).toNat)
  case atStart => exact ⟨0, false, by omega, rfl, rfl, Lib.hid (by simp), Lib.hid (Below.refl _ _)⟩
  case round =>
    obtain ⟨j, hb, hj, rfl, rfl, hH, hK⟩ := hrel
    have hk0 : KB W0 wr := kbt HK8.out hK.out
    by_cases hlt : j < ks.length
    · obtain rfl := ho2 (by omega)
      have hlt' : j < l.length := by rw [← HCF.out.1]; exact hlt
      obtain rfl := ho (by omega)
      have hcell := HKS.out wr hk0 j hlt
      have hgp : getP X ks[j] = some l[j] := by rw [← HXE.out, getP_yes]; exact look_nodup ks l j hlt hlt' HCF.out.2
      have GJ := Lib.hid (GP.out ks[j] wr hk0)
      rw [hgp] at GJ
      obtain ⟨s0, s1, s2, s3, s4, s5⟩ := six_cells (CX.out wr hk0)
      have hl1 : (j : Int) < (l.length : Int) := by omega
      have hl2 : (j : Int) < (ks.length : Int) := by omega
      have HGP := Lib.hid hgp
      have HK0 := Lib.hid hk0
      have HTK : Hid (key ∈ ks.take (j + 1) ↔ key ∈ ks.take j ∨ ks[j] = key) := Lib.hid (by
        rw [List.take_add_one, List.getElem?_eq_getElem hlt, List.mem_append]
        simp only [Option.toList_some, List.mem_singleton]
        exact or_congr Iff.rfl eq_comm)
      obtain ⟨c0, c1, c2, c3, c4, c5, h0, h1, h2, h3, h4, h5, hx⟩ := isVs_at l a j hlt' (HV.out wr hk0)
      have hsz : sizeV l[j] ≤ 1000000 := by have h1 := sizeVs_get l j hlt'; have h2 := HS.out; rw [← HXE.out, sizeV] at h2; omega
      have HSZ := Lib.hid hsz
      generalize l[j] = LJ at *
      generalize ks[j] = K at *
      obtain ⟨kk, bb, nn, ss, oa, ma, ca, ob, mb, cb, hag⟩ := isV_six hx
      simp only [Value.agg.injEq, Array.mk.injEq, List.cons.injEq, and_true] at hag
      obtain ⟨rfl, rfl, rfl, rfl, rfl, rfl⟩ := hag
      have HXJ := Lib.hid hx
      have HEC : Hid (wr.cell? (a.add (j * 6)) = _ ∧ _ ∧ _ ∧ _ ∧ _ ∧ _) := Lib.hid ⟨h0, h1, h2, h3, h4, h5⟩
      clear hgp hk0 hx hsz h0 h1 h2 h3 h4 h5 hj
      go_wp2_with (go_at_call 14; refine GJ.out.mono ?_; rintro e w10 ⟨v10, rfl, hv10, hb10⟩; obtain ⟨k9, b9, n9, s9, o9, m9, p9, o8, m8, p8, rfl⟩ := isV_six hv10)
      have hv10' : isV w10 LJ (.agg #[.int .i8 k9, .bool b9, .int .i64 n9, .string s9, .slice o9 m9 p9, .slice o8 m8 p8]) := hv10
      have bY := World.alloc_heap_new w10 (.cells #[.int .i8 k9, .bool b9, .int .i64 n9, .string s9, .slice o9 m9 p9, .slice o8 m8 p8] 26)
      have hka : KB wr (w10.alloc (.cells #[.int .i8 k9, .bool b9, .int .i64 n9, .string s9, .slice o9 m9 p9, .slice o8 m8 p8] 26)) := kbt hb10 kbA
      have hv11 := isV_below (kbA (w := w10) (o := .cells #[.int .i8 k9, .bool b9, .int .i64 n9, .string s9, .slice o9 m9 p9, .slice o8 m8 p8] 26)) hv10'
      obtain ⟨g10, hg10⟩ : ∃ g10, w10.heap.size = g10 := ⟨_, rfl⟩
      rw [hg10] at bY ⊢
      clear hv10 hv10' hb10 s0 s1 s2 s3 s4 s5 hcell
      generalize hW11 : w10.alloc (.cells #[.int .i8 k9, .bool b9, .int .i64 n9, .string s9, .slice o9 m9 p9, .slice o8 m8 p8] 26) = W11 at *
      clear hW11 hg10
      have hk8 : KB w8 W11 := kbt hK.out hka
      have hkw : KB W0 W11 := kbt HK8.out hk8
      obtain ⟨s0, s1, s2, s3, s4, s5⟩ := six_cells (CX.out W11 hkw)
      have CELLS : Hid (∀ w1, Hid (KB W11 w1) → w1.cell? ⟨g10, 0, none⟩ = some (.int .i8 k9) ∧ w1.cell? ⟨g10, 1, none⟩ = some (.bool b9) ∧ w1.cell? ⟨g10, 2, none⟩ = some (.int .i64 n9) ∧ w1.cell? ⟨g10, 3, none⟩ = some (.string s9) ∧ w1.cell? ⟨g10, 4, none⟩ = some (.slice o9 m9 p9) ∧ w1.cell? ⟨g10, 5, none⟩ = some (.slice o8 m8 p8) ∧ w1.cell? ⟨g6, 0, none⟩ = some (.int .i8 k6) ∧ w1.cell? ⟨g6, 1, none⟩ = some (.bool b6) ∧ w1.cell? ⟨g6, 2, none⟩ = some (.int .i64 n6) ∧ w1.cell? ⟨g6, 3, none⟩ = some (.string s6) ∧ w1.cell? ⟨g6, 4, none⟩ = some (.slice o6 m6 p6) ∧ w1.cell? ⟨g6, 5, none⟩ = some (.slice o7 m7 p7) ∧ w1.cell? ⟨w.heap.size, 4, none⟩ = some (.slice (some a) l.length cap) ∧ w1.cell? (a.add (j * 6)) = some (.int .i8 kk) ∧ w1.cell? ⟨(a.add (j * 6)).block, (a.add (j * 6)).off + 1, none⟩ = some (.bool bb) ∧ w1.cell? ⟨(a.add (j * 6)).block, (a.add (j * 6)).off + 2, none⟩ = some (.int .i64 nn) ∧ w1.cell? ⟨(a.add (j * 6)).block, (a.add (j * 6)).off + 3, none⟩ = some (.string ss) ∧ w1.cell? ⟨(a.add (j * 6)).block, (a.add (j * 6)).off + 4, none⟩ = some (.slice oa ma ca) ∧ w1.cell? ⟨(a.add (j * 6)).block, (a.add (j * 6)).off + 5, none⟩ = some (.slice ob mb cb)) := Lib.hid fun w1 hK => by
        obtain ⟨y0, y1, y2, y3, y4, y5⟩ := six_cells ((hK.out.block _ (Array.getElem?_eq_some_iff.1 bY).1).trans bY)
        have bx11 := (hk8.block _ (Array.getElem?_eq_some_iff.1 bx8).1).trans bx8
        obtain ⟨x0, x1, x2, x3, x4, x5⟩ := six_cells ((hK.out.block _ (Array.getElem?_eq_some_iff.1 bx11).1).trans bx11)
        obtain ⟨h0, h1, h2, h3, h4, h5⟩ := HEC.out
        have hc := cell_below (kbt hka hK.out)
        exact ⟨y0, y1, y2, y3, y4, y5, x0, x1, x2, x3, x4, x5, cell_below hK.out _ _ s4, hc _ _ h0, hc _ _ h1, hc _ _ h2, hc _ _ h3, hc _ _ h4, hc _ _ h5⟩
      have SM1 : Hid (∀ w1, Hid (KB W11 w1) → Calls Tryd.prog 16 #[.agg #[.int .i8 k9, .bool b9, .int .i64 n9, .string s9, .slice o9 m9 p9, .slice o8 m8 p8], .agg #[.int .i8 kk, .bool bb, .int .i64 nn, .string ss, .slice oa ma ca, .slice ob mb cb]] w1 fun e w' => e = .returned (.bool true) ∧ Hid (KB W11 w')) := Lib.hid fun w1 hK => Calls.hk hK (sm_yes (rfl : LJ = LJ) ▸ SM.out LJ LJ _ _ w1 HSZ.out (isV_below hK.out hv11) (isV_below (kbt hka hK.out) HXJ.out))
      have SM2 : Hid (K = key → ∀ w1, Hid (KB W11 w1) → Calls Tryd.prog 16 #[.agg #[.int .i8 k6, .bool b6, .int .i64 n6, .string s6, .slice o6 m6 p6, .slice o7 m7 p7], .agg #[.int .i8 kk, .bool bb, .int .i64 nn, .string ss, .slice oa ma ca, .slice ob mb cb]] w1 fun e w' => e = .returned (.bool true) ∧ Hid (KB W11 w')) := Lib.hid fun hkey w1 hK => by
        have h6 := HV6.out
        rw [← hkey, HGP.out] at h6
        exact Calls.hk hK (sm_yes (rfl : LJ = LJ) ▸ SM.out LJ LJ _ _ w1 HSZ.out (isV_below (kbt HB68.out (kbt hk8 hK.out)) h6) (isV_below (kbt hka hK.out) HXJ.out))
      have HK11 := Lib.hid hk8
      have KK : Hid (KB W11 W11) := Lib.hid (Below.refl _ _)
      obtain ⟨y0, y1, y2, y3, y4, y5, x0, x1, x2, x3, x4, x5, z4, e0, e1, e2, e3, e4, e5⟩ := CELLS.out _ KK
      clear hk8 hkw hka hv11 s0 s1 s2 s3 s4 s5 bY GJ
      go_region_held3 (fun w' => Hid (KB W11 w') ∧ w'.cell? ⟨g10, 0, none⟩ = some (.int .i8 k9) ∧ w'.cell? ⟨g10, 1, none⟩ = some (.bool b9) ∧ w'.cell? ⟨g10, 2, none⟩ = some (.int .i64 n9) ∧ w'.cell? ⟨g10, 3, none⟩ = some (.string s9) ∧ w'.cell? ⟨g10, 4, none⟩ = some (.slice o9 m9 p9) ∧ w'.cell? ⟨g10, 5, none⟩ = some (.slice o8 m8 p8) ∧ w'.cell? ⟨w.heap.size, 4, none⟩ = some (.slice (some a) l.length cap) ∧ w'.cell? (a.add (j * 6)) = some (.int .i8 kk) ∧ w'.cell? ⟨(a.add (j * 6)).block, (a.add (j * 6)).off + 1, none⟩ = some (.bool bb) ∧ w'.cell? ⟨(a.add (j * 6)).block, (a.add (j * 6)).off + 2, none⟩ = some (.int .i64 nn) ∧ w'.cell? ⟨(a.add (j * 6)).block, (a.add (j * 6)).off + 3, none⟩ = some (.string ss) ∧ w'.cell? ⟨(a.add (j * 6)).block, (a.add (j * 6)).off + 4, none⟩ = some (.slice oa ma ca) ∧ w'.cell? ⟨(a.add (j * 6)).block, (a.add (j * 6)).off + 5, none⟩ = some (.slice ob mb cb)) (first | (refine ⟨by first | assumption | exact hkb_drew.2 (by assumption), ?_⟩; go_keep))
        (first
          | (go_at_call_of 16 (Value.agg #[.int .i8 k9, .bool b9, .int .i64 n9, .string s9, .slice o9 m9 p9, .slice o8 m8 p8]); refine (SM1.out _ ?_).mono ?_; (first | assumption | exact hkb_drew.2 (by assumption)); rintro e w' ⟨rfl, hk'⟩; obtain ⟨y0, y1, y2, y3, y4, y5, _, _, _, _, _, _, z4, e0, e1, e2, e3, e4, e5⟩ := CELLS.out _ hk'))
      have hk := hk'
      clear hk'
      obtain ⟨y0, y1, y2, y3, y4, y5, x0, x1, x2, x3, x4, x5, z4, e0, e1, e2, e3, e4, e5⟩ := CELLS.out _ hk
      by_cases hkey : K = key
      · have SM3 := Lib.hid (SM2.out hkey)
        have HT2 : Hid (true = true ↔ key ∈ ks.take (j + 1)) := Lib.hid (by rw [HTK.out]; simp [hkey])
        subst hkey
        clear SM2 SM1
        go_wp2_with fail
        go_region_held3 (fun w' => Hid (KB W11 w') ∧ w'.cell? ⟨g6, 0, none⟩ = some (.int .i8 k6) ∧ w'.cell? ⟨g6, 1, none⟩ = some (.bool b6) ∧ w'.cell? ⟨g6, 2, none⟩ = some (.int .i64 n6) ∧ w'.cell? ⟨g6, 3, none⟩ = some (.string s6) ∧ w'.cell? ⟨g6, 4, none⟩ = some (.slice o6 m6 p6) ∧ w'.cell? ⟨g6, 5, none⟩ = some (.slice o7 m7 p7) ∧ w'.cell? ⟨w.heap.size, 4, none⟩ = some (.slice (some a) l.length cap) ∧ w'.cell? (a.add (j * 6)) = some (.int .i8 kk) ∧ w'.cell? ⟨(a.add (j * 6)).block, (a.add (j * 6)).off + 1, none⟩ = some (.bool bb) ∧ w'.cell? ⟨(a.add (j * 6)).block, (a.add (j * 6)).off + 2, none⟩ = some (.int .i64 nn) ∧ w'.cell? ⟨(a.add (j * 6)).block, (a.add (j * 6)).off + 3, none⟩ = some (.string ss) ∧ w'.cell? ⟨(a.add (j * 6)).block, (a.add (j * 6)).off + 4, none⟩ = some (.slice oa ma ca) ∧ w'.cell? ⟨(a.add (j * 6)).block, (a.add (j * 6)).off + 5, none⟩ = some (.slice ob mb cb)) (first | (refine ⟨by first | assumption | exact hkb_drew.2 (by assumption), ?_⟩; go_keep))
          (first
            | (go_at_call_of 16 (Value.agg #[.int .i8 k6, .bool b6, .int .i64 n6, .string s6, .slice o6 m6 p6, .slice o7 m7 p7]); refine (SM3.out _ ?_).mono ?_; (first | assumption | exact hkb_drew.2 (by assumption)); rintro e w' ⟨rfl, hk'⟩; obtain ⟨_, _, _, _, _, _, x0, x1, x2, x3, x4, x5, z4, e0, e1, e2, e3, e4, e5⟩ := CELLS.out _ hk'))
        have HKE : Hid (KB w8 w') := Lib.hid (kbt HK11.out hk'.out)
        clear hk' CELLS hk
        go_wp2_with fail
        go_round
        case rel => exact ⟨j + 1, true, by omega, by go_num, rfl, Lib.hid (by simpa using HT2.out), HKE⟩
        case measure => simp [intOf]; omega
      · have f1 : (K.toList == key.toList) = false := beq_toList hkey
        have HT2 : Hid (hb = true ↔ key ∈ ks.take (j + 1)) := Lib.hid (by rw [HTK.out, hH.out]; simp [hkey])
        have HKE : Hid (KB w8 w') := Lib.hid (kbt HK11.out hk.out)
        clear SM2 SM1 hk CELLS hkey
        go_wp2_with fail
        go_round
        case rel => exact ⟨j + 1, hb, by omega, by go_num, rfl, HT2, HKE⟩
        case measure => simp [intOf]; omega
    · have hOK : ok = hb := by
        have h1 := HOK.out
        rw [← HXE.out, getP_yes] at h1
        have h2 := look_isSome ks l key HCF.out.1
        have h3 := hH.out
        rw [List.take_of_length_le (by omega)] at h3
        have h4 : (look ks l key).isSome = ok := h1
        rw [h4] at h2
        cases ok <;> cases hb <;> simp_all
      subst hOK
      have HK0 := Lib.hid hk0
      clear hH hk0
      go_wp2_with (go_at_call 13; refine (WK.out _ HK0.out).mono ?_; rintro e w9 ⟨rfl, hb9⟩)
      go_ret
      exact ⟨rfl, kbt HB0.out hb9⟩
end Go.Proofs.YtdbfpojgaalfmaaDoor
