/-
  The program's Check; sorting exists; a value in a list, in an object of one key.
-/
import Derived.Test.YtdbfpojgaalfmaaDoorDY
set_option linter.unusedVariables false
namespace Go.Proofs.YtdbfpojgaalfmaaDoor
open Go.RowKit Go.Shelf

theorem wt_fine : ∀ (left : Nat) (x : V), wtV left x ≤ 5000 → fineV x
  | 0, x, h => by unfold wtV at h; omega
  | left + 1, x, h => by
    obtain ⟨k, b, n, s, l, ks⟩ := x
    unfold wtV at h
    split at h
    · omega
    · rename_i hc
      simp only [V.list, V.text, V.keys] at h hc
      have hf := fold_small (wtV left) l _ h
      rw [hf] at h
      intro z hz
      rw [walkV] at hz
      rcases List.mem_cons.1 hz with rfl | hz
      · simp only [V.keys]; omega
      · obtain ⟨y, hy, hzy⟩ := walkVs_mem hz
        exact wt_fine left y (by have := mem_sum_le (wtV left) l y hy; omega) z hzy
theorem great_fine {x : V} (h : greatB x = false) : fineV x := wt_fine 30 x (by
  have h1 : ¬ 5000 < wtV 30 x := of_decide_eq_false h
  omega)

noncomputable def pcheckV (x : V) : Int := if pwrongV x ≠ 0 then pwrongV x else if 4096 < countV x then 3 else 0

set_option maxRecDepth 100000 in
set_option maxHeartbeats 4000000 in
theorem pcheck_any (x : V) (v : Value) (w : World) (hE : Env w) (hM : sizeV x ≤ 1000000) (hF : fineV x) (h : isV w x v) :
    Calls Tryd.prog 17 #[v] w fun e w' => e = .returned (.int .i64 (pcheckV x)) ∧ Below w.heap.size w w' := by
  have hcle : countV x ≤ 1000000 := Nat.le_trans (count_le_size x) hM
  have hC : pcheckV x = if pwrongV x ≠ 0 then pwrongV x else if 4096 < countV x then 3 else 0 := rfl
  obtain ⟨k, b, n, s, o, m, c, o2, m2, c2, rfl⟩ := isV_six h
  have HB0 : Hid (KB w (w.alloc (.cells #[.int .i8 k, .bool b, .int .i64 n, .string s, .slice o m c, .slice o2 m2 c2] 26))) := Lib.hid kbA
  have P2 : Hid (∀ w1, KB (w.alloc (.cells #[.int .i8 k, .bool b, .int .i64 n, .string s, .slice o m c, .slice o2 m2 c2] 26)) w1 → Calls Tryd.prog 45 #[.agg #[.int .i8 k, .bool b, .int .i64 n, .string s, .slice o m c, .slice o2 m2 c2]] w1 fun e w' => e = .returned (.int .i64 (pwrongV x)) ∧ KB (w.alloc (.cells #[.int .i8 k, .bool b, .int .i64 n, .string s, .slice o m c, .slice o2 m2 c2] 26)) w') := Lib.hid fun w1 hK => Calls.kb hK (pwrong_any x _ w1 ((hE.kb kbA).kb hK) hM hF (isV_below hK (isV_below kbA h)))
  have P3 : Hid (∀ w1, KB (w.alloc (.cells #[.int .i8 k, .bool b, .int .i64 n, .string s, .slice o m c, .slice o2 m2 c2] 26)) w1 → Calls Tryd.prog 21 #[.agg #[.int .i8 k, .bool b, .int .i64 n, .string s, .slice o m c, .slice o2 m2 c2]] w1 fun e w' => e = .returned (.int .i64 (countV x)) ∧ KB (w.alloc (.cells #[.int .i8 k, .bool b, .int .i64 n, .string s, .slice o m c, .slice o2 m2 c2] 26)) w') := Lib.hid fun w1 hK => Calls.kb hK (pcount_any x _ w1 hM (isV_below hK (isV_below kbA h)))
  have HC : Hid (∀ w1, KB (w.alloc (.cells #[.int .i8 k, .bool b, .int .i64 n, .string s, .slice o m c, .slice o2 m2 c2] 26)) w1 → w1.cell? ⟨w.heap.size, 0, none⟩ = some (.int .i8 k) ∧ w1.cell? ⟨w.heap.size, 1, none⟩ = some (.bool b) ∧ w1.cell? ⟨w.heap.size, 2, none⟩ = some (.int .i64 n) ∧ w1.cell? ⟨w.heap.size, 3, none⟩ = some (.string s) ∧ w1.cell? ⟨w.heap.size, 4, none⟩ = some (.slice o m c) ∧ w1.cell? ⟨w.heap.size, 5, none⟩ = some (.slice o2 m2 c2)) := Lib.hid fun w1 hK =>
    ⟨cell_below hK _ _ (by simp), cell_below hK _ _ (by simp), cell_below hK _ _ (by simp), cell_below hK _ _ (by simp), cell_below hK _ _ (by simp), cell_below hK _ _ (by simp)⟩
  obtain ⟨y, hy⟩ : ∃ y, pcheckV x = y := ⟨_, rfl⟩
  rw [hy] at hC ⊢
  obtain ⟨E, hEE⟩ : ∃ E, pwrongV x = E := ⟨_, rfl⟩
  obtain ⟨C, hCC⟩ : ∃ C, countV x = C := ⟨_, rfl⟩
  rw [hEE, hCC] at hC
  rw [hEE] at P2
  rw [hCC] at P3 hcle
  clear h hE hM hF hy hEE hCC
  by_cases hE0 : E ≠ 0
  · have HY : Hid (y = E) := Lib.hid (hC.trans (if_pos hE0))
    have z1 : (E == 0) = false := beqI hE0
    have z2 : (E != 0) = true := bne_iff_ne.2 hE0
    clear hC hE0
    go_enter Tryd.func17, Tryd.ntmps17
    go_wp2_with fail
    refine (P2.out _ (Below.refl _ _)).mono ?_
    rintro e w5 ⟨rfl, hb5⟩
    go_wp2_with fail
    go_ret
    exact ⟨ret_int (by rw [HY.out]), HB0.out.trans (hb5.mono HB0.out.size)⟩
  · obtain rfl : E = 0 := Decidable.not_not.1 hE0
    rw [if_neg hE0] at hC
    have HY : Hid (y = if 4096 < C then 3 else 0) := Lib.hid hC
    clear hC hE0
    by_cases hc : 4096 < C
    · have c1 : decide ((4096 : Int) < (C : Int)) = true := decide_eq_true (by omega)
      have HZ : Hid (y = 3) := Lib.hid (HY.out.trans (if_pos hc))
      clear hc
      go_enter Tryd.func17, Tryd.ntmps17
      go_wp2_with fail
      refine (P2.out _ (Below.refl _ _)).mono ?_
      rintro e w5 ⟨rfl, hb5⟩
      obtain ⟨m0, m1, m2, m3, m4, m5⟩ := HC.out w5 hb5
      go_wp2_with (go_at_call 21; (refine (P3.out _ hb5).mono ?_); rintro e w6 ⟨rfl, hb6⟩)
      go_ret
      exact ⟨ret_int (by rw [HZ.out]), HB0.out.trans (hb6.mono HB0.out.size)⟩
    · have c1 : decide ((4096 : Int) < (C : Int)) = false := decide_eq_false (by omega)
      have HZ : Hid (y = 0) := Lib.hid (HY.out.trans (if_neg hc))
      clear hc
      go_enter Tryd.func17, Tryd.ntmps17
      go_wp2_with fail
      refine (P2.out _ (Below.refl _ _)).mono ?_
      rintro e w5 ⟨rfl, hb5⟩
      obtain ⟨m0, m1, m2, m3, m4, m5⟩ := HC.out w5 hb5
      go_wp2_with (go_at_call 21; (refine (P3.out _ hb5).mono ?_); rintro e w6 ⟨rfl, hb6⟩)
      go_ret
      exact ⟨ret_int (by rw [HZ.out]), HB0.out.trans (hb6.mono HB0.out.size)⟩

/-- There are places. -/
theorem ord_some (x : V) : ∃ ps, isOrd x ps := by
  by_cases hk : x.kind = 5
  · refine ⟨(List.range x.list.length).mergeSort (fun i j => !decide (cmpK (x.keys.getD j ⟨#[]⟩) (x.keys.getD i ⟨#[]⟩) < 0)), List.mergeSort_perm _ _, fun h => absurd hk h, fun _ i j hi hj => ?_⟩
    have hs := List.pairwise_mergeSort (le := fun i j => !decide (cmpK (x.keys.getD j ⟨#[]⟩) (x.keys.getD i ⟨#[]⟩) < 0)) (by
      intro a b c h1 h2
      simp only [Bool.not_eq_true', decide_eq_false_iff_not, cmpK_neg] at h1 h2 ⊢
      exact fun h3 => absurd (List.le_trans h1 h2) (by simpa using h3)) (by
      intro a b
      simp only [Bool.or_eq_true, Bool.not_eq_true', decide_eq_false_iff_not, cmpK_neg]
      rcases List.le_total (x.keys.getD a ⟨#[]⟩).data.toList (x.keys.getD b ⟨#[]⟩).data.toList with h | h
      · exact .inl h
      · exact .inr h) (List.range x.list.length)
    have := (List.pairwise_iff_getElem.1 hs) i j (by omega) hj hi
    simpa using this
  · exact ⟨List.range x.list.length, List.Perm.refl _, fun _ => rfl, fun h => absurd h hk⟩
theorem sort_some : ∀ (N : Nat) (x : V), sizeV x ≤ N → SortR x (psortV x)
  | 0, x, h => absurd (sizeV_pos x) (by omega)
  | N + 1, x, h => by
    obtain ⟨ps, hps⟩ := ord_some x
    have hlt : ∀ i, i < ps.length → ps.getD i 0 < x.list.length := fun i hi => ord_lt hps hi
    obtain ⟨k, b, n, s, l, ks⟩ := x
    simp only [V.list] at hlt
    refine Classical.epsilon_spec (p := fun y => SortR (.mk k b n s l ks) y) ⟨_, SortR.mk k b n s l ks (ps.map fun p => psortV (l.getD p default)) (if k = 5 then ps.map (fun p => ks.getD p ⟨#[]⟩) else ks) ps hps (by simp) (fun i hi => ?_) rfl⟩
    have hi' : i < ps.length := by simpa using hi
    rw [List.getElem_map, getD_lt ps i 0 hi']
    refine sort_some N _ ?_
    have hp := hlt i hi'
    rw [getD_lt ps i 0 hi'] at hp
    rw [getD_lt l _ _ hp]
    have := sizeVs_get l _ hp
    unfold sizeV at h
    omega
theorem sort_p (x : V) : SortR x (psortV x) := sort_some _ x (Nat.le_refl _)

def wrapL (x : V) : V := .mk 4 false 0 ⟨#[]⟩ [x] []
def wrapO (s : ByteArray) (x : V) : V := .mk 5 false 0 ⟨#[]⟩ [x] [s]
theorem sort_wrapL {x y : V} (h : SortR x y) : SortR (wrapL x) (wrapL y) :=
  SortR.mk 4 false 0 ⟨#[]⟩ [x] [] [y] [] [0] ⟨List.Perm.refl _, fun _ => rfl, fun h => absurd h (by show ¬ (4 : Int) = 5; decide)⟩ rfl (fun i hi => by
    obtain rfl : i = 0 := by simp at hi; exact hi
    exact h) rfl
theorem sort_wrapO (s : ByteArray) {x y : V} (h : SortR x y) : SortR (wrapO s x) (wrapO s y) :=
  SortR.mk 5 false 0 ⟨#[]⟩ [x] [s] [y] [s] [0] ⟨List.Perm.refl _, fun h => absurd rfl h, fun _ i j hi hj => absurd hj (by simp; omega)⟩ rfl (fun i hi => by
    obtain rfl : i = 0 := by simp at hi; exact hi
    exact h) rfl
theorem pcmp_wrapL (x y : V) : pcmpV (wrapL x) (wrapL y) = pcmpV x y := by
  unfold wrapL
  rw [pcmpV_mk, if_neg (by simp), if_neg (by decide), if_neg (by decide), if_neg (by decide), if_neg (by decide), pcmpVs]
  split
  · rename_i h; rw [pcmpVs, h]
  · rfl
theorem pcmp_wrapO (s : ByteArray) (x y : V) : pcmpV (wrapO s x) (wrapO s y) = pcmpV x y := by
  unfold wrapO
  rw [pcmpV_mk, if_neg (by simp), if_neg (by decide), if_neg (by decide), if_neg (by decide), if_pos rfl, if_pos (by rw [cmpKs, if_pos ((cmpK_zero s s).2 rfl), cmpKs]), pcmpVs]
  split
  · rename_i h; rw [pcmpVs, h]
  · rfl
theorem pcheck_zero {x : V} (h : pcheckV x = 0) : wrongV x = 0 ∧ depthV x ≤ 24 ∧ countV x ≤ 4096 := by
  unfold pcheckV at h
  by_cases h1 : pwrongV x ≠ 0
  · rw [if_pos h1] at h; exact absurd h h1
  · rw [if_neg h1] at h
    obtain ⟨h2, h3⟩ := pwrong_zero (Decidable.not_not.1 h1)
    refine ⟨h2, h3, ?_⟩
    by_cases hc : 4096 < countV x
    · rw [if_pos hc] at h; omega
    · omega
theorem pcheck_part {k n : Int} {b : Bool} {s : ByteArray} {x : V} {ks : List ByteArray} (h : pcheckV (.mk k b n s [x] ks) = 0) : pcheckV x = 0 := by
  obtain ⟨h1, h2, h3⟩ := pcheck_zero h
  have hw : wrongV x = 0 := by
    rw [wrongV] at h1
    by_cases h0 : ownW (.mk k b n s [x] ks) = 0
    · rw [if_pos h0, wrongVs] at h1
      by_cases h4 : wrongV x = 0
      · exact h4
      · rw [if_neg h4] at h1; exact h1
    · rw [if_neg h0] at h1; exact absurd h1 h0
  have hd : depthV x ≤ 24 := by simp only [depthV, depthVs] at h2; omega
  have hc : countV x ≤ 4096 := by simp only [countV, countVs] at h3; omega
  unfold pcheckV
  rw [if_neg (by rw [pw_of hw hd]; simp), if_neg (by omega)]
theorem cmpA_wrapL {x y : V} (hx : pcheckV (wrapL x) = 0) (hy : pcheckV (wrapL y) = 0) : cmpA (wrapL x) (wrapL y) = cmpA x y := by
  obtain ⟨a1, a2, _⟩ := pcheck_zero hx
  obtain ⟨b1, b2, _⟩ := pcheck_zero hy
  obtain ⟨c1, c2, _⟩ := pcheck_zero (pcheck_part hx)
  obtain ⟨d1, d2, _⟩ := pcheck_zero (pcheck_part hy)
  rw [cmpA_of a1 b1 a2 b2 (sort_wrapL (sort_p x)) (sort_wrapL (sort_p y)), cmpA_of c1 d1 c2 d2 (sort_p x) (sort_p y), pcmp_wrapL]
theorem cmpA_wrapO (s : ByteArray) {x y : V} (hx : pcheckV (wrapO s x) = 0) (hy : pcheckV (wrapO s y) = 0) : cmpA (wrapO s x) (wrapO s y) = cmpA x y := by
  obtain ⟨a1, a2, _⟩ := pcheck_zero hx
  obtain ⟨b1, b2, _⟩ := pcheck_zero hy
  obtain ⟨c1, c2, _⟩ := pcheck_zero (pcheck_part hx)
  obtain ⟨d1, d2, _⟩ := pcheck_zero (pcheck_part hy)
  rw [cmpA_of a1 b1 a2 b2 (sort_wrapO s (sort_p x)) (sort_wrapO s (sort_p y)), cmpA_of c1 d1 c2 d2 (sort_p x) (sort_p y), pcmp_wrapO]
theorem size_E : (⟨#[]⟩ : ByteArray).size = 0 := rfl
theorem size_wrapL (x : V) : sizeV (wrapL x) = sizeV x + 1 := by unfold wrapL; simp only [sizeV, sizeVs, keysS, size_E]; simp; omega
theorem size_wrapO (s : ByteArray) (x : V) : sizeV (wrapO s x) = sizeV x + s.size + 1 := by unfold wrapO; simp only [sizeV, sizeVs, keysS, size_E]; simp; omega
theorem count_wrapL (x : V) : countV (wrapL x) = countV x + 1 := by unfold wrapL; simp only [countV, countVs]; omega
theorem count_wrapO (s : ByteArray) (x : V) : countV (wrapO s x) = countV x + 1 := by unfold wrapO; simp only [countV, countVs]; omega
theorem depth_wrapL (x : V) : depthV (wrapL x) = depthV x + 1 := by unfold wrapL; simp only [depthV, depthVs]; omega
theorem depth_wrapO (s : ByteArray) (x : V) : depthV (wrapO s x) = depthV x + 1 := by unfold wrapO; simp only [depthV, depthVs]; omega
theorem fine_wrap {k n : Int} {b : Bool} {s : ByteArray} {x : V} {ks : List ByteArray} (hk : ks.length ≤ 1) (h : fineV x) : fineV (.mk k b n s [x] ks) := by
  intro z hz
  rw [walkV] at hz
  rcases List.mem_cons.1 hz with rfl | hz
  · simp only [V.keys]; omega
  · obtain ⟨y, hy, hzy⟩ := walkVs_mem hz
    obtain rfl : y = x := by simpa using hy
    exact h z hzy
end Go.Proofs.YtdbfpojgaalfmaaDoor
