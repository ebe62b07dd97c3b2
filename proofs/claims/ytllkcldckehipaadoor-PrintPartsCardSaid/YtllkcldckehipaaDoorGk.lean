/-
  The statement on objects: walked. · The statement on objects: walked.
-/
import Derived.Test.YtllkcldckehipaaDoorGj
set_option linter.unusedVariables false
namespace Go.Proofs.YtllkcldckehipaaDoor
open Go.RowKit Go.Shelf

mutual
theorem ft_const (C : List UInt8) : ∀ (x : V) (d : Nat), ft C I0 d x = ft C I0 0 x
  | .mk k b n s l ks, d => by rw [ft, ft, fts_const C l (d + 1), fts_const C l (0 + 1)]; rfl
theorem fts_const (C : List UInt8) : ∀ (l : List V) (d : Nat), fts C I0 d l = fts C I0 0 l
  | [], d => by rw [fts, fts]
  | x :: t, d => by rw [fts, fts, ft_const C x d, fts_const C t d]
end
theorem outE_no {C : List UInt8} {I : Nat → List UInt8} {x : V} (h : outE C I x ≠ 0) : outS C I x = [] := by
  unfold outE at h
  unfold outS
  split
  · rfl
  · rename_i h1
    rw [if_neg h1] at h
    split
    · rfl
    · rename_i h2
      rw [if_neg h2] at h
      exact absurd rfl h
theorem outE_yes {C : List UInt8} {I : Nat → List UInt8} {x : V} (h : outE C I x = 0) : pcheckV x = 0 ∧ (outT C I x).length ≤ 32768 ∧ outS C I x = outT C I x := by
  unfold outE at h
  by_cases h1 : pcheckV x ≠ 0
  · rw [if_pos h1] at h; exact absurd h h1
  · rw [if_neg h1] at h
    have h1' := Decidable.not_not.1 h1
    by_cases h2 : 32768 < (outT C I x).length
    · rw [if_pos h2] at h; omega
    · refine ⟨h1', by omega, ?_⟩
      unfold outS
      rw [if_neg h1, if_neg h2]
theorem out_ok {C : List UInt8} {I : Nat → List UInt8} {x : V} (h : pcheckV x = 0) (h2 : (outT C I x).length ≤ 32768) : outE C I x = 0 ∧ outS C I x = outT C I x := by
  have h3 : ¬ 32768 < (outT C I x).length := by omega
  have h4 : ¬ pcheckV x ≠ 0 := by rw [h]; simp
  constructor
  · unfold outE
    rw [if_neg h4, if_neg h3]
  · unfold outS
    rw [if_neg h4, if_neg h3]
theorem rowsT_part (A : List UInt8) (T : Nat → List UInt8) : ∀ (n i : Nat), i < n → (T i).length ≤ (rowsT A T n).length
  | n + 1, i, h => by
    rw [rowsT, List.length_append, List.length_append, List.length_append]
    by_cases e : i = n
    · subst e; omega
    · have := rowsT_part A T n i (by omega); omega
theorem rowT_rows (A : List UInt8) (o c : UInt8) (n : Nat) (T : Nat → List UInt8) : rowT [] A o c n T = [o] ++ rowsT A T n ++ [c] := by
  unfold rowT
  split
  · rename_i h; subst h; simp [rowsT]
  · simp
theorem pcheck_t {k : ByteArray} (h : validS k = true) : pcheckV (tV k) = 0 := pcheck_of (wrong_t k h) (by unfold tV; simp [depthV, depthVs]) (by unfold tV; simp [countV, countVs])
theorem psort_t {k : ByteArray} (h : validS k = true) : psortV (tV k) = tV k := (psort_eq (sort_leaf _ _ _ _) (once_of_wrong (wrong_t k h))).symm
theorem outT_t {k : ByteArray} (h : validS k = true) : outT [58] I0 (tV k) = Ru.quoteL k.data.toList := by
  unfold outT
  rw [psort_t h, tV, ft, if_neg (by decide), if_neg (by decide), if_neg (by decide), if_pos rfl]

/-- What is printed of an object, plain. -/
theorem obj_plain {b : Bool} {n : Int} {s : ByteArray} {l : List V} {ks : List ByteArray} (h : outE [58] I0 (.mk 5 b n s l ks) = 0) :
    ∃ (l' : List V) (ks' : List ByteArray), psortV (.mk 5 b n s l ks) = .mk 5 b n s l' ks' ∧ ks'.length = l'.length ∧ sizeV (.mk 5 b n s l' ks') = sizeV (.mk 5 b n s l ks) ∧
      outS [58] I0 (.mk 5 b n s l ks) = [123] ++ rowsT [] (fun i => keyT [58] (ks'.getD i ⟨#[]⟩) ((fts [58] I0 0 l').getD i [])) l'.length ++ [125] ∧
      (∀ i (h : i < l'.length), outE [58] I0 l'[i] = 0 ∧ outS [58] I0 l'[i] = (fts [58] I0 0 l').getD i []) ∧
      (∀ i (h : i < ks'.length), validS ks'[i] = true ∧ outE [58] I0 (tV ks'[i]) = 0 ∧ outS [58] I0 (tV ks'[i]) = Ru.quoteL ks'[i].data.toList) := by
  obtain ⟨h1, h2, h3⟩ := outE_yes h
  obtain ⟨hw, hd, hc⟩ := pcheck_zero h1
  have hs := sort_p (.mk 5 b n s l ks)
  have hsz := sort_size hs (once_of_wrong hw)
  have hsw := sort_wrong hs hw
  have hpy := sort_check hs h1
  rw [h3]
  have hT : outT [58] I0 (.mk 5 b n s l ks) = ft [58] I0 0 (psortV (.mk 5 b n s l ks)) := rfl
  rw [hT] at h2 ⊢
  generalize psortV (.mk 5 b n s l ks) = y at *
  cases hs with
  | mk _ _ _ _ _ _ l' ks' ps ho hl hsub hk =>
    have h0 := own_parts (wrong_iff.1 hsw.1 _ (self_in _))
    obtain ⟨⟨p1, p2, p3, p4, p5, p6, p7⟩, q2, q3, q4, q5⟩ := h0
    have hkl : ks'.length = l'.length := p6 rfl
    have hft : ft [58] I0 0 (.mk 5 b n s l' ks') = [123] ++ rowsT [] (fun i => keyT [58] (ks'.getD i ⟨#[]⟩) ((fts [58] I0 0 l').getD i [])) l'.length ++ [125] := by
      rw [ft, if_neg (by decide), if_neg (by decide), if_neg (by decide), if_neg (by decide), if_neg (by decide), fts_const]
      exact rowT_rows _ _ _ _ _
    rw [hft] at h2 ⊢
    simp only [List.length_append, List.length_singleton] at h2
    refine ⟨l', ks', rfl, hkl, hsz, rfl, fun i hi => ?_, fun i hi => ?_⟩
    · have hpart := hsub i hi
      have hlt : ps.getD i 0 < l.length := ord_lt ho (by omega)
      have hwp : wrongV (l.getD (ps.getD i 0) default) = 0 := wrong_iff.2 fun z hz => wrong_iff.1 hw z (part_in (getD_in hlt) z hz)
      have e : outT [58] I0 l'[i] = (fts [58] I0 0 l').getD i [] := by
        unfold outT
        rw [psort_self hpart hwp, fts_get [58] I0 0 l' i hi]
      have h4 : (keyT [58] (ks'.getD i ⟨#[]⟩) ((fts [58] I0 0 l').getD i [])).length ≤ (rowsT [] (fun i => keyT [58] (ks'.getD i ⟨#[]⟩) ((fts [58] I0 0 l').getD i [])) l'.length).length := rowsT_part [] (fun i => keyT [58] (ks'.getD i ⟨#[]⟩) ((fts [58] I0 0 l').getD i [])) l'.length i hi
      rw [keyT, List.length_append, List.length_append] at h4
      have h5 := out_ok (C := [58]) (I := I0) (x := l'[i]) (part_check (x := .mk 5 b n s l' ks') (List.getElem_mem hi) hpy) (by
        rw [e]
        omega)
      rw [e] at h5
      exact h5
    · have hv : validS ks'[i] = true := List.all_eq_true.1 q4 _ (List.getElem_mem hi)
      have h4 : (keyT [58] (ks'.getD i ⟨#[]⟩) ((fts [58] I0 0 l').getD i [])).length ≤ (rowsT [] (fun i => keyT [58] (ks'.getD i ⟨#[]⟩) ((fts [58] I0 0 l').getD i [])) l'.length).length := rowsT_part [] (fun i => keyT [58] (ks'.getD i ⟨#[]⟩) ((fts [58] I0 0 l').getD i [])) l'.length i (by omega)
      rw [keyT, List.length_append, getD_lt ks' i _ hi] at h4
      have h5 := out_ok (C := [58]) (I := I0) (pcheck_t hv) (by rw [outT_t hv]; omega)
      rw [outT_t hv] at h5
      exact ⟨hv, h5⟩
end Go.Proofs.YtllkcldckehipaaDoor

set_option linter.unusedVariables false
namespace Go.Proofs.YtllkcldckehipaaDoor
open Go.RowKit Go.Shelf

theorem size_t (k : ByteArray) : sizeV (tV k) = 1 + k.size := by unfold tV; simp [sizeV, sizeVs, keysS]
theorem fine_t (k : ByteArray) : fineV (tV k) := fun z hz => by
  unfold tV at hz
  rw [walkV, walkVs] at hz
  obtain rfl : z = .mk 3 false 0 k [] [] := by simpa using hz
  exact Nat.zero_le _
theorem list_str (T : List UInt8) : (⟨T.toArray⟩ : ByteArray).data.toList = T := rfl
theorem str_ext {s t : ByteArray} (h : s.data.toList = t.data.toList) : s = t := ByteArray.ext (by simpa using congrArg List.toArray h)
theorem app_list (s t : ByteArray) : (s ++ t).data.toList = s.data.toList ++ t.data.toList := by simp
set_option maxRecDepth 100000 in
set_option maxHeartbeats 8000000 in
theorem objLaw_any (v : Value) (x : V) (w : World) (hE : Env w) (h : isV w x v) :
    Calls Tryd.prog 4 #[v] w fun e w' => e = .returned (.bool true) ∧ Below w.heap.size w w' := by
  have WK : Hid (∀ w1, KB w w1 → Calls Tryd.prog 6 #[] w1 fun e w' => e = .returned (.bool true) ∧ Below w1.heap.size w1 w') := Lib.hid fun w1 hK => wakes5_any w1 (hE.kb hK)
  obtain ⟨k, b, n, s, o, m, c, o2, m2, c2, rfl⟩ := isV_six h
  have hb := kbA (w := w) (o := .cells #[.int .i8 k, .bool b, .int .i64 n, .string s, .slice o m c, .slice o2 m2 c2] 26)
  have HB := Lib.hid hb
  have HN := Lib.hid (World.alloc_heap_new w (.cells #[.int .i8 k, .bool b, .int .i64 n, .string s, .slice o m c, .slice o2 m2 c2] 26))
  have GR : Hid (∀ w1, KB w w1 → Calls Tryd.prog 5 #[.agg #[.int .i8 k, .bool b, .int .i64 n, .string s, .slice o m c, .slice o2 m2 c2]] w1 fun e w' => e = .returned (.bool (greatB x)) ∧ Below w1.heap.size w1 w') := Lib.hid fun w1 hK => great_any x _ w1 (isV_below hK h)
  have HV := Lib.hid h
  have HE := Lib.hid hE
  clear h hE hb
  cases hg : greatB x with
  | true =>
    rw [hg] at GR
    clear hg
    go_enter Tryd.func4, Tryd.ntmps4
    go_wp2_with fail
    refine (GR.out _ HB.out).mono ?_
    rintro e w2 ⟨rfl, hb2⟩
    have HB2 := Lib.hid (HB.out.trans (hb2.mono HB.out.size))
    clear hb2
    go_wp2_with fail
    refine (WK.out _ HB2.out).mono ?_
    rintro e w3 ⟨rfl, hb3⟩
    have HB3 := Lib.hid (HB2.out.trans (hb3.mono HB2.out.size))
    clear hb3
    go_wp2_with fail
    go_ret
    exact ⟨rfl, HB3.out⟩
  | false =>
    rw [hg] at GR
    have hgn := great_no hg
    have HF := Lib.hid (great_fine hg)
    have HSZ : Hid (sizeV x ≤ 5000) := Lib.hid hgn.1
    clear hg hgn
    obtain ⟨k', b', n', s', l, ks⟩ := x
    have hv := HV.out
    unfold isV at hv
    obtain ⟨lv, kv, he, -⟩ := hv
    simp only [Value.agg.injEq, Array.mk.injEq, List.cons.injEq, and_true, Value.int.injEq, Value.bool.injEq, Value.string.injEq, true_and] at he
    obtain ⟨rfl, rfl, rfl, rfl, rfl, rfl⟩ := he
    by_cases hk : k = 5
    · obtain rfl : k = 5 := hk
      have k1 : (5 : Int) ≠ 6 := by decide
      obtain ⟨E, hEE⟩ : ∃ E, outE [58] I0 (.mk 5 b n s l ks) = E := ⟨_, rfl⟩
      have HPR : Hid (∀ X u w1, KB w w1 → sizeV X ≤ 1000000 → fineV X → isV w1 X u → Calls Tryd.prog 7 #[u] w1 fun e w' => e = .returned (.tuple #[.string ⟨(outS [58] I0 X).toArray⟩, .int .i64 (outE [58] I0 X)]) ∧ Below w1.heap.size w1 w') := Lib.hid fun X u w1 hK h1 h2 h3 => print_any X u w1 (HE.out.kb hK) h1 h2 h3
      have HP0 : Hid (∀ w1, KB w w1 → Calls Tryd.prog 7 #[.agg #[.int .i8 5, .bool b, .int .i64 n, .string s, .slice o m c, .slice o2 m2 c2]] w1 fun e w' => e = .returned (.tuple #[.string ⟨(outS [58] I0 (.mk 5 b n s l ks)).toArray⟩, .int .i64 E]) ∧ Below w1.heap.size w1 w') := Lib.hid fun w1 hK => by
        have := HPR.out _ _ w1 hK (by have := HSZ.out; omega) HF.out (isV_below hK HV.out)
        rw [hEE] at this
        exact this
      by_cases hE0 : E ≠ 0
      · have he : outS [58] I0 (.mk 5 b n s l ks) = [] := outE_no (by rw [hEE]; exact hE0)
        rw [he] at HP0
        have z1 : (E == 0) = false := beqI hE0
        have z2 : (E != 0) = true := bne_iff_ne.2 hE0
        clear hEE hE0 he
        go_enter Tryd.func4, Tryd.ntmps4
        go_wp2_with fail
        refine (GR.out _ HB.out).mono ?_
        rintro e w2 ⟨rfl, hb2⟩
        have HB2 := Lib.hid (HB.out.trans (hb2.mono HB.out.size))
        have hn2 := (hb2.block _ (Array.getElem?_eq_some_iff.1 HN.out).1).trans HN.out
        obtain ⟨r0, r1, r2, r3, r4, r5⟩ := six_cells hn2
        clear hb2 hn2
        go_wp2_with fail
        refine (HP0.out _ HB2.out).mono ?_
        rintro e w3 ⟨rfl, hb3⟩
        have HB3 := Lib.hid (HB2.out.trans (hb3.mono HB2.out.size))
        clear hb3
        go_wp2_with fail
        refine (WK.out _ HB3.out).mono ?_
        rintro e w4 ⟨rfl, hb4⟩
        have HB4 := Lib.hid (HB3.out.trans (hb4.mono HB3.out.size))
        clear hb4
        go_wp2_with fail
        go_ret
        exact ⟨rfl, HB4.out⟩
      · obtain rfl : E = 0 := Decidable.not_not.1 hE0
        obtain ⟨l', ks', hps, hkl, hsz, hout, hpart, hkey⟩ := obj_plain hEE
        obtain ⟨hpc, -, -⟩ := outE_yes hEE
        have hwz := pcheck_zero hpc
        have hsr := sort_p (.mk 5 b n s l ks)
        rw [hps] at hsr
        have hwide := (sort_wide hsr).1 (once_of_wrong hwz.1) (wide_of (by have := HSZ.out; omega) HF.out)
        have HSO : Hid (∀ w1, KB w w1 → Calls Tryd.prog 8 #[.agg #[.int .i8 5, .bool b, .int .i64 n, .string s, .slice o m c, .slice o2 m2 c2]] w1 fun e w' => ∃ v', e = .returned v' ∧ isV w' (.mk 5 b n s l' ks') v' ∧ Below w1.heap.size w1 w') := Lib.hid fun w1 hK => by
          refine (psortT_any (.mk 5 b n s l ks) _ w1 (fun q => q < w1.heap.size) (HE.out.kb hK) (by have := HSZ.out; omega) HF.out hpc (isVa_of _ _ (isV_below hK HV.out)) (fun q hq => hq)).mono ?_
          rintro e w' ⟨v', rfl, hv', hb'⟩
          rw [hps] at hv'
          exact ⟨v', rfl, isV_of_a _ _ hv', hb'⟩
        have HSZ2 : Hid (sizeV (.mk 5 b n s l' ks') ≤ 5000) := Lib.hid (by rw [hsz]; exact HSZ.out)
        have HWD := Lib.hid hwide
        have HPART := Lib.hid hpart
        have HKEY := Lib.hid hkey
        obtain ⟨T, hT⟩ : ∃ T : Nat → List UInt8, T = fun i => keyT [58] (ks'.getD i ⟨#[]⟩) ((fts [58] I0 0 l').getD i []) := ⟨_, rfl⟩
        rw [← hT] at hout
        have HT : Hid (∀ i, T i = keyT [58] (ks'.getD i ⟨#[]⟩) ((fts [58] I0 0 l').getD i [])) := Lib.hid fun i => by rw [hT]
        obtain ⟨S, hS⟩ : ∃ S : ByteArray, S = ⟨(outS [58] I0 (.mk 5 b n s l ks)).toArray⟩ := ⟨_, rfl⟩
        rw [← hS] at HP0
        have HSL : Hid (S.data.toList = [123] ++ rowsT [] T l'.length ++ [125]) := Lib.hid (by rw [hS, ← hout])
        have HSN : Hid ((rowsT [] T l'.length).length ≤ 32766) := Lib.hid (by
          have h1 := outS_len (C := [58]) (I := I0) (.mk 5 b n s l ks)
          rw [hout] at h1
          simp only [List.length_append, List.length_singleton] at h1
          omega)
        clear hEE hE0 hps hsz hout hpart hkey hpc hwz hsr hwide hT hS
        go_enter Tryd.func4, Tryd.ntmps4
        go_wp2_with fail
        refine (GR.out _ HB.out).mono ?_
        rintro e w2 ⟨rfl, hb2⟩
        have HB2 := Lib.hid (HB.out.trans (hb2.mono HB.out.size))
        have hn2 := (hb2.block _ (Array.getElem?_eq_some_iff.1 HN.out).1).trans HN.out
        obtain ⟨r0, r1, r2, r3, r4, r5⟩ := six_cells hn2
        have HN2 := Lib.hid hn2
        clear hb2 hn2
        go_wp2_with fail
        refine (HP0.out _ HB2.out).mono ?_
        rintro e w3 ⟨rfl, hb3⟩
        have HB3 := Lib.hid (HB2.out.trans (hb3.mono HB2.out.size))
        have hn3 := (hb3.block _ (Array.getElem?_eq_some_iff.1 HN2.out).1).trans HN2.out
        clear r0 r1 r2 r3 r4 r5
        obtain ⟨r0, r1, r2, r3, r4, r5⟩ := six_cells hn3
        clear hb3 hn3
        go_wp2_with fail
        refine (HSO.out _ HB3.out).mono ?_
        rintro e w4 ⟨v', rfl, hv', hb4⟩
        have HV4 := Lib.hid hv'
        unfold isV at hv'
        obtain ⟨lv4, kv4, rfl, -, -, -, ⟨a3, cap3, ⟨o3, rfl, hc31, hc32, ho3⟩, hvs4⟩, ⟨a4, cap4, ⟨o4, rfl, hc41, hc42, ho4⟩, hks4⟩⟩ := hv'
        rw [hkl] at hc41 ho4
        have hbo := kbA (w := w4) (o := .cells #[.int .i8 5, .bool b, .int .i64 n, .string s, .slice o3 l'.length cap3, .slice o4 l'.length cap4] 26)
        have hno := World.alloc_heap_new w4 (.cells #[.int .i8 5, .bool b, .int .i64 n, .string s, .slice o3 l'.length cap3, .slice o4 l'.length cap4] 26)
        have HB4 := Lib.hid (HB3.out.trans (hb4.mono HB3.out.size))
        have HBO := Lib.hid hbo
        have HO4 := Lib.hid hno
        have HVS := Lib.hid hvs4
        have HKS := Lib.hid hks4
        have HO34 := Lib.hid (And.intro ho3 ho4)
        have hllen : (l'.length : Int) ≤ 1000000 := by
          have h1 := HSZ2.out
          have h2 := sizeVs_len l'
          rw [sizeV] at h1
          omega
        clear hb4 hbo hno hvs4 hks4 r0 r1 r2 r3 r4 r5 ho3 ho4
        rw [hkl]
        go_wp2_with fail
        go_loopw [6, 45] (fun wv i wr => ∃ (j : Nat) (S' : ByteArray), j ≤ l'.length ∧ i = .int .i64 j ∧ wv = .string S' ∧ Hid (S'.data.toList = [123] ++ rowsT [] T j) ∧ Hid (KB (w4.alloc (.cells #[.int .i8 5, .bool b, .int .i64 n, .string s, .slice o3 l'.length cap3, .slice o4 l'.length cap4] 26)) wr)) (fun _ i _ => l'.length - (intOf i).toNat)
        case atStart => exact ⟨0, _, by omega, rfl, rfl, Lib.hid rfl, Lib.hid (Below.refl _ _)⟩
        case round =>
          obtain ⟨j, S', hj, rfl, rfl, hS, hK⟩ := hrel
          have hsz1 : S'.size ≤ 40000 := by
            have h1 := congrArg List.length hS.out
            have h2 := rowsT_mono [] T j (l'.length - j)
            have h3 := HSN.out
            rw [show j + (l'.length - j) = l'.length by omega] at h2
            rw [toList_length, List.length_append, List.length_singleton] at h1
            omega
          by_cases hlt : j < l'.length
          · obtain rfl := HO34.out.1 (by omega)
            obtain rfl := HO34.out.2 (by omega)
            have hjk : j < ks'.length := by omega
            have HKD : Hid (ks'.getD j ⟨#[]⟩ = ks'[j]) := Lib.hid (getD_lt _ _ _ hjk)
            obtain ⟨hkv, hke, hkq⟩ := HKEY.out j hjk
            obtain ⟨hpe, hpq⟩ := HPART.out j hlt
            have hkc := cell_below (HBO.out.trans (hK.out.mono HBO.out.size)) _ _ (HKS.out j hjk).1
            have hksz := (HKS.out j hjk).2
            obtain ⟨k1', b1', n1', s1', o1', m1', p1', o2', m2', p2', g0, g1, g2, g3, g4, g5, hx⟩ := isVs_sl l' a3 j hlt (isVs_keep (cell_below HBO.out) l' a3 HVS.out)
            have hxs : sizeV l'[j] ≤ 1000000 := by
              have h1 := sizeVs_get l' j hlt
              have h2 := HSZ2.out
              rw [sizeV] at h2
              omega
            have hxf : fineV l'[j] := fun z hz => (HWD.out z (part_in (List.getElem_mem hlt) z hz)).2
            have hks5 : ks'[j].size ≤ 5000 := by
              have h2 := HSZ2.out
              rw [sizeV] at h2
              have h3 : ks'[j].size ≤ keysS ks' := keysS_mem (List.getElem_mem hjk)
              omega
            have hB4w := HB4.out.trans (HBO.out.mono HB4.out.size)
            have HPX0 : Hid (∀ w1, KB (w4.alloc (.cells #[.int .i8 5, .bool b, .int .i64 n, .string s, .slice (some a3) l'.length cap3, .slice (some a4) l'.length cap4] 26)) w1 → Calls Tryd.prog 7 #[.agg #[.int .i8 k1', .bool b1', .int .i64 n1', .string s1', .slice o1' m1' p1', .slice o2' m2' p2']] w1 fun e w' => e = .returned (.tuple #[.string ⟨((fts [58] I0 0 l').getD j []).toArray⟩, .int .i64 0]) ∧ Below w1.heap.size w1 w') := Lib.hid fun w1 hK1 => by
              have := HPR.out _ _ w1 (hB4w.trans (hK1.mono hB4w.size)) hxs hxf (isV_below hK1 hx)
              rw [hpe, hpq] at this
              exact this
            have HPK0 : Hid (∀ w1, KB (w4.alloc (.cells #[.int .i8 5, .bool b, .int .i64 n, .string s, .slice (some a3) l'.length cap3, .slice (some a4) l'.length cap4] 26)) w1 → Calls Tryd.prog 7 #[.agg #[.int .i8 3, .bool false, .int .i64 0, .string ks'[j], .slice none 0 0, .slice none 0 0]] w1 fun e w' => e = .returned (.tuple #[.string ⟨(Ru.quoteL ks'[j].data.toList).toArray⟩, .int .i64 0]) ∧ Below w1.heap.size w1 w') := Lib.hid fun w1 hK1 => by
              have := HPR.out (tV ks'[j]) _ w1 (hB4w.trans (hK1.mono hB4w.size)) (by rw [size_t]; omega) (fine_t _) (isV_leaf _ 3 false 0 ks'[j] (by omega) (by omega) hksz)
              rw [hke, hkq] at this
              exact this
            obtain ⟨q, hq⟩ : ∃ q : ByteArray, q = ⟨(Ru.quoteL ks'[j].data.toList).toArray⟩ := ⟨_, rfl⟩
            obtain ⟨xs, hxs'⟩ : ∃ q : ByteArray, q = ⟨((fts [58] I0 0 l').getD j []).toArray⟩ := ⟨_, rfl⟩
            rw [← hq] at HPK0
            rw [← hxs'] at HPX0
            have hsz2 : q.size ≤ 40000 := by
              have h1 := quote_len ks'[j].data.toList
              rw [toList_length] at h1
              rw [hq, size_list]
              omega
            have hsz3 : xs.size ≤ 40000 := by
              have h1 := outS_len (C := [58]) (I := I0) l'[j]
              rw [hpq] at h1
              rw [hxs', size_list]
              omega
            have HQL : Hid (q.data.toList = Ru.quoteL ks'[j].data.toList) := Lib.hid (by rw [hq])
            have HXL : Hid (xs.data.toList = (fts [58] I0 0 l').getD j []) := Lib.hid (by rw [hxs'])
            have HPK := HPK0
            have HPX := HPX0
            obtain ⟨ky, hky⟩ : ∃ ky, ks'[j] = ky := ⟨_, rfl⟩
            rw [hky] at HKD HQL HPK hkc
            obtain ⟨r0, r1, r2, r3, r4, r5⟩ := six_cells ((hK.out.block _ (Array.getElem?_eq_some_iff.1 HO4.out).1).trans HO4.out)
            clear hkv hke hkq hpe hpq hksz hx hxs hxf hks5 hB4w hq hxs' HPK0 HPX0 hky
            have b1 : decide ((j : Int) < (l'.length : Int)) = true := decide_eq_true (by omega)
            clear r0 r1 r2 r3 r4 r5
            rcases Nat.eq_zero_or_pos j with h0 | h0
            · have b2 : decide ((0 : Int) < (j : Int)) = false := decide_eq_false (by omega)
              have b3 : decide (0 < j) = false := decide_eq_false (by omega)
              have HJ0 : Hid (j = 0) := Lib.hid (by omega)
              have b4 : ¬ 0 < j := by omega
              clear h0
              go_wp2_with fail
              refine (ptext_any _ _).mono ?_
              rintro e w5 ⟨rfl, hb5⟩
              have HK5 := Lib.hid (hK.out.trans (hb5.mono hK.out.size))
              clear hb5
              go_wp2_with fail
              refine (HPK.out w5 HK5.out).mono ?_
              rintro e w6 ⟨rfl, hb6⟩
              have HK6 := Lib.hid (HK5.out.trans (hb6.mono HK5.out.size))
              clear hb6
              obtain ⟨r0, r1, r2, r3, r4, r5⟩ := six_cells ((HK6.out.block _ (Array.getElem?_eq_some_iff.1 HO4.out).1).trans HO4.out)
              have d0 := cell_below HK6.out _ _ g0
              have d1 := cell_below HK6.out _ _ g1
              have d2 := cell_below HK6.out _ _ g2
              have d3 := cell_below HK6.out _ _ g3
              have d4 := cell_below HK6.out _ _ g4
              have d5 := cell_below HK6.out _ _ g5
              go_wp2_with fail
              refine (HPX.out w6 HK6.out).mono ?_
              rintro e w7 ⟨rfl, hb7⟩
              have HK7 := Lib.hid (HK6.out.trans (hb7.mono HK6.out.size))
              clear hb7 r0 r1 r2 r3 r4 r5 d0 d1 d2 d3 d4 d5
              go_wp2_with fail
              go_roundw
              case rel => exact ⟨j + 1, _, by omega, by go_num, rfl, Lib.hid (by rw [rowsT, if_pos HJ0.out]; simp only [app_list, hS.out, HQL.out, HXL.out, HT.out, keyT, HKD.out]; simp), HK7⟩
              case measure => simp [intOf]; omega
            · have b2 : decide ((0 : Int) < (j : Int)) = true := decide_eq_true (by omega)
              have b3 : decide (0 < j) = true := decide_eq_true (by omega)
              have HJ0 : Hid (¬ j = 0) := Lib.hid (by omega)
              
              go_wp2_with fail
              refine (ptext_any _ _).mono ?_
              rintro e w5 ⟨rfl, hb5⟩
              have HK5 := Lib.hid (hK.out.trans (hb5.mono hK.out.size))
              clear hb5
              go_wp2_with fail
              refine (HPK.out w5 HK5.out).mono ?_
              rintro e w6 ⟨rfl, hb6⟩
              have HK6 := Lib.hid (HK5.out.trans (hb6.mono HK5.out.size))
              clear hb6
              obtain ⟨r0, r1, r2, r3, r4, r5⟩ := six_cells ((HK6.out.block _ (Array.getElem?_eq_some_iff.1 HO4.out).1).trans HO4.out)
              have d0 := cell_below HK6.out _ _ g0
              have d1 := cell_below HK6.out _ _ g1
              have d2 := cell_below HK6.out _ _ g2
              have d3 := cell_below HK6.out _ _ g3
              have d4 := cell_below HK6.out _ _ g4
              have d5 := cell_below HK6.out _ _ g5
              go_wp2_with fail
              refine (HPX.out w6 HK6.out).mono ?_
              rintro e w7 ⟨rfl, hb7⟩
              have HK7 := Lib.hid (HK6.out.trans (hb7.mono HK6.out.size))
              clear hb7 r0 r1 r2 r3 r4 r5 d0 d1 d2 d3 d4 d5
              go_wp2_with fail
              go_roundw
              case rel => exact ⟨j + 1, _, by omega, by go_num, rfl, Lib.hid (by rw [rowsT, if_neg HJ0.out]; simp only [app_list, hS.out, HQL.out, HXL.out, HT.out, keyT, HKD.out]; simp), HK7⟩
              case measure => simp [intOf]; omega
          · obtain rfl : j = l'.length := by omega
            have b1 : decide ((l'.length : Int) < (l'.length : Int)) = false := decide_eq_false (by omega)
            have f1 : (S.toList == (S' ++ ⟨#[125]⟩).toList) = true := by
              have : S = S' ++ ⟨#[125]⟩ := str_ext (by rw [app_list, HSL.out, hS.out])
              rw [this]; simp
            have HKw := Lib.hid (HB4.out.trans ((HBO.out.trans (hK.out.mono HBO.out.size)).mono HB4.out.size))
            go_wp2_with fail
            refine (WK.out _ HKw.out).mono ?_
            rintro e w9 ⟨rfl, hb9⟩
            have HK9 := Lib.hid (HKw.out.trans (hb9.mono HKw.out.size))
            clear hb9
            go_wp2_with fail
            go_ret
            exact ⟨rfl, HK9.out⟩
    · have k1 : (k == 5) = false := beqI hk
      have k2 : (k != 5) = true := bne_iff_ne.2 hk
      clear hk
      go_enter Tryd.func4, Tryd.ntmps4
      go_wp2_with fail
      refine (GR.out _ HB.out).mono ?_
      rintro e w2 ⟨rfl, hb2⟩
      have HB2 := Lib.hid (HB.out.trans (hb2.mono HB.out.size))
      obtain ⟨r0, r1, r2, r3, r4, r5⟩ := six_cells ((hb2.block _ (Array.getElem?_eq_some_iff.1 HN.out).1).trans HN.out)
      clear hb2
      go_wp2_with fail
      refine (WK.out _ HB2.out).mono ?_
      rintro e w3 ⟨rfl, hb3⟩
      have HB3 := Lib.hid (HB2.out.trans (hb3.mono HB2.out.size))
      clear hb3
      go_wp2_with fail
      go_ret
      exact ⟨rfl, HB3.out⟩
end Go.Proofs.YtllkcldckehipaaDoor
