/-
  Values that are bound are bound again.
-/
import Derived.Test.YtlamkadllbgamaaGreatDoorEh
set_option linter.unusedVariables false
set_option linter.unusedSimpArgs false
namespace Go.Proofs.YtlamkadllbgamaaGreatDoor
open Go.RowKit Go.Maps

theorem bound_flat {L : List PR} {gs : List G} (h : OkB L gs) : ∀ g ∈ L.map (valP gs), flatV g.v := fun g hg => by
  obtain ⟨p, hp, rfl⟩ := List.mem_map.1 hg
  exact may_flat (h.may p hp)
theorem bound_fine {L : List PR} {gs : List G} (hP : finePs L) (hG : fineG gs) : fineG (L.map (valP gs)) := ⟨by rw [List.length_map]; exact hP.1, fun g hg => by
  obtain ⟨p, hp, rfl⟩ := List.mem_map.1 hg
  exact valP_fine hG (hP.2 p hp)⟩
theorem alike_self {A : List G} (h : ∀ g ∈ A, flatV g.v) : alikeG A A := ⟨rfl, fun i hi hi' => ⟨rfl, rfl, (h _ (List.getElem_mem hi)).1⟩⟩

theorem tmod_nat (x : Int) (n : Nat) (hn : 0 < n) : -(n : Int) < x.tmod n ∧ x.tmod n < n := by
  rcases Int.le_total 0 x with h | h
  · rw [Int.tmod_eq_emod_of_nonneg h]
    have := Int.emod_nonneg x (show (n : Int) ≠ 0 by omega)
    have := Int.emod_lt_of_pos x (show (0 : Int) < n by omega)
    omega
  · obtain ⟨y, rfl⟩ : ∃ y, x = -y := ⟨-x, by omega⟩
    rw [Int.neg_tmod, Int.tmod_eq_emod_of_nonneg (show 0 ≤ y by omega)]
    have := Int.emod_nonneg y (show (n : Int) ≠ 0 by omega)
    have := Int.emod_lt_of_pos y (show (0 : Int) < n by omega)
    omega
theorem drop_at (x : Int) (n : Nat) (hn : 0 < n) (hm : n ≤ 1000000) : ∃ d : Nat, d < n ∧ (wrap64 (x.tmod n + n)).tmod n = (d : Int) := by
  have h := tmod_nat x n hn
  have hw : wrap64 (x.tmod n + n) = x.tmod n + n := by unfold wrap64; omega
  rw [hw, Int.tmod_eq_emod_of_nonneg (by omega)]
  have h1 := Int.emod_nonneg (x.tmod n + n) (show (n : Int) ≠ 0 by omega)
  have h2 := Int.emod_lt_of_pos (x.tmod n + n) (show (0 : Int) < n by omega)
  exact ⟨((x.tmod n + n) % n).toNat, by omega, by omega⟩

set_option maxRecDepth 100000 in
set_option maxHeartbeats 16000000 in
theorem paramsAgain_any (L : List PR) (gs : List G) (dr : Int) (v u : Value) (w : World) (hE : Env w) (h : isPs w L v) (h' : isGs w gs u) (hdr : -9223372036854775808 ≤ dr ∧ dr ≤ 9223372036854775807) :
    Calls Tryz.prog 3 #[v, u, .int .i64 dr] w fun e w' => e = .returned (.bool true) ∧ Below w.heap.size w w' := by
  have HG := Lib.hid (lgreat_any L gs v u w h h')
  have HWK : Hid (∀ w1, KB w w1 → Calls Tryz.prog 6 #[] w1 fun e w' => e = .returned (.bool true) ∧ Below w1.heap.size w1 w') := Lib.hid fun w1 hk => wakes14_any w1 (hE.kb hk)
  cases hgr : (greatP L || greatM gs) with
  | true =>
    rw [hgr] at HG
    obtain ⟨o, c, rfl⟩ := isPs_form h
    obtain ⟨o', c', rfl⟩ := isGs_form h'
    clear h h' hE hgr
    generalize L.length = n at *
    generalize gs.length = n' at *
    go_enter Tryz.func3, Tryz.ntmps3
    go_wp2_with (first
      | (go_at_call 5; refine HG.out.mono ?_; rintro e w1 ⟨rfl, hb1⟩)
      | (go_at_call 6; refine (HWK.out _ hb1).mono ?_; rintro e w2 ⟨rfl, hb2⟩))
    go_ret
    exact ⟨rfl, hb1.trans (hb2.mono hb1.size)⟩
  | false =>
    rw [hgr] at HG
    rw [Bool.or_eq_false_iff] at hgr
    obtain ⟨hl40, hP, -⟩ := greatP_no hgr.1
    obtain ⟨hg40, hG, -⟩ := greatM_no hgr.2
    have HBA : Hid (∀ (M : List G) (z : Value) (w1 : World), KB w w1 → fineG M → isGs w1 M z → Calls Tryz.prog 7 #[v, z] w1 fun e w' => RetB L M w1 e w') := Lib.hid fun M z w1 hk hM hz => Bind_any L M v z w1 (hE.kb hk) hP hM (isPs_below hk h) hz
    have HB1 : Hid (∀ w1, KB w w1 → Calls Tryz.prog 7 #[v, u] w1 fun e w' => RetB L gs w1 e w') := Lib.hid fun w1 hk => HBA.out gs u w1 hk hG (isGs_below hk h')
    have HE := Lib.hid hE
    have HDR := Lib.hid hdr
    clear hdr
    obtain ⟨a, cap, ⟨o, rfl, hc1, hc2, ho⟩, hat⟩ := h
    obtain ⟨o', c', rfl⟩ := isGs_form h'
    have HAT := Lib.hid hat
    have HP := Lib.hid hP
    have HGG := Lib.hid hG
    unfold maxLen at hc2
    clear h' hE hgr hP hG hat
    generalize gs.length = n' at *
    go_enter Tryz.func3, Tryz.ntmps3
    go_wp2_with (go_at_call 5; refine HG.out.mono ?_; rintro e w1 ⟨rfl, hb1⟩)
    refine (HB1.out _ hb1).mono ?_
    rintro e w2 ⟨hy, hn, hb2⟩
    have HK2 := Lib.hid (hb1.trans (hb2.mono hb1.size))
    clear HB1 HG hb1 hb2
    by_cases hz : (bindF L gs).2 = 0
    · obtain ⟨v2, xs2, rfl, ho2, hx2⟩ := hy hz
      have hok := okB_of hz
      have hAf := bound_flat hok
      have hAG := bound_fine (gs := gs) HP.out HGG.out
      have hAb := again_bind hok
      have hAm := again_map hok
      have hAl : (L.map (valP gs)).length = L.length := List.length_map _
      have hgs2 : isGs w2 (L.map (valP gs)) v2 := isGs_own (by rw [hAl]; exact ho2) hx2
      have HOK := Lib.hid hok
      have HAF := Lib.hid hAf
      have HAG := Lib.hid hAG
      have HAB := Lib.hid hAb
      have HAM := Lib.hid hAm
      have HAL := Lib.hid hAl
      have HO2 := Lib.hid ho2
      have HX2 := Lib.hid hx2
      have HGS2 := Lib.hid hgs2
      obtain ⟨o2, ad2, c2, rfl, h21, h22, h23, -, h24⟩ := own_form ho2
      have H24 := Lib.hid h24
      unfold maxLen at h22
      clear hy hn hz hok hAf hAG hAb hAm hAl ho2 hx2 hgs2 h24 HGG
      go_wp2_with fail
      go_loopw [10] (fun i wr => ∃ j : Nat, j ≤ L.length ∧ i = .int .i64 j ∧ Hid (Below w2.heap.size w2 wr)) (fun i _ => L.length - (intOf i).toNat)
      case atStart => exact ⟨0, by omega, rfl, Lib.hid (Below.refl _ _)⟩
      case round =>
        obtain ⟨j, hj, rfl, hB⟩ := hrel
        have hKr := HK2.out.trans (hB.out.mono HK2.out.size)
        by_cases hlt : j < L.length
        · obtain rfl := ho (by omega)
          obtain rfl := h23 (by omega)
          obtain ⟨k, b, n, s, o, m, c, o2, m2, c2, oa, ca, p0, p1, p2, p3, p4, p5, p6, p7, p8, p9, hpp⟩ := isPat_ten (isPat_below hKr (HAT.out j hlt))
          have hlt2 : j < (L.map (valP gs)).length := by rw [HAL.out]; exact hlt
          obtain ⟨a9, cap9, ⟨o9, e9, -, -, ho9⟩, hat9⟩ := HGS2.out
          simp only [Value.slice.injEq] at e9
          obtain ⟨e91, -, rfl⟩ := e9
          have := ho9 (by omega)
          rw [← e91] at this
          obtain rfl := Option.some.inj this
          obtain ⟨k3, b3, n3, s3, o3, m3, c3, o4, m4, c4, q0, q1, q2, q3, q4, q5, q6, q7, hgg⟩ := isGat_eight (isGat_below hB.out (hat9 j hlt2))
          have hAj : (L.map (valP gs))[j] = valP gs L[j] := List.getElem_map _
          rw [hAj] at q0 q1 hgg
          rw [valP_nm] at q0 hgg
          have HM : Hid (∀ w1, KB wr w1 → Calls Tryz.prog 8 #[.agg #[.string L[j].nm, .bool L[j].num, .bool L[j].has, .int .i8 k, .bool b, .int .i64 n, .string s, .slice o m c, .slice o2 m2 c2, .slice oa L[j].al.length ca], .agg #[.string L[j].nm, .bool (valP gs L[j]).unk, .int .i8 k3, .bool b3, .int .i64 n3, .string s3, .slice o3 m3 c3, .slice o4 m4 c4]] w1 fun e w' => e = .returned (.bool true) ∧ Below w1.heap.size w1 w') := Lib.hid fun w1 hk => by
            have hfin := HAG.out.2 _ (List.mem_map.2 ⟨L[j], List.getElem_mem hlt, rfl⟩)
            have k := May_any L[j] (valP gs L[j]) _ _ w1 (HE.out.kb (hKr.trans (hk.mono hKr.size))) (HP.out.2 _ (List.getElem_mem hlt)) hfin.1 hfin.2 (isP_below hk hpp) (isG_below hk hgg)
            rwa [HOK.out.may _ (List.getElem_mem hlt)] at k
          have HKR := Lib.hid hKr
          have hz : (L[j].nm.toList == L[j].nm.toList) = true := beq_self_eq_true _
          clear hgg hpp hAj hKr hat9 ho9 e91 this hlt2
          generalize valP gs L[j] = g at *
          generalize L[j] = p at *
          generalize p.al.length = q9 at *
          go_wp2_with fail
          refine Rn.region_any (by kernel_rfl) ?_
          refine Rn.any_seg 0 20 (by kernel_rfl) rfl ?_
          simp only [List.take_succ_cons, List.take_zero, List.drop_zero]
          repeat (refine Rn.ws_one (fun KK hKK => ?_); go_simp; refine hKK _ ?_; clear hKK KK)
          refine Rn.ws_nil ?_
          intro K0 hK0
          go_simp
          refine .inl ((HM.out _ (drewB1 _ _)).mono ?_)
          rintro e w5 ⟨rfl, hb5⟩
          refine hK0 _ _ ?_
          clear hK0 K0
          refine Rn.any_end 21 (by kernel_rfl) ?_
          simp only [List.drop_succ_cons, List.drop_zero]
          repeat (refine Rn.ws_one (fun KK hKK => ?_); go_simp; refine hKK _ ?_; clear hKK KK)
          refine Rn.ws_nil ?_
          go_wp2_with fail
          go_roundw
          case rel => exact ⟨j + 1, by omega, by go_num, Lib.hid (hB.out.trans ((below_drew_of hb5).mono hB.out.size))⟩
          case measure => simp [intOf]; omega
        · obtain rfl : j = L.length := by omega
          have HKR := Lib.hid (HK2.out.trans (hB.out.mono HK2.out.size))
          clear hj hlt
          go_wp2_with fail
          refine (HBA.out (L.map (valP gs)) _ _ HKR.out HAG.out (isGs_below hB.out HGS2.out)).mono ?_
          rintro e w3 ⟨hy3, -, hb3⟩
          obtain ⟨v3, xs3, rfl, ho3, hx3⟩ := hy3 (by rw [HAB.out])
          rw [HAM.out] at hx3
          have hgs3 : isGs w3 (L.map (valP gs)) v3 := isGs_own (by rw [HAL.out]; exact ho3) hx3
          obtain ⟨o3, ad3, c3, rfl, -, -, -, -, -⟩ := own_form ho3
          have HK3 := Lib.hid (HKR.out.trans (hb3.mono HKR.out.size))
          have HB3 := Lib.hid (hB.out.trans (hb3.mono hB.out.size))
          have HS3 : Hid (Calls Tryz.prog 9 #[.slice o2 L.length c2, .slice o3 L.length c3] w3 fun e w' => e = .returned (.bool true) ∧ Below w3.heap.size w3 w') := Lib.hid (by
            have k := Same_any (L.map (valP gs)) (L.map (valP gs)) _ _ w3 (HE.out.kb HK3.out) HAG.out HAG.out (alike_self HAF.out) (isGs_below HB3.out HGS2.out) hgs3
            rwa [eqGs_self] at k)
          clear hy3 hb3 ho3 hx3 hgs3
          by_cases h0 : L.length = 0
          · have z1 : ((L.length : Int) == 0) = true := by rw [h0]; rfl
            have z2 : (L.length == 0) = true := by rw [h0]; rfl
            clear h0
            go_wp2_with (first
              | (go_at_call 9; refine HS3.out.mono ?_; rintro e w4 ⟨rfl, hb4⟩; have HK4 := Lib.hid (HK3.out.trans (hb4.mono HK3.out.size)); clear hb4)
              | (go_at_call 6; refine (HWK.out _ HK4.out).mono ?_; rintro e w5 ⟨rfl, hb5⟩))
            go_ret
            exact ⟨rfl, HK4.out.trans (hb5.mono HK4.out.size)⟩
          · have hpos : 0 < L.length := by omega
            have z1 : ((L.length : Int) == 0) = false := beq_eq_false_iff_ne.2 (by omega)
            have z2 : (L.length == 0) = false := beq_eq_false_iff_ne.2 h0
            obtain rfl := h23 hpos
            obtain rfl := ho hpos
            have z3 : ((L.length : Int) == -1) = false := beq_eq_false_iff_ne.2 (by omega)
            have z4 : ¬ (L.length : Int) = -1 := by omega
            clear h0 h23 ho
            obtain ⟨d, hd, hdw⟩ := drop_at dr L.length hpos (by omega)
            have i1 : (0 : Int) ≤ (d : Int) := by omega
            have i2 : (d : Int) ≤ (c2 : Int) := by omega
            have i3 : ¬ c2 = 0 := by omega
            have i8 : decide (c2 = 0) = false := decide_eq_false i3
            have i9 : (c2 == 0) = false := beq_eq_false_iff_ne.2 i3
            have ia : 0 < c2 := by omega
            have ib : ¬ 0 = c2 := by omega
            have i4 : (0 : Int) ≤ (d : Int) + 1 := by omega
            have i5 : (d : Int) + 1 ≤ (L.length : Int) := by omega
            have i6 : (L.length : Int) ≤ (c2 : Int) := by omega
            have i7 : IntKind.i64.wrap ((d : Int) + 1) = ((d + 1 : Nat) : Int) := by rw [IntWalk.i64_in _ (by omega)]; rfl
            obtain ⟨oS, hoS⟩ : ∃ oS, (if c2 = d + 1 then some ad2 else some (ad2.add ((d + 1) * 8))) = oS := ⟨_, rfl⟩
            have HOS : Hid (0 < L.length - (d + 1) → oS = some (ad2.add ((d + 1) * 8))) := Lib.hid fun h => by rw [← hoS, if_neg (by omega)]
            have HD := Lib.hid hd
            obtain ⟨i0, hi0, hz0, hz1, hz2⟩ := info_parts infoGv
            have hlx : xs2.length = L.length * 8 := HO2.out.1
            have HLX := Lib.hid hlx
            have hone : ∀ u ∈ xs2, u.oneCell' = true := isGL_one _ _ HX2.out
            have HONE := Lib.hid hone
            clear hlx hone hd
            go_wp2_with (first
              | (go_at_call 9; refine HS3.out.mono ?_; rintro e w4 ⟨rfl, hb4⟩; have HK4 := Lib.hid (HK3.out.trans (hb4.mono HK3.out.size)); have HB4 := Lib.hid (HB3.out.trans (hb4.mono HB3.out.size)); clear hb4; have H24w : Hid (∀ j u, xs2[j]? = some u → w4.cell? (ad2.add j) = some u) := Lib.hid fun j u hj => cell_below HB4.out _ _ (H24.out j u hj))
              | (at_builtin; refine wpList_append_row_at rfl _ _ 23 rfl w4.heap.size 35 i0 _ 8 104 Tryz.underlying23 hi0 hz0 hz1 hz2 rfl (by decide) _ 0 [] rfl ⟨rfl, .inl ⟨rfl, rfl⟩⟩ (some ad2) ad2 d c2 (xs2.take (d * 8)) rfl (fun _ => rfl) ?d1 ?d2 ?d3 (by unfold maxLen; omega) (by omega) (Nat.le_refl _) ?_))
            case d1 => rw [List.length_take, HLX.out]; have := HD.out; omega
            case d2 =>
              intro q z hq
              rw [List.getElem?_take] at hq
              split at hq
              · exact H24w.out q z hq
              · cases hq
            case d3 => intro z hz; exact HONE.out z (List.mem_of_mem_take hz)
            intro o5 c5 w5 hown5 hgr5 hat5
            have hb5 : Below w4.heap.size w4 w5 := (Below.refl _ _).grown hgr5 (Nat.le_refl _) (fun r e => by cases e)
            have HO5 := Lib.hid hown5
            have HB5 := Lib.hid hb5
            have H24y : Hid (∀ j z, xs2[j]? = some z → w5.cell? (ad2.add j) = some z) := Lib.hid fun j z hj => cell_below hb5 _ _ (H24w.out j z hj)
            have j1 : d + (L.length - (d + 1)) ≤ 40 := by have := HD.out; omega
            clear hown5 hgr5 hat5 hb5
            go_wp2_with (at_builtin; refine wpList_append_row_at rfl _ _ 23 rfl w4.heap.size 35 i0 _ 8 104 Tryz.underlying23 hi0 hz0 hz1 hz2 rfl (by decide) _ d _ rfl HO5.out oS (ad2.add ((d + 1) * 8)) (L.length - (d + 1)) (c2 - (d + 1)) (xs2.drop ((d + 1) * 8)) rfl HOS.out ?e1 ?e2 ?e3 (by unfold maxLen; omega) (by omega) HB5.out.size ?_)
            case e1 => rw [List.length_drop, HLX.out]; have := HD.out; omega
            case e2 =>
              intro q z hq
              rw [List.getElem?_drop] at hq
              rw [add_add]
              exact H24y.out _ z hq
            case e3 => intro z hz; exact HONE.out z (List.mem_of_mem_drop hz)
            intro o6 c6 w6 hown6 hgr6 hat6
            have hb6 : Below w4.heap.size w4 w6 := HB5.out.grown hgr6 HB5.out.size (fun r e => (HO5.out.lt r e).1)
            obtain ⟨F, hF⟩ : ∃ F, (L.map (valP gs)).take d ++ (L.map (valP gs)).drop (d + 1) = F := ⟨_, rfl⟩
            have hFl : F.length = d + (L.length - (d + 1)) := by
              rw [← hF, List.length_append, List.length_take, List.length_drop, HAL.out]
              have := HD.out
              omega
            have hFx : isGL w6 F (xs2.take (d * 8) ++ xs2.drop ((d + 1) * 8)) := by
              rw [← hF]
              refine isGL_flat (W := w2) _ _ (fun g hg => HAF.out g ((less_sub _ d).subset hg)) (isGL_app _ _ _ _ (isGL_cut _ _ d HX2.out).1 (isGL_cut _ _ (d + 1) HX2.out).2)
            have hF6 : isGs w6 F (.slice o6 (d + (L.length - (d + 1))) c6) := isGs_own (by rw [hFl]; exact hown6) hFx
            have hFG : fineG F := ⟨by rw [hFl]; omega, fun g hg => HAG.out.2 g (by rw [← hF] at hg; exact (less_sub _ d).subset hg)⟩
            have HK6 := Lib.hid (HK4.out.trans (hb6.mono HK4.out.size))
            have HB6 := Lib.hid (HB4.out.trans (hb6.mono HB4.out.size))
            have HF6 := Lib.hid hF6
            have HFG := Lib.hid hFG
            have HFE := Lib.hid hF
            clear hown6 hgr6 hat6 hb6 hF hFl hFx hF6 hFG HO5 HB5 H24y H24w HB4 HK4
            go_wp2_with fail
            refine (HBA.out F _ _ HK6.out HFG.out HF6.out).mono ?_
            rintro e w7 ⟨hy7, hn7, hb7⟩
            have HK7 := Lib.hid (HK6.out.trans (hb7.mono HK6.out.size))
            have HB7 := Lib.hid (HB6.out.trans (hb7.mono HB6.out.size))
            have hdl := HD.out
            obtain ⟨ka, ba, na, sa, oa1, ma1, ca1, oa2, ma2, ca2, oa3, ca3, p0, p1, p2, p3, p4, p5, p6, p7, p8, p9, hpp⟩ := isPat_ten (isPat_below HK7.out (HAT.out d hdl))
            have ic : (d : Int) < (L.length : Int) := by omega
            cases hh : L[d].has with
            | false =>
              have hno := less_no HOK.out hdl hh
              rw [HFE.out] at hno
              have he7 := hn7 (by rw [hno]; show (140 : Int) ≠ 0; decide)
              rw [hno] at he7
              have he8 : e = .returned (.tuple #[.slice none 0 0, .string L[d].nm, .int .i64 140]) := he7
              obtain rfl := he8
              rw [hh] at p2
              have hz : (L[d].nm.toList == L[d].nm.toList) = true := beq_self_eq_true _
              clear hy7 hn7 hb7 hno he7 hpp hh p1 p3 p4 p5 p6 p7 p8 p9
              generalize L[d].nm = nm9 at *
              go_wp2_with (go_at_call 6; refine (HWK.out _ HK7.out).mono ?_; rintro e w8 ⟨rfl, hb8⟩)
              go_ret
              exact ⟨rfl, HK7.out.trans (hb8.mono HK7.out.size)⟩
            | true =>
              obtain ⟨hy1, hmap, hkd⟩ := less_yes HOK.out hdl hh
              rw [HFE.out] at hy1 hmap
              obtain ⟨v7, xs7, rfl, ho7, hx7⟩ := hy7 (by rw [hy1])
              rw [hmap] at hx7
              obtain ⟨C, hC⟩ : ∃ C, (L.map (valP gs)).set d ⟨L[d].nm, false, L[d].d⟩ = C := ⟨_, rfl⟩
              rw [hC] at hx7
              have hCl : C.length = L.length := by rw [← hC, List.length_set, HAL.out]
              have hCf : ∀ g ∈ C, flatV g.v := fun g hg => by
                rw [← hC] at hg
                rcases List.mem_or_eq_of_mem_set hg with hg | rfl
                · exact HAF.out g hg
                · exact (kind_flat hkd).1
              have hgs7 : isGs w7 C v7 := isGs_own (by rw [hCl]; exact ho7) hx7
              have hset : C.set d (valP gs L[d]) = L.map (valP gs) := by
                rw [← hC, List.set_set]
                refine List.ext_getElem (by simp) fun i h1 h2 => ?_
                rw [List.getElem_set]
                by_cases e : d = i
                · subst e; rw [if_pos rfl, List.getElem_map]
                · rw [if_neg e]
              obtain ⟨o7, ad7, c7, rfl, h71, h72, h73, -, -⟩ := own_form ho7
              obtain rfl := h73 hpos
              have hdc : d < C.length := by rw [hCl]; exact hdl
              obtain ⟨a8, cap8, ⟨o8, e8, -, -, ho8⟩, hat8⟩ := hgs7
              simp only [Value.slice.injEq] at e8
              obtain ⟨e81, -, rfl⟩ := e8
              have e82 := ho8 (by omega)
              rw [← e81] at e82
              obtain rfl := Option.some.inj e82
              obtain ⟨k3, b3, n3, s3, o3, m3, c3, o4, m4, c4, t0, t1, t2, t3, t4, t5, t6, t7, hct⟩ := isGat_eight (hat8 d hdc)
              have hCd : C[d] = ⟨L[d].nm, false, L[d].d⟩ := by simp only [← hC, List.getElem_set_self]
              rw [hCd] at hct t0 t1
              obtain ⟨_, _, _, _, _, _, e1, hvc, -⟩ := hct
              simp only [Value.agg.injEq, Array.mk.injEq, List.cons.injEq, and_true, true_and] at e1
              obtain ⟨rfl, rfl, rfl, rfl, rfl, rfl⟩ := e1
              obtain ⟨_, _, _, _, _, _, _, _, _, _, _, _, e2, hvd, -⟩ := isP_ten hpp
              simp only [Value.agg.injEq, Array.mk.injEq, List.cons.injEq, Value.int.injEq, Value.bool.injEq, Value.string.injEq, Value.slice.injEq, true_and, and_true] at e2
              obtain ⟨rfl, rfl, rfl, rfl, ⟨rfl, rfl, rfl⟩, ⟨rfl, rfl, rfl⟩, ⟨rfl, rfl⟩⟩ := e2
              obtain ⟨a9, cap9, ⟨o9, e9, -, -, ho9⟩, hat9⟩ := HGS2.out
              simp only [Value.slice.injEq] at e9
              obtain ⟨e91, -, rfl⟩ := e9
              have e92 := ho9 (by rw [HAL.out]; exact hpos)
              rw [← e91] at e92
              obtain rfl := Option.some.inj e92
              have hda : d < (L.map (valP gs)).length := by rw [HAL.out]; exact hdl
              obtain ⟨kc, bc, nc, sc, oc1, mc1, cc1, oc2, mc2, cc2, q0, q1, q2, q3, q4, q5, q6, q7, hgg⟩ := isGat_eight (isGat_below HB7.out (hat9 d hda))
              have hAd : (L.map (valP gs))[d] = valP gs L[d] := List.getElem_map _
              rw [hAd] at q0 q1 hgg
              have hfa : flatV (valP gs L[d]).v := HAF.out _ (List.mem_map.2 ⟨L[d], List.getElem_mem hdl, rfl⟩)
              have HEQ : Hid (∀ w1, KB w7 w1 → Calls Tryz.prog 10 #[.agg #[.int .i8 k3, .bool b3, .int .i64 n3, .string s3, .slice o3 m3 c3, .slice o4 m4 c4], .agg #[.int .i8 ka, .bool ba, .int .i64 na, .string sa, .slice oa1 ma1 ca1, .slice oa2 ma2 ca2]] w1 fun e w' => e = .returned (.bool true) ∧ Below w1.heap.size w1 w') := Lib.hid fun w1 hk => rEqF_any L[d].d (kind_flat hkd).1 (checkV_of hkd) _ _ w1 (HP.out.2 _ (List.getElem_mem hdl)).1 (isV_below hk hvc) (isV_below hk hvd)
              have HSW : Hid (∀ w1, KB w7 w1 → w1.ownsRow w6.heap.size 35 8 (.slice (some ad7) L.length c7) C.length xs7 ∧ isGL w1 C xs7 ∧ isG w1 (valP gs L[d]) (.agg #[.string (valP gs L[d]).nm, .bool (valP gs L[d]).unk, .int .i8 kc, .bool bc, .int .i64 nc, .string sc, .slice oc1 mc1 cc1, .slice oc2 mc2 cc2])) := Lib.hid fun w1 hk => ⟨by rw [hCl]; exact own_below ho7 hk, isGL_flat _ _ hCf hx7, isG_below hk hgg⟩
              have HCC := Lib.hid (And.intro hdc (And.intro hCf (And.intro hfa (And.intro hset hCl))))
              have H7S : Hid (w2.heap.size ≤ w6.heap.size ∧ w.heap.size ≤ w6.heap.size) := Lib.hid ⟨HB6.out.size, HK6.out.size⟩
              unfold maxLen at h72
              rw [hh] at p2
              have id1 : (d : Int) < (L.length : Int) := by omega
              have id2 : d < L.length := hdl
              have il : (L.length != L.length) = false := by simp
              clear hy7 hn7 hb7 hy1 hmap hkd hx7 hC hCl hCf ho7 hset hat8 e81 e82 ho8 h73 hCd hvc hvd hat9 e91 e92 ho9 hda hgg hAd hfa hh hdc
              generalize valP gs L[d] = gd at *
              go_wp2_with fail
              refine Rn.region_any (by kernel_rfl) ?_
              refine Rn.any_seg 0 20 (by kernel_rfl) rfl ?_
              simp only [List.take_succ_cons, List.take_zero, List.drop_zero]
              repeat (refine Rn.ws_one (fun KK hKK => ?_); go_simp; refine hKK _ ?_; clear hKK KK)
              refine Rn.ws_nil ?_
              intro K0 hK0
              go_simp
              refine .inl ((HEQ.out _ (drewB1 _ _)).mono ?_)
              rintro e w8 ⟨rfl, hb8⟩
              refine hK0 _ _ ?_
              clear hK0 K0
              refine Rn.any_end 21 (by kernel_rfl) ?_
              simp only [List.drop_succ_cons, List.drop_zero]
              repeat (refine Rn.ws_one (fun KK hKK => ?_); go_simp; refine hKK _ ?_; clear hKK KK)
              refine Rn.ws_nil ?_
              have hk8 := below_drew_of hb8
              replace q0 := cell_below hk8 _ _ q0
              replace q1 := cell_below hk8 _ _ q1
              replace q2 := cell_below hk8 _ _ q2
              replace q3 := cell_below hk8 _ _ q3
              replace q4 := cell_below hk8 _ _ q4
              replace q5 := cell_below hk8 _ _ q5
              replace q6 := cell_below hk8 _ _ q6
              replace q7 := cell_below hk8 _ _ q7
              obtain ⟨hdC, hfC, hfd, hsC, hlC⟩ := HCC.out
              obtain ⟨hoC, hxC, hgC⟩ := HSW.out _ hk8
              rw [← hlC] at hoC
              obtain ⟨g7, cc7, hv7, k1, k2, k3, w9, w10, w11, w12, w13, w14, w15, w16, s0, s1, s2, s3, s4, s5, s6, s7, hgr, hgsC⟩ := swap_own hdC hoC hxC hfC hfd hgC
              simp only [Value.slice.injEq, Option.some.injEq] at hv7
              obtain ⟨rfl, -, rfl⟩ := hv7
              rw [hsC, hlC] at hgsC
              have hB8 := HB7.out.trans (hk8.mono HB7.out.size)
              have hK8 := HK7.out.trans (hk8.mono HK7.out.size)
              have hB16 : Below w2.heap.size w2 w16 := hB8.grown hgr hB8.size (fun r e => by cases e; exact Nat.le_trans H7S.out.1 k3)
              have hK16 : Below w.heap.size w w16 := hK8.grown hgr hK8.size (fun r e => by cases e; exact Nat.le_trans H7S.out.2 k3)
              have HS8 : Hid (Calls Tryz.prog 9 #[.slice (some ad2) L.length c2, .slice (some ⟨g7, 0, none⟩) L.length c7] w16 fun e w' => e = .returned (.bool true) ∧ Below w16.heap.size w16 w') := Lib.hid (by
                have k := Same_any (L.map (valP gs)) (L.map (valP gs)) _ _ w16 (HE.out.kb hK16) HAG.out HAG.out (alike_self HAF.out) (isGs_below hB16 HGS2.out) hgsC
                rwa [eqGs_self] at k)
              have HK16 := Lib.hid hK16
              have ha7 := add0' g7 (d * 8)
              clear hK8 hB8 hB16 hK16 hgr hgsC hoC hxC hgC k1 k2 k3 hfC hfd hsC hlC hdC hk8 HSW HEQ
              obtain ⟨⟨_, s0a⟩, s0b, s0c⟩ := s0
              obtain ⟨⟨_, s1a⟩, s1b, s1c⟩ := s1
              obtain ⟨⟨_, s2a⟩, s2b, s2c⟩ := s2
              obtain ⟨⟨_, s3a⟩, s3b, s3c⟩ := s3
              obtain ⟨⟨_, s4a⟩, s4b, s4c⟩ := s4
              obtain ⟨⟨_, s5a⟩, s5b, s5c⟩ := s5
              obtain ⟨⟨_, s6a⟩, s6b, s6c⟩ := s6
              obtain ⟨⟨_, s7a⟩, s7b, s7c⟩ := s7
              go_wp2_with (first
                | (go_at_call 9; refine HS8.out.mono ?_; rintro e w17 ⟨rfl, hb17⟩; have HK17 := Lib.hid (HK16.out.trans (hb17.mono HK16.out.size)); clear hb17)
                | (go_at_call 6; refine (HWK.out _ HK17.out).mono ?_; rintro e w18 ⟨rfl, hb18⟩))
              go_ret
              exact ⟨rfl, HK17.out.trans (hb18.mono HK17.out.size)⟩
    · obtain rfl := hn hz
      have hz1 : ((bindF L gs).2 == 0) = false := beqI hz
      have hz2 : ((bindF L gs).2 != 0) = true := bne_iff_ne.2 hz
      clear hy hn hz
      generalize (bindF L gs).1 = s9 at *
      generalize (bindF L gs).2 = e9 at *
      go_wp2_with (go_at_call 6; refine (HWK.out _ HK2.out).mono ?_; rintro e w3 ⟨rfl, hb3⟩)
      go_ret
      exact ⟨rfl, HK2.out.trans (hb3.mono HK2.out.size)⟩
end Go.Proofs.YtlamkadllbgamaaGreatDoor
