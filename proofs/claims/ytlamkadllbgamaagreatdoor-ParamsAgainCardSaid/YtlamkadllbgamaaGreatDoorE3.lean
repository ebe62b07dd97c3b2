/-
  The program's Same of rows whose values hold no lists, one by one; is a value zero?
-/
import Derived.Test.YtlamkadllbgamaaGreatDoorE2
set_option linter.unusedVariables false
set_option linter.unusedSimpArgs false
namespace Go.Proofs.YtlamkadllbgamaaGreatDoor
open Go.RowKit

noncomputable def smE (x y : V) : Bool := sm x y || eqA x y
/-- A value that is none's is equal to itself alone. -/
theorem eqA_z {x : V} (h : eqA x zV = true) : x = zV := by
  unfold eqA cmpA at h
  by_cases hw : pwrongV x ≠ 0 ∨ pwrongV zV ≠ 0
  · rw [if_pos hw] at h; simp at h
  · rw [if_neg hw] at h
    have hw1 : pwrongV x = 0 := Classical.byContradiction fun e => hw (.inl e)
    have hw2 : pwrongV zV = 0 := Classical.byContradiction fun e => hw (.inr e)
    simp only [Bool.true_and, beq_iff_eq] at h
    have s1 := sort_p x
    have s2 := sort_p zV
    have hx := (pwrong_zero hw1).1
    obtain ⟨k, b, n, s, l, ks⟩ := x
    have k1 : ∃ l' ks', psortV (.mk k b n s l ks) = .mk k b n s l' ks' := by
      generalize psortV (.mk k b n s l ks) = y at s1
      cases s1 with
      | mk _ _ _ _ _ _ l' ks' ps ho hl hs hk => exact ⟨l', ks', rfl⟩
    have k2 : ∃ l' ks', psortV zV = .mk 0 false 0 ⟨#[]⟩ l' ks' := by
      unfold zV at s2 ⊢
      generalize psortV (.mk 0 false 0 ⟨#[]⟩ [] []) = y at s2
      cases s2 with
      | mk _ _ _ _ _ _ l' ks' ps ho hl hs hk => exact ⟨l', ks', rfl⟩
    obtain ⟨l1, ks1, e1⟩ := k1
    obtain ⟨l2, ks2, e2⟩ := k2
    rw [e1, e2, pcmpV_mk] at h
    have hk : k = 0 := by
      by_cases e : k = 0
      · exact e
      · rw [if_pos e] at h
        unfold cmpI at h
        split at h
        · cases h
        · split at h
          · cases h
          · omega
    subst hk
    have hp : plainP (.mk 0 b n s l ks) := by
      refine plain_eq (Classical.byContradiction fun e => ?_)
      have : wrongV (.mk 0 b n s l ks) = 2 := by
        have ho : ownW (.mk 0 b n s l ks) = 2 := by rw [ownW_mk, if_pos (by simpa using e)]
        rw [wrongV, ho, if_neg (by decide)]
      rw [this] at hx
      cases hx
    obtain ⟨_, h1, h2, h3, h4, _, h5⟩ := hp
    have eb : b = false := by
      cases b with
      | false => rfl
      | true => exact absurd (h1 rfl) (by decide)
    have en : n = 0 := Classical.byContradiction fun e => absurd (h2 e) (by decide)
    have es : s = ⟨#[]⟩ := Classical.byContradiction fun e => absurd (h3 e) (by decide)
    have el : l = [] := Classical.byContradiction fun e => by rcases h4 e with e | e <;> cases e
    have ek : ks = [] := List.eq_nil_of_length_eq_zero (h5 (by decide))
    rw [eb, en, es, el, ek]
    rfl
theorem smE_z (x : V) : smE x zV = sm x zV := by
  unfold smE
  cases h : sm x zV with
  | true => rfl
  | false =>
    cases h' : eqA x zV with
    | false => rfl
    | true => rw [sm_yes (eqA_z h')] at h; cases h
theorem smE_self (x : V) : smE x x = true := by unfold smE; rw [sm_yes rfl]; rfl

set_option maxRecDepth 100000 in
set_option maxHeartbeats 4000000 in
theorem sameG_any (nm : ByteArray) (unk : Bool) (x y : V) (hy : y.list = []) (v u : Value) (w : World) (hE : Env w) (hM : sizeV x ≤ 1000000) (hF : fineV x) (hM' : sizeV y ≤ 1000000) (hF' : fineV y) (h : isG w ⟨nm, unk, x⟩ v) (h' : isG w ⟨nm, unk, y⟩ u) :
    Calls Tryz.prog 52 #[v, u] w fun e w' => e = .returned (.bool (smE x y)) ∧ Below w.heap.size w w' := by
  obtain ⟨k, b, n, s, o, m, c, o2, m2, c2, rfl, hv⟩ := isG_eight h
  obtain ⟨k3, b3, n3, s3, o3, m3, c3, o4, m4, c4, rfl, hu⟩ := isG_eight h'
  have HB0 : Hid (KB w ((w.alloc (.cells #[.string nm, .bool unk, .int .i8 k, .bool b, .int .i64 n, .string s, .slice o m c, .slice o2 m2 c2] 35)).alloc (.cells #[.string nm, .bool unk, .int .i8 k3, .bool b3, .int .i64 n3, .string s3, .slice o3 m3 c3, .slice o4 m4 c4] 35))) := Lib.hid (by unfold KB; go_grown)
  have HA : Hid (∀ w1, KB w w1 → Calls Tryz.prog 71 #[.agg #[.int .i8 k, .bool b, .int .i64 n, .string s, .slice o m c, .slice o2 m2 c2], .agg #[.int .i8 k3, .bool b3, .int .i64 n3, .string s3, .slice o3 m3 c3, .slice o4 m4 c4]] w1 fun e w' => e = .returned (.bool (sm x y)) ∧ Below w1.heap.size w1 w') := Lib.hid fun w1 hK => alikeL_any x y hy _ _ w1 (Nat.le_trans (hF x (self_in x)) (by omega)) (isV_below hK hv) (isV_below hK hu)
  have HQ : Hid (∀ w1, KB w w1 → Calls Tryz.prog 70 #[.agg #[.int .i8 k, .bool b, .int .i64 n, .string s, .slice o m c, .slice o2 m2 c2], .agg #[.int .i8 k3, .bool b3, .int .i64 n3, .string s3, .slice o3 m3 c3, .slice o4 m4 c4]] w1 fun e w' => e = .returned (.bool (eqA x y)) ∧ Below w1.heap.size w1 w') := Lib.hid fun w1 hk => peq_any x y _ _ w1 (hE.kb hk) hM hF hM' hF' (isV_below hk hv) (isV_below hk hu)
  have hn1 := (Below.heap_alloc (w.alloc (.cells #[.string nm, .bool unk, .int .i8 k, .bool b, .int .i64 n, .string s, .slice o m c, .slice o2 m2 c2] 35)) (.cells #[.string nm, .bool unk, .int .i8 k3, .bool b3, .int .i64 n3, .string s3, .slice o3 m3 c3, .slice o4 m4 c4] 35) w.heap.size (by simp)).trans (World.alloc_heap_new w _)
  have hn2 := World.alloc_heap_new (w.alloc (.cells #[.string nm, .bool unk, .int .i8 k, .bool b, .int .i64 n, .string s, .slice o m c, .slice o2 m2 c2] 35)) (.cells #[.string nm, .bool unk, .int .i8 k3, .bool b3, .int .i64 n3, .string s3, .slice o3 m3 c3, .slice o4 m4 c4] 35)
  rw [World.size_alloc] at hn2
  have hz : (nm.toList == nm.toList) = true := beq_self_eq_true _
  have hsz : ((w.alloc (.cells #[.string nm, .bool unk, .int .i8 k, .bool b, .int .i64 n, .string s, .slice o m c, .slice o2 m2 c2] 35)).alloc (.cells #[.string nm, .bool unk, .int .i8 k3, .bool b3, .int .i64 n3, .string s3, .slice o3 m3 c3, .slice o4 m4 c4] 35)).heap.size = w.heap.size + 1 + 1 := by simp
  unfold smE
  generalize sm x y = R at *
  generalize eqA x y = Q at *
  clear h h' hv hu hE hM hF hM' hF'
  dsimp only at *
  go_enter Tryz.func52, Tryz.ntmps52
  go_wp2_with fail
  generalize hW2 : ((w.alloc (.cells #[.string nm, .bool unk, .int .i8 k, .bool b, .int .i64 n, .string s, .slice o m c, .slice o2 m2 c2] 35)).alloc (.cells #[.string nm, .bool unk, .int .i8 k3, .bool b3, .int .i64 n3, .string s3, .slice o3 m3 c3, .slice o4 m4 c4] 35)) = W2 at *
  clear hW2
  have HN1 := Lib.hid hn1
  have HN2 := Lib.hid hn2
  have HSZ := Lib.hid hsz
  obtain ⟨a0, a1, a2, a3, a4, a5, a6, a7⟩ := eight_cells hn1
  obtain ⟨d0, d1, d2, d3, d4, d5, d6, d7⟩ := eight_cells hn2
  clear hn1 hn2 hsz
  go_wp2_with fail
  refine (HA.out _ HB0.out).mono ?_
  rintro e w5 ⟨rfl, hb5⟩
  have hk1 := HB0.out.trans (hb5.mono HB0.out.size)
  cases R with
  | true =>
    have HX := Lib.hid hk1
    clear hb5 hk1
    go_wp2_with fail
    go_ret
    exact ⟨rfl, HX.out⟩
  | false =>
    have HX := Lib.hid hk1
    obtain ⟨a0, a1, a2, a3, a4, a5, a6, a7⟩ := eight_cells ((hb5.block w.heap.size (by have := HSZ.out; omega)).trans HN1.out)
    obtain ⟨d0, d1, d2, d3, d4, d5, d6, d7⟩ := eight_cells ((hb5.block (w.heap.size + 1) (by have := HSZ.out; omega)).trans HN2.out)
    clear hb5 hk1
    go_wp2_with fail
    refine (HQ.out _ HX.out).mono ?_
    rintro e w6 ⟨rfl, hb6⟩
    have HX6 := Lib.hid (HX.out.trans (hb6.mono HX.out.size))
    clear hb6
    go_wp2_with fail
    go_ret
    exact ⟨rfl, HX6.out⟩

noncomputable def eqGs (L M : List G) : Bool := (List.range L.length).all fun i => smE (L.getD i zG).v (M.getD i zG).v
theorem eqGs_no {L M : List G} {i : Nat} (hi : i < L.length) (h : smE (L.getD i zG).v (M.getD i zG).v = false) : eqGs L M = false := by
  unfold eqGs
  rw [Bool.eq_false_iff]
  intro e
  have := List.all_eq_true.1 e i (List.mem_range.2 hi)
  rw [h] at this; cases this
theorem eqGs_yes {L M : List G} (h : ∀ i, i < L.length → smE (L.getD i zG).v (M.getD i zG).v = true) : eqGs L M = true := by
  unfold eqGs
  rw [List.all_eq_true]
  exact fun i hi => h i (List.mem_range.1 hi)
theorem eqGs_self (L : List G) : eqGs L L = true := eqGs_yes fun i _ => smE_self _
/-- The same names, both known or not, the second's values without lists. -/
def alikeG (L M : List G) : Prop := L.length = M.length ∧ ∀ i (h : i < L.length) (h' : i < M.length), L[i].nm = M[i].nm ∧ L[i].unk = M[i].unk ∧ M[i].v.list = []

set_option maxRecDepth 100000 in
set_option maxHeartbeats 8000000 in
theorem eqG_any (L M : List G) (v u : Value) (w : World) (hE : Env w) (hP : fineG L) (hP' : fineG M) (hA : alikeG L M) (h : isGs w L v) (h' : isGs w M u) :
    Calls Tryz.prog 51 #[v, u, .func (.func 52) #[] #[]] w fun e w' => e = .returned (.bool (eqGs L M)) ∧ Below w.heap.size w w' := by
  obtain ⟨a, cap, ⟨o, rfl, hc1, hc2, ho⟩, hgs⟩ := h
  obtain ⟨a', cap', ⟨o', rfl, hc1', hc2', ho'⟩, hgs'⟩ := h'
  unfold maxLen at hc2 hc2'
  obtain ⟨q, hq⟩ : ∃ q, L.length = q := ⟨_, rfl⟩
  have hl : M.length = q := hA.1.symm.trans hq
  have HQ := Lib.hid hq.symm
  have HL := Lib.hid hl
  have hq9 : q ≤ 1000000 := by rw [← hq]; exact hP.1
  have HK := Lib.hid hgs
  have HK' := Lib.hid hgs'
  have HP := Lib.hid hP
  have HP' := Lib.hid hP'
  have HA := Lib.hid hA
  have HE := Lib.hid hE
  obtain ⟨r, hr⟩ : ∃ r, eqGs L M = r := ⟨_, rfl⟩
  rw [hr, hq, hl]
  rw [hq] at hc1 ho
  rw [hl] at hc1' ho'
  have HR := Lib.hid hr
  have ef : ∀ args w, (callFunc 52 args).run Tryz.prog w = .ok (.enter 52 args) w := enters_of Tryz.func52 (by kernel_rfl) rfl
  clear hgs hgs' hP hP' hA hE hr hl hq
  go_enter Tryz.func51, Tryz.ntmps51
  go_wp2_with fail
  go_loopw [7, 8, 9, 17] (fun y7 y8 y9 i wr => ∃ (j : Nat), j ≤ q ∧ i = .int .i64 j ∧ Hid (Below w.heap.size w wr) ∧ Hid (∀ i, i < j → smE (L.getD i zG).v (M.getD i zG).v = true)) (fun _ _ _ i _ => q - (intOf i).toNat)
  case atStart => exact ⟨0, by omega, rfl, Lib.hid (Below.refl _ _), Lib.hid (fun i h => absurd h (by omega))⟩
  case round =>
    obtain ⟨j, hj, rfl, hB, hN⟩ := hrel
    by_cases hlt : j < q
    · have hlt1 : j < L.length := by rw [← HQ.out]; exact hlt
      have hlt2 : j < M.length := by rw [HL.out]; exact hlt
      obtain rfl := ho (by omega)
      obtain rfl := ho' (by omega)
      obtain ⟨k, b, n, s, o, m, c, o2, m2, c2, q0, q1, q2, q3, q4, q5, q6, q7, hg⟩ := isGat_eight (isGat_below hB.out (HK.out j hlt1))
      obtain ⟨k3, b3, n3, s3, o3, m3, c3, o4, m4, c4, p0, p1, p2, p3, p4, p5, p6, p7, hg'⟩ := isGat_eight (isGat_below hB.out (HK'.out j hlt2))
      have hfx := HP.out.2 _ (List.getElem_mem hlt1)
      have hfy := HP'.out.2 _ (List.getElem_mem hlt2)
      obtain ⟨an, au, al⟩ := HA.out.2 j hlt1 hlt2
      obtain ⟨R, hR⟩ : ∃ R, smE L[j].v M[j].v = R := ⟨_, rfl⟩
      have hRd : smE (L.getD j zG).v (M.getD j zG).v = R := by rw [getD_lt _ _ _ hlt1, getD_lt _ _ _ hlt2]; exact hR
      have HRd := Lib.hid hRd
      have HN2 : Hid (∀ w1, KB wr w1 → Calls Tryz.prog 52 #[.agg #[.string L[j].nm, .bool L[j].unk, .int .i8 k, .bool b, .int .i64 n, .string s, .slice o m c, .slice o2 m2 c2], .agg #[.string M[j].nm, .bool M[j].unk, .int .i8 k3, .bool b3, .int .i64 n3, .string s3, .slice o3 m3 c3, .slice o4 m4 c4]] w1 fun e w' => e = .returned (.bool R) ∧ Below w1.heap.size w1 w') := Lib.hid fun w1 hK => by
        have k1 := isG_below hK hg
        have k2 := isG_below hK hg'
        have e1 : L[j] = ⟨L[j].nm, L[j].unk, L[j].v⟩ := rfl
        have e2 : M[j] = ⟨L[j].nm, L[j].unk, M[j].v⟩ := by rw [an, au]
        rw [e2] at k2
        rw [← hR, ← an, ← au] at *
        exact sameG_any L[j].nm L[j].unk L[j].v M[j].v al _ _ w1 (HE.out.kb (hB.out.trans (hK.mono hB.out.size))) hfx.1 hfx.2 hfy.1 hfy.2 k1 k2
      have A1 : KB wr (wr.alloc (.cells #[.string L[j].nm, .bool L[j].unk, .int .i8 k, .bool b, .int .i64 n, .string s, .slice o m c, .slice o2 m2 c2] 35)) := kbA
      have A2 : KB wr ((wr.alloc (.cells #[.string L[j].nm, .bool L[j].unk, .int .i8 k, .bool b, .int .i64 n, .string s, .slice o m c, .slice o2 m2 c2] 35)).alloc (.cells #[.string M[j].nm, .bool M[j].unk, .int .i8 k3, .bool b3, .int .i64 n3, .string s3, .slice o3 m3 c3, .slice o4 m4 c4] 35)) := by unfold KB; go_grown
      have p0 := cell_below A1 _ _ p0
      have p1 := cell_below A1 _ _ p1
      have p2 := cell_below A1 _ _ p2
      have p3 := cell_below A1 _ _ p3
      have p4 := cell_below A1 _ _ p4
      have p5 := cell_below A1 _ _ p5
      have p6 := cell_below A1 _ _ p6
      have p7 := cell_below A1 _ _ p7
      have hn1 := (Below.heap_alloc (wr.alloc (.cells #[.string L[j].nm, .bool L[j].unk, .int .i8 k, .bool b, .int .i64 n, .string s, .slice o m c, .slice o2 m2 c2] 35)) (.cells #[.string M[j].nm, .bool M[j].unk, .int .i8 k3, .bool b3, .int .i64 n3, .string s3, .slice o3 m3 c3, .slice o4 m4 c4] 35) wr.heap.size (by simp)).trans (World.alloc_heap_new wr _)
      obtain ⟨z0, z1, z2, z3, z4, z5, z6, z7⟩ := eight_cells hn1
      have HA2 := Lib.hid A2
      have HNN : R = true → Hid (∀ i, i < j + 1 → smE (L.getD i zG).v (M.getD i zG).v = true) := fun e => Lib.hid fun i hi => by
        by_cases e2 : i = j
        · subst e2; rw [hRd, e]
        · exact hN.out i (by omega)
      clear hfx hfy hg hg' A1 A2 hn1 an au al hR hRd hN
      generalize L[j] = g at *
      generalize M[j] = g' at *
      cases R with
      | true =>
        have HN := HNN rfl
        clear HNN
        go_wp2_with (go_at_fn 52; refine (HN2.out _ HA2.out).mono ?_; rintro e w5 ⟨rfl, hb5⟩; have HX := Lib.hid (hB.out.trans ((HA2.out.trans (hb5.mono HA2.out.size)).mono hB.out.size)))
        go_roundw
        case rel => exact ⟨j + 1, by omega, by go_num, HX, HN⟩
        case measure => simp [intOf]; omega
      | false =>
        have HRES : Hid (r = false) := Lib.hid (by rw [← HR.out]; exact eqGs_no hlt1 HRd.out)
        clear HNN
        go_wp2_with (go_at_fn 52; refine (HN2.out _ HA2.out).mono ?_; rintro e w5 ⟨rfl, hb5⟩; have HX := Lib.hid (hB.out.trans ((HA2.out.trans (hb5.mono HA2.out.size)).mono hB.out.size)))
        go_ret
        exact ⟨by rw [HRES.out]; rfl, HX.out⟩
    · obtain rfl : j = q := by omega
      have HRES : Hid (r = true) := Lib.hid (by rw [← HR.out]; exact eqGs_yes (fun i hi => hN.out i (by rw [HQ.out]; exact hi)))
      go_wp2_with fail
      go_ret
      exact ⟨by rw [HRES.out]; rfl, hB.out⟩
set_option maxHeartbeats 1000000 in
theorem Same_any (L M : List G) (v u : Value) (w : World) (hE : Env w) (hP : fineG L) (hP' : fineG M) (hA : alikeG L M) (h : isGs w L v) (h' : isGs w M u) :
    Calls Tryz.prog 9 #[v, u] w fun e w' => e = .returned (.bool (eqGs L M)) ∧ Below w.heap.size w w' := by
  have HC := Lib.hid (eqG_any L M v u w hE hP hP' hA h h')
  generalize eqGs L M = r at *
  obtain ⟨a, cap, ⟨o, rfl, -⟩, -⟩ := h
  obtain ⟨a', cap', ⟨o', rfl, -⟩, -⟩ := h'
  clear hP hP' hA hE
  have HS : Hid (Calls Tryz.prog 22 #[.slice o L.length cap, .slice o' M.length cap'] w fun e w' => e = .returned (.bool r) ∧ Below w.heap.size w w') := Lib.hid (by
    go_enter Tryz.func22, Tryz.ntmps22
    go_wp2_with fail
    refine HC.out.mono ?_
    rintro e w5 ⟨rfl, hb5⟩
    have HX := Lib.hid hb5
    clear hb5
    go_wp2_with fail
    go_ret
    exact ⟨rfl, HX.out⟩)
  go_enter Tryz.func9, Tryz.ntmps9
  go_wp2_with fail
  refine HS.out.mono ?_
  rintro e w5 ⟨rfl, hb5⟩
  have HX := Lib.hid hb5
  clear hb5
  go_wp2_with fail
  go_ret
  exact ⟨rfl, HX.out⟩

theorem isGs_box {W : World} {blk : Nat} {nm : ByteArray} {unk : Bool} {x : V} {c0 c1 c2 c3 c4 c5 : Value} {t : TypeId} (hn : nm.size ≤ maxLen) (h : W.heap[blk]? = some (.cells #[.string nm, .bool unk, c0, c1, c2, c3, c4, c5] t (0, 0))) (hx : isV W x (.agg #[c0, c1, c2, c3, c4, c5])) :
    isGs W [⟨nm, unk, x⟩] (.slice (some ⟨blk, 0, none⟩) 1 1) := by
  obtain ⟨g0, g1, g2, g3, g4, g5, g6, g7⟩ := eight_cells h
  refine ⟨⟨blk, 0, none⟩, 1, ⟨_, rfl, Nat.le_refl _, by unfold maxLen; omega, fun _ => rfl⟩, fun i hi => ?_⟩
  obtain rfl : i = 0 := by simp at hi; omega
  rw [Nat.zero_mul, show (⟨blk, 0, none⟩ : Addr).add 0 = ⟨blk, 0, none⟩ from rfl]
  exact ⟨_, _, _, _, _, _, g0, g1, g2, g3, g4, g5, g6, g7, hx, hn⟩
theorem fine_z : sizeV zV ≤ 1000000 ∧ fineV zV := ⟨by unfold zV; decide, fun y hy => by
  unfold zV at hy
  rw [walkV, walkVs] at hy
  rw [List.mem_singleton.1 hy]
  exact Nat.zero_le _⟩
set_option maxRecDepth 100000 in
set_option maxHeartbeats 4000000 in
theorem zero_any (x : V) (v : Value) (w : World) (hE : Env w) (hM : sizeV x ≤ 1000000) (hF : fineV x) (h : isV w x v) :
    Calls Tryz.prog 19 #[v] w fun e w' => e = .returned (.bool (sm x zV)) ∧ Below w.heap.size w w' := by
  obtain ⟨k, b, n, s, o, m, c, o2, m2, c2, rfl⟩ := isV_six h
  have HB0 : Hid (KB w (((w.alloc (.cells #[.int .i8 k, .bool b, .int .i64 n, .string s, .slice o m c, .slice o2 m2 c2] 33)).alloc (.cells #[.string ⟨#[]⟩, .bool false, .int .i8 k, .bool b, .int .i64 n, .string s, .slice o m c, .slice o2 m2 c2] 35)).alloc (.cells #[.string ⟨#[]⟩, .bool false, .int .i8 0, .bool false, .int .i64 0, .string ⟨#[]⟩, .slice none 0 0, .slice none 0 0] 35))) := Lib.hid (by unfold KB; go_grown)
  have hn2 := World.alloc_heap_new ((w.alloc (.cells #[.int .i8 k, .bool b, .int .i64 n, .string s, .slice o m c, .slice o2 m2 c2] 33)).alloc (.cells #[.string ⟨#[]⟩, .bool false, .int .i8 k, .bool b, .int .i64 n, .string s, .slice o m c, .slice o2 m2 c2] 35)) (.cells #[.string ⟨#[]⟩, .bool false, .int .i8 0, .bool false, .int .i64 0, .string ⟨#[]⟩, .slice none 0 0, .slice none 0 0] 35)
  have hn1 := (Below.heap_alloc ((w.alloc (.cells #[.int .i8 k, .bool b, .int .i64 n, .string s, .slice o m c, .slice o2 m2 c2] 33)).alloc (.cells #[.string ⟨#[]⟩, .bool false, .int .i8 k, .bool b, .int .i64 n, .string s, .slice o m c, .slice o2 m2 c2] 35)) (.cells #[.string ⟨#[]⟩, .bool false, .int .i8 0, .bool false, .int .i64 0, .string ⟨#[]⟩, .slice none 0 0, .slice none 0 0] 35) (w.alloc (.cells #[.int .i8 k, .bool b, .int .i64 n, .string s, .slice o m c, .slice o2 m2 c2] 33)).heap.size (by simp)).trans (World.alloc_heap_new (w.alloc (.cells #[.int .i8 k, .bool b, .int .i64 n, .string s, .slice o m c, .slice o2 m2 c2] 33)) (.cells #[.string ⟨#[]⟩, .bool false, .int .i8 k, .bool b, .int .i64 n, .string s, .slice o m c, .slice o2 m2 c2] 35))
  simp only [World.size_alloc] at hn1 hn2
  have h0 : (⟨#[]⟩ : ByteArray).size ≤ maxLen := by unfold maxLen; simp [ByteArray.size]
  have HS := Lib.hid (Same_any [⟨⟨#[]⟩, false, x⟩] [⟨⟨#[]⟩, false, zV⟩] _ _ (((w.alloc (.cells #[.int .i8 k, .bool b, .int .i64 n, .string s, .slice o m c, .slice o2 m2 c2] 33)).alloc (.cells #[.string ⟨#[]⟩, .bool false, .int .i8 k, .bool b, .int .i64 n, .string s, .slice o m c, .slice o2 m2 c2] 35)).alloc (.cells #[.string ⟨#[]⟩, .bool false, .int .i8 0, .bool false, .int .i64 0, .string ⟨#[]⟩, .slice none 0 0, .slice none 0 0] 35)) (hE.kb HB0.out) ⟨by simp, fun g hg => by rw [List.mem_singleton.1 hg]; exact ⟨hM, hF⟩⟩ ⟨by simp, fun g hg => by rw [List.mem_singleton.1 hg]; exact fine_z⟩ ⟨rfl, fun i hi hi' => by
    obtain rfl : i = 0 := by simp at hi; omega
    exact ⟨rfl, rfl, rfl⟩⟩ (isGs_box h0 hn1 (isV_below HB0.out h)) (isGs_box h0 hn2 (isV_zero _)))
  have hr : eqGs [⟨⟨#[]⟩, false, x⟩] [⟨⟨#[]⟩, false, zV⟩] = sm x zV := by
    rw [← smE_z]
    unfold eqGs
    simp
  rw [hr] at HS
  generalize sm x zV = r at *
  clear h hE hM hF hn1 hn2 hr h0
  go_enter Tryz.func19, Tryz.ntmps19
  go_wp2_with fail
  refine HS.out.mono ?_
  rintro e w5 ⟨rfl, hb5⟩
  have HX := Lib.hid (HB0.out.trans (hb5.mono HB0.out.size))
  clear hb5
  go_wp2_with fail
  go_ret
  exact ⟨rfl, HX.out⟩
end Go.Proofs.YtlamkadllbgamaaGreatDoor
