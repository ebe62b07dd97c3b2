/-
  The reference's Check of a type's properties. · Which stores may be: the reference's Check; what a store has. · A store that the reference builds, step by step; what a store has. · The reference's Create.
-/
import Derived.Test.YtdckldfekepopaaGreatDoorU0
import Derived.Test.YtdckldfekepopaaGreatDoorZY
import Derived.StillTailTactics
set_option linter.unusedVariables false
set_option linter.unusedSimpArgs false
namespace Go.Proofs.YtdckldfekepopaaGreatDoor
open Go.RowKit

theorem run_leq_str (s t : ByteArray) (W : World) : (binOp BinOp.leq 9 (.string s) (.string t)).run Tryz.prog W = .ok (.bool (Op.bytesLess s.toList t.toList || (s.toList == t.toList))) W := by kernel_rfl
theorem leq_bl (s t : ByteArray) : (Op.bytesLess s.toList t.toList || (s.toList == t.toList)) = !bl t s := by
  by_cases h : s = t
  · subst h
    have h1 : bl s s = false := by
      cases e : bl s s with
      | false => rfl
      | true => exact absurd rfl (bl_ne e)
    rw [h1, show (s.toList == s.toList) = true from beq_self_eq_true _, Bool.or_true]; rfl
  · rw [beq_toList h, Bool.or_false, bl_not h, Bool.not_not]; rfl
set_option maxRecDepth 100000 in
set_option maxHeartbeats 16000000 in
theorem rCheck_any (K : ByteArray) (L : List G) (v : Value) (w : World) (hl : L.length ≤ 1000000) (hP : ∀ g ∈ L, sizeV g.v ≤ 1000000) (h : isGs w L v) :
    Calls Tryz.prog 28 #[.string K, v] w fun e w' => e = .returned (.int .i64 (checkL K L)) ∧ Below w.heap.size w w' := by
  obtain ⟨a, cap, ⟨o, rfl, hc1, hc2, ho⟩, hgs⟩ := h
  unfold maxLen at hc2
  have HS := rspecs_any K w
  have HG := Lib.hid hgs
  have HP := Lib.hid hP
  unfold checkL
  clear hgs hP
  cases hkn : known K with
  | false =>
    rw [hkn] at HS
    rw [if_neg Bool.false_ne_true] at HS ⊢
    have HS := Lib.hid HS
    clear hkn
    go_enter Tryz.func28, Tryz.ntmps28
    go_wp2_with fail
    refine HS.out.mono ?_
    rintro e w5 ⟨⟨v5, rfl, -⟩, hb5⟩
    go_wp2_with fail
    go_ret
    exact ⟨rfl, hb5⟩
  | true =>
    rw [hkn] at HS
    rw [if_pos rfl] at HS ⊢
    have HS := Lib.hid HS
    obtain ⟨r, hr⟩ : ∃ r : Int, (if okRow K L = true then (0 : Int) else 91) = r := ⟨_, rfl⟩
    rw [hr]
    have HR := Lib.hid hr
    clear hr hkn
    go_enter Tryz.func28, Tryz.ntmps28
    go_wp2_with fail
    refine HS.out.mono ?_
    rintro e w5 ⟨⟨v5, rfl, -⟩, hb5⟩
    have HB5 := Lib.hid hb5
    clear hb5 HS
    go_wp2_with fail
    go_loopw [7] (fun i wr => ∃ (j : Nat), j ≤ L.length ∧ i = .int .i64 j ∧ Hid (∀ i, i < j → stepB K L i = true) ∧ Hid (Below w.heap.size w wr)) (fun i _ => L.length - (intOf i).toNat)
    case atStart => exact ⟨0, by omega, rfl, Lib.hid (fun i hi => absurd hi (by omega)), HB5⟩
    case round =>
      obtain ⟨j, hj, rfl, hA, hB⟩ := hrel
      by_cases hlt : j < L.length
      · obtain rfl := ho (by omega)
        obtain ⟨k, b1, n, s, o1, m, c, o2, m2, c2, q0, q1, q2, q3, q4, q5, q6, q7, hg⟩ := isGat_eight (isGat_below hB.out (HG.out j hlt))
        have hM := HP.out L[j] (List.getElem_mem hlt)
        have hgv : isV wr L[j].v (.agg #[.int .i8 k, .bool b1, .int .i64 n, .string s, .slice o1 m c, .slice o2 m2 c2]) := by
          obtain ⟨_, _, _, _, _, _, e, hv, _⟩ := hg
          simp only [Value.agg.injEq, Array.mk.injEq, List.cons.injEq, and_true] at e
          obtain ⟨-, -, rfl, rfl, rfl, rfl, rfl, rfl⟩ := e
          exact hv
        have HF := rfind_any K L[j].nm wr
        cases hsp : spec K L[j].nm with
        | none =>
          rw [hsp] at HF
          simp only [spV, Option.isSome_none] at HF
          have HF := Lib.hid HF
          have HR2 : Hid (r = 91) := Lib.hid (by rw [← HR.out, okRow_no hlt (by unfold stepB; rw [getD_g hlt, hsp])]; rfl)
          clear hg hgv hM hsp HR HP HG hA
          generalize L[j] = g at *
          go_wp2_with fail
          refine HF.out.mono ?_
          rintro e w6 ⟨rfl, hb6⟩
          have HB6 := Lib.hid (hB.out.trans (hb6.mono hB.out.size))
          clear hb6
          go_wp2_with fail
          go_quiet (fail)
          go_wp2_with fail
          go_ret
          exact ⟨by rw [HR2.out]; rfl, HB6.out.trans ((kbA.trans (Below.mono (drewB _ _ _) (Nat.le_refl _))).mono HB6.out.size)⟩
        | some x =>
          obtain ⟨_, hxn, hxq, _⟩ := spec_facts hsp
          rw [hsp] at HF
          simp only [spV, Option.isSome_some] at HF
          have HF := Lib.hid HF
          have hstep : stepB K L j = ((decide (j = 0) || bl (L.getD (j - 1) ⟨⟨#[]⟩, false, zV⟩).nm L[j].nm) && mayB L[j] x.q) := by unfold stepB; rw [getD_g hlt, hsp]
          obtain ⟨xK, xn, xq, xr⟩ := x
          dsimp only at hxn hxq HF hstep
          clear hg hxn hsp HP
          have hprev : j ≠ 0 → ∃ p, p = j - 1 ∧ p < L.length ∧ wr.cell? (a.add (p * 8)) = some (.string (L.getD (j - 1) ⟨⟨#[]⟩, false, zV⟩).nm) := fun h0 => by
            have hq := isGat_below hB.out (HG.out (j - 1) (by omega))
            obtain ⟨_, _, _, _, _, _, hq0, _⟩ := hq
            rw [getD_g (show j - 1 < L.length by omega)]
            exact ⟨j - 1, rfl, by omega, hq0⟩
          generalize (L.getD (j - 1) ⟨⟨#[]⟩, false, zV⟩).nm = pn at *
          generalize L[j] = g at *
          obtain ⟨gn, gu, gv⟩ := g
          dsimp only at q0 q1 hgv hM HF hstep
          go_wp2_with fail
          refine HF.out.mono ?_
          rintro e w6 ⟨rfl, hb6⟩
          have HBW : Hid (Below w.heap.size w w6) := Lib.hid (hB.out.trans (hb6.mono hB.out.size))
          have A7 : KB w6 (w6.alloc (.cells #[.string xn, .int .i8 xq, .bool xr] 93)) := kbA
          have f1 : (w6.alloc (.cells #[.string xn, .int .i8 xq, .bool xr] 93)).cell? ⟨w6.heap.size, 1, none⟩ = some (.int .i8 xq) := by simp
          have hgv := isV_below hb6 hgv
          have q0 := cell_below A7 _ _ (cell_below hb6 _ _ q0)
          have q1 := cell_below A7 _ _ (cell_below hb6 _ _ q1)
          have q2 := cell_below A7 _ _ (cell_below hb6 _ _ q2)
          have q3 := cell_below A7 _ _ (cell_below hb6 _ _ q3)
          have q4 := cell_below A7 _ _ (cell_below hb6 _ _ q4)
          have q5 := cell_below A7 _ _ (cell_below hb6 _ _ q5)
          have q6 := cell_below A7 _ _ (cell_below hb6 _ _ q6)
          have q7 := cell_below A7 _ _ (cell_below hb6 _ _ q7)
          have hprev := fun h0 => (hprev h0).imp fun p h => And.intro h.1 (And.intro h.2.1 (cell_below A7 _ _ (cell_below hb6 _ _ h.2.2)))
          have HB7 := Lib.hid A7
          clear hb6 A7 hB HG HF
          go_wp2_with fail
          generalize hW7 : (w6.alloc (.cells #[.string xn, .int .i8 xq, .bool xr] 93)) = W7 at *
          clear hW7
          by_cases hj00 : j = 0
          · rw [decide_eq_true hj00, Bool.true_or, Bool.true_and] at hstep
            have dj : decide ((0 : Int) < (j : Int)) = false := decide_eq_false (by omega)
            have dj2 : decide (0 < j) = false := decide_eq_false (by omega)
            clear hprev hj00
            go_quiet (fail)
            rename_i nq
            have q0 : (W7.drewN nq).cell? _ = _ := q0
            have q1 : (W7.drewN nq).cell? _ = _ := q1
            have q2 : (W7.drewN nq).cell? _ = _ := q2
            have q3 : (W7.drewN nq).cell? _ = _ := q3
            have q4 : (W7.drewN nq).cell? _ = _ := q4
            have q5 : (W7.drewN nq).cell? _ = _ := q5
            have q6 : (W7.drewN nq).cell? _ = _ := q6
            have q7 : (W7.drewN nq).cell? _ = _ := q7
            have f1 : (W7.drewN nq).cell? _ = _ := f1
            have HB8 : Hid (Below w6.heap.size w6 (W7.drewN nq)) := Lib.hid (HB7.out.trans (Below.mono (drewB _ _ _) HB7.out.size))
            clear HB7
            generalize W7.drewN nq = W8 at *
            cases hu : gu with
            | true =>
              subst hu
              have hmay : mayB ⟨gn, true, gv⟩ xq = ((!decide (xq = 2)) && sm gv zV) := rfl
              rw [hmay] at hstep
              have HSM := same_any 1000000 gv zV _ _ W8 hM (isV_below HB8.out hgv) (isV_zero _)
              rcases hxq with rfl | rfl | rfl
              · rw [decide_eq_true rfl, Bool.not_true, Bool.false_and] at hstep
                have HR2 : Hid (r = 91) := Lib.hid (by rw [← HR.out, okRow_no hlt hstep]; rfl)
                clear hstep HR HSM hmay
                go_wp2_with fail
                go_ret
                exact ⟨by rw [HR2.out]; rfl, HBW.out.trans (Below.mono HB8.out HBW.out.size)⟩
              · rw [decide_eq_false (by decide), Bool.not_false, Bool.true_and] at hstep
                cases hsm : sm gv zV with
                | false =>
                  rw [hsm] at hstep HSM
                  have HR2 : Hid (r = 91) := Lib.hid (by rw [← HR.out, okRow_no hlt hstep]; rfl)
                  have HSM := Lib.hid HSM
                  clear hstep HR hmay hsm
                  go_wp2_with fail
                  refine HSM.out.mono ?_
                  rintro e w9 ⟨rfl, hb9⟩
                  have HB8 := Lib.hid (HB8.out.trans (Below.mono hb9 HB8.out.size))
                  clear hb9
                  go_wp2_with fail
                  go_ret
                  exact ⟨by rw [HR2.out]; rfl, HBW.out.trans (Below.mono HB8.out HBW.out.size)⟩
                | true =>
                  rw [hsm] at hstep HSM
                  have HA2 : Hid (∀ i, i < j + 1 → stepB K L i = true) := Lib.hid fun i hi => by
                    by_cases e : i = j
                    · rw [e]; exact hstep
                    · exact hA.out i (by omega)
                  have HSM := Lib.hid HSM
                  clear hstep HR hmay hsm hA
                  go_wp2_with fail
                  refine HSM.out.mono ?_
                  rintro e w9 ⟨rfl, hb9⟩
                  have HB8 := Lib.hid (HB8.out.trans (Below.mono hb9 HB8.out.size))
                  clear hb9
                  go_wp2_with fail
                  go_roundw
                  case rel => exact ⟨j + 1, by omega, by go_num, HA2, Lib.hid (HBW.out.trans (Below.mono HB8.out HBW.out.size))⟩
                  case measure => simp [intOf]; omega
              · rw [decide_eq_false (by decide), Bool.not_false, Bool.true_and] at hstep
                cases hsm : sm gv zV with
                | false =>
                  rw [hsm] at hstep HSM
                  have HR2 : Hid (r = 91) := Lib.hid (by rw [← HR.out, okRow_no hlt hstep]; rfl)
                  have HSM := Lib.hid HSM
                  clear hstep HR hmay hsm
                  go_wp2_with fail
                  refine HSM.out.mono ?_
                  rintro e w9 ⟨rfl, hb9⟩
                  have HB8 := Lib.hid (HB8.out.trans (Below.mono hb9 HB8.out.size))
                  clear hb9
                  go_wp2_with fail
                  go_ret
                  exact ⟨by rw [HR2.out]; rfl, HBW.out.trans (Below.mono HB8.out HBW.out.size)⟩
                | true =>
                  rw [hsm] at hstep HSM
                  have HA2 : Hid (∀ i, i < j + 1 → stepB K L i = true) := Lib.hid fun i hi => by
                    by_cases e : i = j
                    · rw [e]; exact hstep
                    · exact hA.out i (by omega)
                  have HSM := Lib.hid HSM
                  clear hstep HR hmay hsm hA
                  go_wp2_with fail
                  refine HSM.out.mono ?_
                  rintro e w9 ⟨rfl, hb9⟩
                  have HB8 := Lib.hid (HB8.out.trans (Below.mono hb9 HB8.out.size))
                  clear hb9
                  go_wp2_with fail
                  go_roundw
                  case rel => exact ⟨j + 1, by omega, by go_num, HA2, Lib.hid (HBW.out.trans (Below.mono HB8.out HBW.out.size))⟩
                  case measure => simp [intOf]; omega
            | false =>
              subst hu
              have hmay : mayB ⟨gn, false, gv⟩ xq = holdsB gv xq := rfl
              rw [hmay] at hstep
              have HV : ∀ w1, KB W8 w1 → Calls Tryz.prog 55 #[.agg #[.int .i8 k, .bool b1, .int .i64 n, .string s, .slice o1 m c, .slice o2 m2 c2], .int .i8 xq] w1 fun e w' => e = .returned (.bool (holdsB gv xq)) ∧ Below w1.heap.size w1 w' := fun w1 hk => rvalue_any gv xq hxq _ w1 hM (isV_below (HB8.out.trans (Below.mono hk HB8.out.size)) hgv)
              cases hhb : holdsB gv xq with
              | false =>
                rw [hhb] at hstep HV
                have HV := Lib.hid HV
                have HR2 : Hid (r = 91) := Lib.hid (by rw [← HR.out, okRow_no hlt hstep]; rfl)
                clear hstep HR hmay hhb
                go_wp2_with fail
                refine wp_region_still_tail 7 (by kernel_rfl) (by kernel_rfl) ?_
                simp only [List.take_succ_cons, List.take_zero, List.drop_succ_cons, List.drop_zero]
                refine WS.out ?_
                repeat (refine ws_one (fun K hK => ?_); go_simp; refine hK _ ?_; clear hK K)
                refine ws_nil ?_
                go_wp2_with fail
                refine (HV.out _ (drewB1 _ _)).mono ?_
                rintro e w9 ⟨rfl, hb9⟩
                have HB8 := Lib.hid (HB8.out.trans (Below.mono (below_drew_of hb9) HB8.out.size))
                clear hb9
                go_wp2_with fail
                go_ret
                exact ⟨by rw [HR2.out]; rfl, HBW.out.trans (Below.mono HB8.out HBW.out.size)⟩
              | true =>
                rw [hhb] at hstep HV
                have HV := Lib.hid HV
                have HA2 : Hid (∀ i, i < j + 1 → stepB K L i = true) := Lib.hid fun i hi => by
                  by_cases e : i = j
                  · rw [e]; exact hstep
                  · exact hA.out i (by omega)
                clear hstep HR hmay hhb hA
                go_wp2_with fail
                refine wp_region_still_tail 7 (by kernel_rfl) (by kernel_rfl) ?_
                simp only [List.take_succ_cons, List.take_zero, List.drop_succ_cons, List.drop_zero]
                refine WS.out ?_
                repeat (refine ws_one (fun K hK => ?_); go_simp; refine hK _ ?_; clear hK K)
                refine ws_nil ?_
                go_wp2_with fail
                refine (HV.out _ (drewB1 _ _)).mono ?_
                rintro e w9 ⟨rfl, hb9⟩
                have HB8 := Lib.hid (HB8.out.trans (Below.mono (below_drew_of hb9) HB8.out.size))
                clear hb9
                go_wp2_with fail
                go_roundw
                case rel => exact ⟨j + 1, by omega, by go_num, HA2, Lib.hid (HBW.out.trans (Below.mono HB8.out HBW.out.size))⟩
                case measure => simp [intOf]; omega
          · rw [decide_eq_false hj00, Bool.false_or] at hstep
            obtain ⟨p, hpj, di1, hq2⟩ := hprev hj00
            have dj : decide ((0 : Int) < (j : Int)) = true := decide_eq_true (by omega)
            have dj2 : decide (0 < j) = true := decide_eq_true (by omega)
            have dw : IntKind.i64.wrap ((j : Int) - 1) = (p : Int) := by simp [IntKind.wrap, IntKind.bits, IntKind.signed]; omega
            clear hpj hprev hj00
            cases hbl : bl pn gn with
            | false =>
              rw [hbl, Bool.false_and] at hstep
              have HR2 : Hid (r = 91) := Lib.hid (by rw [← HR.out, okRow_no hlt hstep]; rfl)
              have hbl' : ∀ W, (binOp BinOp.leq 9 (.string gn) (.string pn)).run Tryz.prog W = .ok (.bool true) W := fun W => by rw [run_leq_str, leq_bl, hbl]; rfl
              clear hA hstep HR hM hxq hbl
              go_quiet (fail)
              rename_i nq
              have HB8 : Hid (Below w6.heap.size w6 (W7.drewN nq)) := Lib.hid (HB7.out.trans (Below.mono (drewB _ _ _) HB7.out.size))
              go_wp2_with fail
              go_ret
              exact ⟨by rw [HR2.out]; rfl, HBW.out.trans (Below.mono HB8.out HBW.out.size)⟩
            | true =>
              rw [hbl, Bool.true_and] at hstep
              have hbl' : ∀ W, (binOp BinOp.leq 9 (.string gn) (.string pn)).run Tryz.prog W = .ok (.bool false) W := fun W => by rw [run_leq_str, leq_bl, hbl]; rfl
              go_quiet (fail)
              rename_i nq
              have q0 : (W7.drewN nq).cell? _ = _ := q0
              have q1 : (W7.drewN nq).cell? _ = _ := q1
              have q2 : (W7.drewN nq).cell? _ = _ := q2
              have q3 : (W7.drewN nq).cell? _ = _ := q3
              have q4 : (W7.drewN nq).cell? _ = _ := q4
              have q5 : (W7.drewN nq).cell? _ = _ := q5
              have q6 : (W7.drewN nq).cell? _ = _ := q6
              have q7 : (W7.drewN nq).cell? _ = _ := q7
              have f1 : (W7.drewN nq).cell? _ = _ := f1
              have HB8 : Hid (Below w6.heap.size w6 (W7.drewN nq)) := Lib.hid (HB7.out.trans (Below.mono (drewB _ _ _) HB7.out.size))
              clear HB7
              generalize W7.drewN nq = W8 at *
              cases hu : gu with
              | true =>
                subst hu
                have hmay : mayB ⟨gn, true, gv⟩ xq = ((!decide (xq = 2)) && sm gv zV) := rfl
                rw [hmay] at hstep
                have HSM := same_any 1000000 gv zV _ _ W8 hM (isV_below HB8.out hgv) (isV_zero _)
                rcases hxq with rfl | rfl | rfl
                · rw [decide_eq_true rfl, Bool.not_true, Bool.false_and] at hstep
                  have HR2 : Hid (r = 91) := Lib.hid (by rw [← HR.out, okRow_no hlt hstep]; rfl)
                  clear hstep HR HSM hmay
                  go_wp2_with fail
                  go_ret
                  exact ⟨by rw [HR2.out]; rfl, HBW.out.trans (Below.mono HB8.out HBW.out.size)⟩
                · rw [decide_eq_false (by decide), Bool.not_false, Bool.true_and] at hstep
                  cases hsm : sm gv zV with
                  | false =>
                    rw [hsm] at hstep HSM
                    have HR2 : Hid (r = 91) := Lib.hid (by rw [← HR.out, okRow_no hlt hstep]; rfl)
                    have HSM := Lib.hid HSM
                    clear hstep HR hmay hsm
                    go_wp2_with fail
                    refine HSM.out.mono ?_
                    rintro e w9 ⟨rfl, hb9⟩
                    have HB8 := Lib.hid (HB8.out.trans (Below.mono hb9 HB8.out.size))
                    clear hb9
                    go_wp2_with fail
                    go_ret
                    exact ⟨by rw [HR2.out]; rfl, HBW.out.trans (Below.mono HB8.out HBW.out.size)⟩
                  | true =>
                    rw [hsm] at hstep HSM
                    have HA2 : Hid (∀ i, i < j + 1 → stepB K L i = true) := Lib.hid fun i hi => by
                      by_cases e : i = j
                      · rw [e]; exact hstep
                      · exact hA.out i (by omega)
                    have HSM := Lib.hid HSM
                    clear hstep HR hmay hsm hA
                    go_wp2_with fail
                    refine HSM.out.mono ?_
                    rintro e w9 ⟨rfl, hb9⟩
                    have HB8 := Lib.hid (HB8.out.trans (Below.mono hb9 HB8.out.size))
                    clear hb9
                    go_wp2_with fail
                    go_roundw
                    case rel => exact ⟨j + 1, by omega, by go_num, HA2, Lib.hid (HBW.out.trans (Below.mono HB8.out HBW.out.size))⟩
                    case measure => simp [intOf]; omega
                · rw [decide_eq_false (by decide), Bool.not_false, Bool.true_and] at hstep
                  cases hsm : sm gv zV with
                  | false =>
                    rw [hsm] at hstep HSM
                    have HR2 : Hid (r = 91) := Lib.hid (by rw [← HR.out, okRow_no hlt hstep]; rfl)
                    have HSM := Lib.hid HSM
                    clear hstep HR hmay hsm
                    go_wp2_with fail
                    refine HSM.out.mono ?_
                    rintro e w9 ⟨rfl, hb9⟩
                    have HB8 := Lib.hid (HB8.out.trans (Below.mono hb9 HB8.out.size))
                    clear hb9
                    go_wp2_with fail
                    go_ret
                    exact ⟨by rw [HR2.out]; rfl, HBW.out.trans (Below.mono HB8.out HBW.out.size)⟩
                  | true =>
                    rw [hsm] at hstep HSM
                    have HA2 : Hid (∀ i, i < j + 1 → stepB K L i = true) := Lib.hid fun i hi => by
                      by_cases e : i = j
                      · rw [e]; exact hstep
                      · exact hA.out i (by omega)
                    have HSM := Lib.hid HSM
                    clear hstep HR hmay hsm hA
                    go_wp2_with fail
                    refine HSM.out.mono ?_
                    rintro e w9 ⟨rfl, hb9⟩
                    have HB8 := Lib.hid (HB8.out.trans (Below.mono hb9 HB8.out.size))
                    clear hb9
                    go_wp2_with fail
                    go_roundw
                    case rel => exact ⟨j + 1, by omega, by go_num, HA2, Lib.hid (HBW.out.trans (Below.mono HB8.out HBW.out.size))⟩
                    case measure => simp [intOf]; omega
              | false =>
                subst hu
                have hmay : mayB ⟨gn, false, gv⟩ xq = holdsB gv xq := rfl
                rw [hmay] at hstep
                have HV : ∀ w1, KB W8 w1 → Calls Tryz.prog 55 #[.agg #[.int .i8 k, .bool b1, .int .i64 n, .string s, .slice o1 m c, .slice o2 m2 c2], .int .i8 xq] w1 fun e w' => e = .returned (.bool (holdsB gv xq)) ∧ Below w1.heap.size w1 w' := fun w1 hk => rvalue_any gv xq hxq _ w1 hM (isV_below (HB8.out.trans (Below.mono hk HB8.out.size)) hgv)
                cases hhb : holdsB gv xq with
                | false =>
                  rw [hhb] at hstep HV
                  have HV := Lib.hid HV
                  have HR2 : Hid (r = 91) := Lib.hid (by rw [← HR.out, okRow_no hlt hstep]; rfl)
                  clear hstep HR hmay hhb
                  go_wp2_with fail
                  refine wp_region_still_tail 7 (by kernel_rfl) (by kernel_rfl) ?_
                  simp only [List.take_succ_cons, List.take_zero, List.drop_succ_cons, List.drop_zero]
                  refine WS.out ?_
                  repeat (refine ws_one (fun K hK => ?_); go_simp; refine hK _ ?_; clear hK K)
                  refine ws_nil ?_
                  go_wp2_with fail
                  refine (HV.out _ (drewB1 _ _)).mono ?_
                  rintro e w9 ⟨rfl, hb9⟩
                  have HB8 := Lib.hid (HB8.out.trans (Below.mono (below_drew_of hb9) HB8.out.size))
                  clear hb9
                  go_wp2_with fail
                  go_ret
                  exact ⟨by rw [HR2.out]; rfl, HBW.out.trans (Below.mono HB8.out HBW.out.size)⟩
                | true =>
                  rw [hhb] at hstep HV
                  have HV := Lib.hid HV
                  have HA2 : Hid (∀ i, i < j + 1 → stepB K L i = true) := Lib.hid fun i hi => by
                    by_cases e : i = j
                    · rw [e]; exact hstep
                    · exact hA.out i (by omega)
                  clear hstep HR hmay hhb hA
                  go_wp2_with fail
                  refine wp_region_still_tail 7 (by kernel_rfl) (by kernel_rfl) ?_
                  simp only [List.take_succ_cons, List.take_zero, List.drop_succ_cons, List.drop_zero]
                  refine WS.out ?_
                  repeat (refine ws_one (fun K hK => ?_); go_simp; refine hK _ ?_; clear hK K)
                  refine ws_nil ?_
                  go_wp2_with fail
                  refine (HV.out _ (drewB1 _ _)).mono ?_
                  rintro e w9 ⟨rfl, hb9⟩
                  have HB8 := Lib.hid (HB8.out.trans (Below.mono (below_drew_of hb9) HB8.out.size))
                  clear hb9
                  go_wp2_with fail
                  go_roundw
                  case rel => exact ⟨j + 1, by omega, by go_num, HA2, Lib.hid (HBW.out.trans (Below.mono HB8.out HBW.out.size))⟩
                  case measure => simp [intOf]; omega
      · obtain rfl : j = L.length := by omega
        have HRES := Lib.hid (show r = 0 by rw [← HR.out, if_pos (okRow_iff.2 hA.out)])
        clear hA HR
        go_wp2_with fail
        go_ret
        exact ⟨by rw [HRES.out]; rfl, hB.out⟩
end Go.Proofs.YtdckldfekepopaaGreatDoor

namespace Go.Proofs.YtdckldfekepopaaGreatDoor
open Go.RowKit Go.Deep

theorem all_no {n i : Nat} {f : Nat → Bool} (hi : i < n) (h : f i = false) : (List.range n).all f = false := by
  rw [Bool.eq_false_iff]
  intro e
  rw [List.all_eq_true.1 e i (List.mem_range.2 hi)] at h
  cases h
set_option maxRecDepth 100000 in
set_option maxHeartbeats 16000000 in
theorem rCheck10_any (s : St) (v : Value) (w : World) (hF : fineS s) (h : isS w s v) :
    Calls Tryz.prog 27 #[v] w fun e w' => e = .returned (.int .i64 (checkS s)) ∧ Below w.heap.size w w' := by
  obtain ⟨o, cap, rfl, hts, hm⟩ := isS_two h
  have hbx := World.alloc_heap_new w (.cells #[.slice o s.l.length cap, .int .i64 s.made] 31)
  have hk1 : KB w (w.alloc (.cells #[.slice o s.l.length cap, .int .i64 s.made] 31)) := kbA
  have hs1 := World.size_alloc w (.cells #[.slice o s.l.length cap, .int .i64 s.made] 31)
  have hl1000 := hF.1
  obtain ⟨a, cap', ⟨o', e', hc1, hc2, ho⟩, hat⟩ := hts
  simp only [Value.slice.injEq, true_and] at e'
  obtain ⟨rfl, rfl⟩ := e'
  unfold maxLen at hc2
  obtain ⟨W1, hW1⟩ : ∃ W1, w.alloc (.cells #[.slice o s.l.length cap, .int .i64 s.made] 31) = W1 := ⟨_, rfl⟩
  rw [hW1] at hbx hk1 hs1
  have HB1 := Lib.hid hk1
  have HBOX : Hid (∀ w1, KB W1 w1 → w1.cell? ⟨w.heap.size, 0, none⟩ = some (.slice o s.l.length cap) ∧ w1.cell? ⟨w.heap.size, 1, none⟩ = some (.int .i64 s.made)) := Lib.hid fun w1 hk => two_cells ((Below.block hk _ (by omega)).trans hbx)
  obtain ⟨r0, r1⟩ := HBOX.out W1 (Below.refl _ _)
  have HF := Lib.hid hF.2
  have HAT := Lib.hid hat
  unfold checkS
  clear h hF hat hbx hk1 hs1
  by_cases hz1 : s.made < 0
  · rw [if_pos hz1]
    have z1 : decide (s.made < 0) = true := decide_eq_true hz1
    generalize s.made = md at *
    go_enter Tryz.func27, Tryz.ntmps27
    go_wp2_with fail
    go_ret
    try rw [hW1]
    exact ⟨rfl, HB1.out⟩
  · rw [if_neg hz1]
    have z1 : decide (s.made < 0) = false := decide_eq_false hz1
    by_cases hz2 : 1099511627776 < s.made
    · rw [if_pos hz2]
      have z2 : decide (1099511627776 < s.made) = true := decide_eq_true hz2
      generalize s.made = md at *
      go_enter Tryz.func27, Tryz.ntmps27
      go_wp2_with fail
      go_ret
      try rw [hW1]
      exact ⟨rfl, HB1.out⟩
    · rw [if_neg hz2]
      have z2 : decide (1099511627776 < s.made) = false := decide_eq_false hz2
      obtain ⟨r, hr⟩ : ∃ r : Int, (if (List.range s.l.length).all (stepT s.made s.l) = true then (0 : Int) else 2) = r := ⟨_, rfl⟩
      rw [hr]
      have HR := Lib.hid hr
      clear hr hz1 hz2
      go_enter Tryz.func27, Tryz.ntmps27
      go_wp2_with fail
      try rw [hW1]
      clear hW1
      go_loopw [3, 4] (fun lv iv wr => ∃ j : Nat, j ≤ s.l.length ∧ lv = .int .i64 (lastN s.l j) ∧ iv = .int .i64 j ∧ Hid (∀ i, i < j → stepT s.made s.l i = true) ∧ Hid (Below w.heap.size w wr) ∧ Hid (KB W1 wr)) (fun _ iv _ => s.l.length - (intOf iv).toNat)
      case atStart => exact ⟨0, by omega, rfl, rfl, Lib.hid (fun i hi => absurd hi (by omega)), HB1, Lib.hid (Below.refl _ _)⟩
      case round =>
        obtain ⟨j, hj, rfl, rfl, hA, HB, HK1⟩ := hrel
        have hrr := HBOX.out wr HK1.out
        clear r0 r1
        obtain ⟨r0, r1⟩ := hrr
        by_cases hlt : j < s.l.length
        · obtain rfl := ho (by omega)
          obtain ⟨o1, c1, q0, q1, q2, ht⟩ := isTat_three (isTat_below HB.out (HAT.out j hlt))
          obtain ⟨pv, epv, hgs, hph, hty⟩ := ht
          simp only [Value.agg.injEq, Array.mk.injEq, List.cons.injEq, true_and, and_true] at epv
          subst epv
          have hff := (HF.out _ (List.getElem_mem hlt)).2
          have hstep : stepT s.made s.l j = ((numL s.l[j].ph).2 && (decide (lastN s.l j < (numL s.l[j].ph).1) && (decide ((numL s.l[j].ph).1 ≤ s.made) && decide (wrongL s.l[j].ty s.l[j].ps = 0)))) := by
            unfold stepT; rw [getD_t hlt]
          have hlast : lastN s.l (j + 1) = (numL s.l[j].ph).1 := by show (numL (s.l.getD j zTh).ph).1 = _; rw [getD_t hlt]
          have HN : Hid (∀ w1, Calls Tryz.prog 52 #[.string s.l[j].ph] w1 fun e w' => e = .returned (.tuple #[.int .i64 (numL s.l[j].ph).1, .bool (numL s.l[j].ph).2]) ∧ w1 = w') := Lib.hid fun w1 => rNumber_any _ hph w1
          have HCK : Hid (∀ w1, KB wr w1 → Calls Tryz.prog 28 #[.string s.l[j].ty, .slice o1 s.l[j].ps.length c1] w1 fun e w' => e = .returned (.int .i64 (checkL s.l[j].ty s.l[j].ps)) ∧ Below w1.heap.size w1 w') := Lib.hid fun w1 hk => rCheck_any _ _ _ w1 hff.1 (fun g hg => (hff.2 g hg).1) (isGs_below hk hgs)
          have HKN : Hid (∀ w1, KB wr w1 → Calls Tryz.prog 29 #[.slice o1 s.l[j].ps.length c1] w1 fun e w' => e = .returned (.bool (!s.l[j].ps.any (·.unk))) ∧ w1 = w') := Lib.hid fun w1 hk => rknown_any _ _ w1 hff.1 (isGs_below hk hgs)
          have hwr : wrongL s.l[j].ty s.l[j].ps = if checkL s.l[j].ty s.l[j].ps = 0 then (if s.l[j].ps.any (·.unk) then 91 else 0) else checkL s.l[j].ty s.l[j].ps := rfl
          rw [hwr] at hstep
          generalize hT : s.l[j] = T at *
          clear hT hph hty hgs hff hwr
          have HCE : Hid (∀ w1, KB wr w1 → w1.cell? (a.add (j * 3)) = some (.string T.ph) ∧ w1.cell? ⟨(a.add (j * 3)).block, (a.add (j * 3)).off + 1, none⟩ = some (.string T.ty) ∧ w1.cell? ⟨(a.add (j * 3)).block, (a.add (j * 3)).off + 2, none⟩ = some (.slice o1 T.ps.length c1) ∧ w1.cell? ⟨w.heap.size, 0, none⟩ = some (.slice (some a) s.l.length cap) ∧ w1.cell? ⟨w.heap.size, 1, none⟩ = some (.int .i64 s.made)) := Lib.hid fun w1 hk => ⟨cell_below hk _ _ q0, cell_below hk _ _ q1, cell_below hk _ _ q2, cell_below hk _ _ r0, cell_below hk _ _ r1⟩
          generalize (numL T.ph).1 = N at *
          generalize hok : (numL T.ph).2 = ok at *
          clear hok
          generalize hC : checkL T.ty T.ps = C at *
          clear hC
          generalize hU : T.ps.any (·.unk) = U at *
          clear hU
          cases ok with
          | false =>
            rw [Bool.false_and] at hstep
            have HR2 : Hid (r = 2) := Lib.hid (by rw [← HR.out, all_no hlt hstep]; rfl)
            clear hstep HR hA
            clear HCK HKN HCE hlast
            go_wp2_with fail
            refine (HN.out _).mono ?_
            rintro e w6 ⟨rfl, rfl⟩
            go_wp2_with fail
            go_quiet (fail)
            go_wp2_with fail
            go_ret
            exact ⟨by rw [HR2.out]; rfl, HB.out.trans (Below.mono (drewB _ _ _) HB.out.size)⟩
          | true =>
            rw [Bool.true_and] at hstep
            by_cases hc2 : lastN s.l j < N
            · have y1 : decide (N ≤ lastN s.l j) = false := decide_eq_false (by omega)
              rw [decide_eq_true hc2, Bool.true_and] at hstep
              by_cases hc3 : N ≤ s.made
              · have y2 : decide (s.made < N) = false := decide_eq_false (by omega)
                rw [decide_eq_true hc3, Bool.true_and] at hstep
                by_cases hc4 : C = 0
                · subst hc4
                  rw [if_pos rfl] at hstep
                  cases U with
                  | true =>
                    rw [if_pos rfl, decide_eq_false (by decide)] at hstep
                    have HR2 : Hid (r = 2) := Lib.hid (by rw [← HR.out, all_no hlt hstep]; rfl)
                    clear hstep HR hA
                    clear hlast hc2 hc3
                    go_wp2_with fail
                    refine (HN.out _).mono ?_
                    rintro e w6 ⟨rfl, rfl⟩
                    go_wp2_with fail
                    refine Rn.region_any (by kernel_rfl) ?_
                    refine Rn.any_seg 0 26 (by kernel_rfl) rfl ?_
                    simp only [List.take_succ_cons, List.take_zero, List.drop_zero]
                    repeat (refine Rn.ws_one (fun KK hKK => ?_); go_simp; refine hKK _ ?_; clear hKK KK)
                    refine Rn.ws_nil ?_
                    intro K0 hK0
                    go_simp
                    refine .inl ((HCK.out _ (drewB1 _ _)).mono ?_)
                    rintro e w9 ⟨rfl, hb9⟩
                    obtain ⟨q0, q1, q2, r0, r1⟩ := HCE.out w9 (below_drew_of hb9)
                    have HB9 := Lib.hid (HB.out.trans (Below.mono (below_drew_of hb9) HB.out.size))
                    have HK9 : Hid (KB wr w9) := Lib.hid (below_drew_of hb9)
                    clear hb9
                    go_simp
                    refine hK0 _ _ ?_
                    clear hK0 K0
                    refine Rn.any_seg 27 36 (by kernel_rfl) rfl ?_
                    simp only [List.take_succ_cons, List.take_zero, List.drop_succ_cons, List.drop_zero]
                    repeat (refine Rn.ws_one (fun KK hKK => ?_); go_simp; refine hKK _ ?_; clear hKK KK)
                    refine Rn.ws_nil ?_
                    intro K0 hK0
                    go_simp
                    refine .inl ((HKN.out _ HK9.out).mono ?_)
                    rintro e w10 ⟨rfl, rfl⟩
                    go_simp
                    refine hK0 _ _ ?_
                    clear hK0 K0
                    refine Rn.any_end 37 (by kernel_rfl) ?_
                    simp only [List.drop_succ_cons, List.drop_zero]
                    repeat (refine Rn.ws_one (fun KK hKK => ?_); go_simp; refine hKK _ ?_; clear hKK KK)
                    refine Rn.ws_nil ?_
                    go_wp2_with fail
                    go_ret
                    exact ⟨by rw [HR2.out]; rfl, HB9.out⟩
                  | false =>
                    rw [if_neg Bool.false_ne_true, decide_eq_true rfl] at hstep
                    have HA2 : Hid (∀ i, i < j + 1 → stepT s.made s.l i = true) := Lib.hid fun i hi => by
                      by_cases e : i = j
                      · rw [e]; exact hstep
                      · exact hA.out i (by omega)
                    have HL := Lib.hid hlast
                    have HK1b := HK1
                    clear hlast hc2 hc3 hstep hA HR
                    go_wp2_with fail
                    refine (HN.out _).mono ?_
                    rintro e w6 ⟨rfl, rfl⟩
                    go_wp2_with fail
                    refine Rn.region_any (by kernel_rfl) ?_
                    refine Rn.any_seg 0 26 (by kernel_rfl) rfl ?_
                    simp only [List.take_succ_cons, List.take_zero, List.drop_zero]
                    repeat (refine Rn.ws_one (fun KK hKK => ?_); go_simp; refine hKK _ ?_; clear hKK KK)
                    refine Rn.ws_nil ?_
                    intro K0 hK0
                    go_simp
                    refine .inl ((HCK.out _ (drewB1 _ _)).mono ?_)
                    rintro e w9 ⟨rfl, hb9⟩
                    obtain ⟨q0, q1, q2, r0, r1⟩ := HCE.out w9 (below_drew_of hb9)
                    have HB9 := Lib.hid (HB.out.trans (Below.mono (below_drew_of hb9) HB.out.size))
                    have HK9 : Hid (KB wr w9) := Lib.hid (below_drew_of hb9)
                    clear hb9
                    go_simp
                    refine hK0 _ _ ?_
                    clear hK0 K0
                    refine Rn.any_seg 27 36 (by kernel_rfl) rfl ?_
                    simp only [List.take_succ_cons, List.take_zero, List.drop_succ_cons, List.drop_zero]
                    repeat (refine Rn.ws_one (fun KK hKK => ?_); go_simp; refine hKK _ ?_; clear hKK KK)
                    refine Rn.ws_nil ?_
                    intro K0 hK0
                    go_simp
                    refine .inl ((HKN.out _ HK9.out).mono ?_)
                    rintro e w10 ⟨rfl, rfl⟩
                    go_simp
                    refine hK0 _ _ ?_
                    clear hK0 K0
                    refine Rn.any_end 37 (by kernel_rfl) ?_
                    simp only [List.drop_succ_cons, List.drop_zero]
                    repeat (refine Rn.ws_one (fun KK hKK => ?_); go_simp; refine hKK _ ?_; clear hKK KK)
                    refine Rn.ws_nil ?_
                    go_wp2_with fail
                    go_roundw
                    case rel => exact ⟨j + 1, by omega, by rw [HL.out], by go_num, HA2, HB9, Lib.hid (Below.trans HK1.out (Below.mono HK9.out HK1.out.size))⟩
                    case measure => simp [intOf]; omega
                · have y3 : (C == 0) = false := beqI hc4
                  have y4 : (C != 0) = true := bne_iff_ne.2 hc4
                  rw [if_neg hc4, decide_eq_false hc4] at hstep
                  have HR2 : Hid (r = 2) := Lib.hid (by rw [← HR.out, all_no hlt hstep]; rfl)
                  clear hstep HR hA
                  clear hlast hc2 hc3 hc4
                  go_wp2_with fail
                  refine (HN.out _).mono ?_
                  rintro e w6 ⟨rfl, rfl⟩
                  go_wp2_with fail
                  refine Rn.region_any (by kernel_rfl) ?_
                  refine Rn.any_seg 0 26 (by kernel_rfl) rfl ?_
                  simp only [List.take_succ_cons, List.take_zero, List.drop_zero]
                  repeat (refine Rn.ws_one (fun KK hKK => ?_); go_simp; refine hKK _ ?_; clear hKK KK)
                  refine Rn.ws_nil ?_
                  intro K0 hK0
                  go_simp
                  refine .inl ((HCK.out _ (drewB1 _ _)).mono ?_)
                  rintro e w9 ⟨rfl, hb9⟩
                  obtain ⟨q0, q1, q2, r0, r1⟩ := HCE.out w9 (below_drew_of hb9)
                  have HB9 := Lib.hid (HB.out.trans (Below.mono (below_drew_of hb9) HB.out.size))
                  have HK9 : Hid (KB wr w9) := Lib.hid (below_drew_of hb9)
                  clear hb9
                  go_simp
                  refine hK0 _ _ ?_
                  clear hK0 K0
                  refine Rn.any_seg 27 36 (by kernel_rfl) rfl ?_
                  simp only [List.take_succ_cons, List.take_zero, List.drop_succ_cons, List.drop_zero]
                  repeat (refine Rn.ws_one (fun KK hKK => ?_); go_simp; refine hKK _ ?_; clear hKK KK)
                  refine Rn.ws_nil ?_
                  intro K0 hK0
                  go_simp
                  refine hK0 _ _ ?_
                  clear hK0 K0
                  refine Rn.any_end 37 (by kernel_rfl) ?_
                  simp only [List.drop_succ_cons, List.drop_zero]
                  repeat (refine Rn.ws_one (fun KK hKK => ?_); go_simp; refine hKK _ ?_; clear hKK KK)
                  refine Rn.ws_nil ?_
                  go_wp2_with fail
                  go_ret
                  exact ⟨by rw [HR2.out]; rfl, HB9.out⟩
              · have y2 : decide (s.made < N) = true := decide_eq_true (by omega)
                rw [decide_eq_false hc3, Bool.false_and] at hstep
                have HR2 : Hid (r = 2) := Lib.hid (by rw [← HR.out, all_no hlt hstep]; rfl)
                clear hstep HR hA
                clear HCK HKN HCE hlast hc2 hc3
                go_wp2_with fail
                refine (HN.out _).mono ?_
                rintro e w6 ⟨rfl, rfl⟩
                go_wp2_with fail
                go_quiet (fail)
                go_wp2_with fail
                go_ret
                exact ⟨by rw [HR2.out]; rfl, HB.out.trans (Below.mono (drewB _ _ _) HB.out.size)⟩
            · have y1 : decide (N ≤ lastN s.l j) = true := decide_eq_true (by omega)
              rw [decide_eq_false hc2, Bool.false_and] at hstep
              have HR2 : Hid (r = 2) := Lib.hid (by rw [← HR.out, all_no hlt hstep]; rfl)
              clear hstep HR hA
              clear HCK HKN HCE hlast hc2
              go_wp2_with fail
              refine (HN.out _).mono ?_
              rintro e w6 ⟨rfl, rfl⟩
              go_wp2_with fail
              go_quiet (fail)
              go_wp2_with fail
              go_ret
              exact ⟨by rw [HR2.out]; rfl, HB.out.trans (Below.mono (drewB _ _ _) HB.out.size)⟩
        · obtain rfl : j = s.l.length := by omega
          have HRES : Hid (r = 0) := Lib.hid (by rw [← HR.out, if_pos (List.all_eq_true.2 fun i hi => hA.out i (List.mem_range.1 hi))])
          clear hA HR
          go_wp2_with fail
          go_ret
          exact ⟨by rw [HRES.out]; rfl, HB.out⟩
end Go.Proofs.YtdckldfekepopaaGreatDoor

namespace Go.Proofs.YtdckldfekepopaaGreatDoor
open Go.RowKit Go.Deep

theorem isTLa_single {W : World} {B : Nat → Prop} {t : Th} {pv : Value} (h1 : isGsa W B t.ps pv) (h2 : t.ph.size ≤ maxLen) (h3 : t.ty.size ≤ maxLen) : isTLa W B [t] [.string t.ph, .string t.ty, pv] := by
  unfold isTLa
  exact ⟨pv, [], rfl, h1, h2, h3, by unfold isTLa; rfl⟩
theorem box_two0 {w : World} {b : Nat} {c0 c1 : Value} {t : TypeId} (u : Value) (h : w.heap[b]? = some (.cells #[c0, c1] t (0, 0))) :
    ∃ y, ((∃ u, w.cell? ⟨b, 0, none⟩ = some u) ∧ w.frozen? ⟨b, 0, none⟩ = false ∧ w.setCell ⟨b, 0, none⟩ u = y) ∧ y.heap[b]? = some (.cells #[u, c1] t (0, 0)) ∧ w.grownBy y (some b) := by
  have h1 : (w.setCell ⟨b, 0, none⟩ u).heap[b]? = some (.cells #[u, c1] t (0, 0)) := by simp [World.setCell, Array.getElem?_modify, h]
  have g1 := rowIs_two h
  exact ⟨_, ⟨⟨_, g1.cell (show 0 < 2 by decide)⟩, g1.frozen _, rfl⟩, h1, grown_set _ _ _ _⟩

/-- What lies there: the store's box, the result's. -/
structure RrW (w : World) (o : Option Addr) (n cap : Nat) (md : Int) (W : World) : Prop where
  bel : Below w.heap.size w W
  sz : w.heap.size + 2 ≤ W.heap.size
  box : W.heap[w.heap.size]? = some (.cells #[.slice o n cap, .int .i64 md] 31 (0, 0))
  res : W.heap[w.heap.size + 1]? = some (.cells #[.slice none 0 0, .int .i64 0] 31 (0, 0))
theorem RrW.below {w : World} {o : Option Addr} {n cap : Nat} {md : Int} {W W' : World} (h : RrW w o n cap md W) (hb : Below W.heap.size W W') : RrW w o n cap md W' :=
  ⟨h.bel.trans (hb.mono h.bel.size), Nat.le_trans h.sz hb.size, (hb.block _ (by have := h.sz; omega)).trans h.box, (hb.block _ (by have := h.sz; omega)).trans h.res⟩
theorem RrW.grown {w : World} {o : Option Addr} {n cap : Nat} {md : Int} {W W' : World} {row : Option Nat} (h : RrW w o n cap md W) (hg : W.grownBy W' row) (hr : ∀ r, row = some r → w.heap.size + 2 ≤ r) : RrW w o n cap md W' :=
  ⟨h.bel.grown hg h.bel.size (fun r e => by have := hr r e; omega), Nat.le_trans h.sz hg.size, (hg.block _ (by have := h.sz; omega) (fun e => by have := hr _ e.symm; omega)).trans h.box, (hg.block _ (by have := h.sz; omega) (fun e => by have := hr _ e.symm; omega)).trans h.res⟩
theorem RrW.start (w : World) (o : Option Addr) (n cap : Nat) (md : Int) : RrW w o n cap md ((w.alloc (.cells #[.slice o n cap, .int .i64 md] 31)).alloc (.cells #[.slice none 0 0, .int .i64 0] 31)) := by
  refine ⟨by go_grown, by simp, (Below.heap_alloc (w.alloc (.cells #[.slice o n cap, .int .i64 md] 31)) (.cells #[.slice none 0 0, .int .i64 0] 31) w.heap.size (by simp)).trans (World.alloc_heap_new w _), ?_⟩
  have n2 := World.alloc_heap_new (w.alloc (.cells #[.slice o n cap, .int .i64 md] 31)) (.cells #[.slice none 0 0, .int .i64 0] 31)
  rw [World.size_alloc] at n2
  exact n2
theorem RrW.fin {w : World} {o : Option Addr} {n cap : Nat} {md : Int} {W y : World} (h : RrW w o n cap md W) (hg : W.grownBy y (some (w.heap.size + 1))) : Below w.heap.size w y :=
  h.bel.grown hg h.bel.size (fun r e => by cases e; omega)
/-- .. and the store that is being built, in a box of its own. -/
structure GR (w : World) (o : Option Addr) (n cap : Nat) (smd : Int) (L : List Th) (md : Int) (bo k c : Nat) (oo : Option Addr) (xs : List Value) (W : World) : Prop where
  rr : RrW w o n cap smd W
  bo1 : w.heap.size + 2 ≤ bo
  bo2 : bo < W.heap.size
  out : W.heap[bo]? = some (.cells #[.slice oo k c, .int .i64 md] 31 (0, 0))
  own : W.ownsRow (bo + 1) 52 3 (.slice oo k c) k xs
  len : L.length = k
  tl : isTLa w (fun q => q < w.heap.size) L xs
theorem GR.below {w : World} {o : Option Addr} {n cap : Nat} {smd : Int} {L : List Th} {md : Int} {bo k c : Nat} {oo : Option Addr} {xs : List Value} {W W' : World} (h : GR w o n cap smd L md bo k c oo xs W) (hb : Below W.heap.size W W') : GR w o n cap smd L md bo k c oo xs W' :=
  ⟨h.rr.below hb, h.bo1, Nat.lt_of_lt_of_le h.bo2 hb.size, (hb.block _ h.bo2).trans h.out, h.own.kept (grown_bel hb) (by
    cases oo with
    | none => exact .inl rfl
    | some a => exact .inr (fun e => by cases e)), h.len, h.tl⟩
theorem own_ge {W : World} {base : Nat} {e : TypeId} {sz n : Nat} {v : Value} {xs : List Value} (h : W.ownsRow base e sz v n xs) : ∀ r, v.ownBlock = some r → base ≤ r := fun r hr => (h.lt r hr).1
theorem GR.push {w : World} {o : Option Addr} {n cap : Nat} {smd : Int} {L M : List Th} {md : Int} {bo k c k' c' : Nat} {oo o' : Option Addr} {xs ys : List Value} {W W' : World} (h : GR w o n cap smd L md bo k c oo xs W)
    (hg : W.grownBy W' (Value.slice oo k c).ownBlock) (ho : W'.ownsRow (bo + 1) 52 3 (.slice o' k' c') k' (xs ++ ys)) (hk : k' = k + M.length) (hM : isTLa w (fun q => q < w.heap.size) M ys) :
    ∃ y, ((∃ u, W'.cell? ⟨bo, 0, none⟩ = some u) ∧ W'.frozen? ⟨bo, 0, none⟩ = false ∧ W'.setCell ⟨bo, 0, none⟩ (.slice o' k' c') = y) ∧ W'.cell? ⟨bo, 0, none⟩ = some (.slice oo k c) ∧ W'.cell? ⟨bo, 1, none⟩ = some (.int .i64 md) ∧ GR w o n cap smd (L ++ M) md bo k' c' o' (xs ++ ys) y := by
  have hge := own_ge h.own
  have hout : W'.heap[bo]? = some (.cells #[.slice oo k c, .int .i64 md] 31 (0, 0)) := (hg.block bo h.bo2 (fun e => by have := hge _ e.symm; omega)).trans h.out
  obtain ⟨y, hy, hy2, hg2⟩ := box_two0 (.slice o' k' c') hout
  obtain ⟨q0, q1⟩ := two_cells hout
  refine ⟨y, hy, q0, q1, ?_, h.bo1, by have := h.bo2; have := hg.size; have := hg2.size; omega, hy2, ho.kept hg2 (.inr (fun e => ?_)), by rw [List.length_append, h.len, hk], isTLa_app _ _ _ _ h.tl hM⟩
  · exact (h.rr.grown hg (fun r e => by have := hge r e; have := h.bo1; omega)).grown hg2 (fun r e => by cases e; exact h.bo1)
  · have := own_ge ho _ e
    omega
theorem own_ts {w W : World} {base : Nat} {L : List Th} {oo : Option Addr} {k c : Nat} {xs : List Value} (hb : Below w.heap.size w W) (own : W.ownsRow base 52 3 (.slice oo k c) k xs) (hl : L.length = k) (tl : isTLa w (fun q => q < w.heap.size) L xs) : isTs W L (.slice oo L.length c) := by
  obtain ⟨o9, ad, c9, e, h1, h2, h3, h4, h5⟩ := own_form own
  simp only [Value.slice.injEq, true_and] at e
  obtain ⟨rfl, rfl⟩ := e
  have htl := isTLa_keep (fun a c (hq : a.block < w.heap.size) hc => by
    have := hb.block a.block hq
    unfold World.cell? at hc ⊢
    rw [this]; exact hc) _ _ tl
  refine ⟨ad, c, ⟨oo, rfl, by omega, h2, fun h0 => h3 (by omega)⟩, fun i hi => ?_⟩
  have hsp : ad.spot = none := by
    have hx := isTLa_len _ _ tl
    obtain ⟨u, hu⟩ : ∃ u, xs[0]? = some u := ⟨xs[0]'(by omega), List.getElem?_eq_getElem (by omega)⟩
    have := h5 0 u hu
    rw [show ad.add 0 = ad by simp [Addr.add]] at this
    exact cell_spot this
  obtain ⟨pv, g0, g1, g2, h6, h7, h8⟩ := isTLa_at L xs ad hsp htl h5 i hi
  exact ⟨pv, g0, g1, g2, isGs_of_a h6, h7, h8⟩
theorem GR.fin {w : World} {o : Option Addr} {n cap : Nat} {smd : Int} {L : List Th} {md : Int} {bo k c : Nat} {oo : Option Addr} {xs : List Value} {W y : World} (h : GR w o n cap smd L md bo k c oo xs W) (hg : W.grownBy y (some (w.heap.size + 1))) (hm : -9223372036854775808 ≤ md ∧ md ≤ 9223372036854775807) : isS y ⟨L, md⟩ (.agg #[.slice oo k c, .int .i64 md]) ∧ Below w.heap.size w y := by
  have hbel := h.rr.fin hg
  have hl := h.len
  have := own_ts hbel (h.own.kept hg (by
    cases hob : (Value.slice oo k c).ownBlock with
    | none => exact .inl rfl
    | some r =>
      refine .inr (fun e => ?_)
      have h1 := own_ge h.own r hob
      have h2 := h.bo1
      have h3 := Option.some.inj e
      omega)) hl h.tl
  rw [hl] at this
  exact ⟨⟨_, rfl, this, hm⟩, hbel⟩
theorem news_three {W : World} {c0 c1 c2 : Value} {t : TypeId} : ∀ q u, [c0, c1, c2][q]? = some u → (W.alloc (.cells #[c0, c1, c2] t)).cell? ((⟨W.heap.size, 0, none⟩ : Addr).add q) = some u := fun q u hq => by
  rcases q with _ | _ | _ | q
  · obtain rfl := Option.some.inj hq
    simp [Addr.add]
  · obtain rfl := Option.some.inj hq
    simp [Addr.add]
  · obtain rfl := Option.some.inj hq
    simp [Addr.add]
  · simp at hq
theorem ones_three {s s' : ByteArray} {o : Option Addr} {m c : Nat} : ∀ u ∈ [Value.string s, .string s', .slice o m c], u.oneCell' = true := fun u hu => by
  simp only [List.mem_cons, List.not_mem_nil, or_false] at hu
  rcases hu with rfl | rfl | rfl <;> rfl
set_option maxRecDepth 100000 in
set_option maxHeartbeats 4000000 in
theorem rGet10_any (s : St) (p : ByteArray) (v : Value) (w : World) (hF : fineS s) (h : isS w s v) :
    Calls Tryz.prog 34 #[v, .string p] w fun e w' => (∃ v', e = .returned (.tuple #[v', .bool (getT s p).2]) ∧ isTh w' (getT s p).1 v') ∧ Below w.heap.size w w' := by
  obtain ⟨o, cap, rfl, hts, hm⟩ := isS_two h
  have n1 := (Below.heap_alloc (w.alloc (.cells #[.slice o s.l.length cap, .int .i64 s.made] 31)) (.cells #[.string ⟨#[]⟩, .string ⟨#[]⟩, .slice none 0 0] 52) w.heap.size (by simp)).trans (World.alloc_heap_new w _)
  have n2 := World.alloc_heap_new (w.alloc (.cells #[.slice o s.l.length cap, .int .i64 s.made] 31)) (.cells #[.string ⟨#[]⟩, .string ⟨#[]⟩, .slice none 0 0] 52)
  rw [World.size_alloc] at n2
  have hk2 : KB w ((w.alloc (.cells #[.slice o s.l.length cap, .int .i64 s.made] 31)).alloc (.cells #[.string ⟨#[]⟩, .string ⟨#[]⟩, .slice none 0 0] 52)) := by unfold KB; go_grown
  have hl1000 := hF.1
  obtain ⟨a, cap', ⟨o', e', hc1, hc2, ho⟩, hat⟩ := hts
  simp only [Value.slice.injEq, true_and] at e'
  obtain ⟨rfl, rfl⟩ := e'
  unfold maxLen at hc2
  have HAT := Lib.hid hat
  obtain ⟨r, hr⟩ : ∃ r, getT s p = r := ⟨_, rfl⟩
  have HR := Lib.hid hr
  rw [hr]
  clear hr
  obtain ⟨W2, hW2⟩ : ∃ W2, (w.alloc (.cells #[.slice o s.l.length cap, .int .i64 s.made] 31)).alloc (.cells #[.string ⟨#[]⟩, .string ⟨#[]⟩, .slice none 0 0] 52) = W2 := ⟨_, rfl⟩
  rw [hW2] at n1 n2 hk2
  have HB2 := Lib.hid hk2
  have HN2 := Lib.hid n2
  obtain ⟨r0, r1⟩ := two_cells n1
  clear h hat hF n1 n2 hk2
  go_enter Tryz.func34, Tryz.ntmps34
  go_wp2_with fail
  try rw [hW2]
  clear hW2
  go_loopw [6] (fun i wr => ∃ j : Nat, j ≤ s.l.length ∧ i = .int .i64 j ∧ wr = W2 ∧ Hid (∀ q (hq : q < s.l.length), q < j → s.l[q].ph ≠ p)) (fun i _ => s.l.length - (intOf i).toNat)
  case atStart => exact ⟨0, by omega, rfl, rfl, Lib.hid (fun _ _ h => absurd h (by omega))⟩
  case round =>
    obtain ⟨j, hj, rfl, rfl, hno⟩ := hrel
    by_cases hlt : j < s.l.length
    · obtain rfl := ho (by omega)
      obtain ⟨o1, c1, q0, q1, q2, ht⟩ := isTat_three (HAT.out j hlt)
      have q0 := cell_below HB2.out _ _ q0
      have q1 := cell_below HB2.out _ _ q1
      have q2 := cell_below HB2.out _ _ q2
      by_cases he : s.l[j].ph = p
      · have hg : getT s p = (s.l[j], true) := by
          unfold getT
          rw [idxT_some hlt he (fun i hi => hno.out i (by omega) hi)]
          show (s.l.getD j zTh, true) = _
          rw [getD_t hlt]
        have HRES := Lib.hid (HR.out.symm.trans hg)
        have HT := Lib.hid ht
        clear hno hg ht HR
        generalize s.l[j] = T at *
        obtain ⟨Tp, Tt, Tps⟩ := T
        dsimp only at q0 q1 q2 he
        subst he
        obtain ⟨x1, x2, x3, f', ⟨⟨_, t1⟩, t1', t1''⟩, ⟨⟨_, t2⟩, t2', t2''⟩, ⟨⟨_, t3⟩, t3', t3''⟩, hf7, hg7, u0, u1, u2, -⟩ := store_three (rowIs_three HN2.out) 0 (by decide) (.string Tp) (.string Tt) (.slice o1 Tps.length c1)
        simp only [Nat.zero_add] at t2 t2' t2'' t3 t3' t3'' u1 u2
        have HG := Lib.hid (And.intro hf7 (And.intro hg7 (And.intro u0 (And.intro u1 u2))))
        clear hf7 hg7 u0 u1 u2
        go_wp2_with fail
        obtain ⟨hf7, hg7, u0, u1, u2⟩ := HG.out
        have d0 := hf7.cell (show 0 < 3 by decide)
        have d1 := hf7.cell (show 1 < 3 by decide)
        have d2 := hf7.cell (show 2 < 3 by decide)
        rw [u0] at d0
        rw [u1] at d1
        rw [u2] at d2
        refine bodyPost_ret (v := .tuple #[.agg #[.string Tp, .string Tt, .slice o1 Tps.length c1], .bool true]) (by simp [results, Tryz.results34, go_sem, d0, d1, d2]) rfl ?_
        have hbel := HB2.out.grown hg7 HB2.out.size (fun r e => by cases e; omega)
        exact ⟨⟨_, by rw [HRES.out], by rw [HRES.out]; exact isTh_below hbel HT.out⟩, hbel⟩
      · have hno' : Hid (∀ q (hq : q < s.l.length), q < j + 1 → s.l[q].ph ≠ p) := Lib.hid fun q hq h => by
          by_cases e : q = j
          · subst e; exact he
          · exact hno.out q hq (by omega)
        have ze := beq_toList he
        clear he hno ht HR q1 q2
        generalize s.l[j] = T at *
        go_wp2_with fail
        go_roundw
        case rel => exact ⟨j + 1, by omega, by go_num, by trivial, hno'⟩
        case measure => simp [intOf]; omega
    · obtain rfl : j = s.l.length := by omega
      have hg : getT s p = (zTh, false) := by
        unfold getT
        rw [idxT_none (fun i hi => hno.out i hi hi)]
      have HRES := Lib.hid (HR.out.symm.trans hg)
      clear hno hg HR
      obtain ⟨x1, x2, x3, f', ⟨⟨_, t1⟩, t1', t1''⟩, ⟨⟨_, t2⟩, t2', t2''⟩, ⟨⟨_, t3⟩, t3', t3''⟩, hf7, hg7, u0, u1, u2, -⟩ := store_three (rowIs_three HN2.out) 0 (by decide) (.string ⟨#[]⟩) (.string ⟨#[]⟩) (.slice none 0 0)
      simp only [Nat.zero_add] at t2 t2' t2'' t3 t3' t3'' u1 u2
      have HG := Lib.hid (And.intro hf7 (And.intro hg7 (And.intro u0 (And.intro u1 u2))))
      clear hf7 hg7 u0 u1 u2
      go_wp2_with fail
      obtain ⟨hf7, hg7, u0, u1, u2⟩ := HG.out
      have d0 := hf7.cell (show 0 < 3 by decide)
      have d1 := hf7.cell (show 1 < 3 by decide)
      have d2 := hf7.cell (show 2 < 3 by decide)
      rw [u0] at d0
      rw [u1] at d1
      rw [u2] at d2
      refine bodyPost_ret (v := .tuple #[.agg #[.string ⟨#[]⟩, .string ⟨#[]⟩, .slice none 0 0], .bool false]) (by simp [results, Tryz.results34, go_sem, d0, d1, d2]) rfl ?_
      have hbel := HB2.out.grown hg7 HB2.out.size (fun r e => by cases e; omega)
      exact ⟨⟨_, by rw [HRES.out], by rw [HRES.out]; exact isTh_zero _⟩, hbel⟩
end Go.Proofs.YtdckldfekepopaaGreatDoor

namespace Go.Proofs.YtdckldfekepopaaGreatDoor
open Go.RowKit Go.Deep

set_option maxRecDepth 100000 in
set_option maxHeartbeats 16000000 in
theorem rCreate_any (s : St) (K : ByteArray) (ps : List G) (v u : Value) (w : World) (hF : fineS s) (hP : fineG ps) (hK : K.size ≤ maxLen) (h : isS w s v) (hg : isGs w ps u) :
    Calls Tryz.prog 9 #[v, .string K, u] w fun e w' => (∃ v', e = .returned (.tuple #[v', .string (createL s K ps).2.1, .int .i64 (createL s K ps).2.2]) ∧ isS w' (createL s K ps).1 v') ∧ Below w.heap.size w w' := by
  obtain ⟨o, cap, rfl, hts, hm⟩ := isS_two h
  obtain ⟨W2, hW2⟩ : ∃ W2, (w.alloc (.cells #[.slice o s.l.length cap, .int .i64 s.made] 31)).alloc (.cells #[.slice none 0 0, .int .i64 0] 31) = W2 := ⟨_, rfl⟩
  have HB0 : Hid (RrW w o s.l.length cap s.made W2) := Lib.hid (hW2 ▸ RrW.start w o s.l.length cap s.made)
  obtain ⟨r0, r1⟩ := two_cells HB0.out.box
  have HC : Hid (∀ w1, KB w w1 → Calls Tryz.prog 27 #[.agg #[.slice o s.l.length cap, .int .i64 s.made]] w1 fun e w' => e = .returned (.int .i64 (checkS s)) ∧ Below w1.heap.size w1 w') := Lib.hid fun w1 hk => rCheck10_any s _ w1 hF (isS_below hk h)
  obtain ⟨ou, cu, rfl⟩ : ∃ ou cu, u = .slice ou ps.length cu := by obtain ⟨a, cap, ⟨o, rfl, _⟩, _⟩ := hg; exact ⟨_, _, rfl⟩
  have HW : Hid (∀ w1, KB w w1 → Calls Tryz.prog 28 #[.string K, .slice ou ps.length cu] w1 fun e w' => e = .returned (.int .i64 (checkL K ps)) ∧ Below w1.heap.size w1 w') := Lib.hid fun w1 hk => rCheck_any K ps _ w1 hP.1 (fun g hg => (hP.2 g hg).1) (isGs_below hk hg)
  have HKN : Hid (∀ w1, KB w w1 → Calls Tryz.prog 29 #[.slice ou ps.length cu] w1 fun e w' => e = .returned (.bool (!ps.any (·.unk))) ∧ w1 = w') := Lib.hid fun w1 hk => rknown_any ps _ w1 hP.1 (isGs_below hk hg)
  have HPH : Hid (∀ w1, -9223372036854775808 ≤ s.made + 1 ∧ s.made + 1 ≤ 9223372036854775807 → Calls Tryz.prog 30 #[.int .i64 (s.made + 1)] w1 fun e w' => e = .returned (.tuple #[.string (if 1 ≤ s.made + 1 ∧ s.made + 1 ≤ 1099511627776 then physS (s.made + 1) else ⟨#[]⟩), .int .i64 (if 1 ≤ s.made + 1 ∧ s.made + 1 ≤ 1099511627776 then 0 else 2)]) ∧ Below w1.heap.size w1 w') := Lib.hid fun w1 hr => rPhys_any _ w1 hr
  have hok : checkS s = 0 → 0 ≤ s.made ∧ s.made ≤ 1099511627776 := fun h => ⟨(checkS_ok.1 h).1, (checkS_ok.1 h).2.1⟩
  have htwo : checkS s ≠ 0 → checkS s = 2 := fun h => (checkS_two s).resolve_left h
  have hwr : wrongL K ps = if checkL K ps = 0 then (if ps.any (·.unk) then 91 else 0) else checkL K ps := rfl
  have HTS := Lib.hid hts
  have HGS := Lib.hid hg
  have HFF := Lib.hid (And.intro hF (And.intro hP hK))
  unfold createL
  rw [hwr]
  generalize checkS s = C at *
  generalize checkL K ps = X at *
  generalize ps.any (·.unk) = U at *
  clear h hts hg hF hP hK hwr
  by_cases hC : C = 0
  · subst hC
    rw [if_pos rfl]
    obtain ⟨hm1, hm2⟩ := hok rfl
    by_cases hX : X = 0
    · subst hX
      rw [if_pos rfl]
      cases U with
      | true =>
        rw [if_pos rfl, if_neg (by decide)]
        clear hok HPH HTS HGS HFF htwo
        generalize s.l.length = n at *
        generalize s.made = md at *
        generalize ps.length = pn at *
        go_enter Tryz.func9, Tryz.ntmps9
        go_wp2_with fail
        try rw [hW2]
        clear hW2
        refine (HC.out _ HB0.out.bel).mono ?_
        rintro e w5 ⟨rfl, hb5⟩
        have H5 := Lib.hid (HB0.out.below hb5)
        obtain ⟨r0, r1⟩ := two_cells H5.out.box
        clear HB0 hb5 HC
        go_wp2_with fail
        refine (HW.out _ H5.out.bel).mono ?_
        rintro e w6 ⟨rfl, hb6⟩
        have H6 := Lib.hid (H5.out.below hb6)
        clear H5 hb6 HW r0 r1
        go_wp2_with fail
        refine (HKN.out _ H6.out.bel).mono ?_
        rintro e w7 ⟨rfl, rfl⟩
        clear HKN
        obtain ⟨x1, x2, ⟨⟨_, q1⟩, q1', q1''⟩, ⟨⟨_, q2⟩, q2', q2''⟩, d0, d1, hg8, -⟩ := store_two H6.out.res (.slice none 0 0) (.int .i64 0)
        have HF8 := Lib.hid (H6.out.fin hg8)
        clear hg8
        go_wp2_with fail
        refine bodyPost_ret (v := .tuple #[.agg #[.slice none 0 0, .int .i64 0], .string ⟨#[]⟩, .int .i64 91]) (by simp [results, Tryz.results9, go_sem, d0, d1]) rfl ?_
        exact ⟨⟨_, rfl, isS_zero _⟩, HF8.out⟩
      | false =>
        rw [if_neg Bool.false_ne_true, if_pos rfl]
        by_cases hM : s.made = 1099511627776
        · rw [if_pos hM]
          have y1 : decide ((1099511627776 : Int) ≤ s.made) = true := decide_eq_true (by omega)
          clear hok HPH HTS HGS HFF htwo hm hm1 hm2 hM
          generalize s.l.length = n at *
          generalize s.made = md at *
          generalize ps.length = pn at *
          go_enter Tryz.func9, Tryz.ntmps9
          go_wp2_with fail
          try rw [hW2]
          clear hW2
          refine (HC.out _ HB0.out.bel).mono ?_
          rintro e w5 ⟨rfl, hb5⟩
          have H5 := Lib.hid (HB0.out.below hb5)
          obtain ⟨r0, r1⟩ := two_cells H5.out.box
          clear HB0 hb5 HC
          go_wp2_with fail
          refine (HW.out _ H5.out.bel).mono ?_
          rintro e w6 ⟨rfl, hb6⟩
          have H6 := Lib.hid (H5.out.below hb6)
          obtain ⟨r0, r1⟩ := two_cells H6.out.box
          clear H5 hb6 HW
          go_wp2_with fail
          refine (HKN.out _ H6.out.bel).mono ?_
          rintro e w7 ⟨rfl, rfl⟩
          clear HKN
          obtain ⟨x1, x2, ⟨⟨_, q1⟩, q1', q1''⟩, ⟨⟨_, q2⟩, q2', q2''⟩, d0, d1, hg8, -⟩ := store_two H6.out.res (.slice none 0 0) (.int .i64 0)
          have HF8 := Lib.hid (H6.out.fin hg8)
          clear hg8
          go_wp2_with fail
          refine bodyPost_ret (v := .tuple #[.agg #[.slice none 0 0, .int .i64 0], .string ⟨#[]⟩, .int .i64 3]) (by simp [results, Tryz.results9, go_sem, d0, d1]) rfl ?_
          exact ⟨⟨_, rfl, isS_zero _⟩, HF8.out⟩
        · rw [if_neg hM]
          have y1 : decide ((1099511627776 : Int) ≤ s.made) = false := decide_eq_false (by omega)
          have HPQ := fun w1 => HPH.out w1 (by omega)
          rw [if_pos ⟨by omega, by omega⟩, if_pos ⟨by omega, by omega⟩] at HPQ
          have HPQ := Lib.hid HPQ
          have hwr : IntKind.i64.wrap (s.made + 1) = s.made + 1 := IntWalk.i64_in _ (by omega)
          obtain ⟨i0, hi, hz0, hz1, hz2⟩ := info_parts infoT10
          obtain ⟨a, cap', ⟨o', e', hc1, hc2, ho⟩, hBa, hat⟩ := isTsa_of HTS.out
          simp only [Value.slice.injEq, true_and] at e'
          obtain ⟨rfl, rfl⟩ := e'
          obtain ⟨olds, hol, hoc⟩ := isTLa_of s.l a hat
          have HOL := Lib.hid (And.intro hol hoc)
          have HA := Lib.hid ho
          have hps : (physS (s.made + 1)).size ≤ maxLen := by
            have : (physS (s.made + 1)).size = (112 :: Nu.txt (s.made + 1)).length := Nu.size_arr _
            have := Nu.txt_len (s.made + 1)
            simp only [List.length_cons] at *
            unfold maxLen; omega
          have HPS := Lib.hid (And.intro hps HFF.out.2.2)
          have hl1000 := HFF.out.1.1
          have HMR : Hid (-9223372036854775808 ≤ s.made + 1 ∧ s.made + 1 ≤ 9223372036854775807) := Lib.hid (by omega)
          unfold maxLen at hc2
          generalize physS (s.made + 1) = PH at *
          clear hok HPH hm hm1 hm2 hM hat hol hoc ho hps hBa htwo
          go_enter Tryz.func9, Tryz.ntmps9
          go_wp2_with fail
          try rw [hW2]
          clear hW2
          refine (HC.out _ HB0.out.bel).mono ?_
          rintro e w5 ⟨rfl, hb5⟩
          have H5 := Lib.hid (HB0.out.below hb5)
          obtain ⟨r0, r1⟩ := two_cells H5.out.box
          clear HB0 hb5 HC
          go_wp2_with fail
          refine (HW.out _ H5.out.bel).mono ?_
          rintro e w6 ⟨rfl, hb6⟩
          have H6 := Lib.hid (H5.out.below hb6)
          obtain ⟨r0, r1⟩ := two_cells H6.out.box
          clear H5 hb6 HW
          go_wp2_with fail
          refine (HKN.out _ H6.out.bel).mono ?_
          rintro e w7 ⟨rfl, rfl⟩
          clear HKN
          have hgr0 : GR w o s.l.length cap s.made [] (s.made + 1) w6.heap.size 0 0 none [] (w6.alloc (.cells #[.slice none 0 0, .int .i64 (s.made + 1)] 31)) := ⟨H6.out.below kbA, H6.out.sz, by simp, World.alloc_heap_new _ _, ⟨rfl, .inl ⟨rfl, rfl⟩⟩, rfl, by unfold isTLa; rfl⟩
          have HG0 := Lib.hid hgr0
          have HS0 := Lib.hid (World.size_alloc w6 (.cells #[.slice none 0 0, .int .i64 (s.made + 1)] 31))
          obtain ⟨s0, s1⟩ := two_cells hgr0.out
          obtain ⟨r0, r1⟩ := two_cells hgr0.rr.box
          have hnews : ∀ j u, olds[j]? = some u → (w6.alloc (.cells #[.slice none 0 0, .int .i64 (s.made + 1)] 31)).cell? (a.add j) = some u := fun j u hj => cell_below hgr0.rr.bel _ _ (HOL.out.2 j u hj)
          have HNE := Lib.hid hnews
          clear hgr0 hnews
          generalize hbo : w6.heap.size = bo at *
          go_wp2_with (at_builtin; refine wpList_append_row_at rfl _ _ 22 rfl (bo + 1) 52 i0 _ 3 56 Tryz.underlying22 hi hz0 hz1 hz2 rfl (by decide) _ 0 [] rfl HG0.out.own o a s.l.length cap olds rfl HA.out (isTLa_len _ _ HOL.out.1) HNE.out (isTLa_one _ _ HOL.out.1) (by unfold maxLen; omega) (by omega) (by rw [HS0.out]; omega) ?_)
          intro o1 c1 w8 own8 gr8 at8
          obtain ⟨y1, ⟨⟨_, t1⟩, t1', t1''⟩, -, -, hgr1⟩ := GR.push (M := s.l) (ys := olds) HG0.out gr8 own8 (by omega) HOL.out.1
          have HG1 := Lib.hid hgr1
          obtain ⟨s0, s1⟩ := two_cells hgr1.out
          clear own8 gr8 at8 hgr1 HG0 HS0 HNE
          go_wp2_with fail
          refine (HPQ.out _).mono ?_
          rintro e w9 ⟨rfl, hb9⟩
          have hgr2 := HG1.out.below hb9
          have hgr3 := hgr2.below (kbA (o := .cells #[.string PH, .string K, .slice ou ps.length cu] 52))
          obtain ⟨s0, s1⟩ := two_cells hgr2.out
          have HG3 := Lib.hid hgr3
          have hsz : bo + 1 ≤ (w9.alloc (.cells #[.string PH, .string K, .slice ou ps.length cu] 52)).heap.size := by have := hgr3.bo2; omega
          have HSZ := Lib.hid hsz
          clear hb9 HG1 hgr2 hgr3 HPQ hsz
          go_wp2_with (at_builtin; refine wpList_append_row_at rfl _ _ 22 rfl (bo + 1) 52 i0 _ 3 56 Tryz.underlying22 hi hz0 hz1 hz2 rfl (by decide) _ s.l.length olds rfl HG3.out.own (some ⟨w9.heap.size, 0, none⟩) ⟨w9.heap.size, 0, none⟩ 1 1 [.string PH, .string K, .slice ou ps.length cu] rfl (fun _ => rfl) rfl news_three ones_three (by unfold maxLen; omega) (by omega) HSZ.out ?_)
          intro o2 c2 w10 own10 gr10 at10
          obtain ⟨y2, ⟨⟨_, t2⟩, t2', t2''⟩, -, -, hgr4⟩ := GR.push (M := [⟨PH, K, ps⟩]) HG3.out gr10 own10 rfl (isTLa_single (t := ⟨PH, K, ps⟩) (isGsa_of HGS.out) HPS.out.1 HPS.out.2)
          have HG4 := Lib.hid hgr4
          obtain ⟨s0, s1⟩ := two_cells hgr4.out
          obtain ⟨x1, x2, ⟨⟨_, q1⟩, q1', q1''⟩, ⟨⟨_, q2⟩, q2', q2''⟩, d0, d1, hg8, -⟩ := store_two hgr4.rr.res (.slice o2 (s.l.length + 1) c2) (.int .i64 (s.made + 1))
          have HF8 := Lib.hid (hgr4.fin hg8 HMR.out)
          clear own10 gr10 at10 hgr4 HG3 hg8
          go_wp2_with fail
          refine bodyPost_ret (v := .tuple #[.agg #[.slice o2 (s.l.length + 1) c2, .int .i64 (s.made + 1)], .string PH, .int .i64 0]) (by simp [results, Tryz.results9, go_sem, d0, d1]) rfl ?_
          exact ⟨⟨_, rfl, HF8.out.1⟩, HF8.out.2⟩
    · rw [if_neg hX]
      have z1 : (X == 0) = false := beqI hX
      have z2 : (X != 0) = true := bne_iff_ne.2 hX
      rw [if_neg hX]
      clear hok HPH HTS HGS HFF htwo hX
      generalize s.l.length = n at *
      generalize s.made = md at *
      generalize ps.length = pn at *
      go_enter Tryz.func9, Tryz.ntmps9
      go_wp2_with fail
      try rw [hW2]
      clear hW2
      refine (HC.out _ HB0.out.bel).mono ?_
      rintro e w5 ⟨rfl, hb5⟩
      have H5 := Lib.hid (HB0.out.below hb5)
      obtain ⟨r0, r1⟩ := two_cells H5.out.box
      clear HB0 hb5 HC
      go_wp2_with fail
      refine (HW.out _ H5.out.bel).mono ?_
      rintro e w6 ⟨rfl, hb6⟩
      have H6 := Lib.hid (H5.out.below hb6)
      clear H5 hb6 HW r0 r1
      obtain ⟨x1, x2, ⟨⟨_, q1⟩, q1', q1''⟩, ⟨⟨_, q2⟩, q2', q2''⟩, d0, d1, hg8, -⟩ := store_two H6.out.res (.slice none 0 0) (.int .i64 0)
      have HF8 := Lib.hid (H6.out.fin hg8)
      clear hg8
      go_wp2_with fail
      refine bodyPost_ret (v := .tuple #[.agg #[.slice none 0 0, .int .i64 0], .string ⟨#[]⟩, .int .i64 X]) (by simp [results, Tryz.results9, go_sem, d0, d1]) rfl ?_
      exact ⟨⟨_, rfl, isS_zero _⟩, HF8.out⟩
  · rw [if_neg hC]
    have hC2 := htwo hC
    subst hC2
    clear hok HPH HTS HGS HFF htwo hC
    generalize s.l.length = n at *
    generalize s.made = md at *
    generalize ps.length = pn at *
    go_enter Tryz.func9, Tryz.ntmps9
    go_wp2_with fail
    try rw [hW2]
    clear hW2
    refine (HC.out _ HB0.out.bel).mono ?_
    rintro e w5 ⟨rfl, hb5⟩
    have H5 := Lib.hid (HB0.out.below hb5)
    obtain ⟨r0, r1⟩ := two_cells H5.out.box
    clear HB0 hb5 HC
    clear r0 r1
    obtain ⟨x1, x2, ⟨⟨_, q1⟩, q1', q1''⟩, ⟨⟨_, q2⟩, q2', q2''⟩, d0, d1, hg8, -⟩ := store_two H5.out.res (.slice none 0 0) (.int .i64 0)
    have HF8 := Lib.hid (H5.out.fin hg8)
    clear hg8
    go_wp2_with fail
    refine bodyPost_ret (v := .tuple #[.agg #[.slice none 0 0, .int .i64 0], .string ⟨#[]⟩, .int .i64 2]) (by simp [results, Tryz.results9, go_sem, d0, d1]) rfl ?_
    exact ⟨⟨_, rfl, isS_zero _⟩, HF8.out⟩
end Go.Proofs.YtdckldfekepopaaGreatDoor
