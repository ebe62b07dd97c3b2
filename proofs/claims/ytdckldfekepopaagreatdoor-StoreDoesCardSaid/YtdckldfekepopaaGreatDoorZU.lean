/-
  Which given properties may be: the program's may and Check. · The program's Check.
-/
import Derived.Test.YtdckldfekepopaaGreatDoorZT
import Derived.StillTailTactics
set_option linter.unusedVariables false
set_option linter.unusedSimpArgs false
namespace Go.Proofs.YtdckldfekepopaaGreatDoor
open Go.RowKit Go.Maps Go.ChangeMaps Go.WideMaps

theorem isV_zero (W : World) : isV W zV (.agg #[.int .i8 0, .bool false, .int .i64 0, .string ⟨#[]⟩, .slice none 0 0, .slice none 0 0]) := by
  unfold zV isV
  refine ⟨_, _, rfl, by omega, by omega, by unfold maxLen; simp [ByteArray.size], ⟨⟨0, 0, none⟩, 0, ⟨none, rfl, Nat.le_refl _, by unfold maxLen; omega, fun h => by simp at h⟩, ?_⟩, ⟨⟨0, 0, none⟩, 0, ⟨none, rfl, Nat.le_refl _, by unfold maxLen; omega, fun h => by simp at h⟩, fun i h => by simp at h⟩⟩
  unfold isVs
  trivial
noncomputable def mayB (g : G) (q : Int) : Bool := if g.unk then (!decide (q = 2)) && sm g.v zV else holdsB g.v q

theorem isG_eight {W : World} {g : G} {v : Value} (h : isG W g v) : ∃ (k : Int) (b : Bool) (n : Int) (s : ByteArray) (o : Option Addr) (m c : Nat) (o2 : Option Addr) (m2 c2 : Nat), v = .agg #[.string g.nm, .bool g.unk, .int .i8 k, .bool b, .int .i64 n, .string s, .slice o m c, .slice o2 m2 c2] ∧ isV W g.v (.agg #[.int .i8 k, .bool b, .int .i64 n, .string s, .slice o m c, .slice o2 m2 c2]) := by
  obtain ⟨c0, c1, c2, c3, c4, c5, rfl, h2, h3⟩ := h
  obtain ⟨k, b, n, s, o, m, c, o2, m2, c2, e⟩ := isV_six h2
  simp only [Value.agg.injEq, Array.mk.injEq, List.cons.injEq, and_true] at e
  obtain ⟨rfl, rfl, rfl, rfl, rfl, rfl⟩ := e
  exact ⟨k, b, n, s, o, m, c, o2, m2, c2, rfl, h2⟩

set_option maxRecDepth 100000 in
set_option maxHeartbeats 4000000 in
theorem may_any (g : G) (q : Int) (hq : q = 2 ∨ q = 3 ∨ q = 4) (v : Value) (w : World) (hE : Env w) (hM : sizeV g.v ≤ 1000000) (hF : fineV g.v) (h : isG w g v) :
    Calls Tryz.prog 76 #[v, .int .i8 q] w fun e w' => e = .returned (.bool (mayB g q)) ∧ Below w.heap.size w w' := by
  obtain ⟨k, b, n, s, o, m, c, o2, m2, c2, rfl, hv⟩ := isG_eight h
  obtain ⟨nm, unk, x⟩ := g
  dsimp only at *
  have HB0 : Hid (KB w (w.alloc (.cells #[.string nm, .bool unk, .int .i8 k, .bool b, .int .i64 n, .string s, .slice o m c, .slice o2 m2 c2] 66))) := Lib.hid kbA
  have PH : Hid (∀ w1, KB (w.alloc (.cells #[.string nm, .bool unk, .int .i8 k, .bool b, .int .i64 n, .string s, .slice o m c, .slice o2 m2 c2] 66)) w1 → Calls Tryz.prog 96 #[.agg #[.int .i8 k, .bool b, .int .i64 n, .string s, .slice o m c, .slice o2 m2 c2], .int .i8 q] w1 fun e w' => e = .returned (.bool (holdsB x q)) ∧ KB (w.alloc (.cells #[.string nm, .bool unk, .int .i8 k, .bool b, .int .i64 n, .string s, .slice o m c, .slice o2 m2 c2] 66)) w') := Lib.hid fun w1 hK => Calls.kb hK (holds_any x q hq _ w1 ((hE.kb kbA).kb hK) hM hF (isV_below hK (isV_below kbA hv)))
  have PA : Hid (∀ w1, KB (w.alloc (.cells #[.string nm, .bool unk, .int .i8 k, .bool b, .int .i64 n, .string s, .slice o m c, .slice o2 m2 c2] 66)) w1 → Calls Tryz.prog 95 #[.agg #[.int .i8 k, .bool b, .int .i64 n, .string s, .slice o m c, .slice o2 m2 c2], .agg #[.int .i8 0, .bool false, .int .i64 0, .string ⟨#[]⟩, .slice none 0 0, .slice none 0 0]] w1 fun e w' => e = .returned (.bool (sm x zV)) ∧ KB (w.alloc (.cells #[.string nm, .bool unk, .int .i8 k, .bool b, .int .i64 n, .string s, .slice o m c, .slice o2 m2 c2] 66)) w') := Lib.hid fun w1 hK => Calls.kb hK (alikeZ_any x _ _ w1 (Nat.le_trans (hF x (self_in x)) (by omega)) (isV_below hK (isV_below kbA hv)) (isV_zero w1))
  have iv := infoV2
  unfold mayB
  dsimp only
  generalize holdsB x q = R at *
  generalize sm x zV = R2 at *
  clear h hE hM hF hv
  cases unk with
  | false =>
    rw [if_neg Bool.false_ne_true]
    go_enter Tryz.func76, Tryz.ntmps76
    go_wp2_with (go_at_call 96; refine (PH.out _ (Below.refl _ _)).mono ?_; rintro e w5 ⟨rfl, hb5⟩)
    go_ret
    exact ⟨rfl, HB0.out.trans (hb5.mono HB0.out.size)⟩
  | true =>
    rw [if_pos rfl]
    rcases hq with rfl | rfl | rfl
    · go_enter Tryz.func76, Tryz.ntmps76
      go_wp2_with fail
      go_ret
      exact ⟨rfl, HB0.out⟩
    · go_enter Tryz.func76, Tryz.ntmps76
      go_wp2_with (go_at_call 95; refine (PA.out _ (Below.refl _ _)).mono ?_; rintro e w5 ⟨rfl, hb5⟩)
      go_ret
      exact ⟨rfl, HB0.out.trans (hb5.mono HB0.out.size)⟩
    · go_enter Tryz.func76, Tryz.ntmps76
      go_wp2_with (go_at_call 95; refine (PA.out _ (Below.refl _ _)).mono ?_; rintro e w5 ⟨rfl, hb5⟩)
      go_ret
      exact ⟨rfl, HB0.out.trans (hb5.mono HB0.out.size)⟩
end Go.Proofs.YtdckldfekepopaaGreatDoor

namespace Go.Proofs.YtdckldfekepopaaGreatDoor
open Go.RowKit Go.Maps Go.ChangeMaps Go.WideMaps

/-- wpStill, shut: else each 'refine' lays all passed-over operations open. -/
structure WS (P : Program) (ops : Array Oper) (w : World) (Q : Act → Prop) (l : List Oper) (a : Act) : Prop where
  out : wpStill P ops w Q l a
theorem ws_one {P : Program} {ops : Array Oper} {w : World} {Q : Act → Prop} {a : Act} {o : Oper} {rest : List Oper} (h : ∀ K : Act → Prop, (∀ a, WS P ops w Q rest a → K a) → if Region.wanted o (yielded ops a.tmps) then o.still P a w K else K (a.put o.dst undef)) : WS P ops w Q (o :: rest) a :=
  ⟨wpStill_step fun K hK => h K fun a ha => hK a ha.out⟩
theorem ws_nil {P : Program} {ops : Array Oper} {w : World} {Q : Act → Prop} {a : Act} (h : Q a) : WS P ops w Q [] a := ⟨wpStill_nil h⟩
theorem run_geq_str (s t : ByteArray) (W : World) : (binOp BinOp.geq 9 (.string s) (.string t)).run Tryz.prog W = .ok (.bool (!Op.bytesLess s.toList t.toList)) W := by kernel_rfl
theorem spec_facts {K s : ByteArray} {x : RwS} (h : spec K s = some x) : x.K = K ∧ x.nm = s ∧ (x.q = 2 ∨ x.q = 3 ∨ x.q = 4) ∧ x ∈ rowsL := by
  unfold spec specJ at h
  have h1 := List.find?_some h
  simp only [Bool.and_eq_true, decide_eq_true_eq] at h1
  have h2 := List.mem_of_mem_take (List.mem_reverse.1 (List.mem_of_find?_eq_some h))
  refine ⟨h1.1, h1.2, ?_, h2⟩
  have key : ∀ y ∈ rowsL, y.q = 2 ∨ y.q = 3 ∨ y.q = 4 := by decide
  exact key x h2

theorem isGat_eight {W : World} {g : G} {a : Addr} (h : isGat W g a) : ∃ (k : Int) (b : Bool) (n : Int) (s : ByteArray) (o : Option Addr) (m c : Nat) (o2 : Option Addr) (m2 c2 : Nat),
    W.cell? a = some (.string g.nm) ∧ W.cell? ⟨a.block, a.off + 1, none⟩ = some (.bool g.unk) ∧
    W.cell? ⟨a.block, a.off + 2, none⟩ = some (.int .i8 k) ∧ W.cell? ⟨a.block, a.off + 3, none⟩ = some (.bool b) ∧ W.cell? ⟨a.block, a.off + 4, none⟩ = some (.int .i64 n) ∧ W.cell? ⟨a.block, a.off + 5, none⟩ = some (.string s) ∧ W.cell? ⟨a.block, a.off + 6, none⟩ = some (.slice o m c) ∧ W.cell? ⟨a.block, a.off + 7, none⟩ = some (.slice o2 m2 c2) ∧
    isG W g (.agg #[.string g.nm, .bool g.unk, .int .i8 k, .bool b, .int .i64 n, .string s, .slice o m c, .slice o2 m2 c2]) := by
  obtain ⟨c0, c1, c2, c3, c4, c5, g0, g1, g2, g3, g4, g5, g6, g7, h2, h3⟩ := h
  obtain ⟨k, b, n, s, o, m, c, o2, m2, c2', e⟩ := isV_six h2
  simp only [Value.agg.injEq, Array.mk.injEq, List.cons.injEq, and_true] at e
  obtain ⟨rfl, rfl, rfl, rfl, rfl, rfl⟩ := e
  exact ⟨k, b, n, s, o, m, c, o2, m2, c2', g0, g1, g2, g3, g4, g5, g6, g7, ⟨_, _, _, _, _, _, rfl, h2, h3⟩⟩

/-- One property of a row: its type has it, its name rises, its value may be. -/
noncomputable def stepB (K : ByteArray) (L : List G) (i : Nat) : Bool :=
  match spec K (L.getD i ⟨⟨#[]⟩, false, zV⟩).nm with
  | none => false
  | some x => (decide (i = 0) || bl (L.getD (i - 1) ⟨⟨#[]⟩, false, zV⟩).nm (L.getD i ⟨⟨#[]⟩, false, zV⟩).nm) && mayB (L.getD i ⟨⟨#[]⟩, false, zV⟩) x.q
noncomputable def okRow (K : ByteArray) (L : List G) : Bool := (List.range L.length).all (stepB K L)
noncomputable def checkL (K : ByteArray) (L : List G) : Int := if known K then (if okRow K L then 0 else 91) else 90
theorem okRow_iff {K : ByteArray} {L : List G} : okRow K L = true ↔ ∀ i, i < L.length → stepB K L i = true := by
  unfold okRow
  rw [List.all_eq_true]
  exact ⟨fun h i hi => h i (List.mem_range.2 hi), fun h i hi => h i (List.mem_range.1 hi)⟩
theorem okRow_no {K : ByteArray} {L : List G} {i : Nat} (hi : i < L.length) (h : stepB K L i = false) : okRow K L = false := by
  rw [Bool.eq_false_iff]
  intro h'
  rw [okRow_iff.1 h' i hi] at h
  cases h
theorem getD_g {L : List G} {i : Nat} (h : i < L.length) : L.getD i ⟨⟨#[]⟩, false, zV⟩ = L[i] := by
  rw [List.getD_eq_getElem?_getD, List.getElem?_eq_getElem h]; rfl

set_option maxRecDepth 100000 in
set_option maxHeartbeats 8000000 in
theorem Check_any (K : ByteArray) (L : List G) (v : Value) (w : World) (hE : Env9 w) (hK : K.size ≤ 400) (hl : L.length ≤ 1000000) (hP : ∀ g ∈ L, sizeV g.v ≤ 1000000 ∧ fineV g.v) (h : isGs w L v) :
    Calls Tryz.prog 48 #[.string K, v] w fun e w' => e = .returned (.int .i64 (checkL K L)) ∧ Below w.heap.size w w' := by
  obtain ⟨a, cap, ⟨o, rfl, hc1, hc2, ho⟩, hgs⟩ := h
  unfold maxLen at hc2
  have hkl : K.size ≤ maxLen := by unfold maxLen; omega
  have HT := Lib.hid (types_any w hE.2 (by have := hE.1.1; omega))
  have hw3 := hE.1.1
  have HE := Lib.hid hE
  have HG := Lib.hid hgs
  have HP := Lib.hid hP
  unfold checkL
  clear hE hgs hP
  by_cases hkn : known K = true
  · rw [if_pos hkn]
    obtain ⟨r, hr⟩ : ∃ r : Int, (if okRow K L = true then (0 : Int) else 91) = r := ⟨_, rfl⟩
    rw [hr]
    have HR := Lib.hid hr
    clear hr
    go_enter Tryz.func48, Tryz.ntmps48
    go_wp2_with (go_at_call 60; refine HT.out.mono ?_; rintro e w5 ⟨b, rfl, hb, ht5, hb5⟩; obtain ⟨b', hlk, hmap, hbb⟩ := ht5.yes hkn hkl true; simp only [if_true] at hlk; clear ht5)
    have HM := Lib.hid hmap
    have HB5 := Lib.hid hb5
    clear hmap hb5 hlk HT
    go_loopw [21] (fun i wr => ∃ (j : Nat), j ≤ L.length ∧ i = .int .i64 j ∧ Hid (∀ i, i < j → stepB K L i = true) ∧ Hid (Below w5.heap.size w5 wr)) (fun i _ => L.length - (intOf i).toNat)
    case atStart => exact ⟨0, by omega, rfl, Lib.hid (fun i hi => absurd hi (by omega)), Lib.hid (Below.refl _ _)⟩
    case round =>
      obtain ⟨j, hj, rfl, hA, hB⟩ := hrel
      by_cases hlt : j < L.length
      · obtain rfl := ho (by omega)
        have hBw : Below w.heap.size w wr := HB5.out.trans (hB.out.mono HB5.out.size)
        obtain ⟨k, b1, n, s, o1, m, c, o2, m2, c2, q0, q1, q2, q3, q4, q5, q6, q7, hg⟩ := isGat_eight (isGat_below hBw (HG.out j hlt))
        have hp := HP.out L[j] (List.getElem_mem hlt)
        have hnl : L[j].nm.size ≤ maxLen := by obtain ⟨_, _, _, _, _, _, _, _, h⟩ := hg; exact h
        have hlk := (HM.out.kept ((grown_bel hB.out).trans (World.grownBy_alloc wr (.cells #[.string L[j].nm, .bool L[j].unk, .int .i8 k, .bool b1, .int .i64 n, .string s, .slice o1 m c, .slice o2 m2 c2] 66) none)) (by simp)).look lawS Tryz.underlying9 Tryz.underlying100 true (zeroSp _) hnl
        have hbz : wr.heap.size < (wr.alloc (.cells #[.string L[j].nm, .bool L[j].unk, .int .i8 k, .bool b1, .int .i64 n, .string s, .slice o1 m c, .slice o2 m2 c2] 66)).heap.size := by simp
        cases hsp : spec K L[j].nm with
        | none =>
          rw [hsp] at hlk
          simp only [Option.map_none, Option.getD_none, Option.isSome_none, if_true] at hlk
          have HBN := Lib.hid (((Below.refl wr.heap.size wr).alloc (Nat.le_refl _) (.cells #[.string L[j].nm, .bool L[j].unk, .int .i8 k, .bool b1, .int .i64 n, .string s, .slice o1 m c, .slice o2 m2 c2] 66)).alloc (by simp) (.cells #[.string ⟨#[]⟩, .int .i8 0, .bool false] 93))
          have HR2 : Hid (r = 91) := Lib.hid (by rw [← HR.out, okRow_no hlt (by unfold stepB; rw [getD_g hlt, hsp])]; rfl)
          clear hg hp hA hsp HR HP HG HM
          generalize L[j] = g at *
          go_wp2_with fail
          go_quiet (fail)
          go_wp2_with fail
          go_ret
          exact ⟨by rw [HR2.out]; rfl, hBw.trans ((HBN.out.mono hBw.size).trans (drewB _ _ _))⟩
        | some x =>
          obtain ⟨_, hxn, hxq, _⟩ := spec_facts hsp
          rw [hsp] at hlk
          simp only [Option.map_some, Option.getD_some, Option.isSome_some, if_true, encSp] at hlk
          have hstep : stepB K L j = ((decide (j = 0) || bl (L.getD (j - 1) ⟨⟨#[]⟩, false, zV⟩).nm L[j].nm) && mayB L[j] x.q) := by unfold stepB; rw [getD_g hlt, hsp]
          have HBX := Lib.hid (((Below.refl wr.heap.size wr).alloc (Nat.le_refl _) (.cells #[.string L[j].nm, .bool L[j].unk, .int .i8 k, .bool b1, .int .i64 n, .string s, .slice o1 m c, .slice o2 m2 c2] 66)).alloc (by simp) (.cells #[.string x.nm, .int .i8 x.q, .bool x.r] 93))
          have PM : Hid (∀ w1, KB ((wr.alloc (.cells #[.string L[j].nm, .bool L[j].unk, .int .i8 k, .bool b1, .int .i64 n, .string s, .slice o1 m c, .slice o2 m2 c2] 66)).alloc (.cells #[.string x.nm, .int .i8 x.q, .bool x.r] 93)) w1 → Calls Tryz.prog 76 #[.agg #[.string L[j].nm, .bool L[j].unk, .int .i8 k, .bool b1, .int .i64 n, .string s, .slice o1 m c, .slice o2 m2 c2], .int .i8 x.q] w1 fun e w' => e = .returned (.bool (mayB L[j] x.q)) ∧ KB ((wr.alloc (.cells #[.string L[j].nm, .bool L[j].unk, .int .i8 k, .bool b1, .int .i64 n, .string s, .slice o1 m c, .slice o2 m2 c2] 66)).alloc (.cells #[.string x.nm, .int .i8 x.q, .bool x.r] 93)) w') :=
            Lib.hid fun w1 hK => Calls.kb hK (may_any L[j] x.q hxq _ w1 (((HE.out.kb hBw).kb (HBX.out.trans (hK.mono HBX.out.size))).1) hp.1 hp.2 (isG_below (HBX.out.trans (hK.mono HBX.out.size)) hg))
          have e0 : ((wr.alloc (.cells #[.string L[j].nm, .bool L[j].unk, .int .i8 k, .bool b1, .int .i64 n, .string s, .slice o1 m c, .slice o2 m2 c2] 66)).alloc (.cells #[.string x.nm, .int .i8 x.q, .bool x.r] 93)).cell? ⟨wr.heap.size, 0, none⟩ = some (.string L[j].nm) := by simp
          have e1 : ((wr.alloc (.cells #[.string L[j].nm, .bool L[j].unk, .int .i8 k, .bool b1, .int .i64 n, .string s, .slice o1 m c, .slice o2 m2 c2] 66)).alloc (.cells #[.string x.nm, .int .i8 x.q, .bool x.r] 93)).cell? ⟨wr.heap.size, 1, none⟩ = some (.bool L[j].unk) := by simp
          have e2 : ((wr.alloc (.cells #[.string L[j].nm, .bool L[j].unk, .int .i8 k, .bool b1, .int .i64 n, .string s, .slice o1 m c, .slice o2 m2 c2] 66)).alloc (.cells #[.string x.nm, .int .i8 x.q, .bool x.r] 93)).cell? ⟨wr.heap.size, 2, none⟩ = some (.int .i8 k) := by simp
          have e3 : ((wr.alloc (.cells #[.string L[j].nm, .bool L[j].unk, .int .i8 k, .bool b1, .int .i64 n, .string s, .slice o1 m c, .slice o2 m2 c2] 66)).alloc (.cells #[.string x.nm, .int .i8 x.q, .bool x.r] 93)).cell? ⟨wr.heap.size, 3, none⟩ = some (.bool b1) := by simp
          have e4 : ((wr.alloc (.cells #[.string L[j].nm, .bool L[j].unk, .int .i8 k, .bool b1, .int .i64 n, .string s, .slice o1 m c, .slice o2 m2 c2] 66)).alloc (.cells #[.string x.nm, .int .i8 x.q, .bool x.r] 93)).cell? ⟨wr.heap.size, 4, none⟩ = some (.int .i64 n) := by simp
          have e5 : ((wr.alloc (.cells #[.string L[j].nm, .bool L[j].unk, .int .i8 k, .bool b1, .int .i64 n, .string s, .slice o1 m c, .slice o2 m2 c2] 66)).alloc (.cells #[.string x.nm, .int .i8 x.q, .bool x.r] 93)).cell? ⟨wr.heap.size, 5, none⟩ = some (.string s) := by simp
          have e6 : ((wr.alloc (.cells #[.string L[j].nm, .bool L[j].unk, .int .i8 k, .bool b1, .int .i64 n, .string s, .slice o1 m c, .slice o2 m2 c2] 66)).alloc (.cells #[.string x.nm, .int .i8 x.q, .bool x.r] 93)).cell? ⟨wr.heap.size, 6, none⟩ = some (.slice o1 m c) := by simp
          have e7 : ((wr.alloc (.cells #[.string L[j].nm, .bool L[j].unk, .int .i8 k, .bool b1, .int .i64 n, .string s, .slice o1 m c, .slice o2 m2 c2] 66)).alloc (.cells #[.string x.nm, .int .i8 x.q, .bool x.r] 93)).cell? ⟨wr.heap.size, 7, none⟩ = some (.slice o2 m2 c2) := by simp
          have f0 : ((wr.alloc (.cells #[.string L[j].nm, .bool L[j].unk, .int .i8 k, .bool b1, .int .i64 n, .string s, .slice o1 m c, .slice o2 m2 c2] 66)).alloc (.cells #[.string x.nm, .int .i8 x.q, .bool x.r] 93)).cell? ⟨wr.heap.size + 1, 0, none⟩ = some (.string x.nm) := by simp
          have f1 : ((wr.alloc (.cells #[.string L[j].nm, .bool L[j].unk, .int .i8 k, .bool b1, .int .i64 n, .string s, .slice o1 m c, .slice o2 m2 c2] 66)).alloc (.cells #[.string x.nm, .int .i8 x.q, .bool x.r] 93)).cell? ⟨wr.heap.size + 1, 1, none⟩ = some (.int .i8 x.q) := by simp
          have f2 : ((wr.alloc (.cells #[.string L[j].nm, .bool L[j].unk, .int .i8 k, .bool b1, .int .i64 n, .string s, .slice o1 m c, .slice o2 m2 c2] 66)).alloc (.cells #[.string x.nm, .int .i8 x.q, .bool x.r] 93)).cell? ⟨wr.heap.size + 1, 2, none⟩ = some (.bool x.r) := by simp
          obtain ⟨M, hM⟩ : ∃ M, mayB L[j] x.q = M := ⟨_, rfl⟩
          rw [hM] at PM hstep
          by_cases hj00 : j = 0
          · rw [decide_eq_true hj00, Bool.true_or, Bool.true_and] at hstep
            have dj : decide ((0 : Int) < (j : Int)) = false := decide_eq_false (by omega)
            have dj2 : decide (0 < j) = false := decide_eq_false (by omega)
            clear hM hp hg HP HM hsp hxn hxq
            cases M with
            | false =>
              have HR2 : Hid (r = 91) := Lib.hid (by rw [← HR.out, okRow_no hlt hstep]; rfl)
              clear hA hstep HR HG hj00
              generalize L[j] = g at *
              go_wp2_with fail
              generalize ((wr.alloc (.cells #[.string g.nm, .bool g.unk, .int .i8 k, .bool b1, .int .i64 n, .string s, .slice o1 m c, .slice o2 m2 c2] 66)).alloc (.cells #[.string x.nm, .int .i8 x.q, .bool x.r] 93)) = W2 at *
              refine wp_region_still_tail 21 (by kernel_rfl) (by kernel_rfl) ?_
              simp only [List.take_succ_cons, List.take_zero, List.drop_succ_cons, List.drop_zero]
              refine WS.out ?_
              repeat (refine ws_one (fun K hK => ?_); go_simp; refine hK _ ?_; clear hK K)
              refine ws_nil ?_
              go_wp2_with (go_at_call 76; refine (PM.out _ (drewB1 _ _)).mono ?_; rintro e w6 ⟨rfl, hb6⟩)
              go_ret
              exact ⟨by rw [HR2.out]; rfl, hBw.trans ((HBX.out.trans (hb6.mono HBX.out.size)).mono hBw.size)⟩
            | true =>
              have HA2 : Hid (∀ i, i < j + 1 → stepB K L i = true) := Lib.hid fun i hi => by obtain rfl : i = j := (by omega); exact hstep
              clear hA hstep HR HG hj00
              generalize L[j] = g at *
              go_wp2_with fail
              generalize ((wr.alloc (.cells #[.string g.nm, .bool g.unk, .int .i8 k, .bool b1, .int .i64 n, .string s, .slice o1 m c, .slice o2 m2 c2] 66)).alloc (.cells #[.string x.nm, .int .i8 x.q, .bool x.r] 93)) = W2 at *
              refine wp_region_still_tail 21 (by kernel_rfl) (by kernel_rfl) ?_
              simp only [List.take_succ_cons, List.take_zero, List.drop_succ_cons, List.drop_zero]
              refine WS.out ?_
              repeat (refine ws_one (fun K hK => ?_); go_simp; refine hK _ ?_; clear hK K)
              refine ws_nil ?_
              go_wp2_with (go_at_call 76; refine (PM.out _ (drewB1 _ _)).mono ?_; rintro e w6 ⟨rfl, hb6⟩)
              go_roundw
              case rel => exact ⟨j + 1, by omega, by go_num, HA2, Lib.hid (hB.out.trans ((HBX.out.trans (hb6.mono HBX.out.size)).mono hB.out.size))⟩
              case measure => simp [intOf]; omega
          · have hq := isGat_below hBw (HG.out (j - 1) (by omega))
            obtain ⟨_, _, _, _, _, _, hq0, _⟩ := hq
            rw [getD_g (show j - 1 < L.length by omega), decide_eq_false hj00, Bool.false_or] at hstep
            obtain ⟨p, hpj⟩ : ∃ p, p = j - 1 := ⟨_, rfl⟩
            have hq0' : wr.cell? (a.add (p * 8)) = some (.string L[j - 1].nm) := by rw [hpj]; exact hq0
            have dj : decide ((0 : Int) < (j : Int)) = true := decide_eq_true (by omega)
            have dj2 : decide (0 < j) = true := decide_eq_true (by omega)
            have dw : IntKind.i64.wrap ((j : Int) - 1) = (p : Int) := by simp [IntKind.wrap, IntKind.bits, IntKind.signed]; omega
            have di1 : p < L.length := by omega
            clear hpj
            have hq2 := cell_below HBX.out _ _ hq0'
            cases hbl : bl L[j - 1].nm L[j].nm with
            | false =>
              rw [hbl, Bool.false_and] at hstep
              have HR2 : Hid (r = 91) := Lib.hid (by rw [← HR.out, okRow_no hlt hstep]; rfl)
              have hbl' : ∀ W, (binOp BinOp.geq 9 (.string L[j - 1].nm) (.string L[j].nm)).run Tryz.prog W = .ok (.bool true) W := fun W => by rw [run_geq_str, show Op.bytesLess L[j - 1].nm.toList L[j].nm.toList = false from hbl]; rfl
              clear hA hstep HR HG hM hp hg HP HM hsp hxn hxq PM hbl
              generalize L[j - 1].nm = pn at *
              generalize L[j] = g at *
              go_wp2_with fail
              generalize ((wr.alloc (.cells #[.string g.nm, .bool g.unk, .int .i8 k, .bool b1, .int .i64 n, .string s, .slice o1 m c, .slice o2 m2 c2] 66)).alloc (.cells #[.string x.nm, .int .i8 x.q, .bool x.r] 93)) = W2 at *
              go_quiet (fail)
              go_wp2_with fail
              go_ret
              exact ⟨by rw [HR2.out]; rfl, hBw.trans ((HBX.out.mono hBw.size).trans (drewB _ _ _))⟩
            | true =>
              rw [hbl, Bool.true_and] at hstep
              have hbl' : ∀ W, (binOp BinOp.geq 9 (.string L[j - 1].nm) (.string L[j].nm)).run Tryz.prog W = .ok (.bool false) W := fun W => by rw [run_geq_str, show Op.bytesLess L[j - 1].nm.toList L[j].nm.toList = true from hbl]; rfl
              cases M with
              | false =>
                have HR2 : Hid (r = 91) := Lib.hid (by rw [← HR.out, okRow_no hlt hstep]; rfl)
                clear hA hstep HR HG hM hp hg HP HM hsp hxn hxq hbl
                generalize L[j - 1].nm = pn at *
                generalize L[j] = g at *
                go_wp2_with fail
                generalize ((wr.alloc (.cells #[.string g.nm, .bool g.unk, .int .i8 k, .bool b1, .int .i64 n, .string s, .slice o1 m c, .slice o2 m2 c2] 66)).alloc (.cells #[.string x.nm, .int .i8 x.q, .bool x.r] 93)) = W2 at *
                refine wp_region_still_tail 21 (by kernel_rfl) (by kernel_rfl) ?_
                simp only [List.take_succ_cons, List.take_zero, List.drop_succ_cons, List.drop_zero]
                refine WS.out ?_
                repeat (refine ws_one (fun K hK => ?_); go_simp; refine hK _ ?_; clear hK K)
                refine ws_nil ?_
                go_wp2_with (go_at_call 76; refine (PM.out _ (drewB1 _ _)).mono ?_; rintro e w6 ⟨rfl, hb6⟩)
                go_ret
                exact ⟨by rw [HR2.out]; rfl, hBw.trans ((HBX.out.trans (hb6.mono HBX.out.size)).mono hBw.size)⟩
              | true =>
                have HA2 : Hid (∀ i, i < j + 1 → stepB K L i = true) := Lib.hid fun i hi => by
                  by_cases e : i = j
                  · rw [e]; exact hstep
                  · exact hA.out i (by omega)
                clear hA hstep HR HG hM hp hg HP HM hsp hxn hxq hbl
                generalize L[j - 1].nm = pn at *
                generalize L[j] = g at *
                go_wp2_with fail
                generalize ((wr.alloc (.cells #[.string g.nm, .bool g.unk, .int .i8 k, .bool b1, .int .i64 n, .string s, .slice o1 m c, .slice o2 m2 c2] 66)).alloc (.cells #[.string x.nm, .int .i8 x.q, .bool x.r] 93)) = W2 at *
                refine wp_region_still_tail 21 (by kernel_rfl) (by kernel_rfl) ?_
                simp only [List.take_succ_cons, List.take_zero, List.drop_succ_cons, List.drop_zero]
                refine WS.out ?_
                repeat (refine ws_one (fun K hK => ?_); go_simp; refine hK _ ?_; clear hK K)
                refine ws_nil ?_
                go_wp2_with (go_at_call 76; refine (PM.out _ (drewB1 _ _)).mono ?_; rintro e w6 ⟨rfl, hb6⟩)
                go_roundw
                case rel => exact ⟨j + 1, by omega, by go_num, HA2, Lib.hid (hB.out.trans ((HBX.out.trans (hb6.mono HBX.out.size)).mono hB.out.size))⟩
                case measure => simp [intOf]; omega
      · obtain rfl : j = L.length := by omega
        have HR2 : Hid (r = 0) := Lib.hid (by rw [← HR.out, if_pos (okRow_iff.2 hA.out)])
        have hBw : Below w.heap.size w wr := HB5.out.trans (hB.out.mono HB5.out.size)
        go_wp2_with fail
        go_ret
        exact ⟨by rw [HR2.out]; rfl, hBw⟩
  · rw [if_neg hkn]
    have hkn : known K = false := by simpa using hkn
    go_enter Tryz.func48, Tryz.ntmps48
    go_wp2_with (go_at_call 60; refine HT.out.mono ?_; rintro e w5 ⟨b, rfl, hb, ht5, hb5⟩; have hlk := ht5.no hkn hkl true; simp only [if_true] at hlk; clear ht5)
    go_ret
    exact ⟨rfl, hb5⟩
end Go.Proofs.YtdckldfekepopaaGreatDoor
