/-
  Which given properties may be: the program's may and Check. · The program's Check. · Rows of given properties by their names; which are unknown; which turn. · The program's Differ. · The helper's fixed values.
-/
import Derived.Test.YtkigeegahepnaaaGreatDoorGJ
import Derived.StillTailTactics
set_option linter.unusedVariables false
set_option linter.unusedSimpArgs false
namespace Go.Proofs.YtkigeegahepnaaaGreatDoor
open Go.RowKit Go.Maps Go.ChangeMaps Go.WideMaps

theorem isV_zero (W : World) : isV W zV (.agg #[.int .i8 0, .bool false, .int .i64 0, .string ⟨#[]⟩, .slice none 0 0, .slice none 0 0]) := by
  unfold zV isV
  refine ⟨_, _, rfl, by omega, by omega, by unfold maxLen; simp [ByteArray.size], ⟨⟨0, 0, none⟩, 0, ⟨none, rfl, Nat.le_refl _, by unfold maxLen; omega, fun h => by simp at h⟩, ?_⟩, ⟨⟨0, 0, none⟩, 0, ⟨none, rfl, Nat.le_refl _, by unfold maxLen; omega, fun h => by simp at h⟩, fun i h => by simp at h⟩⟩
  unfold isVs
  trivial
noncomputable def mayB (g : G) (q : Int) : Bool := if g.unk then (!decide (q = 2)) && sm g.v zV else holdsB g.v q

theorem isG_eight {W : World} {g : G} {v : Value} (h : isG W g v) : ∃ (k : Int) (b : Bool) (n : Int) (s : ByteArray) (o : Option Addr) (m c : Nat) (o2 : Option Addr) (m2 c2 : Nat), v = .agg #[.string g.nm, .bool g.unk, .int .i8 k, .bool b, .int .i64 n, .string s, .slice o m c, .slice o2 m2 c2] ∧ isV W g.v (.agg #[.int .i8 k, .bool b, .int .i64 n, .string s, .slice o m c, .slice o2 m2 c2]) := by
  obtain ⟨c0, c1, c2, c3, c4, c5, rfl, h2, h3⟩ := h
  obtain ⟨k, b, n, s, o, m, c, o2, m2, c2, e⟩ := isV_six h2
  simp only [Value.agg.injEq, Array.mk.injEq, List.cons.injEq, and_true] at e
  obtain ⟨rfl, rfl, rfl, rfl, rfl, rfl⟩ := e
  exact ⟨k, b, n, s, o, m, c, o2, m2, c2, rfl, h2⟩

set_option maxRecDepth 100000 in
set_option maxHeartbeats 4000000 in
theorem may_any (g : G) (q : Int) (hq : q = 2 ∨ q = 3 ∨ q = 4) (v : Value) (w : World) (hE : Env w) (hM : sizeV g.v ≤ 1000000) (hF : fineV g.v) (h : isG w g v) :
    Calls Tryz.prog 69 #[v, .int .i8 q] w fun e w' => e = .returned (.bool (mayB g q)) ∧ Below w.heap.size w w' := by
  obtain ⟨k, b, n, s, o, m, c, o2, m2, c2, rfl, hv⟩ := isG_eight h
  obtain ⟨nm, unk, x⟩ := g
  dsimp only at *
  have HB0 : Hid (KB w (w.alloc (.cells #[.string nm, .bool unk, .int .i8 k, .bool b, .int .i64 n, .string s, .slice o m c, .slice o2 m2 c2] 99))) := Lib.hid kbA
  have PH : Hid (∀ w1, KB (w.alloc (.cells #[.string nm, .bool unk, .int .i8 k, .bool b, .int .i64 n, .string s, .slice o m c, .slice o2 m2 c2] 99)) w1 → Calls Tryz.prog 90 #[.agg #[.int .i8 k, .bool b, .int .i64 n, .string s, .slice o m c, .slice o2 m2 c2], .int .i8 q] w1 fun e w' => e = .returned (.bool (holdsB x q)) ∧ KB (w.alloc (.cells #[.string nm, .bool unk, .int .i8 k, .bool b, .int .i64 n, .string s, .slice o m c, .slice o2 m2 c2] 99)) w') := Lib.hid fun w1 hK => Calls.kb hK (holds_any x q hq _ w1 ((hE.kb kbA).kb hK) hM hF (isV_below hK (isV_below kbA hv)))
  have PA : Hid (∀ w1, KB (w.alloc (.cells #[.string nm, .bool unk, .int .i8 k, .bool b, .int .i64 n, .string s, .slice o m c, .slice o2 m2 c2] 99)) w1 → Calls Tryz.prog 89 #[.agg #[.int .i8 k, .bool b, .int .i64 n, .string s, .slice o m c, .slice o2 m2 c2], .agg #[.int .i8 0, .bool false, .int .i64 0, .string ⟨#[]⟩, .slice none 0 0, .slice none 0 0]] w1 fun e w' => e = .returned (.bool (sm x zV)) ∧ KB (w.alloc (.cells #[.string nm, .bool unk, .int .i8 k, .bool b, .int .i64 n, .string s, .slice o m c, .slice o2 m2 c2] 99)) w') := Lib.hid fun w1 hK => Calls.kb hK (alikeZ_any x _ _ w1 (Nat.le_trans (hF x (self_in x)) (by omega)) (isV_below hK (isV_below kbA hv)) (isV_zero w1))
  have iv := infoV2
  unfold mayB
  dsimp only
  generalize holdsB x q = R at *
  generalize sm x zV = R2 at *
  clear h hE hM hF hv
  cases unk with
  | false =>
    rw [if_neg Bool.false_ne_true]
    go_enter Tryz.func69, Tryz.ntmps69
    go_wp2_with (go_at_call 90; refine (PH.out _ (Below.refl _ _)).mono ?_; rintro e w5 ⟨rfl, hb5⟩)
    go_ret
    exact ⟨rfl, HB0.out.trans (hb5.mono HB0.out.size)⟩
  | true =>
    rw [if_pos rfl]
    rcases hq with rfl | rfl | rfl
    · go_enter Tryz.func69, Tryz.ntmps69
      go_wp2_with fail
      go_ret
      exact ⟨rfl, HB0.out⟩
    · go_enter Tryz.func69, Tryz.ntmps69
      go_wp2_with (go_at_call 89; refine (PA.out _ (Below.refl _ _)).mono ?_; rintro e w5 ⟨rfl, hb5⟩)
      go_ret
      exact ⟨rfl, HB0.out.trans (hb5.mono HB0.out.size)⟩
    · go_enter Tryz.func69, Tryz.ntmps69
      go_wp2_with (go_at_call 89; refine (PA.out _ (Below.refl _ _)).mono ?_; rintro e w5 ⟨rfl, hb5⟩)
      go_ret
      exact ⟨rfl, HB0.out.trans (hb5.mono HB0.out.size)⟩
end Go.Proofs.YtkigeegahepnaaaGreatDoor

namespace Go.Proofs.YtkigeegahepnaaaGreatDoor
open Go.RowKit Go.Maps Go.ChangeMaps Go.WideMaps

/-- wpStill, shut: else each 'refine' lays all passed-over operations open. -/
structure WS (P : Program) (ops : Array Oper) (w : World) (Q : Act → Prop) (l : List Oper) (a : Act) : Prop where
  out : wpStill P ops w Q l a
theorem ws_one {P : Program} {ops : Array Oper} {w : World} {Q : Act → Prop} {a : Act} {o : Oper} {rest : List Oper} (h : ∀ K : Act → Prop, (∀ a, WS P ops w Q rest a → K a) → if Region.wanted o (yielded ops a.tmps) then o.still P a w K else K (a.put o.dst undef)) : WS P ops w Q (o :: rest) a :=
  ⟨wpStill_step fun K hK => h K fun a ha => hK a ha.out⟩
theorem ws_nil {P : Program} {ops : Array Oper} {w : World} {Q : Act → Prop} {a : Act} (h : Q a) : WS P ops w Q [] a := ⟨wpStill_nil h⟩
theorem run_geq_str (s t : ByteArray) (W : World) : (binOp BinOp.geq 9 (.string s) (.string t)).run Tryz.prog W = .ok (.bool (!Op.bytesLess s.toList t.toList)) W := by kernel_rfl
theorem spec_facts {K s : ByteArray} {x : RwS} (h : spec K s = some x) : x.K = K ∧ x.nm = s ∧ (x.q = 2 ∨ x.q = 3 ∨ x.q = 4) ∧ x ∈ rowsL := by
  unfold spec specJ at h
  have h1 := List.find?_some h
  simp only [Bool.and_eq_true, decide_eq_true_eq] at h1
  have h2 := List.mem_of_mem_take (List.mem_reverse.1 (List.mem_of_find?_eq_some h))
  refine ⟨h1.1, h1.2, ?_, h2⟩
  have key : ∀ y ∈ rowsL, y.q = 2 ∨ y.q = 3 ∨ y.q = 4 := by decide
  exact key x h2

theorem isGat_eight {W : World} {g : G} {a : Addr} (h : isGat W g a) : ∃ (k : Int) (b : Bool) (n : Int) (s : ByteArray) (o : Option Addr) (m c : Nat) (o2 : Option Addr) (m2 c2 : Nat),
    W.cell? a = some (.string g.nm) ∧ W.cell? ⟨a.block, a.off + 1, none⟩ = some (.bool g.unk) ∧
    W.cell? ⟨a.block, a.off + 2, none⟩ = some (.int .i8 k) ∧ W.cell? ⟨a.block, a.off + 3, none⟩ = some (.bool b) ∧ W.cell? ⟨a.block, a.off + 4, none⟩ = some (.int .i64 n) ∧ W.cell? ⟨a.block, a.off + 5, none⟩ = some (.string s) ∧ W.cell? ⟨a.block, a.off + 6, none⟩ = some (.slice o m c) ∧ W.cell? ⟨a.block, a.off + 7, none⟩ = some (.slice o2 m2 c2) ∧
    isG W g (.agg #[.string g.nm, .bool g.unk, .int .i8 k, .bool b, .int .i64 n, .string s, .slice o m c, .slice o2 m2 c2]) := by
  obtain ⟨c0, c1, c2, c3, c4, c5, g0, g1, g2, g3, g4, g5, g6, g7, h2, h3⟩ := h
  obtain ⟨k, b, n, s, o, m, c, o2, m2, c2', e⟩ := isV_six h2
  simp only [Value.agg.injEq, Array.mk.injEq, List.cons.injEq, and_true] at e
  obtain ⟨rfl, rfl, rfl, rfl, rfl, rfl⟩ := e
  exact ⟨k, b, n, s, o, m, c, o2, m2, c2', g0, g1, g2, g3, g4, g5, g6, g7, ⟨_, _, _, _, _, _, rfl, h2, h3⟩⟩

/-- One property of a row: its type has it, its name rises, its value may be. -/
noncomputable def stepB (K : ByteArray) (L : List G) (i : Nat) : Bool :=
  match spec K (L.getD i ⟨⟨#[]⟩, false, zV⟩).nm with
  | none => false
  | some x => (decide (i = 0) || bl (L.getD (i - 1) ⟨⟨#[]⟩, false, zV⟩).nm (L.getD i ⟨⟨#[]⟩, false, zV⟩).nm) && mayB (L.getD i ⟨⟨#[]⟩, false, zV⟩) x.q
noncomputable def okRow (K : ByteArray) (L : List G) : Bool := (List.range L.length).all (stepB K L)
noncomputable def checkL (K : ByteArray) (L : List G) : Int := if known K then (if okRow K L then 0 else 91) else 90
theorem okRow_iff {K : ByteArray} {L : List G} : okRow K L = true ↔ ∀ i, i < L.length → stepB K L i = true := by
  unfold okRow
  rw [List.all_eq_true]
  exact ⟨fun h i hi => h i (List.mem_range.2 hi), fun h i hi => h i (List.mem_range.1 hi)⟩
theorem okRow_no {K : ByteArray} {L : List G} {i : Nat} (hi : i < L.length) (h : stepB K L i = false) : okRow K L = false := by
  rw [Bool.eq_false_iff]
  intro h'
  rw [okRow_iff.1 h' i hi] at h
  cases h
theorem getD_g {L : List G} {i : Nat} (h : i < L.length) : L.getD i ⟨⟨#[]⟩, false, zV⟩ = L[i] := by
  rw [List.getD_eq_getElem?_getD, List.getElem?_eq_getElem h]; rfl

set_option maxRecDepth 100000 in
set_option maxHeartbeats 8000000 in
theorem Check_any (K : ByteArray) (L : List G) (v : Value) (w : World) (hE : Env9 w) (hK : K.size ≤ 400) (hl : L.length ≤ 1000000) (hP : ∀ g ∈ L, sizeV g.v ≤ 1000000 ∧ fineV g.v) (h : isGs w L v) :
    Calls Tryz.prog 50 #[.string K, v] w fun e w' => e = .returned (.int .i64 (checkL K L)) ∧ Below w.heap.size w w' := by
  obtain ⟨a, cap, ⟨o, rfl, hc1, hc2, ho⟩, hgs⟩ := h
  unfold maxLen at hc2
  have hkl : K.size ≤ maxLen := by unfold maxLen; omega
  have HT := Lib.hid (types_any w hE.2 (by have := hE.1.1; omega))
  have hw3 := hE.1.1
  have HE := Lib.hid hE
  have HG := Lib.hid hgs
  have HP := Lib.hid hP
  unfold checkL
  clear hE hgs hP
  by_cases hkn : known K = true
  · rw [if_pos hkn]
    obtain ⟨r, hr⟩ : ∃ r : Int, (if okRow K L = true then (0 : Int) else 91) = r := ⟨_, rfl⟩
    rw [hr]
    have HR := Lib.hid hr
    clear hr
    go_enter Tryz.func50, Tryz.ntmps50
    go_wp2_with (go_at_call 68; refine HT.out.mono ?_; rintro e w5 ⟨b, rfl, hb, ht5, hb5⟩; obtain ⟨b', hlk, hmap, hbb⟩ := ht5.yes hkn hkl true; simp only [if_true] at hlk; clear ht5)
    have HM := Lib.hid hmap
    have HB5 := Lib.hid hb5
    clear hmap hb5 hlk HT
    go_loopw [21] (fun i wr => ∃ (j : Nat), j ≤ L.length ∧ i = .int .i64 j ∧ Hid (∀ i, i < j → stepB K L i = true) ∧ Hid (Below w5.heap.size w5 wr)) (fun i _ => L.length - (intOf i).toNat)
    case atStart => exact ⟨0, by omega, rfl, Lib.hid (fun i hi => absurd hi (by omega)), Lib.hid (Below.refl _ _)⟩
    case round =>
      obtain ⟨j, hj, rfl, hA, hB⟩ := hrel
      by_cases hlt : j < L.length
      · obtain rfl := ho (by omega)
        have hBw : Below w.heap.size w wr := HB5.out.trans (hB.out.mono HB5.out.size)
        obtain ⟨k, b1, n, s, o1, m, c, o2, m2, c2, q0, q1, q2, q3, q4, q5, q6, q7, hg⟩ := isGat_eight (isGat_below hBw (HG.out j hlt))
        have hp := HP.out L[j] (List.getElem_mem hlt)
        have hnl : L[j].nm.size ≤ maxLen := by obtain ⟨_, _, _, _, _, _, _, _, h⟩ := hg; exact h
        have hlk := (HM.out.kept ((grown_bel hB.out).trans (World.grownBy_alloc wr (.cells #[.string L[j].nm, .bool L[j].unk, .int .i8 k, .bool b1, .int .i64 n, .string s, .slice o1 m c, .slice o2 m2 c2] 99) none)) (by simp)).look lawS Tryz.underlying9 Tryz.underlying120 true (zeroSp _) hnl
        have hbz : wr.heap.size < (wr.alloc (.cells #[.string L[j].nm, .bool L[j].unk, .int .i8 k, .bool b1, .int .i64 n, .string s, .slice o1 m c, .slice o2 m2 c2] 99)).heap.size := by simp
        cases hsp : spec K L[j].nm with
        | none =>
          rw [hsp] at hlk
          simp only [Option.map_none, Option.getD_none, Option.isSome_none, if_true] at hlk
          have HBN := Lib.hid (((Below.refl wr.heap.size wr).alloc (Nat.le_refl _) (.cells #[.string L[j].nm, .bool L[j].unk, .int .i8 k, .bool b1, .int .i64 n, .string s, .slice o1 m c, .slice o2 m2 c2] 99)).alloc (by simp) (.cells #[.string ⟨#[]⟩, .int .i8 0, .bool false] 125))
          have HR2 : Hid (r = 91) := Lib.hid (by rw [← HR.out, okRow_no hlt (by unfold stepB; rw [getD_g hlt, hsp])]; rfl)
          clear hg hp hA hsp HR HP HG HM
          generalize L[j] = g at *
          go_wp2_with fail
          go_quiet (fail)
          go_wp2_with fail
          go_ret
          exact ⟨by rw [HR2.out]; rfl, hBw.trans ((HBN.out.mono hBw.size).trans (drewB _ _ _))⟩
        | some x =>
          obtain ⟨_, hxn, hxq, _⟩ := spec_facts hsp
          rw [hsp] at hlk
          simp only [Option.map_some, Option.getD_some, Option.isSome_some, if_true, encSp] at hlk
          have hstep : stepB K L j = ((decide (j = 0) || bl (L.getD (j - 1) ⟨⟨#[]⟩, false, zV⟩).nm L[j].nm) && mayB L[j] x.q) := by unfold stepB; rw [getD_g hlt, hsp]
          have HBX := Lib.hid (((Below.refl wr.heap.size wr).alloc (Nat.le_refl _) (.cells #[.string L[j].nm, .bool L[j].unk, .int .i8 k, .bool b1, .int .i64 n, .string s, .slice o1 m c, .slice o2 m2 c2] 99)).alloc (by simp) (.cells #[.string x.nm, .int .i8 x.q, .bool x.r] 125))
          have PM : Hid (∀ w1, KB ((wr.alloc (.cells #[.string L[j].nm, .bool L[j].unk, .int .i8 k, .bool b1, .int .i64 n, .string s, .slice o1 m c, .slice o2 m2 c2] 99)).alloc (.cells #[.string x.nm, .int .i8 x.q, .bool x.r] 125)) w1 → Calls Tryz.prog 69 #[.agg #[.string L[j].nm, .bool L[j].unk, .int .i8 k, .bool b1, .int .i64 n, .string s, .slice o1 m c, .slice o2 m2 c2], .int .i8 x.q] w1 fun e w' => e = .returned (.bool (mayB L[j] x.q)) ∧ KB ((wr.alloc (.cells #[.string L[j].nm, .bool L[j].unk, .int .i8 k, .bool b1, .int .i64 n, .string s, .slice o1 m c, .slice o2 m2 c2] 99)).alloc (.cells #[.string x.nm, .int .i8 x.q, .bool x.r] 125)) w') :=
            Lib.hid fun w1 hK => Calls.kb hK (may_any L[j] x.q hxq _ w1 (((HE.out.kb hBw).kb (HBX.out.trans (hK.mono HBX.out.size))).1) hp.1 hp.2 (isG_below (HBX.out.trans (hK.mono HBX.out.size)) hg))
          have e0 : ((wr.alloc (.cells #[.string L[j].nm, .bool L[j].unk, .int .i8 k, .bool b1, .int .i64 n, .string s, .slice o1 m c, .slice o2 m2 c2] 99)).alloc (.cells #[.string x.nm, .int .i8 x.q, .bool x.r] 125)).cell? ⟨wr.heap.size, 0, none⟩ = some (.string L[j].nm) := by simp
          have e1 : ((wr.alloc (.cells #[.string L[j].nm, .bool L[j].unk, .int .i8 k, .bool b1, .int .i64 n, .string s, .slice o1 m c, .slice o2 m2 c2] 99)).alloc (.cells #[.string x.nm, .int .i8 x.q, .bool x.r] 125)).cell? ⟨wr.heap.size, 1, none⟩ = some (.bool L[j].unk) := by simp
          have e2 : ((wr.alloc (.cells #[.string L[j].nm, .bool L[j].unk, .int .i8 k, .bool b1, .int .i64 n, .string s, .slice o1 m c, .slice o2 m2 c2] 99)).alloc (.cells #[.string x.nm, .int .i8 x.q, .bool x.r] 125)).cell? ⟨wr.heap.size, 2, none⟩ = some (.int .i8 k) := by simp
          have e3 : ((wr.alloc (.cells #[.string L[j].nm, .bool L[j].unk, .int .i8 k, .bool b1, .int .i64 n, .string s, .slice o1 m c, .slice o2 m2 c2] 99)).alloc (.cells #[.string x.nm, .int .i8 x.q, .bool x.r] 125)).cell? ⟨wr.heap.size, 3, none⟩ = some (.bool b1) := by simp
          have e4 : ((wr.alloc (.cells #[.string L[j].nm, .bool L[j].unk, .int .i8 k, .bool b1, .int .i64 n, .string s, .slice o1 m c, .slice o2 m2 c2] 99)).alloc (.cells #[.string x.nm, .int .i8 x.q, .bool x.r] 125)).cell? ⟨wr.heap.size, 4, none⟩ = some (.int .i64 n) := by simp
          have e5 : ((wr.alloc (.cells #[.string L[j].nm, .bool L[j].unk, .int .i8 k, .bool b1, .int .i64 n, .string s, .slice o1 m c, .slice o2 m2 c2] 99)).alloc (.cells #[.string x.nm, .int .i8 x.q, .bool x.r] 125)).cell? ⟨wr.heap.size, 5, none⟩ = some (.string s) := by simp
          have e6 : ((wr.alloc (.cells #[.string L[j].nm, .bool L[j].unk, .int .i8 k, .bool b1, .int .i64 n, .string s, .slice o1 m c, .slice o2 m2 c2] 99)).alloc (.cells #[.string x.nm, .int .i8 x.q, .bool x.r] 125)).cell? ⟨wr.heap.size, 6, none⟩ = some (.slice o1 m c) := by simp
          have e7 : ((wr.alloc (.cells #[.string L[j].nm, .bool L[j].unk, .int .i8 k, .bool b1, .int .i64 n, .string s, .slice o1 m c, .slice o2 m2 c2] 99)).alloc (.cells #[.string x.nm, .int .i8 x.q, .bool x.r] 125)).cell? ⟨wr.heap.size, 7, none⟩ = some (.slice o2 m2 c2) := by simp
          have f0 : ((wr.alloc (.cells #[.string L[j].nm, .bool L[j].unk, .int .i8 k, .bool b1, .int .i64 n, .string s, .slice o1 m c, .slice o2 m2 c2] 99)).alloc (.cells #[.string x.nm, .int .i8 x.q, .bool x.r] 125)).cell? ⟨wr.heap.size + 1, 0, none⟩ = some (.string x.nm) := by simp
          have f1 : ((wr.alloc (.cells #[.string L[j].nm, .bool L[j].unk, .int .i8 k, .bool b1, .int .i64 n, .string s, .slice o1 m c, .slice o2 m2 c2] 99)).alloc (.cells #[.string x.nm, .int .i8 x.q, .bool x.r] 125)).cell? ⟨wr.heap.size + 1, 1, none⟩ = some (.int .i8 x.q) := by simp
          have f2 : ((wr.alloc (.cells #[.string L[j].nm, .bool L[j].unk, .int .i8 k, .bool b1, .int .i64 n, .string s, .slice o1 m c, .slice o2 m2 c2] 99)).alloc (.cells #[.string x.nm, .int .i8 x.q, .bool x.r] 125)).cell? ⟨wr.heap.size + 1, 2, none⟩ = some (.bool x.r) := by simp
          obtain ⟨M, hM⟩ : ∃ M, mayB L[j] x.q = M := ⟨_, rfl⟩
          rw [hM] at PM hstep
          by_cases hj00 : j = 0
          · rw [decide_eq_true hj00, Bool.true_or, Bool.true_and] at hstep
            have dj : decide ((0 : Int) < (j : Int)) = false := decide_eq_false (by omega)
            have dj2 : decide (0 < j) = false := decide_eq_false (by omega)
            clear hM hp hg HP HM hsp hxn hxq
            cases M with
            | false =>
              have HR2 : Hid (r = 91) := Lib.hid (by rw [← HR.out, okRow_no hlt hstep]; rfl)
              clear hA hstep HR HG hj00
              generalize L[j] = g at *
              go_wp2_with fail
              generalize ((wr.alloc (.cells #[.string g.nm, .bool g.unk, .int .i8 k, .bool b1, .int .i64 n, .string s, .slice o1 m c, .slice o2 m2 c2] 99)).alloc (.cells #[.string x.nm, .int .i8 x.q, .bool x.r] 125)) = W2 at *
              refine wp_region_still_tail 21 (by kernel_rfl) (by kernel_rfl) ?_
              simp only [List.take_succ_cons, List.take_zero, List.drop_succ_cons, List.drop_zero]
              refine WS.out ?_
              repeat (refine ws_one (fun K hK => ?_); go_simp; refine hK _ ?_; clear hK K)
              refine ws_nil ?_
              go_wp2_with (go_at_call 69; refine (PM.out _ (drewB1 _ _)).mono ?_; rintro e w6 ⟨rfl, hb6⟩)
              go_ret
              exact ⟨by rw [HR2.out]; rfl, hBw.trans ((HBX.out.trans (hb6.mono HBX.out.size)).mono hBw.size)⟩
            | true =>
              have HA2 : Hid (∀ i, i < j + 1 → stepB K L i = true) := Lib.hid fun i hi => by obtain rfl : i = j := (by omega); exact hstep
              clear hA hstep HR HG hj00
              generalize L[j] = g at *
              go_wp2_with fail
              generalize ((wr.alloc (.cells #[.string g.nm, .bool g.unk, .int .i8 k, .bool b1, .int .i64 n, .string s, .slice o1 m c, .slice o2 m2 c2] 99)).alloc (.cells #[.string x.nm, .int .i8 x.q, .bool x.r] 125)) = W2 at *
              refine wp_region_still_tail 21 (by kernel_rfl) (by kernel_rfl) ?_
              simp only [List.take_succ_cons, List.take_zero, List.drop_succ_cons, List.drop_zero]
              refine WS.out ?_
              repeat (refine ws_one (fun K hK => ?_); go_simp; refine hK _ ?_; clear hK K)
              refine ws_nil ?_
              go_wp2_with (go_at_call 69; refine (PM.out _ (drewB1 _ _)).mono ?_; rintro e w6 ⟨rfl, hb6⟩)
              go_roundw
              case rel => exact ⟨j + 1, by omega, by go_num, HA2, Lib.hid (hB.out.trans ((HBX.out.trans (hb6.mono HBX.out.size)).mono hB.out.size))⟩
              case measure => simp [intOf]; omega
          · have hq := isGat_below hBw (HG.out (j - 1) (by omega))
            obtain ⟨_, _, _, _, _, _, hq0, _⟩ := hq
            rw [getD_g (show j - 1 < L.length by omega), decide_eq_false hj00, Bool.false_or] at hstep
            obtain ⟨p, hpj⟩ : ∃ p, p = j - 1 := ⟨_, rfl⟩
            have hq0' : wr.cell? (a.add (p * 8)) = some (.string L[j - 1].nm) := by rw [hpj]; exact hq0
            have dj : decide ((0 : Int) < (j : Int)) = true := decide_eq_true (by omega)
            have dj2 : decide (0 < j) = true := decide_eq_true (by omega)
            have dw : IntKind.i64.wrap ((j : Int) - 1) = (p : Int) := by simp [IntKind.wrap, IntKind.bits, IntKind.signed]; omega
            have di1 : p < L.length := by omega
            clear hpj
            have hq2 := cell_below HBX.out _ _ hq0'
            cases hbl : bl L[j - 1].nm L[j].nm with
            | false =>
              rw [hbl, Bool.false_and] at hstep
              have HR2 : Hid (r = 91) := Lib.hid (by rw [← HR.out, okRow_no hlt hstep]; rfl)
              have hbl' : ∀ W, (binOp BinOp.geq 9 (.string L[j - 1].nm) (.string L[j].nm)).run Tryz.prog W = .ok (.bool true) W := fun W => by rw [run_geq_str, show Op.bytesLess L[j - 1].nm.toList L[j].nm.toList = false from hbl]; rfl
              clear hA hstep HR HG hM hp hg HP HM hsp hxn hxq PM hbl
              generalize L[j - 1].nm = pn at *
              generalize L[j] = g at *
              go_wp2_with fail
              generalize ((wr.alloc (.cells #[.string g.nm, .bool g.unk, .int .i8 k, .bool b1, .int .i64 n, .string s, .slice o1 m c, .slice o2 m2 c2] 99)).alloc (.cells #[.string x.nm, .int .i8 x.q, .bool x.r] 125)) = W2 at *
              go_quiet (fail)
              go_wp2_with fail
              go_ret
              exact ⟨by rw [HR2.out]; rfl, hBw.trans ((HBX.out.mono hBw.size).trans (drewB _ _ _))⟩
            | true =>
              rw [hbl, Bool.true_and] at hstep
              have hbl' : ∀ W, (binOp BinOp.geq 9 (.string L[j - 1].nm) (.string L[j].nm)).run Tryz.prog W = .ok (.bool false) W := fun W => by rw [run_geq_str, show Op.bytesLess L[j - 1].nm.toList L[j].nm.toList = true from hbl]; rfl
              cases M with
              | false =>
                have HR2 : Hid (r = 91) := Lib.hid (by rw [← HR.out, okRow_no hlt hstep]; rfl)
                clear hA hstep HR HG hM hp hg HP HM hsp hxn hxq hbl
                generalize L[j - 1].nm = pn at *
                generalize L[j] = g at *
                go_wp2_with fail
                generalize ((wr.alloc (.cells #[.string g.nm, .bool g.unk, .int .i8 k, .bool b1, .int .i64 n, .string s, .slice o1 m c, .slice o2 m2 c2] 99)).alloc (.cells #[.string x.nm, .int .i8 x.q, .bool x.r] 125)) = W2 at *
                refine wp_region_still_tail 21 (by kernel_rfl) (by kernel_rfl) ?_
                simp only [List.take_succ_cons, List.take_zero, List.drop_succ_cons, List.drop_zero]
                refine WS.out ?_
                repeat (refine ws_one (fun K hK => ?_); go_simp; refine hK _ ?_; clear hK K)
                refine ws_nil ?_
                go_wp2_with (go_at_call 69; refine (PM.out _ (drewB1 _ _)).mono ?_; rintro e w6 ⟨rfl, hb6⟩)
                go_ret
                exact ⟨by rw [HR2.out]; rfl, hBw.trans ((HBX.out.trans (hb6.mono HBX.out.size)).mono hBw.size)⟩
              | true =>
                have HA2 : Hid (∀ i, i < j + 1 → stepB K L i = true) := Lib.hid fun i hi => by
                  by_cases e : i = j
                  · rw [e]; exact hstep
                  · exact hA.out i (by omega)
                clear hA hstep HR HG hM hp hg HP HM hsp hxn hxq hbl
                generalize L[j - 1].nm = pn at *
                generalize L[j] = g at *
                go_wp2_with fail
                generalize ((wr.alloc (.cells #[.string g.nm, .bool g.unk, .int .i8 k, .bool b1, .int .i64 n, .string s, .slice o1 m c, .slice o2 m2 c2] 99)).alloc (.cells #[.string x.nm, .int .i8 x.q, .bool x.r] 125)) = W2 at *
                refine wp_region_still_tail 21 (by kernel_rfl) (by kernel_rfl) ?_
                simp only [List.take_succ_cons, List.take_zero, List.drop_succ_cons, List.drop_zero]
                refine WS.out ?_
                repeat (refine ws_one (fun K hK => ?_); go_simp; refine hK _ ?_; clear hK K)
                refine ws_nil ?_
                go_wp2_with (go_at_call 69; refine (PM.out _ (drewB1 _ _)).mono ?_; rintro e w6 ⟨rfl, hb6⟩)
                go_roundw
                case rel => exact ⟨j + 1, by omega, by go_num, HA2, Lib.hid (hB.out.trans ((HBX.out.trans (hb6.mono HBX.out.size)).mono hB.out.size))⟩
                case measure => simp [intOf]; omega
      · obtain rfl : j = L.length := by omega
        have HR2 : Hid (r = 0) := Lib.hid (by rw [← HR.out, if_pos (okRow_iff.2 hA.out)])
        have hBw : Below w.heap.size w wr := HB5.out.trans (hB.out.mono HB5.out.size)
        go_wp2_with fail
        go_ret
        exact ⟨by rw [HR2.out]; rfl, hBw⟩
  · rw [if_neg hkn]
    have hkn : known K = false := by simpa using hkn
    go_enter Tryz.func50, Tryz.ntmps50
    go_wp2_with (go_at_call 68; refine HT.out.mono ?_; rintro e w5 ⟨b, rfl, hb, ht5, hb5⟩; have hlk := ht5.no hkn hkl true; simp only [if_true] at hlk; clear ht5)
    go_ret
    exact ⟨rfl, hb5⟩
end Go.Proofs.YtkigeegahepnaaaGreatDoor

namespace Go.Proofs.YtkigeegahepnaaaGreatDoor
open Go.RowKit Go.Maps Go.ChangeMaps Go.WideMaps

set_option maxHeartbeats 1000000 in
theorem unknown_any (g : G) (v : Value) (w : World) (h : isG w g v) : Calls Tryz.prog 119 #[v] w fun e w' => e = .returned (.bool g.unk) ∧ Below w.heap.size w w' := by
  obtain ⟨k, b, n, s, o, m, c, o2, m2, c2, rfl, hv⟩ := isG_eight h
  have HB0 : Hid (KB w (w.alloc (.cells #[.string g.nm, .bool g.unk, .int .i8 k, .bool b, .int .i64 n, .string s, .slice o m c, .slice o2 m2 c2] 99))) := Lib.hid kbA
  clear h hv
  go_enter Tryz.func119, Tryz.ntmps119
  go_wp2_with fail
  go_ret
  exact ⟨rfl, HB0.out⟩

set_option maxRecDepth 100000 in
set_option maxHeartbeats 4000000 in
/-- slices.IndexFunc of the properties: is there one that is unknown? -/
theorem idxG_any (L : List G) (v : Value) (w : World) (hl : L.length ≤ 1000000) (h : isGs w L v) :
    Calls Tryz.prog 88 #[v, .func (.func 119) #[] #[]] w fun e w' => (∃ i : Int, e = .returned (.int .i64 i) ∧ decide (0 ≤ i) = L.any (·.unk)) ∧ Below w.heap.size w w' := by
  obtain ⟨a, cap, ⟨o, rfl, hc1, hc2, ho⟩, hgs⟩ := h
  unfold maxLen at hc2
  have HK := Lib.hid hgs
  obtain ⟨r, hr⟩ : ∃ r, L.any (·.unk) = r := ⟨_, rfl⟩
  rw [hr]
  have HR := Lib.hid hr
  have ef : ∀ args w, (callFunc 119 args).run Tryz.prog w = .ok (.enter 119 args) w := enters_of Tryz.func119 (by kernel_rfl) rfl
  clear hgs hr
  go_enter Tryz.func88, Tryz.ntmps88
  go_wp2_with fail
  go_loopw [8] (fun i wr => ∃ (j : Nat), j ≤ L.length ∧ i = .int .i64 j ∧ Hid ((L.take j).any (·.unk) = false) ∧ Hid (Below w.heap.size w wr)) (fun i _ => L.length - (intOf i).toNat)
  case atStart => exact ⟨0, by omega, rfl, Lib.hid rfl, Lib.hid (Below.refl _ _)⟩
  case round =>
    obtain ⟨j, hj, rfl, hA, hB⟩ := hrel
    by_cases hlt : j < L.length
    · obtain rfl := ho (by omega)
      obtain ⟨k, b1, n, s, o1, m, c, o2, m2, c2, q0, q1, q2, q3, q4, q5, q6, q7, hg⟩ := isGat_eight (isGat_below hB.out (HK.out j hlt))
      have HN := Lib.hid (unknown_any L[j] _ wr hg)
      clear hg
      cases hv : L[j].unk with
      | true =>
        have hr2 : r = true := by
          rw [← HR.out, List.any_eq_true]
          exact ⟨L[j], List.getElem_mem hlt, hv⟩
        have HR2 := Lib.hid hr2
        rw [hv] at HN q1
        clear hr2 hv
        generalize L[j] = g at *
        go_wp2_with (go_at_fn 119; refine HN.out.mono ?_; rintro e w5 ⟨rfl, hb5⟩)
        go_ret
        exact ⟨⟨_, rfl, by rw [HR2.out, decide_eq_true]; omega⟩, hB.out.trans (hb5.mono hB.out.size)⟩
      | false =>
        have HA : Hid ((L.take (j + 1)).any (·.unk) = false) := Lib.hid (by rw [List.take_succ_eq_append_getElem hlt, List.any_append, hA.out]; simp [hv])
        rw [hv] at HN q1
        clear hv
        generalize L[j] = g at *
        go_wp2_with (go_at_fn 119; refine HN.out.mono ?_; rintro e w5 ⟨rfl, hb5⟩)
        go_roundw
        case rel => exact ⟨j + 1, by omega, by go_num, HA, Lib.hid (hB.out.trans (hb5.mono hB.out.size))⟩
        case measure => simp [intOf]; omega
    · obtain rfl : j = L.length := by omega
      have HRES : Hid (r = false) := Lib.hid (by
        have := hA.out
        rw [List.take_of_length_le (Nat.le_refl _)] at this
        rw [← HR.out, this])
      go_wp2_with fail
      go_ret
      exact ⟨⟨_, rfl, by rw [HRES.out]; rfl⟩, hB.out⟩

set_option maxHeartbeats 1000000 in
theorem contG_any (L : List G) (v : Value) (w : World) (hl : L.length ≤ 1000000) (h : isGs w L v) :
    Calls Tryz.prog 66 #[v, .func (.func 119) #[] #[]] w fun e w' => e = .returned (.bool (L.any (·.unk))) ∧ Below w.heap.size w w' := by
  have HI := Lib.hid (idxG_any L v w hl h)
  obtain ⟨a, cap, ⟨o, rfl, hc1, hc2, ho⟩, hgs⟩ := h
  generalize (L.any (·.unk)) = r at *
  clear hgs
  go_enter Tryz.func66, Tryz.ntmps66
  go_wp2_with (go_at_call 88; refine HI.out.mono ?_; rintro e w5 ⟨⟨i, rfl, hi⟩, hb5⟩)
  go_ret
  exact ⟨ret_bool (by rw [← hi]), hb5⟩

/-- The property of a name, the last one if there were more. -/
def lastG (L : List G) (s : ByteArray) : Option G := L.reverse.find? (fun g => decide (g.nm = s))
theorem lastG_snoc (L : List G) (g : G) (s : ByteArray) : lastG (L ++ [g]) s = if g.nm = s then some g else lastG L s := by
  unfold lastG
  rw [List.reverse_append, List.reverse_singleton, List.singleton_append, List.find?_cons]
  by_cases h : g.nm = s
  · rw [if_pos h, decide_eq_true h]
  · rw [if_neg h, decide_eq_false h]
/-- A map that leads each name to its property. -/
def ByName (W : World) (b n : Nat) (L : List G) (w : World) : Prop := ∃ f : ByteArray → Option Value, MapIs Tryz.prog 9 W b n f ∧ ∀ s, (lastG L s = none → f s = none) ∧ ∀ g, lastG L s = some g → ∃ v, f s = some v ∧ isG w g v
theorem ByName.kept {W W' w : World} {b n : Nat} {L : List G} (h : ByName W b n L w) (hb : Below W.heap.size W W') : ByName W' b n L w := by
  obtain ⟨f, h1, h2⟩ := h
  exact ⟨f, h1.kept (grown_bel hb) (by simp), h2⟩

set_option maxRecDepth 100000 in
set_option maxHeartbeats 4000000 in
theorem byName_any (L : List G) (v : Value) (w : World) (hl : L.length ≤ 1000000) (h : isGs w L v) :
    Calls Tryz.prog 120 #[v] w fun e w' => ∃ b, e = .returned (.map (some b)) ∧ ByName w' b L.length L w ∧ Below w.heap.size w w' := by
  obtain ⟨a, cap, ⟨o, rfl, hc1, hc2, ho⟩, hgs⟩ := h
  unfold maxLen at hc2
  have hmm := @run_makeMap Tryz.prog
  have HM0 := Lib.hid (MapIs.made Tryz.prog 9 w)
  have HK := Lib.hid hgs
  clear hgs
  go_enter Tryz.func120, Tryz.ntmps120
  go_wp2_with fail
  go_loopw [9] (fun i wr => ∃ (j : Nat), j ≤ L.length ∧ i = .int .i64 j ∧ Hid (ByName wr w.heap.size j (L.take j) w) ∧ Hid (Below w.heap.size w wr)) (fun i _ => L.length - (intOf i).toNat)
  case atStart => exact ⟨0, by omega, rfl, Lib.hid ⟨_, HM0.out, fun s => ⟨fun _ => rfl, fun g hg => by simp [lastG] at hg⟩⟩, Lib.hid (by go_grown)⟩
  case round =>
    obtain ⟨j, hj, rfl, hA, hB⟩ := hrel
    by_cases hlt : j < L.length
    · obtain rfl := ho (by omega)
      obtain ⟨k, b1, n, s, o1, m, c, o2, m2, c2, q0, q1, q2, q3, q4, q5, q6, q7, hg⟩ := isGat_eight (isGat_below hB.out (HK.out j hlt))
      obtain ⟨k', b1', n', s', o1', m', c', o2', m2', c2', p0, p1, p2, p3, p4, p5, p6, p7, hg'⟩ := isGat_eight (HK.out j hlt)
      have hk := cell_below hB.out
      obtain rfl : k' = k := by have := (hk _ _ p2).symm.trans q2; simpa using this
      obtain rfl : b1' = b1 := by have := (hk _ _ p3).symm.trans q3; simpa using this
      obtain rfl : n' = n := by have := (hk _ _ p4).symm.trans q4; simpa using this
      obtain rfl : s' = s := by have := (hk _ _ p5).symm.trans q5; simpa using this
      obtain ⟨rfl, rfl, rfl⟩ : o1' = o1 ∧ m' = m ∧ c' = c := by have := (hk _ _ p6).symm.trans q6; simpa using this
      obtain ⟨rfl, rfl, rfl⟩ : o2' = o2 ∧ m2' = m2 ∧ c2' = c2 := by have := (hk _ _ p7).symm.trans q7; simpa using this
      clear p0 p1 p2 p3 p4 p5 p6 p7 hk hg
      have hnl : L[j].nm.size ≤ maxLen := by obtain ⟨_, _, _, _, _, _, _, _, h⟩ := hg'; exact h
      obtain ⟨f, hf, hfs⟩ := hA.out
      have hBs := hB.out.size
      have g1 := World.grownBy_alloc wr (.cells #[.string L[j].nm, .bool L[j].unk, .int .i8 k', .bool b1', .int .i64 n', .string s', .slice o1' m' c', .slice o2' m2' c2'] 99) none
      obtain ⟨w2, hr2, hm2, hg2⟩ := (hf.kept g1 (by simp)).update lawS Tryz.underlying9 Tryz.underlying167 (by unfold maxLen; omega) hnl (.agg #[.string L[j].nm, .bool L[j].unk, .int .i8 k', .bool b1', .int .i64 n', .string s', .slice o1' m' c', .slice o2' m2' c2'])
      have HN : Hid (ByName w2 w.heap.size (j + 1) (L.take (j + 1)) w) := Lib.hid ⟨_, hm2, fun t => by
        rw [List.take_succ_eq_append_getElem hlt, lastG_snoc]
        by_cases e : t = L[j].nm
        · rw [if_pos e.symm, if_pos e]
          exact ⟨(fun h => by cases h), fun g hg => ⟨_, rfl, by cases hg; exact hg'⟩⟩
        · rw [if_neg (fun h => e h.symm), if_neg e]
          exact hfs t⟩
      have HB1 := Lib.hid (hB.out.grown g1 hBs (fun k e => by cases e))
      have HB2 := Lib.hid (HB1.out.grown hg2 HB1.out.size (fun k e => by cases e; exact Nat.le_refl _))
      clear hg' hf hfs hm2 hg2 g1 HB1 hA hB
      generalize L[j] = g at *
      go_wp2_with fail
      go_roundw
      case rel => exact ⟨j + 1, by omega, by go_num, HN, HB2⟩
      case measure => simp [intOf]; omega
    · obtain rfl : j = L.length := by omega
      have hA := hA.out
      rw [List.take_of_length_le (Nat.le_refl _)] at hA
      have HA := Lib.hid hA
      clear hA
      go_wp2_with fail
      go_ret
      exact ⟨_, rfl, HA.out, hB.out⟩

noncomputable def turnsB (a b : G) : Bool := if a.nm = b.nm then (b.unk || !eqA a.v b.v) else true

set_option maxRecDepth 100000 in
set_option maxHeartbeats 4000000 in
theorem turns_any (x y : G) (v u : Value) (w : World) (hE : Env w) (hM : sizeV x.v ≤ 1000000) (hF : fineV x.v) (hM' : sizeV y.v ≤ 1000000) (hF' : fineV y.v) (h : isG w x v) (h' : isG w y u) :
    Calls Tryz.prog 121 #[v, u] w fun e w' => e = .returned (.bool (turnsB x y)) ∧ Below w.heap.size w w' := by
  obtain ⟨k, b, n, s, o, m, c, o2, m2, c2, rfl, hv⟩ := isG_eight h
  obtain ⟨k', b', n', s', o', m', c', o2', m2', c2', rfl, hv'⟩ := isG_eight h'
  have HB : Hid (KB w ((w.alloc (.cells #[.string x.nm, .bool x.unk, .int .i8 k, .bool b, .int .i64 n, .string s, .slice o m c, .slice o2 m2 c2] 99)).alloc (.cells #[.string y.nm, .bool y.unk, .int .i8 k', .bool b', .int .i64 n', .string s', .slice o' m' c', .slice o2' m2' c2'] 99))) := Lib.hid KB.two
  have HQ : Hid (∀ w1, KB w w1 → Calls Tryz.prog 134 #[.agg #[.int .i8 k, .bool b, .int .i64 n, .string s, .slice o m c, .slice o2 m2 c2], .agg #[.int .i8 k', .bool b', .int .i64 n', .string s', .slice o' m' c', .slice o2' m2' c2']] w1 fun e w' => e = .returned (.bool (eqA x.v y.v)) ∧ Below w1.heap.size w1 w') := Lib.hid fun w1 hK => peq_any x.v y.v _ _ w1 (hE.kb hK) hM hF hM' hF' (isV_below hK hv) (isV_below hK hv')
  unfold turnsB
  generalize eqA x.v y.v = R at *
  obtain ⟨nx, ux, vx⟩ := x
  obtain ⟨ny, uy, vy⟩ := y
  dsimp only at *
  clear h h' hv hv' hE hM hF hM' hF'
  by_cases hn : nx = ny
  · subst hn
    rw [if_pos rfl]
    have z : (nx.toList == nx.toList) = true := beq_self_eq_true _
    cases uy with
    | true =>
      go_enter Tryz.func121, Tryz.ntmps121
      go_wp2_with fail
      go_ret
      exact ⟨rfl, HB.out⟩
    | false =>
      go_enter Tryz.func121, Tryz.ntmps121
      go_wp2_with (go_at_call 134; refine (HQ.out _ HB.out).mono ?_; rintro e w5 ⟨rfl, hb5⟩)
      go_ret
      exact ⟨ret_bool (by simp), HB.out.trans (hb5.mono HB.out.size)⟩
  · rw [if_neg hn]
    have z := beq_toList hn
    go_enter Tryz.func121, Tryz.ntmps121
    go_wp2_with fail
    go_ret
    exact ⟨rfl, HB.out⟩
end Go.Proofs.YtkigeegahepnaaaGreatDoor

namespace Go.Proofs.YtkigeegahepnaaaGreatDoor
open Go.RowKit Go.Maps Go.ChangeMaps Go.WideMaps

def zG : G := ⟨⟨#[]⟩, false, zV⟩
theorem isG_zero (W : World) : isG W zG (.agg #[.string ⟨#[]⟩, .bool false, .int .i8 0, .bool false, .int .i64 0, .string ⟨#[]⟩, .slice none 0 0, .slice none 0 0]) :=
  ⟨_, _, _, _, _, _, rfl, isV_zero W, by unfold maxLen; simp [zG, ByteArray.size]⟩
theorem zeroGv (w : World) : (zeroValue 99).run Tryz.prog w = .ok (.agg #[.string ⟨#[]⟩, .bool false, .int .i8 0, .bool false, .int .i64 0, .string ⟨#[]⟩, .slice none 0 0, .slice none 0 0]) w := by kernel_rfl
/-- What a name leads to. -/
def gg (L : List G) (s : ByteArray) : G := (lastG L s).getD zG
theorem lastG_mem {L : List G} {s : ByteArray} {g : G} (h : lastG L s = some g) : g ∈ L ∧ g.nm = s := by
  unfold lastG at h
  exact ⟨List.mem_reverse.1 (List.mem_of_find?_eq_some h), of_decide_eq_true (List.find?_some (p := fun g : G => decide (g.nm = s)) h)⟩
theorem ByName.look {W w : World} {b n : Nat} {L : List G} (h : ByName W b n L w) {s : ByteArray} (hs : s.size ≤ maxLen) :
    ∃ v, (Instr.lookup 167 (.map (some b)) (.string s) false).run Tryz.prog W = .ok v W ∧ isG w (gg L s) v := by
  obtain ⟨f, hf, hfs⟩ := h
  have hlk := hf.look lawS Tryz.underlying9 Tryz.underlying167 false (zeroGv _) hs
  unfold gg
  cases hg : lastG L s with
  | none =>
    rw [(hfs s).1 hg] at hlk
    exact ⟨_, hlk, isG_zero w⟩
  | some g =>
    obtain ⟨v, hv, hi⟩ := (hfs s).2 g hg
    rw [hv] at hlk
    exact ⟨v, hlk, hi⟩
theorem gg_fine {L : List G} (hP : ∀ g ∈ L, sizeV g.v ≤ 1000000 ∧ fineV g.v) (s : ByteArray) : sizeV (gg L s).v ≤ 1000000 ∧ fineV (gg L s).v := by
  unfold gg
  cases hg : lastG L s with
  | none =>
    refine ⟨by simp [zG, zV, sizeV, sizeVs, keysS, ByteArray.size], ?_⟩
    unfold fineV zG zV
    intro y hy
    simp [walkV, walkVs] at hy
    rw [hy]; simp [V.keys]
  | some g => exact hP g (lastG_mem hg).1

/-- Is there a property that turns (rep: that replaces, too)? -/
noncomputable def anyT (K : ByteArray) (A B : List G) (rep : Bool) : Bool :=
  rowsL.any (fun y => match spec K y.nm with | none => false | some x => turnsB (gg A y.nm) (gg B y.nm) && (!rep || x.r))
theorem anyT_iff {K : ByteArray} {A B : List G} {rep : Bool} : anyT K A B rep = true ↔ ∃ s x, spec K s = some x ∧ turnsB (gg A s) (gg B s) = true ∧ (rep = true → x.r = true) := by
  unfold anyT
  rw [List.any_eq_true]
  constructor
  · rintro ⟨y, hy, h⟩
    cases hs : spec K y.nm with
    | none => rw [hs] at h; cases h
    | some x =>
      rw [hs] at h
      simp only [Bool.and_eq_true, Bool.or_eq_true, Bool.not_eq_true'] at h
      refine ⟨y.nm, x, hs, h.1, fun hr => ?_⟩
      rcases h.2 with h2 | h2
      · rw [h2] at hr; cases hr
      · exact h2
  · rintro ⟨s, x, hs, ht, hr⟩
    obtain ⟨_, hn, _, hm⟩ := spec_facts hs
    refine ⟨x, hm, ?_⟩
    rw [hn, hs]
    simp only [ht, Bool.true_and]
    cases rep with
    | false => rfl
    | true => rw [hr rfl]; rfl
noncomputable def chg (K : ByteArray) (A B : List G) : Int := if anyT K A B true then 3 else if anyT K A B false then 2 else 0
noncomputable def differL (K : ByteArray) (A B : List G) : Int × Int :=
  if checkL K A ≠ 0 then (0, checkL K A) else if checkL K B ≠ 0 then (0, checkL K B) else if A.any (·.unk) then (0, 91) else (chg K A B, 0)

/-- What a type's map says. -/
def spF (K : ByteArray) (s : ByteArray) : Option Value := (spec K s).map encSp
theorem spF_some {K s : ByteArray} {c : Value} (h : spF K s = some c) : ∃ x, spec K s = some x ∧ encSp x = c := by
  unfold spF at h
  cases hx : spec K s with
  | none => rw [hx] at h; cases h
  | some x => rw [hx] at h; exact ⟨x, rfl, by simpa using h⟩
theorem spF_is {K s : ByteArray} {x : RwS} (h : spec K s = some x) : (spF K s).isSome = true := by unfold spF; rw [h]; rfl
/-- Where the range over the properties is. -/
def DJ (K : ByteArray) (A B : List G) (left : ByteArray → Bool) (c : Int) : Prop :=
  (∀ s x, spec K s = some x → left s = false → turnsB (gg A s) (gg B s) = true → x.r = false) ∧
  ((c = 0 ∧ ∀ s x, spec K s = some x → left s = false → turnsB (gg A s) (gg B s) = false) ∨ (c = 2 ∧ ∃ s x, spec K s = some x ∧ turnsB (gg A s) (gg B s) = true))
theorem DJ.done {K : ByteArray} {A B : List G} {left : ByteArray → Bool} {c : Int} (h : DJ K A B left c) (hl : ∀ s, left s = false) : chg K A B = c := by
  obtain ⟨h1, h2⟩ := h
  have hn : anyT K A B true = false := by
    rw [Bool.eq_false_iff]
    intro h
    obtain ⟨s, x, hs, ht, hr⟩ := anyT_iff.1 h
    rw [h1 s x hs (hl s) ht] at hr
    cases hr rfl
  unfold chg
  rw [hn, if_neg Bool.false_ne_true]
  rcases h2 with ⟨rfl, h3⟩ | ⟨rfl, s, x, hs, ht⟩
  · have : anyT K A B false = false := by
      rw [Bool.eq_false_iff]
      intro h
      obtain ⟨s, x, hs, ht, _⟩ := anyT_iff.1 h
      rw [h3 s x hs (hl s)] at ht
      cases ht
    rw [this, if_neg Bool.false_ne_true]
  · rw [if_pos (anyT_iff.2 ⟨s, x, hs, ht, fun h => by cases h⟩)]

theorem DJ.skip {K : ByteArray} {A B : List G} {left : ByteArray → Bool} {c : Int} (h : DJ K A B left c) {s : ByteArray} (ht : turnsB (gg A s) (gg B s) = false) : DJ K A B (fun z => left z && !decide (z = s)) c := by
  obtain ⟨h1, h2⟩ := h
  have key : ∀ z, (left z && !decide (z = s)) = false → z = s ∨ left z = false := fun z h => by
    by_cases e : z = s
    · exact .inl e
    · rw [decide_eq_false e] at h; exact .inr (by simpa using h)
  refine ⟨fun z y hz hl hT => ?_, ?_⟩
  · rcases key z hl with rfl | hl
    · rw [ht] at hT; cases hT
    · exact h1 z y hz hl hT
  · rcases h2 with ⟨hc, h3⟩ | h3
    · refine .inl ⟨hc, fun z y hz hl => ?_⟩
      rcases key z hl with rfl | hl
      · exact ht
      · exact h3 z y hz hl
    · exact .inr h3
theorem DJ.mod {K : ByteArray} {A B : List G} {left : ByteArray → Bool} {c : Int} (h : DJ K A B left c) {s : ByteArray} {x : RwS} (hx : spec K s = some x) (ht : turnsB (gg A s) (gg B s) = true) (hr : x.r = false) : DJ K A B (fun z => left z && !decide (z = s)) 2 := by
  refine ⟨fun z y hz hl hT => ?_, .inr ⟨rfl, s, x, hx, ht⟩⟩
  by_cases e : z = s
  · subst e
    rw [hx] at hz
    cases hz
    exact hr
  · have hl' : (left z && !decide (z = s)) = false := hl
    rw [decide_eq_false e] at hl'
    exact h.1 z y hz (by simpa using hl') hT

set_option maxRecDepth 100000 in
set_option maxHeartbeats 8000000 in
/-- Differ behind all that may be wrong. -/
theorem Differ_any (K : ByteArray) (A B : List G) (v u : Value) (w : World) (hE : Env9 w) (hK : K.size ≤ 400) (hl : A.length ≤ 1000000) (hl' : B.length ≤ 1000000) (hP : ∀ g ∈ A, sizeV g.v ≤ 1000000 ∧ fineV g.v) (hP' : ∀ g ∈ B, sizeV g.v ≤ 1000000 ∧ fineV g.v) (h : isGs w A v) (h' : isGs w B u) :
    Calls Tryz.prog 99 #[.string K, v, u] w fun e w' => e = .returned (.tuple #[.int .i8 (differL K A B).1, .int .i64 (differL K A B).2]) ∧ Below w.heap.size w w' := by
  have hkl : K.size ≤ maxLen := by unfold maxLen; omega
  have HC1 := Lib.hid (Check_any K A v w hE hK hl hP h)
  have HC2 : Hid (∀ w1, KB w w1 → Calls Tryz.prog 50 #[.string K, u] w1 fun e w' => e = .returned (.int .i64 (checkL K B)) ∧ Below w1.heap.size w1 w') := Lib.hid fun w1 hb => Check_any K B u w1 (hE.kb hb) hK hl' hP' (isGs_below hb h')
  have HC3 : Hid (∀ w1, KB w w1 → Calls Tryz.prog 66 #[v, .func (.func 119) #[] #[]] w1 fun e w' => e = .returned (.bool (A.any (·.unk))) ∧ Below w1.heap.size w1 w') := Lib.hid fun w1 hb => contG_any A v w1 hl (isGs_below hb h)
  have HN1 : Hid (∀ w1, KB w w1 → Calls Tryz.prog 120 #[v] w1 fun e w' => ∃ b, e = .returned (.map (some b)) ∧ ByName w' b A.length A w1 ∧ Below w1.heap.size w1 w') := Lib.hid fun w1 hb => byName_any A v w1 hl (isGs_below hb h)
  have HN2 : Hid (∀ w1, KB w w1 → Calls Tryz.prog 120 #[u] w1 fun e w' => ∃ b, e = .returned (.map (some b)) ∧ ByName w' b B.length B w1 ∧ Below w1.heap.size w1 w') := Lib.hid fun w1 hb => byName_any B u w1 hl' (isGs_below hb h')
  have HT : Hid (∀ w1, KB w w1 → Calls Tryz.prog 68 #[] w1 fun e w' => ∃ b, e = .returned (.map (some b)) ∧ w1.heap.size ≤ b ∧ TypesAt w' b ∧ Below w1.heap.size w1 w') := Lib.hid fun w1 hb => types_any w1 (hE.kb hb).2 (by have := (hE.kb hb).1.1; omega)
  have HTU : Hid (∀ (s : ByteArray) (v' u' : Value) (w0 w1 : World), KB w w1 → isG w1 (gg A s) v' → isG w1 (gg B s) u' → Calls Tryz.prog 121 #[v', u'] w1 fun e w' => e = .returned (.bool (turnsB (gg A s) (gg B s))) ∧ Below w1.heap.size w1 w') := Lib.hid fun s v' u' w0 w1 hb h1 h2 => turns_any _ _ _ _ _ (hE.kb hb).1 (gg_fine hP s).1 (gg_fine hP s).2 (gg_fine hP' s).1 (gg_fine hP' s).2 h1 h2
  obtain ⟨d, hd⟩ : ∃ d, differL K A B = d := ⟨_, rfl⟩
  rw [hd]
  unfold differL at hd
  have hkn : checkL K A = 0 → known K = true := fun h0 => by
    unfold checkL at h0
    by_cases e : known K = true
    · exact e
    · rw [if_neg e] at h0; cases h0
  clear hE hP hP' h h'
  by_cases h1 : checkL K A ≠ 0
  · rw [if_pos h1] at hd
    subst hd
    dsimp only
    generalize checkL K A = E at *
    have z1 : (E == 0) = false := beqI h1
    have z2 : (E != 0) = true := bne_iff_ne.2 h1
    clear h1 hkn HC2 HC3 HN1 HN2 HT HTU
    go_enter Tryz.func99, Tryz.ntmps99
    go_wp2_with (go_at_call 50; refine HC1.out.mono ?_; rintro e w1 ⟨rfl, hb1⟩)
    refine bodyPost_ret (v := .tuple #[.int .i8 0, .int .i64 E]) (by simp [results, Tryz.results99, go_sem]) rfl ?_
    exact ⟨rfl, hb1⟩
  have h1 : checkL K A = 0 := Decidable.not_not.1 h1
  have hkn := hkn h1
  rw [if_neg (by rw [h1]; simp)] at hd
  rw [h1] at HC1
  by_cases h2 : checkL K B ≠ 0
  · rw [if_pos h2] at hd
    subst hd
    dsimp only
    generalize checkL K B = E at *
    have z1 : (E == 0) = false := beqI h2
    have z2 : (E != 0) = true := bne_iff_ne.2 h2
    clear h2 hkn HC3 HN1 HN2 HT HTU
    go_enter Tryz.func99, Tryz.ntmps99
    go_wp2_with (go_at_call_of 50 v; refine HC1.out.mono ?_; rintro e w1 ⟨rfl, hb1⟩)
    refine (HC2.out _ hb1).mono ?_
    rintro e w2 ⟨rfl, hb2⟩
    go_wp2_with fail
    refine bodyPost_ret (v := .tuple #[.int .i8 0, .int .i64 E]) (by simp [results, Tryz.results99, go_sem]) rfl ?_
    exact ⟨rfl, hb1.trans (hb2.mono hb1.size)⟩
  have h2 : checkL K B = 0 := Decidable.not_not.1 h2
  rw [if_neg (by rw [h2]; simp)] at hd
  rw [h2] at HC2
  cases hu : A.any (·.unk) with
  | true =>
    rw [hu, if_pos rfl] at hd
    rw [hu] at HC3
    subst hd
    clear h1 h2 hkn hu HN1 HN2 HT HTU
    go_enter Tryz.func99, Tryz.ntmps99
    go_wp2_with (go_at_call_of 50 v; refine HC1.out.mono ?_; rintro e w1 ⟨rfl, hb1⟩)
    refine (HC2.out _ hb1).mono ?_
    rintro e w2 ⟨rfl, hb2⟩
    have hb12 := hb1.trans (hb2.mono hb1.size)
    go_wp2_with (go_at_call 66; refine (HC3.out _ hb12).mono ?_; rintro e w3 ⟨rfl, hb3⟩)
    refine bodyPost_ret (v := .tuple #[.int .i8 0, .int .i64 91]) (by simp [results, Tryz.results99, go_sem]) rfl ?_
    exact ⟨rfl, hb12.trans (hb3.mono hb12.size)⟩
  | false =>
    rw [hu, if_neg Bool.false_ne_true] at hd
    rw [hu] at HC3
    subst hd
    dsimp only
    obtain ⟨D, hD⟩ : ∃ D, chg K A B = D := ⟨_, rfl⟩
    rw [hD]
    have HD := Lib.hid hD
    clear h1 h2 hu hD
    go_enter Tryz.func99, Tryz.ntmps99
    go_wp2_with (go_at_call_of 50 v; refine HC1.out.mono ?_; rintro e w1 ⟨rfl, hb1⟩)
    refine (HC2.out _ hb1).mono ?_
    rintro e w2 ⟨rfl, hb2⟩
    have hb12 := hb1.trans (hb2.mono hb1.size)
    clear hb2
    go_wp2_with (go_at_call 66; refine (HC3.out _ hb12).mono ?_; rintro e w3 ⟨rfl, hb3⟩)
    have hb13 := hb12.trans (hb3.mono hb12.size)
    clear hb3 hb12 hb1
    refine (HN1.out _ hb13).mono ?_
    rintro e w4 ⟨ba, rfl, hna, hb4⟩
    have hb14 := hb13.trans (hb4.mono hb13.size)
    go_wp2_with (go_at_call_of 120 u; refine (HN2.out _ hb14).mono ?_; rintro e w5 ⟨bb, rfl, hnb, hb5⟩)
    have hb15 := hb14.trans (hb5.mono hb14.size)
    refine (HT.out _ hb15).mono ?_
    rintro e w6 ⟨bt, rfl, hbt, ht6, hb6⟩
    have hb16 := hb15.trans (hb6.mono hb15.size)
    obtain ⟨b', hlk, hmap, hbb⟩ := ht6.yes hkn hkl false
    simp only [Bool.false_eq_true, if_false] at hlk
    have hb'6 := hmap.lt
    have HNA := Lib.hid ((hna.kept hb5).kept hb6)
    have HNB := Lib.hid (hnb.kept hb6)
    have HG4 : Hid (Below w3.heap.size w3 w6) := Lib.hid ((hb4.trans (hb5.mono hb4.size)).trans (hb6.mono (Nat.le_trans hb4.size hb5.size)))
    have HG5 : Hid (Below w4.heap.size w4 w6) := Lib.hid (hb5.trans (hb6.mono hb5.size))
    have HM : Hid (MapIs Tryz.prog 9 w6 b' 11 (spF K)) := Lib.hid hmap
    have HB6 := Lib.hid hb16
    clear hna hnb hb4 hb5 hb6 hb13 hb14 hb15 hb16 ht6 hmap HC1 HC2 HC3 HN1 HN2 HT
    go_wp2_with (at_range; refine wpList_range_map rfl _ 120 rfl 9 125 lawS Tryz.underlying120 rfl HM.out ?_; intro w7 cnt0 hrg0 hg7 hs7)
    go_frame
    go_loopw [10] (fun c wr => ∃ (q : Int) (left : ByteArray → Bool) (cnt : Nat), c = .int .i8 q ∧ Hid (RangeIs Tryz.prog 9 wr b' w6.heap.size 11 (spF K) left cnt) ∧ Hid (DJ K A B left q) ∧ Hid (Below w6.heap.size w6 wr)) (fun _ wr => wr.rangeLeft b' w6.heap.size)
    case atStart =>
      refine ⟨0, _, _, rfl, Lib.hid hrg0, Lib.hid ⟨fun z y hz hl _ => ?_, .inl ⟨rfl, fun z y hz hl => ?_⟩⟩, Lib.hid ((Below.refl _ _).grown hg7 (Nat.le_refl _) (fun k e => by cases e))⟩
      · have hl' : (spF K z).isSome = false := hl
        rw [spF_is hz] at hl'; cases hl'
      · have hl' : (spF K z).isSome = false := hl
        rw [spF_is hz] at hl'; cases hl'
    case round =>
      obtain ⟨q, left, cnt, rfl, hR, hJ, hB⟩ := hrel
      go_wp2_with (at_next; refine wpList_next_map rfl _ rfl 9 lawS Tryz.underlying9 _ _ _ _ _ _ rfl hR.out ?_ ?_)
      · intro hc0 hl0
        have HQ : Hid (D = q) := Lib.hid (by rw [← HD.out]; exact hJ.out.done hl0)
        go_wp2_with fail
        refine bodyPost_ret (v := .tuple #[.int .i8 q, .int .i64 0]) (by simp [results, Tryz.results99, go_sem]) rfl ?_
        exact ⟨by rw [HQ.out], HB6.out.trans (hB.out.mono HB6.out.size)⟩
      · intro s c w8 cnt8 hsl hls hfs hrg8 hlt8 hg8 hs8 hen8
        obtain ⟨x, hx, rfl⟩ := spF_some hfs
        obtain ⟨xK, xn, xq, xr⟩ := x
        unfold encSp at *
        dsimp only at *
        have hB8 : Below w6.heap.size w6 w8 := hB.out.grown hg8 hB.out.size (fun k e => by cases e; exact Nat.le_refl _)
        have hb89 : Below w8.heap.size w8 (w8.alloc (.cells #[.string xn, .int .i8 xq, .bool xr] 125)) := (Below.refl _ _).alloc (Nat.le_refl _) _
        have hB9 := hB8.trans (hb89.mono hB8.size)
        obtain ⟨va, hla, hva⟩ := (HNA.out.kept hB9).look hsl
        obtain ⟨vb, hlb, hvb⟩ := (HNB.out.kept hB9).look hsl
        have hva9 := isG_below (HG4.out.trans (hB9.mono HG4.out.size)) hva
        have hvb9 := isG_below (HG5.out.trans (hB9.mono HG5.out.size)) hvb
        have HT9 := Lib.hid (HTU.out s va vb w6 _ (HB6.out.trans (hB9.mono HB6.out.size)) hva9 hvb9)
        have hbx : ∀ w9, Below (w8.alloc (.cells #[.string xn, .int .i8 xq, .bool xr] 125)).heap.size (w8.alloc (.cells #[.string xn, .int .i8 xq, .bool xr] 125)) w9 → w9.cell? ⟨wr.heap.size, 2, none⟩ = some (.bool xr) := fun w9 h9 => by rw [← hs8]; exact cell_below h9 _ _ (by simp)
        have HBX := Lib.hid hbx
        have HB89 := Lib.hid hb89
        have HR8 := Lib.hid hrg8
        have HB9 := Lib.hid hB9
        have HMs : Hid (cnt8 < wr.rangeLeft b' w6.heap.size) := Lib.hid (by rw [hR.out.left_eq]; exact hlt8)
        cases ht : turnsB (gg A s) (gg B s) with
        | false =>
          rw [ht] at HT9
          have HJ := Lib.hid (hJ.out.skip ht)
          clear hva hvb hva9 hvb9 hbx hb89 hrg8 hB9 hB8 hls hfs hR hJ hB hg8 hlt8
          go_wp2_with (go_at_call 121; refine HT9.out.mono ?_; rintro e w9 ⟨rfl, hb9⟩)
          have hb99 := HB89.out.trans (hb9.mono HB89.out.size)
          have HRR := Lib.hid (HR8.out.kept (grown_bel hb99) (by simp) (by simp))
          have hBB := HB9.out.trans (hb9.mono HB9.out.size)
          go_roundw
          case rel => exact ⟨q, _, cnt8, rfl, HRR, HJ, Lib.hid hBB⟩
          case measure => rw [HRR.out.left_eq]; exact HMs.out
        | true =>
          rw [ht] at HT9
          cases xr with
          | true =>
            have HQ : Hid (D = 3) := Lib.hid (by rw [← HD.out]; unfold chg; rw [if_pos (anyT_iff.2 ⟨s, _, hx, ht, fun _ => rfl⟩)])
            clear hva hvb hva9 hvb9 hbx hb89 hrg8 hB9 hB8 hls hfs hR hJ hB hg8 hlt8
            go_wp2_with (go_at_call 121; refine HT9.out.mono ?_; rintro e w9 ⟨rfl, hb9⟩; have hbc := HBX.out _ hb9)
            refine bodyPost_ret (v := .tuple #[.int .i8 3, .int .i64 0]) (by simp [results, Tryz.results99, go_sem]) rfl ?_
            exact ⟨by rw [HQ.out], HB6.out.trans ((HB9.out.trans (hb9.mono HB9.out.size)).mono HB6.out.size)⟩
          | false =>
            have HJ := Lib.hid (hJ.out.mod hx ht rfl)
            clear hva hvb hva9 hvb9 hbx hb89 hrg8 hB9 hB8 hls hfs hR hJ hB hg8 hlt8
            go_wp2_with (go_at_call 121; refine HT9.out.mono ?_; rintro e w9 ⟨rfl, hb9⟩; have hbc := HBX.out _ hb9)
            have hb99 := HB89.out.trans (hb9.mono HB89.out.size)
            have HRR := Lib.hid (HR8.out.kept (grown_bel hb99) (by simp) (by simp))
            have hBB := HB9.out.trans (hb9.mono HB9.out.size)
            go_roundw
            case rel => exact ⟨2, _, cnt8, rfl, HRR, HJ, Lib.hid hBB⟩
            case measure => rw [HRR.out.left_eq]; exact HMs.out
end Go.Proofs.YtkigeegahepnaaaGreatDoor

namespace Go.Proofs.YtkigeegahepnaaaGreatDoor
open Go.RowKit

theorem eqA_of {x y sx sy : V} (hx : wrongV x = 0) (hy : wrongV y = 0) (dx : depthV x ≤ 24) (dy : depthV y ≤ 24) (sx' : SortR x sx) (sy' : SortR y sy) : eqA x y = (pcmpV sx sy == 0) := by
  unfold eqA
  rw [cmpA_of hx hy dx dy sx' sy']
  rfl
theorem pcheck_n (n : Int) (h : -9007199254740992 ≤ n ∧ n ≤ 9007199254740992) : pcheckV (nV n) = 0 := by
  unfold pcheckV
  rw [pw_of (wrong_n n h) (show depthV (nV n) ≤ 24 from (show depthV (nV n) = 1 from rfl) ▸ (by omega))]
  rfl
theorem eqA_12 : eqA (nV 1) (nV 2) = false := by
  rw [eqA_of (wrong_n 1 (by omega)) (wrong_n 2 (by omega)) (by decide) (by decide) (sort_leaf _ _ _ _) (sort_leaf _ _ _ _)]
  rfl
theorem wrong_z : wrongV zV = 0 := by
  have h : ownW zV = 0 := own_zero (x := zV) (by unfold plainP zV; simp) (by unfold zV; simp [V.num]) rfl rfl (by unfold zV; simp [V.keys])
  unfold zV at h ⊢
  unfold wrongV
  rw [h]
  rfl
theorem eqA_zz : eqA zV zV = true := by
  rw [eqA_of wrong_z wrong_z (by decide) (by decide) (sort_leaf _ _ _ _) (sort_leaf _ _ _ _)]
  rfl
abbrev sSize : ByteArray := ⟨#[83, 105, 122, 101]⟩
def g1 : G := ⟨sSize, false, nV 1⟩
def g2 : G := ⟨sSize, false, nV 2⟩
theorem check_one (n : Int) (h : -9007199254740992 ≤ n ∧ n ≤ 9007199254740992) : checkL sDisk [⟨sSize, false, nV n⟩] = 0 := by
  have hk : known sDisk = true := by decide
  have hs : spec sDisk sSize = some ⟨sDisk, sSize, 2, false⟩ := by decide
  have ho : okRow sDisk [⟨sSize, false, nV n⟩] = true := okRow_iff.2 fun i hi => by
    obtain rfl : i = 0 := by simpa using hi
    unfold stepB
    simp only [List.getD_cons_zero, hs]
    unfold mayB holdsB
    rw [pcheck_n n h]
    rfl
  unfold checkL
  rw [if_pos hk, if_pos ho]
theorem wakes_differ : differL sDisk [g1] [g2] = (2, 0) := by
  have c1 : checkL sDisk [g1] = 0 := check_one 1 (by omega)
  have c2 : checkL sDisk [g2] = 0 := check_one 2 (by omega)
  have gz : ∀ (g : G) (s : ByteArray), g.nm = sSize → s ≠ sSize → gg [g] s = zG := fun g s hg hs => by
    unfold gg lastG
    simp [hg, Ne.symm hs]
  have gs : ∀ g : G, g.nm = sSize → gg [g] sSize = g := fun g hg => by
    unfold gg lastG
    simp [hg]
  have tz : turnsB zG zG = false := by
    unfold turnsB zG
    simp [eqA_zz]
  have t12 : turnsB g1 g2 = true := by
    unfold turnsB g1 g2
    simp [eqA_12]
  have key : ∀ y ∈ rowsL, y.K = sDisk → y.nm = sSize → y.r = false := by decide
  have n1 : anyT sDisk [g1] [g2] true = false := by
    rw [Bool.eq_false_iff]
    intro h
    obtain ⟨s, x, hs, ht, hr⟩ := anyT_iff.1 h
    obtain ⟨hK, hn, _, hm⟩ := spec_facts hs
    by_cases e : s = sSize
    · have := key x hm hK (hn.trans e)
      rw [hr rfl] at this
      cases this
    · rw [gz g1 s rfl e, gz g2 s rfl e, tz] at ht
      cases ht
  have n2 : anyT sDisk [g1] [g2] false = true := anyT_iff.2 ⟨sSize, ⟨sDisk, sSize, 2, false⟩, by decide, by rw [gs g1 rfl, gs g2 rfl]; exact t12, fun h => by cases h⟩
  unfold differL chg
  rw [c1, c2, n1, n2]
  rfl

theorem isGs_one {W : World} {blk : Nat} {t : TypeId} (n : Int) (hn : -9223372036854775808 ≤ n ∧ n ≤ 9223372036854775807) (h : W.heap[blk]? = some (.cells #[.string sSize, .bool false, .int .i8 2, .bool false, .int .i64 n, .string ⟨#[]⟩, .slice none 0 0, .slice none 0 0] t (0, 0))) :
    isGs W [⟨sSize, false, nV n⟩] (.slice (some ⟨blk, 0, none⟩) 1 1) := by
  have hc : ∀ i, W.cell? ⟨blk, i, none⟩ = (#[.string sSize, .bool false, .int .i8 2, .bool false, .int .i64 n, .string ⟨#[]⟩, .slice none 0 0, .slice none 0 0] : Array Value)[i]? := fun i => cell_of_row _ _ _ _ _ _ h
  refine ⟨⟨blk, 0, none⟩, 1, ⟨_, rfl, Nat.le_refl _, by unfold maxLen; omega, fun _ => rfl⟩, fun i hi => ?_⟩
  obtain rfl : i = 0 := by simpa using hi
  have ha : (⟨blk, 0, none⟩ : Addr).add (0 * 8) = ⟨blk, 0, none⟩ := by simp [Addr.add]
  rw [ha]
  refine ⟨_, _, _, _, _, _, (hc 0).trans rfl, (hc 1).trans rfl, (hc 2).trans rfl, (hc 3).trans rfl, (hc 4).trans rfl, (hc 5).trans rfl, (hc 6).trans rfl, (hc 7).trans rfl, ?_, by unfold maxLen; simp [ByteArray.size]⟩
  show isV W (nV n) _
  unfold nV isV
  refine ⟨_, _, rfl, by omega, hn, by unfold maxLen; simp [ByteArray.size], ⟨⟨0, 0, none⟩, 0, ⟨none, rfl, Nat.le_refl _, by unfold maxLen; omega, fun h => by simp at h⟩, ?_⟩, ⟨⟨0, 0, none⟩, 0, ⟨none, rfl, Nat.le_refl _, by unfold maxLen; omega, fun h => by simp at h⟩, fun i h => by simp at h⟩⟩
  unfold isVs
  trivial
theorem fine_n (n : Int) : sizeV (nV n) ≤ 1000000 ∧ fineV (nV n) := by
  refine ⟨by simp [nV, sizeV, sizeVs, keysS, ByteArray.size], ?_⟩
  unfold fineV nV
  intro y hy
  simp [walkV, walkVs] at hy
  rw [hy]; simp [V.keys]
theorem attr_wake : attrV sDisk ⟨#[112, 55]⟩ ⟨#[65, 114, 110]⟩ = (⟨#[68, 105, 115, 107, 58, 112, 55]⟩, 0) := by decide

end Go.Proofs.YtkigeegahepnaaaGreatDoor
