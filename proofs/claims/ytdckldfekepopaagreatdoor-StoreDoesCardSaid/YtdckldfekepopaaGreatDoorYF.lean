/-
  The law's wakes. · Acts as they read; the law's acts, Great. · What is told of a store does not lie in a box of two cells; the round of StoreOnce, plain.
-/
import Derived.Test.YtdckldfekepopaaGreatDoorYD
import Derived.Test.YtdckldfekepopaaGreatDoorYE
set_option linter.unusedVariables false
set_option linter.unusedSimpArgs false
namespace Go.Proofs.YtdckldfekepopaaGreatDoor
open Go.RowKit

theorem phys1 : physS 1 = ⟨#[112, 49]⟩ := by
  unfold physS
  have h : Nu.txt 1 = [49] := by
    rw [Nu.txt_pos (Nu.fitB_iff.2 ⟨by omega, by omega⟩) (by omega)]
    show Nu.digs 1 = _
    rw [Nu.digs_lt (by omega)]
    rfl
  rw [h]
theorem phys2 : physS 2 = ⟨#[112, 50]⟩ := by
  unfold physS
  have h : Nu.txt 2 = [50] := by
    rw [Nu.txt_pos (Nu.fitB_iff.2 ⟨by omega, by omega⟩) (by omega)]
    show Nu.digs 2 = _
    rw [Nu.digs_lt (by omega)]
    rfl
  rw [h]
def tw1 : Th := ⟨⟨#[112, 49]⟩, sDisk, [g1]⟩
def tw2 : Th := ⟨⟨#[112, 50]⟩, sNet, []⟩
theorem wrong_w1 : wrongL sDisk [g1] = 0 := by
  have h : checkL sDisk [g1] = 0 := check_one 1 (by omega)
  unfold wrongL
  rw [if_pos h]
  rfl
theorem wrong_w2 : wrongL sNet [] = 0 := by
  have h : checkL sNet [] = 0 := by
    unfold checkL
    rw [if_pos (by decide), if_pos (by rfl)]
  unfold wrongL
  rw [if_pos h]
  rfl
theorem ok_zS : okS zS := by
  refine ⟨⟨by decide, by decide⟩, fun t ht => ?_, List.Pairwise.nil⟩
  exact absurd (show t ∈ ([] : List Th) from ht) List.not_mem_nil
theorem ok_z1 : okS ⟨[], 1⟩ := by
  refine ⟨⟨by decide, by decide⟩, fun t ht => ?_, List.Pairwise.nil⟩
  exact absurd (show t ∈ ([] : List Th) from ht) List.not_mem_nil
theorem wake_c1 : createL zS sDisk [g1] = (⟨[tw1], 1⟩, ⟨#[112, 49]⟩, 0) := by
  unfold createL
  rw [if_pos ((okS_iff _).2 ok_zS), if_pos wrong_w1, if_neg (by decide)]
  show ((⟨[⟨physS 1, sDisk, [g1]⟩], 1⟩, physS 1, 0) : St × ByteArray × Int) = _
  rw [phys1]; rfl
theorem ok_w1 : okS ⟨[tw1], 1⟩ := by
  have h : (createL zS sDisk [g1]).2.2 = 0 := by rw [wake_c1]
  have := (create_ok h).2.2.2.2
  have e : physS (zS.made + 1) = ⟨#[112, 49]⟩ := phys1
  rw [e] at this
  exact this
theorem wake_d1 : deleteL ⟨[tw1], 1⟩ ⟨#[112, 49]⟩ = (⟨[], 1⟩, 0) := by
  unfold deleteL
  have h : idxT [tw1] ⟨#[112, 49]⟩ = some 0 := idx_at ok_w1 (i := 0) (by simp)
  rw [if_pos ((okS_iff _).2 ok_w1), h]; rfl
theorem wake_c2 : createL ⟨[], 1⟩ sNet [] = (⟨[tw2], 2⟩, ⟨#[112, 50]⟩, 0) := by
  unfold createL
  rw [if_pos ((okS_iff _).2 ok_z1), if_pos wrong_w2, if_neg (by decide)]
  show ((⟨[⟨physS 2, sNet, []⟩], 2⟩, physS 2, 0) : St × ByteArray × Int) = _
  rw [phys2]; rfl
theorem fine_z : fineS zS := ⟨by decide, fun t ht => by cases ht⟩
theorem fine_z1 : fineS ⟨[], 1⟩ := ⟨by decide, fun t ht => by cases ht⟩
theorem fine_g1 : fineG [g1] := ⟨by decide, fun g hg => by rw [List.mem_singleton.1 hg]; exact fine_n 1⟩
theorem fine_w1 : fineS ⟨[tw1], 1⟩ := ⟨by decide, fun t ht => by rw [List.mem_singleton.1 ht]; exact ⟨by decide, fine_g1⟩⟩
theorem isGs_none (W : World) : isGs W [] (.slice none 0 0) := ⟨⟨0, 0, none⟩, 0, ⟨none, rfl, Nat.le_refl _, by unfold maxLen; omega, fun h => absurd h (by decide)⟩, fun i h => absurd h (by simp)⟩

set_option maxRecDepth 100000 in
set_option maxHeartbeats 8000000 in
theorem wakes10_any (w : World) (hE : Env9 w) : Calls Tryz.prog 7 #[] w fun e w' => e = .returned (.bool true) ∧ Below w.heap.size w w' := by
  have HB1 : KB w (w.alloc (.cells #[.string ⟨#[83, 105, 122, 101]⟩, .bool false, .int .i8 2, .bool false, .int .i64 1, .string ⟨#[]⟩, .slice none 0 0, .slice none 0 0] 66)) := kbA
  have hn := World.alloc_heap_new w (.cells #[.string ⟨#[83, 105, 122, 101]⟩, .bool false, .int .i8 2, .bool false, .int .i64 1, .string ⟨#[]⟩, .slice none 0 0, .slice none 0 0] 66)
  have hg : isGs (w.alloc (.cells #[.string ⟨#[83, 105, 122, 101]⟩, .bool false, .int .i8 2, .bool false, .int .i64 1, .string ⟨#[]⟩, .slice none 0 0, .slice none 0 0] 66)) [g1] (.slice (some ⟨w.heap.size, 0, none⟩) 1 1) := isGs_one 1 (by omega) hn
  have C1 := Create_any zS sDisk [g1] _ _ _ (hE.kb HB1) fine_z (by decide) fine_g1 (isS_zero _) hg
  rw [wake_c1] at C1
  have C1 := Lib.hid C1
  have HE := Lib.hid hE
  clear hE hn hg
  go_enter Tryz.func7, Tryz.ntmps7
  go_wp2_with fail
  refine C1.out.mono ?_
  rintro e1 w1 ⟨⟨v1, rfl, hs1⟩, hb1⟩
  have H1 : KB w w1 := HB1.trans (hb1.mono HB1.size)
  clear C1 hb1 HB1
  obtain ⟨o1, c1, rfl, -, -⟩ := isS_two hs1
  change isS w1 ⟨[tw1], 1⟩ (.agg #[.slice o1 1 c1, .int .i64 1]) at hs1
  have HD : Hid (∀ w2, KB w1 w2 → Calls Tryz.prog 13 #[.agg #[.slice o1 1 c1, .int .i64 1], .string ⟨#[112, 49]⟩] w2 fun e w' => (∃ v', e = .returned (.tuple #[v', .int .i64 0]) ∧ isS w' ⟨[], 1⟩ v') ∧ Below w2.heap.size w2 w') := Lib.hid fun w2 hk => by
    have := Delete_any ⟨[tw1], 1⟩ ⟨#[112, 49]⟩ _ w2 (HE.out.kb (H1.trans (hk.mono H1.size))) fine_w1 (isS_below hk hs1)
    rwa [wake_d1] at this
  have H1 := Lib.hid H1
  clear hs1
  show _
  dsimp only [List.length]
  go_wp2_with fail
  have A2 : KB w1 (w1.alloc (.cells #[.slice o1 1 c1, .int .i64 1] 24)) := kbA
  refine (HD.out _ A2).mono ?_
  rintro e2 w2 ⟨⟨v2, rfl, hs2⟩, hb2⟩
  have H2 : KB w w2 := H1.out.trans ((A2.trans (hb2.mono A2.size)).mono H1.out.size)
  clear HD hb2 A2
  obtain ⟨o2, c2, rfl, -, -⟩ := isS_two hs2
  change isS w2 ⟨[], 1⟩ (.agg #[.slice o2 0 c2, .int .i64 1]) at hs2
  have HC : Hid (∀ w3, KB w2 w3 → Calls Tryz.prog 8 #[.agg #[.slice o2 0 c2, .int .i64 1], .string ⟨#[78, 101, 116]⟩, .slice none 0 0] w3 fun e w' => (∃ v', e = .returned (.tuple #[v', .string ⟨#[112, 50]⟩, .int .i64 0]) ∧ isS w' ⟨[tw2], 2⟩ v') ∧ Below w3.heap.size w3 w') := Lib.hid fun w3 hk => by
    have := Create_any ⟨[], 1⟩ sNet [] _ _ w3 (HE.out.kb (H2.trans (hk.mono H2.size))) fine_z1 (by decide) ⟨by decide, fun g hg => absurd hg List.not_mem_nil⟩ (isS_below hk hs2) (isGs_none w3)
    rwa [wake_c2] at this
  have H2 := Lib.hid H2
  clear hs2 H1
  show _
  dsimp only [List.length]
  go_wp2_with fail
  have A3 : KB w2 (w2.alloc (.cells #[.slice o2 0 c2, .int .i64 1] 24)) := kbA
  refine (HC.out _ A3).mono ?_
  rintro e3 w3 ⟨⟨v3, rfl, hs3⟩, hb3⟩
  have H3 : KB w w3 := H2.out.trans ((A3.trans (hb3.mono A3.size)).mono H2.out.size)
  clear HC hb3 A3 H2 HE
  obtain ⟨lv, rfl, ⟨a, c3, ⟨o3, rfl, q1, q2, ho⟩, hat⟩, -⟩ := hs3
  obtain rfl := ho (by decide)
  obtain ⟨ob, cb, g0, g1', g2, -⟩ := isTat_three (hat 0 (by decide))
  change w3.cell? ⟨a.block, a.off + 1, none⟩ = some (.string ⟨#[78, 101, 116]⟩) at g1'
  have H3 := Lib.hid H3
  clear hat ho q1 q2 g0 g2
  show _
  dsimp only [List.length]
  have A4 : KB w3 (w3.alloc (.cells #[.slice (some a) 1 c3, .int .i64 2] 24)) := kbA
  have k1 := cell_below A4 _ _ g1'
  have H4 := Lib.hid (H3.out.trans (A4.mono H3.out.size))
  clear g1' A4 H3
  go_wp2_with fail
  go_returns
  exact ⟨rfl, H4.out⟩
end Go.Proofs.YtdckldfekepopaaGreatDoor

namespace Go.Proofs.YtdckldfekepopaaGreatDoor
open Go.RowKit

/-- A deed. -/
structure Ac where
  dO : Int
  kd : ByteArray
  ps : List G
  n : Int
def isAat (W : World) (x : Ac) (a : Addr) : Prop := ∃ pv, W.cell? a = some (.int .i64 x.dO) ∧ W.cell? ⟨a.block, a.off + 1, none⟩ = some (.string x.kd) ∧ W.cell? ⟨a.block, a.off + 2, none⟩ = some pv ∧ W.cell? ⟨a.block, a.off + 3, none⟩ = some (.int .i64 x.n) ∧ isGs W x.ps pv ∧ x.kd.size ≤ maxLen ∧ (-9223372036854775808 ≤ x.dO ∧ x.dO ≤ 9223372036854775807) ∧ (-9223372036854775808 ≤ x.n ∧ x.n ≤ 9223372036854775807)
def isAs (W : World) (L : List Ac) (v : Value) : Prop := ∃ a cap, slv v L.length a cap ∧ ∀ i (h : i < L.length), isAat W L[i] (a.add (i * 4))
theorem isAat_below {W W' : World} (hb : Below W.heap.size W W') {x : Ac} {a : Addr} (h : isAat W x a) : isAat W' x a := by
  obtain ⟨pv, g0, g1, g2, g3, h2, h3⟩ := h
  have k := cell_below hb
  exact ⟨pv, k _ _ g0, k _ _ g1, k _ _ g2, k _ _ g3, isGs_below hb h2, h3⟩
theorem isAs_below {W W' : World} (hb : Below W.heap.size W W') {L : List Ac} {v : Value} (h : isAs W L v) : isAs W' L v := by
  obtain ⟨a, cap, h1, h2⟩ := h
  exact ⟨a, cap, h1, fun i hi => isAat_below hb (h2 i hi)⟩
theorem isAat_four {W : World} {x : Ac} {a : Addr} (h : isAat W x a) : ∃ (o : Option Addr) (cap : Nat), W.cell? a = some (.int .i64 x.dO) ∧ W.cell? ⟨a.block, a.off + 1, none⟩ = some (.string x.kd) ∧ W.cell? ⟨a.block, a.off + 2, none⟩ = some (.slice o x.ps.length cap) ∧ W.cell? ⟨a.block, a.off + 3, none⟩ = some (.int .i64 x.n) ∧ isGs W x.ps (.slice o x.ps.length cap) ∧ x.kd.size ≤ maxLen ∧ (-9223372036854775808 ≤ x.dO ∧ x.dO ≤ 9223372036854775807) ∧ (-9223372036854775808 ≤ x.n ∧ x.n ≤ 9223372036854775807) := by
  obtain ⟨pv, g0, g1, g2, g3, hg, h3⟩ := h
  have hg' := hg
  obtain ⟨a, cap, ⟨o, rfl, _⟩, _⟩ := hg
  exact ⟨o, cap, g0, g1, g2, g3, hg', h3⟩
def badA (x : Ac) : Bool := decide (400 < x.kd.size) || greatG x.ps
def actsL (L : List Ac) : Bool := (L.take 41).any badA || decide (40 < L.length)
theorem actsL_no {L : List Ac} (h : actsL L = false) : L.length ≤ 40 ∧ ∀ x ∈ L, x.kd.size ≤ 400 ∧ greatG x.ps = false := by
  unfold actsL at h
  rw [Bool.or_eq_false_iff] at h
  have h2 := of_decide_eq_false h.2
  refine ⟨by omega, fun x hx => ?_⟩
  rw [List.take_of_length_le (by omega)] at h
  have h3 := List.any_eq_false.1 h.1 x hx
  have h4 : badA x = false := by simpa using h3
  unfold badA at h4
  rw [Bool.or_eq_false_iff] at h4
  have := of_decide_eq_false h4.1
  exact ⟨by omega, h4.2⟩

set_option maxRecDepth 100000 in
set_option maxHeartbeats 8000000 in
theorem acts_any (L : List Ac) (v : Value) (w : World) (h : isAs w L v) :
    Calls Tryz.prog 16 #[v] w fun e w' => e = .returned (.bool (actsL L)) ∧ Below w.heap.size w w' := by
  obtain ⟨a, cap, ⟨o, rfl, hc1, hc2, ho⟩, hat⟩ := h
  unfold maxLen at hc2
  have HK := Lib.hid hat
  obtain ⟨r, hr⟩ : ∃ r, actsL L = r := ⟨_, rfl⟩
  rw [hr]
  have HR := Lib.hid hr
  clear hat hr
  go_enter Tryz.func16, Tryz.ntmps16
  go_wp2_with fail
  go_loopw [3] (fun i wr => ∃ (j : Nat), j ≤ L.length ∧ j ≤ 41 ∧ i = .int .i64 j ∧ Hid ((L.take j).any badA = false) ∧ Hid (Below w.heap.size w wr)) (fun i _ => L.length - (intOf i).toNat)
  case atStart => exact ⟨0, by omega, by omega, rfl, Lib.hid rfl, Lib.hid (Below.refl _ _)⟩
  case round =>
    obtain ⟨j, hj, hj41, rfl, hA, hB⟩ := hrel
    by_cases hlt : j < L.length
    · by_cases h40 : j ≤ 40
      · have y1 : decide ((j : Int) ≤ 40) = true := decide_eq_true (by omega)
        obtain rfl := ho (by omega)
        obtain ⟨o1, c1, q0, q1, q2, q3, hg, hp1, -⟩ := isAat_four (isAat_below hB.out (HK.out j hlt))
        have HG := Lib.hid (great9_any L[j].ps _ wr hg)
        have hst : (L.take (j + 1)).any badA = badA L[j] := by
          rw [List.take_succ_eq_append_getElem hlt, List.any_append, hA.out]
          simp
        have hup : badA L[j] = true → r = true := fun h => by
          rw [← HR.out]
          unfold actsL
          rw [Bool.or_eq_true, List.any_eq_true]
          exact .inl ⟨L[j], List.mem_take_iff_getElem.2 ⟨j, by omega, rfl⟩, h⟩
        clear hg q0 q3
        by_cases hb1 : 400 < L[j].kd.size
        · have HR2 := Lib.hid (hup (by unfold badA; rw [decide_eq_true hb1]; rfl))
          have y2 : decide ((400 : Int) < (L[j].kd.size : Int)) = true := decide_eq_true (by omega)
          clear hup hst hb1
          generalize L[j] = t at *
          go_wp2_with fail
          go_ret
          exact ⟨ret_bool HR2.out.symm, hB.out⟩
        · have y2 : decide ((400 : Int) < (L[j].kd.size : Int)) = false := decide_eq_false (by omega)
          by_cases hb2 : greatG L[j].ps = true
          · have HR2 := Lib.hid (hup (by unfold badA; rw [hb2, Bool.or_true]))
            rw [hb2] at HG
            clear hup hst hb1 hb2
            generalize L[j] = t at *
            go_wp2_with (go_at_call 24; refine HG.out.mono ?_; rintro e w5 ⟨rfl, hb5⟩)
            go_ret
            exact ⟨ret_bool HR2.out.symm, hB.out.trans (hb5.mono hB.out.size)⟩
          · have hb2' : greatG L[j].ps = false := by simpa using hb2
            rw [hb2'] at HG
            have HA2 : Hid ((L.take (j + 1)).any badA = false) := Lib.hid (by rw [hst]; unfold badA; rw [hb2', decide_eq_false hb1]; rfl)
            clear hup hst hb1 hb2 hb2'
            generalize L[j] = t at *
            go_wp2_with (go_at_call 24; refine HG.out.mono ?_; rintro e w5 ⟨rfl, hb5⟩)
            go_roundw
            case rel => exact ⟨j + 1, by omega, by omega, by go_num, HA2, Lib.hid (hB.out.trans (hb5.mono hB.out.size))⟩
            case measure => simp [intOf]; omega
      · obtain rfl : j = 41 := by omega
        have y1 : decide (((41 : Nat) : Int) ≤ 40) = false := by decide
        have y2 : decide ((40 : Int) < (L.length : Int)) = true := decide_eq_true (by omega)
        have HRES : Hid (r = true) := Lib.hid (by
          rw [← HR.out]
          unfold actsL
          rw [decide_eq_true (show 40 < L.length by omega), Bool.or_true])
        clear h40
        go_wp2_with fail
        go_ret
        exact ⟨ret_bool HRES.out.symm, hB.out⟩
    · obtain rfl : j = L.length := by omega
      have HRES : Hid (r = decide ((40 : Int) < (L.length : Int))) := Lib.hid (by
        have := hA.out
        rw [List.take_of_length_le (Nat.le_refl _)] at this
        rw [← HR.out]
        unfold actsL
        rw [List.take_of_length_le (by omega), this, Bool.false_or]
        exact decide_eq_decide.2 (by omega))
      go_wp2_with fail
      go_ret
      exact ⟨ret_bool HRES.out.symm, hB.out⟩
end Go.Proofs.YtdckldfekepopaaGreatDoor

namespace Go.Proofs.YtdckldfekepopaaGreatDoor
open Go.RowKit

/-- Two cells, none a text. -/
def Box (W : World) (b : Nat) : Prop := ∃ c0 c1 t, W.heap[b]? = some (.cells #[c0, c1] t (0, 0)) ∧ (∀ s, c0 ≠ .string s) ∧ (∀ s, c1 ≠ .string s)
theorem box_cell {W : World} {b : Nat} (h : Box W b) {a : Addr} {c : Value} (hb : a.block = b) (hc : W.cell? a = some c) : a.off < 2 ∧ ∀ s, c ≠ .string s := by
  obtain ⟨c0, c1, t, h1, h2, h3⟩ := h
  unfold World.cell? at hc
  rw [hb, h1] at hc
  dsimp only at hc
  split at hc
  · cases hc
  · obtain ⟨blk, off, sp⟩ := a
    dsimp only at hc ⊢
    match off, hc with
    | 0, hc => 
      have : c0 = c := by simpa using hc
      subst this; exact ⟨by omega, h2⟩
    | 1, hc => 
      have : c1 = c := by simpa using hc
      subst this; exact ⟨by omega, h3⟩
    | k + 2, hc => simp at hc
theorem box_far {W : World} {b : Nat} (h : Box W b) {a : Addr} {k : Nat} {c : Value} (hk : 2 ≤ k) (hc : W.cell? (a.add k) = some c) : a.block ≠ b := fun e => by
  have := (box_cell h (by rw [add_block]; exact e) hc).1
  unfold Addr.add at this
  rw [if_neg (by omega)] at this
  dsimp only at this
  omega
theorem box_text {W : World} {b : Nat} (h : Box W b) {a : Addr} {s : ByteArray} (hc : W.cell? a = some (.string s)) : a.block ≠ b := fun e => (box_cell h e hc).2 s rfl
mutual
theorem isVa_off {W : World} {b : Nat} (hB : Box W b) : ∀ (x : V) (v : Value), isV W x v → isVa W (fun q => q ≠ b) x v
  | .mk k bb n s l ks, v, h => by
    unfold isV at h
    unfold isVa
    obtain ⟨lv, kv, h1, h2, h3, h4, ⟨a, cap, h5, h7⟩, ⟨a2, cap2, k1, k3⟩⟩ := h
    refine ⟨lv, kv, h1, h2, h3, h4, ⟨a, cap, h5, fun h0 => ?_, isVas_off hB l a h7⟩, ⟨a2, cap2, k1, fun h0 => ?_, k3⟩⟩
    · match l, h0, h7 with
      | x :: t, _, h7 =>
        unfold isVs at h7
        obtain ⟨⟨c0, c1, c2, c3, c4, c5, g0, g1, g2, g3, g4, g5, hx⟩, ht⟩ := h7
        exact box_far hB (by omega) g5
    · have := box_text hB (k3 0 h0).1
      rwa [add_block] at this
theorem isVas_off {W : World} {b : Nat} (hB : Box W b) : ∀ (l : List V) (a : Addr), isVs W l a → isVas W (fun q => q ≠ b) l a
  | [], _, _ => by unfold isVas; trivial
  | x :: t, a, h => by
    unfold isVs at h
    unfold isVas
    obtain ⟨⟨c0, c1, c2, c3, c4, c5, g0, g1, g2, g3, g4, g5, hx⟩, ht⟩ := h
    exact ⟨⟨c0, c1, c2, c3, c4, c5, g0, g1, g2, g3, g4, g5, isVa_off hB x _ hx⟩, isVas_off hB t _ ht⟩
end
theorem isGsa_off {W : World} {b : Nat} (hB : Box W b) {L : List G} {v : Value} (h : isGs W L v) : isGsa W (fun q => q ≠ b) L v := by
  obtain ⟨a, cap, h1, h2⟩ := h
  refine ⟨a, cap, h1, fun h0 => ?_, fun i hi => ?_⟩
  · obtain ⟨_, _, _, _, _, _, g0, _⟩ := h2 0 h0
    have := box_text hB g0
    rwa [add_block] at this
  · obtain ⟨c0, c1, c2, c3, c4, c5, g0, g1, g2, g3, g4, g5, g6, g7, hv, hn⟩ := h2 i hi
    exact ⟨c0, c1, c2, c3, c4, c5, g0, g1, g2, g3, g4, g5, g6, g7, isVa_off hB _ _ hv, hn⟩
theorem isTsa_off {W : World} {b : Nat} (hB : Box W b) {L : List Th} {v : Value} (h : isTs W L v) : isTsa W (fun q => q ≠ b) L v := by
  obtain ⟨a, cap, h1, h2⟩ := h
  refine ⟨a, cap, h1, fun h0 => ?_, fun i hi => ?_⟩
  · obtain ⟨_, g0, _⟩ := h2 0 h0
    have := box_text hB g0
    rwa [add_block] at this
  · obtain ⟨pv, g0, g1, g2, hg, hn⟩ := h2 i hi
    exact ⟨pv, g0, g1, g2, isGsa_off hB hg, hn⟩
theorem isS_box {W W' : World} {b : Nat} {s : St} {v : Value} (hB : Box W b) (hg : W.grownBy W' (some b)) (h : isS W s v) : isS W' s v := by
  obtain ⟨lv, e, hts, hm⟩ := h
  exact ⟨lv, e, isTs_of_a (isTsa_keep (fun a c hq hc => hg.cell hc (fun e => hq (Option.some.inj e))) (isTsa_off hB hts)), hm⟩
theorem isGs_box {W W' : World} {b : Nat} {L : List G} {v : Value} (hB : Box W b) (hg : W.grownBy W' (some b)) (h : isGs W L v) : isGs W' L v :=
  isGs_of_a (isGsa_keep (fun a c hq hc => hg.cell hc (fun e => hq (Option.some.inj e))) (isGsa_off hB h))

/-! The round. -/
/-- What is left of a deed that went well: the new store. -/
structure Went (s t : St) (p : ByteArray) : Prop where
  ok : okS t
  len : t.l.length ≤ s.l.length + 1
  mem : ∀ y ∈ t.l, y ∈ s.l ∨ (y.ty.size ≤ 400 ∧ fineG y.ps)
  get : ∀ y ∈ s.l, y.ph ≠ p → getT t y.ph = (y, true)
theorem Went.fine {s t : St} {p : ByteArray} {j : Nat} (h : Went s t p) (hs : fineS s) (hl : s.l.length ≤ j) (hj : j < 1000) : fineS t :=
  ⟨by have := h.len; omega, fun y hy => (h.mem y hy).elim (hs.2 y) id⟩
theorem went_create {s : St} {K : ByteArray} {ps : List G} (hs : fineS s) (hK : K.size ≤ 400) (hP : fineG ps) (h : (createL s K ps).2.2 = 0) :
    Went s (createL s K ps).1 (createL s K ps).2.1 ∧ (createL s K ps).1.made = s.made + 1 ∧ (createL s K ps).1.l.length = s.l.length + 1 ∧ (createL s K ps).2.1 = physS (s.made + 1) ∧ (0 ≤ s.made ∧ s.made < 1099511627776) := by
  obtain ⟨h1, h2, h3, h4, h5⟩ := create_ok h
  rw [h4]
  refine ⟨⟨h5, by simp, fun y hy => ?_, fun y hy hne => ?_⟩, rfl, by simp, rfl, h1.1.1, h3⟩
  · rcases List.mem_append.1 hy with hy | hy
    · exact .inl hy
    · rw [List.mem_singleton.1 hy]; exact .inr ⟨hK, hP⟩
  · exact get_mem h5 (List.mem_append_left _ hy)
theorem went_delete {s : St} {p : ByteArray} (h : (deleteL s p).2 = 0) :
    Went s (deleteL s p).1 p ∧ (deleteL s p).1.made = s.made ∧ (deleteL s p).1.l.length + 1 = s.l.length ∧ (getT (deleteL s p).1 p).2 = false := by
  obtain ⟨h1, j, h2, hj, h3, h4, h5, h6, h7⟩ := delete_ok h
  rw [h4]
  have hlen : (s.l.take j ++ s.l.drop (j + 1)).length + 1 = s.l.length := by simp; omega
  refine ⟨⟨h5, by show (s.l.take j ++ s.l.drop (j + 1)).length ≤ _; omega, fun y hy => .inl ?_, fun y hy hne => get_mem h5 (h7 y hy hne)⟩, rfl, hlen, ?_⟩
  · rcases List.mem_append.1 hy with hy | hy
    · exact List.mem_of_mem_take hy
    · exact List.mem_of_mem_drop hy
  · show (getT ⟨s.l.take j ++ s.l.drop (j + 1), s.made⟩ p).2 = false
    rw [get_none h6]
theorem went_update {s : St} {p : ByteArray} {ps : List G} (hs : fineS s) (hP : fineG ps) (h : (updateL s p ps).2 = 0) :
    Went s (updateL s p ps).1 p ∧ (updateL s p ps).1.made = s.made ∧ (updateL s p ps).1.l.length = s.l.length := by
  obtain ⟨h1, j, h2, hj, h3, h4, h5, h6, h7, h8⟩ := update_ok h
  rw [h7]
  refine ⟨⟨h8, by simp, fun y hy => ?_, fun y hy hne => get_mem h8 ?_⟩, rfl, by simp⟩
  · rcases List.mem_or_eq_of_mem_set hy with hy | rfl
    · exact .inl hy
    · exact .inr ⟨(hs.2 _ (List.getElem_mem hj)).1, hP⟩
  · obtain ⟨i, hi, rfl⟩ := List.getElem_of_mem hy
    have hij : j ≠ i := fun e => by subst e; exact hne h3
    have : (s.l.set j ⟨s.l[j].ph, s.l[j].ty, ps⟩)[i]'(by simpa using hi) = s.l[i] := List.getElem_set_ne hij _
    show s.l[i] ∈ s.l.set j ⟨s.l[j].ph, s.l[j].ty, ps⟩
    rw [← this]
    exact List.getElem_mem _
end Go.Proofs.YtdckldfekepopaaGreatDoor
