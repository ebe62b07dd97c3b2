/-
  The reference's types and their properties. · The reference's words, physical ids, numbers; properties that are known; the property of a name. · The reference's value: may a value be one of a kind?
-/
import Derived.Test.YtdckldfekepopaaGreatDoorYF
import Derived.Test.YtdckldfekepopaaGreatDoorWN
import Derived.Test.YtdckldfekepopaaGreatDoorZC
set_option linter.unusedVariables false
set_option linter.unusedSimpArgs false
namespace Go.Proofs.YtdckldfekepopaaGreatDoor
open Go.RowKit

/-- A type's properties, in the reference's order. -/
def specL (K : ByteArray) : List RwS :=
  if K = sDisk then [⟨sDisk, ⟨#[75, 105, 110, 100]⟩, 3, true⟩, ⟨sDisk, ⟨#[83, 105, 122, 101]⟩, 2, false⟩, ⟨sDisk, ⟨#[84, 97, 103, 115]⟩, 4, false⟩]
  else if K = sNet then [⟨sNet, ⟨#[76, 97, 98, 101, 108]⟩, 3, false⟩, ⟨sNet, ⟨#[82, 97, 110, 103, 101]⟩, 3, true⟩]
  else if K = sNode then [⟨sNode, ⟨#[67, 111, 117, 110, 116]⟩, 2, false⟩, ⟨sNode, ⟨#[68, 105, 115, 107]⟩, 3, false⟩, ⟨sNode, ⟨#[73, 109, 97, 103, 101]⟩, 3, true⟩, ⟨sNode, ⟨#[78, 101, 116]⟩, 3, true⟩]
  else if K = sRule then [⟨sRule, ⟨#[78, 111, 100, 101]⟩, 3, false⟩, ⟨sRule, ⟨#[80, 111, 114, 116]⟩, 2, true⟩]
  else []
theorem spec_sDisk (s : ByteArray) : spec sDisk s = (specL sDisk).find? (fun x => decide (x.nm = s)) := by
  by_cases h1 : (⟨#[75, 105, 110, 100]⟩ : ByteArray) = s
  · subst h1; decide
  · by_cases h2 : (⟨#[83, 105, 122, 101]⟩ : ByteArray) = s
    · subst h2; decide
    · by_cases h3 : (⟨#[84, 97, 103, 115]⟩ : ByteArray) = s
      · subst h3; decide
      · simp [spec, specJ, rowsL, specL, sDisk, sNet, sNode, sRule, h1, h2, h3]
theorem spec_sNet (s : ByteArray) : spec sNet s = (specL sNet).find? (fun x => decide (x.nm = s)) := by
  by_cases h1 : (⟨#[76, 97, 98, 101, 108]⟩ : ByteArray) = s
  · subst h1; decide
  · by_cases h2 : (⟨#[82, 97, 110, 103, 101]⟩ : ByteArray) = s
    · subst h2; decide
    · simp [spec, specJ, rowsL, specL, sDisk, sNet, sNode, sRule, h1, h2]
theorem spec_sNode (s : ByteArray) : spec sNode s = (specL sNode).find? (fun x => decide (x.nm = s)) := by
  by_cases h1 : (⟨#[67, 111, 117, 110, 116]⟩ : ByteArray) = s
  · subst h1; decide
  · by_cases h2 : (⟨#[68, 105, 115, 107]⟩ : ByteArray) = s
    · subst h2; decide
    · by_cases h3 : (⟨#[73, 109, 97, 103, 101]⟩ : ByteArray) = s
      · subst h3; decide
      · by_cases h4 : (⟨#[78, 101, 116]⟩ : ByteArray) = s
        · subst h4; decide
        · simp [spec, specJ, rowsL, specL, sDisk, sNet, sNode, sRule, h1, h2, h3, h4]
theorem spec_sRule (s : ByteArray) : spec sRule s = (specL sRule).find? (fun x => decide (x.nm = s)) := by
  by_cases h1 : (⟨#[78, 111, 100, 101]⟩ : ByteArray) = s
  · subst h1; decide
  · by_cases h2 : (⟨#[80, 111, 114, 116]⟩ : ByteArray) = s
    · subst h2; decide
    · simp [spec, specJ, rowsL, specL, sDisk, sNet, sNode, sRule, h1, h2]
theorem known_no {K : ByteArray} (h : known K = false) : K ≠ sDisk ∧ K ≠ sNet ∧ K ≠ sNode ∧ K ≠ sRule := by
  have hh : ¬ known K = true := by rw [h]; exact Bool.false_ne_true
  rw [known_iff] at hh
  simpa using hh
theorem spec_find (K s : ByteArray) : spec K s = (specL K).find? (fun x => decide (x.nm = s)) := by
  cases hk : known K with
  | false =>
    obtain ⟨h1, h2, h3, h4⟩ := known_no hk
    unfold specL
    rw [if_neg h1, if_neg h2, if_neg h3, if_neg h4]
    exact specJ_none 11 K s hk
  | true =>
    have := (known_iff K).1 hk
    simp only [List.mem_cons, List.not_mem_nil, or_false] at this
    rcases this with rfl | rfl | rfl | rfl
    · exact spec_sDisk s
    · exact spec_sNet s
    · exact spec_sNode s
    · exact spec_sRule s
theorem specL_len (K : ByteArray) : (specL K).length ≤ 4 := by
  unfold specL
  repeat' split
  all_goals simp
/-- A row of specs. -/
def isSps (W : World) (l : List RwS) (v : Value) : Prop := ∃ a cap, slv v l.length a cap ∧ ∀ i (h : i < l.length), W.cell? (a.add (i * 3)) = some (.string l[i].nm) ∧ W.cell? ⟨(a.add (i * 3)).block, (a.add (i * 3)).off + 1, none⟩ = some (.int .i8 l[i].q) ∧ W.cell? ⟨(a.add (i * 3)).block, (a.add (i * 3)).off + 2, none⟩ = some (.bool l[i].r) ∧ l[i].nm.size ≤ 64
theorem isSps_below {W W' : World} (hb : Below W.heap.size W W') {l : List RwS} {v : Value} (h : isSps W l v) : isSps W' l v := by
  obtain ⟨a, cap, h1, h2⟩ := h
  have k := cell_below hb
  exact ⟨a, cap, h1, fun i hi => ⟨k _ _ (h2 i hi).1, k _ _ (h2 i hi).2.1, k _ _ (h2 i hi).2.2.1, (h2 i hi).2.2.2⟩⟩
theorem sps_lit {W : World} {b : Nat} {t : TypeId} {xs : Array Value} (l : List RwS) (h : W.heap[b]? = some (.cells xs t (0, 0))) (n : Nat) (hn : l.length = n) (hm : n ≤ 4) (hx : ∀ i (hi : i < l.length), xs[i * 3]? = some (.string l[i].nm) ∧ xs[i * 3 + 1]? = some (.int .i8 l[i].q) ∧ xs[i * 3 + 2]? = some (.bool l[i].r) ∧ l[i].nm.size ≤ 64) :
    isSps W l (.slice (some ⟨b, 0, none⟩) n n) := by
  refine ⟨⟨b, 0, none⟩, n, ⟨_, by rw [hn], by omega, by unfold maxLen; omega, fun _ => rfl⟩, fun i hi => ?_⟩
  have e : (⟨b, 0, none⟩ : Addr).add (i * 3) = ⟨b, i * 3, none⟩ := by simp [Addr.add]; omega
  rw [e]
  obtain ⟨h1, h2, h3, h4⟩ := hx i hi
  exact ⟨by simp [World.cell?, h, h1], by simp [World.cell?, h, h2], by simp [World.cell?, h, h3], h4⟩
set_option maxRecDepth 100000 in
set_option maxHeartbeats 4000000 in
theorem rspecs_any (K : ByteArray) (w : World) :
    Calls Tryz.prog 53 #[.string K] w fun e w' => (∃ v, e = .returned (.tuple #[v, .int .i64 (if known K then 0 else 90)]) ∧ isSps w' (specL K) v) ∧ Below w.heap.size w w' := by
  cases hk : known K with
  | false =>
    obtain ⟨h1, h2, h3, h4⟩ := known_no hk
    have z1 := lit_no h1
    have z2 := lit_no h2
    have z3 := lit_no h3
    have z4 := lit_no h4
    rw [show specL K = [] by unfold specL; rw [if_neg h1, if_neg h2, if_neg h3, if_neg h4]]
    clear h1 h2 h3 h4 hk
    go_enter Tryz.func53, Tryz.ntmps53
    go_wp2_with fail
    go_ret2
    exact ⟨⟨_, rfl, ⟨0, 0, none⟩, 0, ⟨none, rfl, Nat.le_refl _, by unfold maxLen; omega, fun h => absurd h (by decide)⟩, fun i h => absurd h (by simp)⟩, Below.refl _ _⟩
  | true =>
    have := (known_iff K).1 hk
    simp only [List.mem_cons, List.not_mem_nil, or_false] at this
    clear hk
    rcases this with rfl | rfl | rfl | rfl
    · go_enter Tryz.func53, Tryz.ntmps53
      go_wp2_with fail
      go_ret2
      exact ⟨⟨_, rfl, sps_lit _ (World.alloc_heap_new w _) 3 rfl (by decide) (fun i hi => by
        have hi : i < 3 := hi
        have e : i = 0 ∨ i = 1 ∨ i = 2 := by omega
        rcases e with rfl | rfl | rfl <;> exact ⟨rfl, rfl, rfl, Nat.le_of_ble_eq_true rfl⟩)⟩, kbA⟩
    · go_enter Tryz.func53, Tryz.ntmps53
      go_wp2_with fail
      go_ret2
      exact ⟨⟨_, rfl, sps_lit _ (World.alloc_heap_new w _) 2 rfl (by decide) (fun i hi => by
        have hi : i < 2 := hi
        have e : i = 0 ∨ i = 1 := by omega
        rcases e with rfl | rfl <;> exact ⟨rfl, rfl, rfl, Nat.le_of_ble_eq_true rfl⟩)⟩, kbA⟩
    · go_enter Tryz.func53, Tryz.ntmps53
      go_wp2_with fail
      go_ret2
      exact ⟨⟨_, rfl, sps_lit _ (World.alloc_heap_new w _) 4 rfl (by decide) (fun i hi => by
        have hi : i < 4 := hi
        have e : i = 0 ∨ i = 1 ∨ i = 2 ∨ i = 3 := by omega
        rcases e with rfl | rfl | rfl | rfl <;> exact ⟨rfl, rfl, rfl, Nat.le_of_ble_eq_true rfl⟩)⟩, kbA⟩
    · go_enter Tryz.func53, Tryz.ntmps53
      go_wp2_with fail
      go_ret2
      exact ⟨⟨_, rfl, sps_lit _ (World.alloc_heap_new w _) 2 rfl (by decide) (fun i hi => by
        have hi : i < 2 := hi
        have e : i = 0 ∨ i = 1 := by omega
        rcases e with rfl | rfl <;> exact ⟨rfl, rfl, rfl, Nat.le_of_ble_eq_true rfl⟩)⟩, kbA⟩

theorem rspecs_some (K : ByteArray) (w : World) :
    Calls Tryz.prog 53 #[.string K] w fun e w' => (∃ (v : Value) (ec : Int), e = .returned (.tuple #[v, .int .i64 ec]) ∧ isSps w' (specL K) v) ∧ Below w.heap.size w w' := by
  refine (rspecs_any K w).mono ?_
  rintro e w' ⟨⟨v, h1, h2⟩, h3⟩
  exact ⟨⟨v, _, h1, h2⟩, h3⟩
/-- A spec, or the zero one. -/
def spV : Option RwS → Value
  | none => .agg #[.string ⟨#[]⟩, .int .i8 0, .bool false]
  | some x => .agg #[.string x.nm, .int .i8 x.q, .bool x.r]
theorem find_at {l : List RwS} {s : ByteArray} {j : Nat} (hj : j < l.length) (h : l[j].nm = s) (hb : ∀ i (hi : i < l.length), i < j → l[i].nm ≠ s) : l.find? (fun x => decide (x.nm = s)) = some l[j] := by
  rw [List.find?_eq_some_iff_getElem]
  exact ⟨by simpa using h, j, hj, rfl, fun i hi => by simpa using hb i (by omega) hi⟩
theorem find_no {l : List RwS} {s : ByteArray} (hb : ∀ i (hi : i < l.length), l[i].nm ≠ s) : l.find? (fun x => decide (x.nm = s)) = none := by
  rw [List.find?_eq_none]
  intro x hx
  obtain ⟨i, hi, rfl⟩ := List.getElem_of_mem hx
  simpa using hb i hi
set_option maxRecDepth 100000 in
set_option maxHeartbeats 4000000 in
theorem rfind_any (K s : ByteArray) (w : World) :
    Calls Tryz.prog 54 #[.string K, .string s] w fun e w' => e = .returned (.tuple #[spV (spec K s), .bool (spec K s).isSome]) ∧ Below w.heap.size w w' := by
  have HS := Lib.hid (rspecs_some K (w.alloc (.cells #[.string ⟨#[]⟩, .int .i8 0, .bool false] 93)))
  have n1 := World.alloc_heap_new w (.cells #[.string ⟨#[]⟩, .int .i8 0, .bool false] 93)
  have s1 := World.size_alloc w (.cells #[.string ⟨#[]⟩, .int .i8 0, .bool false] 93)
  have HL := Lib.hid (specL_len K)
  obtain ⟨r, hr⟩ : ∃ r, spec K s = r := ⟨_, rfl⟩
  have HR := Lib.hid hr
  rw [spec_find] at HR
  rw [hr]
  clear hr
  generalize hl : specL K = l at *
  clear hl
  go_enter Tryz.func54, Tryz.ntmps54
  go_wp2_with fail
  refine HS.out.mono ?_
  rintro e w1 ⟨⟨v, ec, rfl, a, cap, ⟨o, rfl, hc1, hc2, ho⟩, hsp⟩, hb1⟩
  have HB := Lib.hid (show Below w.heap.size w w1 from (kbA (o := .cells #[.string ⟨#[]⟩, .int .i8 0, .bool false] 93)).trans (hb1.mono (by omega)))
  have HN := Lib.hid ((hb1.block w.heap.size (by omega)).trans n1)
  have HSP := Lib.hid hsp
  have hlt0 : w.heap.size < w1.heap.size := by have := hb1.size; omega
  have HLT := Lib.hid hlt0
  unfold maxLen at hc2
  clear HS n1 s1 hb1 hsp hlt0
  go_wp2_with fail
  go_loopw [8] (fun i wr => ∃ j : Nat, j ≤ l.length ∧ i = .int .i64 j ∧ wr = w1 ∧ Hid (∀ q (hq : q < l.length), q < j → l[q].nm ≠ s)) (fun i _ => l.length - (intOf i).toNat)
  case atStart => exact ⟨0, by omega, rfl, rfl, Lib.hid (fun _ _ h => absurd h (by omega))⟩
  case round =>
    obtain ⟨j, hj, rfl, rfl, hno⟩ := hrel
    by_cases hlt : j < l.length
    · obtain rfl := ho (by omega)
      obtain ⟨q0, q1, q2, q3⟩ := HSP.out j hlt
      have hl4 := HL.out
      by_cases he : l[j].nm = s
      · have HRES := Lib.hid (show r = some l[j] from HR.out.symm.trans (find_at hlt he hno.out))
        have ze : (l[j].nm.toList == s.toList) = true := by rw [he]; exact beq_self_eq_true _
        clear hno HR
        generalize l[j] = x at *
        obtain ⟨xK, xn, xq, xr⟩ := x
        obtain ⟨x1, x2, x3, f', ⟨⟨_, t1⟩, t1', t1''⟩, ⟨⟨_, t2⟩, t2', t2''⟩, ⟨⟨_, t3⟩, t3', t3''⟩, hf7, hg7, u0, u1, u2, -⟩ := store_three (rowIs_three HN.out) 0 (by decide) (.string xn) (.int .i8 xq) (.bool xr)
        simp only [Nat.zero_add] at t2 t2' t2'' t3 t3' t3'' u1 u2
        have HG := Lib.hid (And.intro hf7 (And.intro hg7 (And.intro u0 (And.intro u1 u2))))
        clear hf7 hg7 u0 u1 u2
        dsimp only at q0 q1 q2 he ze
        subst he
        go_wp2_with fail
        obtain ⟨hf7, hg7, u0, u1, u2⟩ := HG.out
        have d0 := hf7.cell (show 0 < 3 by decide)
        have d1 := hf7.cell (show 1 < 3 by decide)
        have d2 := hf7.cell (show 2 < 3 by decide)
        rw [u0] at d0
        rw [u1] at d1
        rw [u2] at d2
        refine bodyPost_ret (v := .tuple #[.agg #[.string xn, .int .i8 xq, .bool xr], .bool true]) (by simp [results, Tryz.results54, go_sem, d0, d1, d2]) rfl ?_
        exact ⟨by rw [HRES.out]; rfl, HB.out.grown hg7 HB.out.size (fun r e => by cases e; omega)⟩
      · have hno' : Hid (∀ q (hq : q < l.length), q < j + 1 → l[q].nm ≠ s) := Lib.hid fun q hq h => by
          by_cases e : q = j
          · subst e; exact he
          · exact hno.out q hq (by omega)
        have ze := beq_toList he
        clear he hno HR
        generalize l[j] = x at *
        go_wp2_with fail
        go_roundw
        case rel => exact ⟨j + 1, by omega, by go_num, by trivial, hno'⟩
        case measure => simp [intOf]; omega
    · obtain rfl : j = l.length := by omega
      have HRES := Lib.hid (show r = none from HR.out.symm.trans (find_no (fun i hi => hno.out i hi hi)))
      clear HR
      obtain ⟨x1, x2, x3, f', ⟨⟨_, t1⟩, t1', t1''⟩, ⟨⟨_, t2⟩, t2', t2''⟩, ⟨⟨_, t3⟩, t3', t3''⟩, hf7, hg7, u0, u1, u2, -⟩ := store_three (rowIs_three HN.out) 0 (by decide) (.string ⟨#[]⟩) (.int .i8 0) (.bool false)
      simp only [Nat.zero_add] at t2 t2' t2'' t3 t3' t3'' u1 u2
      have HG := Lib.hid (And.intro hf7 (And.intro hg7 (And.intro u0 (And.intro u1 u2))))
      clear hf7 hg7 u0 u1 u2 hno
      go_wp2_with fail
      obtain ⟨hf7, hg7, u0, u1, u2⟩ := HG.out
      have d0 := hf7.cell (show 0 < 3 by decide)
      have d1 := hf7.cell (show 1 < 3 by decide)
      have d2 := hf7.cell (show 2 < 3 by decide)
      rw [u0] at d0
      rw [u1] at d1
      rw [u2] at d2
      refine bodyPost_ret (v := .tuple #[.agg #[.string ⟨#[]⟩, .int .i8 0, .bool false], .bool false]) (by simp [results, Tryz.results54, go_sem, d0, d1, d2]) rfl ?_
      exact ⟨by rw [HRES.out]; rfl, HB.out.grown hg7 HB.out.size (fun r e => by cases e; omega)⟩
end Go.Proofs.YtdckldfekepopaaGreatDoor

namespace Go.Proofs.YtdckldfekepopaaGreatDoor
open Go.RowKit

set_option maxHeartbeats 1000000 in
theorem rword_any (s : ByteArray) (hs : s.size ≤ maxLen) (w : World) : Calls Tryz.prog 78 #[.string s] w fun e w' => e = .returned (.bool (wordB s)) ∧ w = w' := by
  unfold maxLen at hs
  unfold wordB
  by_cases h : s.size ≤ 64
  · have HV := Lib.hid (rvalid_any s w (by omega))
    rw [show Lib.validD s.data.toList = validS s from rfl] at HV
    generalize validS s = r at *
    rw [decide_eq_true h, Bool.true_and]
    have h' : decide ((s.size : Int) ≤ 64) = true := decide_eq_true (by omega)
    go_enter Tryz.func78, Tryz.ntmps78
    go_wp2_with (go_at_call 98; refine HV.out.mono ?_; rintro e w5 ⟨rfl, rfl⟩)
    go_ret
    exact ⟨rfl, rfl⟩
  · rw [decide_eq_false h, Bool.false_and]
    have h' : decide ((s.size : Int) ≤ 64) = false := decide_eq_false (by omega)
    go_enter Tryz.func78, Tryz.ntmps78
    go_wp2_with fail
    go_ret
    exact ⟨rfl, rfl⟩
theorem any_take_g {L : List G} {j : Nat} (hj : j < L.length) : (L.take (j + 1)).any (·.unk) = ((L.take j).any (·.unk) || L[j].unk) := by
  rw [List.take_succ_eq_append_getElem hj, List.any_append]; simp
set_option maxHeartbeats 1000000 in
theorem rknown_any (L : List G) (v : Value) (w : World) (hl : L.length ≤ 1000000) (h : isGs w L v) :
    Calls Tryz.prog 29 #[v] w fun e w' => e = .returned (.bool (!L.any (·.unk))) ∧ w = w' := by
  obtain ⟨a, cap, ⟨o, rfl, hc1, hc2, ho⟩, hgs⟩ := h
  have HK := Lib.hid hgs
  obtain ⟨R, hR⟩ : ∃ R, (!L.any (·.unk)) = R := ⟨_, rfl⟩
  have HR := Lib.hid hR
  rw [hR]
  clear hgs hR
  go_enter Tryz.func29, Tryz.ntmps29
  go_wp2_with fail
  go_loopw [3] (fun i wr => ∃ j : Nat, j ≤ L.length ∧ i = .int .i64 j ∧ wr = w ∧ Hid ((L.take j).any (·.unk) = false)) (fun i _ => L.length - (intOf i).toNat)
  case atStart => exact ⟨0, by omega, rfl, rfl, Lib.hid (by simp)⟩
  case round =>
    obtain ⟨j, hj, rfl, rfl, hno⟩ := hrel
    by_cases hlt : j < L.length
    · obtain rfl := ho (by omega)
      obtain ⟨c0, c1, c2, c3, c4, c5, g0, g1, -⟩ := HK.out j hlt
      cases hu : L[j].unk with
      | true =>
        rw [hu] at g1
        have HRES := Lib.hid (show R = false by
          rw [← HR.out]
          have : L.any (·.unk) = true := List.any_eq_true.2 ⟨L[j], List.getElem_mem hlt, hu⟩
          rw [this]; rfl)
        clear hu hno HR g0
        go_wp2_with fail
        go_ret
        exact ⟨ret_bool HRES.out.symm, rfl⟩
      | false =>
        rw [hu] at g1
        have HN := Lib.hid (show (L.take (j + 1)).any (·.unk) = false by rw [any_take_g hlt, hno.out, hu]; rfl)
        clear hu hno g0
        go_wp2_with fail
        go_roundw
        case rel => exact ⟨j + 1, by omega, by go_num, by trivial, HN⟩
        case measure => simp [intOf]; omega
    · obtain rfl : j = L.length := by omega
      have HRES := Lib.hid (show R = true by
        rw [← HR.out]
        have := hno.out
        rw [List.take_of_length_le (Nat.le_refl _)] at this
        rw [this]; rfl)
      clear hno HR
      go_wp2_with fail
      go_ret
      exact ⟨ret_bool HRES.out.symm, rfl⟩

theorem num_false {s : ByteArray} (h : (numL s).2 = false) : numL s = (0, false) := by
  unfold numL at h ⊢
  split
  · rename_i hc; rw [if_pos hc] at h; cases h
  · rfl
theorem num_size {s : ByteArray} (h : (numL s).2 = true) : 2 ≤ s.size ∧ s.size ≤ 20 := by
  obtain ⟨h1, h2, h3⟩ := num_form (show numL s = ((numL s).1, true) by rw [← h])
  have h4 : (physS (numL s).1).size = (Nu.txt (numL s).1).length + 1 := by unfold physS; rw [Nu.size_arr]; rfl
  rw [← h1] at h4
  have h5 := Nu.txt_len (numL s).1
  have h6 := List.length_pos_iff.2 (Nu.txt_ne _ h3)
  omega
theorem has_p {s : ByteArray} (h0 : 0 < s.size) : Lib.hasPrefix s.data.toList [112] = decide (s[0]'h0 = 112) := by
  rw [← Nu.toList_getD s 0 h0]
  match s.data.toList with
  | [] => rfl
  | c :: t =>
    unfold Lib.hasPrefix
    simp only [List.isPrefixOf, Bool.and_true, List.getD_cons_zero]
    by_cases hc : c = 112
    · subst hc; rfl
    · rw [decide_eq_false hc, beq_eq_false_iff_ne]; exact fun e => hc e.symm
set_option maxRecDepth 100000 in
set_option maxHeartbeats 2000000 in
theorem rNumber_any (s : ByteArray) (hs : s.size ≤ maxLen) (w : World) :
    Calls Tryz.prog 52 #[.string s] w fun e w' => e = .returned (.tuple #[.int .i64 (numL s).1, .bool (numL s).2]) ∧ w = w' := by
  have HRD := Lib.hid (Nu.rread_any (s.extract 1 s.size) (by rw [ByteArray.size_extract]; omega) w)
  rw [Nu.ext_drop] at HRD
  unfold maxLen at hs
  by_cases h1 : s.size < 2
  · have hn : numL s = (0, false) := num_false (by cases h : (numL s).2; rfl; have := num_size h; omega)
    rw [hn]
    have z1 : decide ((s.size : Int) < 2) = true := decide_eq_true (by omega)
    clear h1 hn HRD
    go_enter Tryz.func52, Tryz.ntmps52
    go_wp2_with fail
    go_ret2
    exact ⟨rfl, rfl⟩
  · have z1 : decide ((s.size : Int) < 2) = false := decide_eq_false (by omega)
    by_cases h2 : 20 < s.size
    · have hn : numL s = (0, false) := num_false (by cases h : (numL s).2; rfl; have := num_size h; omega)
      rw [hn]
      have z2 : decide ((20 : Int) < (s.size : Int)) = true := decide_eq_true (by omega)
      clear h1 h2 hn HRD
      go_enter Tryz.func52, Tryz.ntmps52
      go_wp2_with fail
      go_ret2
      exact ⟨rfl, rfl⟩
    · have z2 : decide ((20 : Int) < (s.size : Int)) = false := decide_eq_false (by omega)
      have h0 : 0 < s.size := by omega
      have hsz1 : 1 ≤ s.size := h0
      by_cases h3 : s[0]'h0 = 112
      · have hp : Lib.hasPrefix s.data.toList [112] = true := by rw [has_p h0, decide_eq_true h3]
        have z3 : (((s[0]'h0).toNat : Int) == 112) = true := by rw [h3]; rfl
        have z4 : (((s[0]'h0).toNat : Int) != 112) = false := by rw [h3]; rfl
        unfold numL
        rw [hp]
        obtain ⟨n, e, hne⟩ : ∃ n e, Nu.readL (s.data.toList.drop 1) = (n, e) := ⟨_, _, rfl⟩
        rw [hne] at HRD ⊢
        unfold Nu.readV at HRD
        dsimp only at HRD ⊢
        clear h1 h2 h3 hp hne
        by_cases he : e = 0
        · subst he
          by_cases g1 : 1 ≤ n
          · by_cases g2 : n ≤ 1099511627776
            · rw [if_pos ⟨rfl, rfl, g1, g2⟩]
              have y1 : decide (n < 1) = false := decide_eq_false (by omega)
              have y2 : decide ((1099511627776 : Int) < n) = false := decide_eq_false (by omega)
              clear g1 g2
              go_enter Tryz.func52, Tryz.ntmps52
              go_wp2_with (go_at_call 77; refine HRD.out.mono ?_; rintro e w5 ⟨rfl, rfl⟩)
              go_ret2
              exact ⟨rfl, rfl⟩
            · rw [if_neg (fun h => g2 h.2.2.2)]
              have y1 : decide (n < 1) = false := decide_eq_false (by omega)
              have y2 : decide ((1099511627776 : Int) < n) = true := decide_eq_true (by omega)
              clear g1 g2
              go_enter Tryz.func52, Tryz.ntmps52
              go_wp2_with (go_at_call 77; refine HRD.out.mono ?_; rintro e w5 ⟨rfl, rfl⟩)
              go_ret2
              exact ⟨rfl, rfl⟩
          · rw [if_neg (fun h => g1 h.2.2.1)]
            have y1 : decide (n < 1) = true := decide_eq_true (by omega)
            clear g1
            go_enter Tryz.func52, Tryz.ntmps52
            go_wp2_with (go_at_call 77; refine HRD.out.mono ?_; rintro e w5 ⟨rfl, rfl⟩)
            go_ret2
            exact ⟨rfl, rfl⟩
        · rw [if_neg (fun h => he h.2.1)]
          have y1 : (e == 0) = false := beqI he
          have y2 : (e != 0) = true := bne_iff_ne.2 he
          go_enter Tryz.func52, Tryz.ntmps52
          go_wp2_with (go_at_call 77; refine HRD.out.mono ?_; rintro e w5 ⟨rfl, rfl⟩)
          go_ret2
          exact ⟨rfl, rfl⟩
      · have hp : Lib.hasPrefix s.data.toList [112] = false := by rw [has_p h0, decide_eq_false h3]
        have hn : numL s = (0, false) := by unfold numL; rw [if_neg (fun h => by rw [hp] at h; cases h.1)]
        rw [hn]
        have z3 : (((s[0]'h0).toNat : Int) == 112) = false := Nu.beqN (n := 112) (by decide) h3
        have z4 : (((s[0]'h0).toNat : Int) != 112) = true := by simp only [bne, z3, Bool.not_false]
        clear h1 h2 h3 hp hn HRD
        go_enter Tryz.func52, Tryz.ntmps52
        go_wp2_with fail
        go_ret2
        exact ⟨rfl, rfl⟩
set_option maxRecDepth 100000 in
set_option maxHeartbeats 2000000 in
theorem rPhys_any (n : Int) (w : World) (hn : -9223372036854775808 ≤ n ∧ n ≤ 9223372036854775807) :
    Calls Tryz.prog 30 #[.int .i64 n] w fun e w' => e = .returned (.tuple #[.string (if 1 ≤ n ∧ n ≤ 1099511627776 then physS n else ⟨#[]⟩), .int .i64 (if 1 ≤ n ∧ n ≤ 1099511627776 then 0 else 2)]) ∧ Below w.heap.size w w' := by
  by_cases h1 : 1 ≤ n
  · have z1 : decide (n < 1) = false := decide_eq_false (by omega)
    by_cases h2 : n ≤ 1099511627776
    · rw [if_pos ⟨h1, h2⟩, if_pos ⟨h1, h2⟩]
      have HT := Nu.rtext_any n w
      rw [fit_phys h1 h2] at HT
      have HT := Lib.hid HT
      have hl := Nu.txt_len n
      have hS : physS n = (⟨#[112]⟩ : ByteArray) ++ ⟨(Nu.txt n).toArray⟩ := by
        unfold physS
        apply ByteArray.ext
        simp [ByteArray.data_append]
      have hSs : (⟨(Nu.txt n).toArray⟩ : ByteArray).size ≤ 17 := by
        have : (⟨(Nu.txt n).toArray⟩ : ByteArray).size = (Nu.txt n).length := Nu.size_arr _
        omega
      have HS := Lib.hid hS
      have z2 : decide ((1099511627776 : Int) < n) = false := decide_eq_false (by omega)
      generalize (⟨(Nu.txt n).toArray⟩ : ByteArray) = T at *
      clear hS hl h1 h2
      go_enter Tryz.func30, Tryz.ntmps30
      go_wp2_with (go_at_call 56; refine HT.out.mono ?_; rintro e w5 ⟨rfl, hb5⟩)
      go_ret2
      exact ⟨by rw [HS.out]; rfl, hb5⟩
    · rw [if_neg (fun h => h2 h.2), if_neg (fun h => h2 h.2)]
      have z2 : decide ((1099511627776 : Int) < n) = true := decide_eq_true (by omega)
      clear h1 h2
      go_enter Tryz.func30, Tryz.ntmps30
      go_wp2_with fail
      go_ret2
      exact ⟨rfl, Below.refl _ _⟩
  · rw [if_neg (fun h => h1 h.1), if_neg (fun h => h1 h.1)]
    have z1 : decide (n < 1) = true := decide_eq_true (by omega)
    clear h1
    go_enter Tryz.func30, Tryz.ntmps30
    go_wp2_with fail
    go_ret2
    exact ⟨rfl, Below.refl _ _⟩

/-! The property of a name: the first one. -/
def firstG (L : List G) (s : ByteArray) : Option G := L.find? (fun g => decide (g.nm = s))
theorem firstG_at {L : List G} {s : ByteArray} {j : Nat} (hj : j < L.length) (h : L[j].nm = s) (hb : ∀ i (hi : i < L.length), i < j → L[i].nm ≠ s) : firstG L s = some L[j] := by
  unfold firstG
  rw [List.find?_eq_some_iff_getElem]
  exact ⟨by simpa using h, j, hj, rfl, fun i hi => by simpa using hb i (by omega) hi⟩
theorem firstG_no {L : List G} {s : ByteArray} (hb : ∀ i (hi : i < L.length), L[i].nm ≠ s) : firstG L s = none := by
  unfold firstG
  rw [List.find?_eq_none]
  intro x hx
  obtain ⟨i, hi, rfl⟩ := List.getElem_of_mem hx
  simpa using hb i hi
theorem rowIs_eight {w : World} {b : Nat} {c0 c1 c2 c3 c4 c5 c6 c7 : Value} {t : TypeId} (h : w.heap[b]? = some (.cells #[c0, c1, c2, c3, c4, c5, c6, c7] t (0, 0))) : w.rowIs b t 8 (fun i => (#[c0, c1, c2, c3, c4, c5, c6, c7][i]?).getD undef) :=
  ⟨_, h, rfl, fun i hi => by
    match i, hi with
    | 0, _ => rfl
    | 1, _ => rfl
    | 2, _ => rfl
    | 3, _ => rfl
    | 4, _ => rfl
    | 5, _ => rfl
    | 6, _ => rfl
    | 7, _ => rfl⟩
theorem store_eight {w : World} {b n : Nat} {t : TypeId} {f : Nat → Value} (h : w.rowIs b t n f) (p : Nat) (hp : p + 7 < n) (c0 c1 c2 c3 c4 c5 c6 c7 : Value) :
    ∃ w1 w2 w3 w4 w5 w6 w7 w8 f', ((∃ u, w.cell? ⟨b, p, none⟩ = some u) ∧ w.frozen? ⟨b, p, none⟩ = false ∧ w.setCell ⟨b, p, none⟩ c0 = w1) ∧ ((∃ u, w1.cell? ⟨b, p + 1, none⟩ = some u) ∧ w1.frozen? ⟨b, p + 1, none⟩ = false ∧ w1.setCell ⟨b, p + 1, none⟩ c1 = w2) ∧ ((∃ u, w2.cell? ⟨b, p + 2, none⟩ = some u) ∧ w2.frozen? ⟨b, p + 2, none⟩ = false ∧ w2.setCell ⟨b, p + 2, none⟩ c2 = w3) ∧ ((∃ u, w3.cell? ⟨b, p + 3, none⟩ = some u) ∧ w3.frozen? ⟨b, p + 3, none⟩ = false ∧ w3.setCell ⟨b, p + 3, none⟩ c3 = w4) ∧ ((∃ u, w4.cell? ⟨b, p + 4, none⟩ = some u) ∧ w4.frozen? ⟨b, p + 4, none⟩ = false ∧ w4.setCell ⟨b, p + 4, none⟩ c4 = w5) ∧ ((∃ u, w5.cell? ⟨b, p + 5, none⟩ = some u) ∧ w5.frozen? ⟨b, p + 5, none⟩ = false ∧ w5.setCell ⟨b, p + 5, none⟩ c5 = w6) ∧ ((∃ u, w6.cell? ⟨b, p + 6, none⟩ = some u) ∧ w6.frozen? ⟨b, p + 6, none⟩ = false ∧ w6.setCell ⟨b, p + 6, none⟩ c6 = w7) ∧ ((∃ u, w7.cell? ⟨b, p + 7, none⟩ = some u) ∧ w7.frozen? ⟨b, p + 7, none⟩ = false ∧ w7.setCell ⟨b, p + 7, none⟩ c7 = w8) ∧
      w8.rowIs b t n f' ∧ w.grownBy w8 (some b) ∧ f' p = c0 ∧ f' (p + 1) = c1 ∧ f' (p + 2) = c2 ∧ f' (p + 3) = c3 ∧ f' (p + 4) = c4 ∧ f' (p + 5) = c5 ∧ f' (p + 6) = c6 ∧ f' (p + 7) = c7 := by
  have h1 := h.set p c0
  have h2 := h1.set (p + 1) c1
  have h3 := h2.set (p + 2) c2
  have h4 := h3.set (p + 3) c3
  have h5 := h4.set (p + 4) c4
  have h6 := h5.set (p + 5) c5
  have h7 := h6.set (p + 6) c6
  have h8 := h7.set (p + 7) c7
  refine ⟨_, _, _, _, _, _, _, _, _, ⟨⟨_, h.cell (show p < n by omega)⟩, h.frozen _, rfl⟩, ⟨⟨_, h1.cell (show p + 1 < n by omega)⟩, h1.frozen _, rfl⟩, ⟨⟨_, h2.cell (show p + 2 < n by omega)⟩, h2.frozen _, rfl⟩, ⟨⟨_, h3.cell (show p + 3 < n by omega)⟩, h3.frozen _, rfl⟩, ⟨⟨_, h4.cell (show p + 4 < n by omega)⟩, h4.frozen _, rfl⟩, ⟨⟨_, h5.cell (show p + 5 < n by omega)⟩, h5.frozen _, rfl⟩, ⟨⟨_, h6.cell (show p + 6 < n by omega)⟩, h6.frozen _, rfl⟩, ⟨⟨_, h7.cell (show p + 7 < n by omega)⟩, h7.frozen _, rfl⟩, h8, ?_, ?_, ?_, ?_, ?_, ?_, ?_, ?_, ?_⟩
  · exact grown_trans (grown_trans (grown_trans (grown_trans (grown_trans (grown_trans (grown_trans (grown_set _ _ _ _) (grown_set _ _ _ _)) (grown_set _ _ _ _)) (grown_set _ _ _ _)) (grown_set _ _ _ _)) (grown_set _ _ _ _)) (grown_set _ _ _ _)) (grown_set _ _ _ _)
  all_goals (simp; done)
set_option maxRecDepth 100000 in
set_option maxHeartbeats 4000000 in
theorem rget_any (L : List G) (s : ByteArray) (v : Value) (w : World) (hl : L.length ≤ 1000000) (h : isGs w L v) :
    Calls Tryz.prog 64 #[v, .string s] w fun e w' => (∃ v', e = .returned (.tuple #[v', .bool (firstG L s).isSome]) ∧ isG w' ((firstG L s).getD zG) v') ∧ Below w.heap.size w w' := by
  obtain ⟨a, cap, ⟨o, rfl, hc1, hc2, ho⟩, hgs⟩ := h
  have HK := Lib.hid hgs
  obtain ⟨r, hr⟩ : ∃ r, firstG L s = r := ⟨_, rfl⟩
  have HR := Lib.hid hr
  rw [hr]
  clear hr
  have n1 := World.alloc_heap_new w (.cells #[.string ⟨#[]⟩, .bool false, .int .i8 0, .bool false, .int .i64 0, .string ⟨#[]⟩, .slice none 0 0, .slice none 0 0] 66)
  have HBW := Lib.hid (kbA (w := w) (o := .cells #[.string ⟨#[]⟩, .bool false, .int .i8 0, .bool false, .int .i64 0, .string ⟨#[]⟩, .slice none 0 0, .slice none 0 0] 66))
  have HN := Lib.hid n1
  clear hgs n1
  go_enter Tryz.func64, Tryz.ntmps64
  go_wp2_with fail
  generalize (w.alloc (.cells #[.string ⟨#[]⟩, .bool false, .int .i8 0, .bool false, .int .i64 0, .string ⟨#[]⟩, .slice none 0 0, .slice none 0 0] 66)) = W1 at *
  go_loopw [6] (fun i wr => ∃ j : Nat, j ≤ L.length ∧ i = .int .i64 j ∧ wr = W1 ∧ Hid (∀ q (hq : q < L.length), q < j → L[q].nm ≠ s)) (fun i _ => L.length - (intOf i).toNat)
  case atStart => exact ⟨0, by omega, rfl, rfl, Lib.hid (fun _ _ h => absurd h (by omega))⟩
  case round =>
    obtain ⟨j, hj, rfl, rfl, hno⟩ := hrel
    by_cases hlt : j < L.length
    · obtain rfl := ho (by omega)
      obtain ⟨k1, b1, m1, s1, o1, l1, p1, o2, l2, p2, g0, g1, g2, g3, g4, g5, g6, g7, hgg⟩ := isGat_eight (HK.out j hlt)
      have g0 := cell_below HBW.out _ _ g0
      have g1 := cell_below HBW.out _ _ g1
      have g2 := cell_below HBW.out _ _ g2
      have g3 := cell_below HBW.out _ _ g3
      have g4 := cell_below HBW.out _ _ g4
      have g5 := cell_below HBW.out _ _ g5
      have g6 := cell_below HBW.out _ _ g6
      have g7 := cell_below HBW.out _ _ g7
      by_cases he : L[j].nm = s
      · have HRES := Lib.hid (show r = some L[j] from HR.out.symm.trans (firstG_at hlt he hno.out))
        have HGG := Lib.hid hgg
        clear hno hgg HR
        generalize L[j] = g at *
        obtain ⟨gn, gu, gv⟩ := g
        dsimp only at g0 g1 he
        subst he
        obtain ⟨y1, y2, y3, y4, y5, y6, y7, y8, f', ⟨⟨_, t1⟩, t1', t1''⟩, ⟨⟨_, t2⟩, t2', t2''⟩, ⟨⟨_, t3⟩, t3', t3''⟩, ⟨⟨_, t4⟩, t4', t4''⟩, ⟨⟨_, t5⟩, t5', t5''⟩, ⟨⟨_, t6⟩, t6', t6''⟩, ⟨⟨_, t7⟩, t7', t7''⟩, ⟨⟨_, t8⟩, t8', t8''⟩, hf7, hg7, u0, u1, u2, u3, u4, u5, u6, u7⟩ := store_eight (rowIs_eight HN.out) 0 (by decide) (.string gn) (.bool gu) (.int .i8 k1) (.bool b1) (.int .i64 m1) (.string s1) (.slice o1 l1 p1) (.slice o2 l2 p2)
        simp only [Nat.zero_add] at t2 t2' t2'' t3 t3' t3'' t4 t4' t4'' t5 t5' t5'' t6 t6' t6'' t7 t7' t7'' t8 t8' t8'' u1 u2 u3 u4 u5 u6 u7
        have HG := Lib.hid (And.intro hf7 (And.intro hg7 (And.intro u0 (And.intro u1 (And.intro u2 (And.intro u3 (And.intro u4 (And.intro u5 (And.intro u6 u7)))))))))
        clear hf7 hg7 u0 u1 u2 u3 u4 u5 u6 u7
        go_wp2_with fail
        obtain ⟨hf7, hg7, u0, u1, u2, u3, u4, u5, u6, u7⟩ := HG.out
        have d0 := hf7.cell (show 0 < 8 by decide)
        have d1 := hf7.cell (show 1 < 8 by decide)
        have d2 := hf7.cell (show 2 < 8 by decide)
        have d3 := hf7.cell (show 3 < 8 by decide)
        have d4 := hf7.cell (show 4 < 8 by decide)
        have d5 := hf7.cell (show 5 < 8 by decide)
        have d6 := hf7.cell (show 6 < 8 by decide)
        have d7 := hf7.cell (show 7 < 8 by decide)
        rw [u0] at d0
        rw [u1] at d1
        rw [u2] at d2
        rw [u3] at d3
        rw [u4] at d4
        rw [u5] at d5
        rw [u6] at d6
        rw [u7] at d7
        refine bodyPost_ret (v := .tuple #[.agg #[.string gn, .bool gu, .int .i8 k1, .bool b1, .int .i64 m1, .string s1, .slice o1 l1 p1, .slice o2 l2 p2], .bool true]) (by simp [results, Tryz.results64, go_sem, d0, d1, d2, d3, d4, d5, d6, d7]) rfl ?_
        have hbel := HBW.out.grown hg7 HBW.out.size (fun r e => by cases e; omega)
        exact ⟨⟨_, by rw [HRES.out]; rfl, by rw [HRES.out]; exact isG_below hbel HGG.out⟩, hbel⟩
      · have hno' : Hid (∀ q (hq : q < L.length), q < j + 1 → L[q].nm ≠ s) := Lib.hid fun q hq h => by
          by_cases e : q = j
          · subst e; exact he
          · exact hno.out q hq (by omega)
        have ze := beq_toList he
        clear he hno hgg HR g1 g2 g3 g4 g5 g6 g7
        generalize L[j] = g at *
        go_wp2_with fail
        go_roundw
        case rel => exact ⟨j + 1, by omega, by go_num, by trivial, hno'⟩
        case measure => simp [intOf]; omega
    · obtain rfl : j = L.length := by omega
      have HRES := Lib.hid (show r = none from HR.out.symm.trans (firstG_no (fun i hi => hno.out i hi hi)))
      clear hno HR
      obtain ⟨y1, y2, y3, y4, y5, y6, y7, y8, f', ⟨⟨_, t1⟩, t1', t1''⟩, ⟨⟨_, t2⟩, t2', t2''⟩, ⟨⟨_, t3⟩, t3', t3''⟩, ⟨⟨_, t4⟩, t4', t4''⟩, ⟨⟨_, t5⟩, t5', t5''⟩, ⟨⟨_, t6⟩, t6', t6''⟩, ⟨⟨_, t7⟩, t7', t7''⟩, ⟨⟨_, t8⟩, t8', t8''⟩, hf7, hg7, u0, u1, u2, u3, u4, u5, u6, u7⟩ := store_eight (rowIs_eight HN.out) 0 (by decide) (.string ⟨#[]⟩) (.bool false) (.int .i8 0) (.bool false) (.int .i64 0) (.string ⟨#[]⟩) (.slice none 0 0) (.slice none 0 0)
      simp only [Nat.zero_add] at t2 t2' t2'' t3 t3' t3'' t4 t4' t4'' t5 t5' t5'' t6 t6' t6'' t7 t7' t7'' t8 t8' t8'' u1 u2 u3 u4 u5 u6 u7
      have HG := Lib.hid (And.intro hf7 (And.intro hg7 (And.intro u0 (And.intro u1 (And.intro u2 (And.intro u3 (And.intro u4 (And.intro u5 (And.intro u6 u7)))))))))
      clear hf7 hg7 u0 u1 u2 u3 u4 u5 u6 u7
      go_wp2_with fail
      obtain ⟨hf7, hg7, u0, u1, u2, u3, u4, u5, u6, u7⟩ := HG.out
      have d0 := hf7.cell (show 0 < 8 by decide)
      have d1 := hf7.cell (show 1 < 8 by decide)
      have d2 := hf7.cell (show 2 < 8 by decide)
      have d3 := hf7.cell (show 3 < 8 by decide)
      have d4 := hf7.cell (show 4 < 8 by decide)
      have d5 := hf7.cell (show 5 < 8 by decide)
      have d6 := hf7.cell (show 6 < 8 by decide)
      have d7 := hf7.cell (show 7 < 8 by decide)
      rw [u0] at d0
      rw [u1] at d1
      rw [u2] at d2
      rw [u3] at d3
      rw [u4] at d4
      rw [u5] at d5
      rw [u6] at d6
      rw [u7] at d7
      refine bodyPost_ret (v := .tuple #[.agg #[.string ⟨#[]⟩, .bool false, .int .i8 0, .bool false, .int .i64 0, .string ⟨#[]⟩, .slice none 0 0, .slice none 0 0], .bool false]) (by simp [results, Tryz.results64, go_sem, d0, d1, d2, d3, d4, d5, d6, d7]) rfl ?_
      have hbel := HBW.out.grown hg7 HBW.out.size (fun r e => by cases e; omega)
      exact ⟨⟨_, by rw [HRES.out]; rfl, by rw [HRES.out]; exact isG_zero _⟩, hbel⟩
end Go.Proofs.YtdckldfekepopaaGreatDoor

namespace Go.Proofs.YtdckldfekepopaaGreatDoor
open Go.RowKit

theorem depth_mem : ∀ (l : List V) (u : V), u ∈ l → depthV u ≤ depthVs l
  | x :: t, u, h => by
    simp only [depthVs]
    rcases List.mem_cons.1 h with rfl | h
    · omega
    · have := depth_mem t u h; omega
theorem count_mem : ∀ (l : List V) (u : V), u ∈ l → countV u ≤ countVs l
  | x :: t, u, h => by
    simp only [countVs]
    rcases List.mem_cons.1 h with rfl | h
    · omega
    · have := count_mem t u h; omega
theorem pcheck_of {x : V} (h1 : wrongV x = 0) (h2 : depthV x ≤ 24) (h3 : countV x ≤ 4096) : pcheckV x = 0 := by
  unfold pcheckV
  rw [if_neg (by rw [pw_of h1 h2]; simp), if_neg (by omega)]
theorem check_iff (x : V) : checkV x = 0 ↔ pcheckV x = 0 := by
  constructor
  · intro h
    obtain ⟨h1, h2, h3⟩ := check_zero h
    exact pcheck_of h2 h1 h3
  · intro h
    obtain ⟨h1, h2, h3⟩ := pcheck_zero h
    exact check_of h2 h1 h3
theorem check_part {x u : V} (h : checkV x = 0) (hu : u ∈ x.list) : pcheckV u = 0 := by
  obtain ⟨h1, h2, h3⟩ := check_zero h
  obtain ⟨k, b, n, s, l, ks⟩ := x
  have hu : u ∈ l := hu
  obtain ⟨-, -, -, -, -, hw⟩ := own_of_wrong h2
  have hd := depth_mem l u hu
  have hc := count_mem l u hu
  simp only [depthV] at h1
  simp only [countV] at h3
  exact pcheck_of (wrongVs_mem l hw u hu) (by omega) (by omega)
theorem check_num {x : V} (h : checkV x = 0) (hk : x.kind = 2) : x.list = [] := by
  obtain ⟨h1, h2, h3⟩ := check_zero h
  obtain ⟨k, b, n, s, l, ks⟩ := x
  obtain rfl : k = 2 := hk
  obtain ⟨hp, -⟩ := own_of_wrong h2
  show l = []
  exact Classical.byContradiction fun hne => by have := hp.2.2.2.2.1 hne; omega
set_option maxRecDepth 100000 in
set_option maxHeartbeats 8000000 in
theorem rvalue_any (x : V) (q : Int) (hq : q = 2 ∨ q = 3 ∨ q = 4) (v : Value) (w : World) (hM : sizeV x ≤ 1000000) (h : isV w x v) :
    Calls Tryz.prog 55 #[v, .int .i8 q] w fun e w' => e = .returned (.bool (holdsB x q)) ∧ Below w.heap.size w w' := by
  obtain ⟨k, b, n, s, o, m, c, o2, m2, c2, rfl⟩ := isV_six h
  obtain ⟨hk, ht, hs, a, ⟨oo, eo, hc1, hc2, ho⟩, rfl, hvs⟩ := isV_parts h
  simp only [Value.slice.injEq, and_true] at eo
  obtain rfl := eo
  have HB0 : Hid (KB w (w.alloc (.cells #[.int .i8 k, .bool b, .int .i64 n, .string s, .slice o x.list.length c, .slice o2 m2 c2] 64))) := Lib.hid kbA
  have P2 : Hid (∀ w1, KB (w.alloc (.cells #[.int .i8 k, .bool b, .int .i64 n, .string s, .slice o x.list.length c, .slice o2 m2 c2] 64)) w1 → Calls Tryz.prog 71 #[.agg #[.int .i8 k, .bool b, .int .i64 n, .string s, .slice o x.list.length c, .slice o2 m2 c2]] w1 fun e w' => e = .returned (.int .i64 (checkV x)) ∧ KB (w.alloc (.cells #[.int .i8 k, .bool b, .int .i64 n, .string s, .slice o x.list.length c, .slice o2 m2 c2] 64)) w') := Lib.hid fun w1 hK => Calls.kb hK (check_any x _ w1 hM (isV_below hK (isV_below kbA h)))
  have PW : Hid (∀ w1, Calls Tryz.prog 78 #[.string s] w1 fun e w' => e = .returned (.bool (wordB s)) ∧ w1 = w') := Lib.hid fun w1 => rword_any s hs w1
  have HC : Hid (∀ w1, KB (w.alloc (.cells #[.int .i8 k, .bool b, .int .i64 n, .string s, .slice o x.list.length c, .slice o2 m2 c2] 64)) w1 → w1.cell? ⟨w.heap.size, 0, none⟩ = some (.int .i8 k) ∧ w1.cell? ⟨w.heap.size, 3, none⟩ = some (.string s) ∧ w1.cell? ⟨w.heap.size, 4, none⟩ = some (.slice o x.list.length c)) := Lib.hid fun w1 hK => ⟨cell_below hK _ _ (by simp), cell_below hK _ _ (by simp), cell_below hK _ _ (by simp)⟩
  have hchk : holdsB x q = (decide (k = q) && (decide (checkV x = 0) && (if q = 3 then wordB s else if q = 4 then decide (x.list.length ≤ 8) && x.list.all leafB else true))) := by
    unfold holdsB
    rw [hk, ht, Bool.and_assoc]
    congr 1
    congr 1
    exact decide_eq_decide.2 (check_iff x).symm
  rw [hchk]
  have hlen : x.list.length ≤ 1000000 := Nat.le_trans (Nat.le_trans (sizeVs_len _) (by obtain ⟨k', b', n', s', l, ks⟩ := x; simp only [sizeV, V.list]; omega)) hM
  have hpc : checkV x = 0 → ∀ u ∈ x.list, pcheckV u = 0 := fun h u hu => check_part h hu
  have hn2 : checkV x = 0 → k = 2 → x.list = [] := fun h h2 => check_num h (hk.trans h2)
  have HK := Lib.hid hvs
  clear hchk h hM hk ht hs hvs
  unfold maxLen at hc2
  generalize x.list = L at *
  generalize checkV x = C at *
  by_cases h3 : k = q
  · subst h3
    have y1 : (k == k) = true := beq_self_eq_true k
    have y2 : (k != k) = false := by simp
    rw [decide_eq_true rfl, Bool.true_and]
    by_cases hC : C = 0
    · subst hC
      have HPC := Lib.hid (hpc rfl)
      have hn2 := hn2 rfl
      rw [decide_eq_true rfl, Bool.true_and]
      clear hpc
      rcases hq with rfl | rfl | rfl
      · obtain rfl := hn2 rfl
        rw [if_neg (by decide), if_neg (by decide)]
        clear hn2 HPC HK ho hc1 PW
        simp only [List.length_nil] at *
        go_enter Tryz.func55, Tryz.ntmps55
        go_wp2_with fail
        refine (P2.out _ (Below.refl _ _)).mono ?_
        rintro e w5 ⟨rfl, hb5⟩
        obtain ⟨m0, m3, m4⟩ := HC.out w5 hb5
        have HB5 := Lib.hid (HB0.out.trans (hb5.mono HB0.out.size))
        clear hb5
        go_wp2_with fail
        go_loopw [5] (fun i wr => i = .int .i64 0 ∧ wr = w5) (fun _ _ => 0)
        case atStart => exact ⟨rfl, rfl⟩
        case round =>
          obtain ⟨rfl, rfl⟩ := hrel
          go_wp2_with fail
          go_ret
          exact ⟨rfl, HB5.out⟩
      · rw [if_pos rfl]
        clear hn2
        go_enter Tryz.func55, Tryz.ntmps55
        go_wp2_with fail
        refine (P2.out _ (Below.refl _ _)).mono ?_
        rintro e w5 ⟨rfl, hb5⟩
        obtain ⟨m0, m3, m4⟩ := HC.out w5 hb5
        go_wp2_with (go_at_call 78; refine (PW.out _).mono ?_; rintro e w6 ⟨rfl, rfl⟩)
        go_ret
        exact ⟨rfl, HB0.out.trans (hb5.mono HB0.out.size)⟩
      · rw [if_neg (by decide), if_pos rfl]
        clear hn2
        by_cases h8 : L.length ≤ 8
        · have g1 : decide ((8 : Int) < (L.length : Int)) = false := decide_eq_false (by omega)
          rw [decide_eq_true h8, Bool.true_and]
          obtain ⟨R, hR⟩ : ∃ R, (L.all leafB) = R := ⟨_, rfl⟩
          have HR := Lib.hid hR
          rw [hR]
          clear hR h8
          go_enter Tryz.func55, Tryz.ntmps55
          go_wp2_with fail
          refine (P2.out _ (Below.refl _ _)).mono ?_
          rintro e w5 ⟨rfl, hb5⟩
          obtain ⟨m0, m3, m4⟩ := HC.out w5 hb5
          have HB6 := Lib.hid hb5
          have HB5 := Lib.hid (HB0.out.trans (hb5.mono HB0.out.size))
          clear hb5
          generalize hW1 : w.alloc (.cells #[.int .i8 4, .bool b, .int .i64 n, .string s, .slice o L.length c, .slice o2 m2 c2] 64) = W1 at *
          clear hW1
          go_wp2_with fail
          go_loopw [5] (fun i wr => ∃ j : Nat, j ≤ L.length ∧ i = .int .i64 j ∧ Hid (∀ q (hq : q < L.length), q < j → leafB L[q] = true) ∧ Hid (Below w.heap.size w wr) ∧ Hid (KB W1 wr)) (fun i _ => L.length - (intOf i).toNat)
          case atStart => exact ⟨0, by omega, rfl, Lib.hid (fun _ _ h => absurd h (by omega)), HB5, HB6⟩
          case round =>
            obtain ⟨j, hj, rfl, hA, hB, hB1⟩ := hrel
            have m4 := (HC.out wr hB1.out).2.2
            by_cases hlt : j < L.length
            · obtain rfl := ho (by omega)
              obtain ⟨k1, b1, n1, s1, o1, l1, p1, o3, l3, p3, q0, q1, q2, q3, q4, q5, hx⟩ := isVs_sl L a j hlt (isVs_keep (cell_below hB.out) L a HK.out)
              obtain ⟨hk1, ht1, hs1, -⟩ := isV_parts hx
              have hp1 := HPC.out L[j] (List.getElem_mem hlt)
              have hlf : leafB L[j] = (decide (k1 = 3) && wordB s1) := by unfold leafB; rw [hk1, ht1, hp1]; simp
              have HW : Hid (∀ w1, Calls Tryz.prog 78 #[.string s1] w1 fun e w' => e = .returned (.bool (wordB s1)) ∧ w1 = w') := Lib.hid fun w1 => rword_any s1 hs1 w1
              clear hx hk1 ht1 hs1 hp1 q1 q2 q4 q5
              by_cases hk3 : k1 = 3
              · subst hk3
                rw [decide_eq_true rfl, Bool.true_and] at hlf
                cases hw1 : wordB s1 with
                | true =>
                  rw [hw1] at HW hlf
                  have hA' : Hid (∀ q (hq : q < L.length), q < j + 1 → leafB L[q] = true) := Lib.hid fun q hq h => by
                    by_cases e : q = j
                    · subst e; exact hlf
                    · exact hA.out q hq (by omega)
                  clear hlf hA hw1
                  go_wp2_with (go_at_call 78; refine (HW.out _).mono ?_; rintro e w6 ⟨rfl, rfl⟩)
                  go_roundw
                  case rel => exact ⟨j + 1, by omega, by go_num, hA', hB, hB1⟩
                  case measure => simp [intOf]; omega
                | false =>
                  rw [hw1] at HW hlf
                  have HRES := Lib.hid (show R = false by
                    rw [← HR.out, Bool.eq_false_iff]
                    intro h
                    rw [List.all_eq_true.1 h _ (List.getElem_mem hlt)] at hlf
                    cases hlf)
                  clear hlf hA hw1
                  go_wp2_with (go_at_call 78; refine (HW.out _).mono ?_; rintro e w6 ⟨rfl, rfl⟩)
                  go_ret
                  exact ⟨ret_bool HRES.out.symm, hB.out⟩
              · have z5 : (k1 == 3) = false := beqI hk3
                have z6 : (k1 != 3) = true := bne_iff_ne.2 hk3
                rw [decide_eq_false hk3, Bool.false_and] at hlf
                have HRES := Lib.hid (show R = false by
                  rw [← HR.out, Bool.eq_false_iff]
                  intro h
                  rw [List.all_eq_true.1 h _ (List.getElem_mem hlt)] at hlf
                  cases hlf)
                clear hlf hA HW hk3
                go_wp2_with fail
                go_ret
                exact ⟨ret_bool HRES.out.symm, hB.out⟩
            · obtain rfl : j = L.length := by omega
              have HRES := Lib.hid (show R = true by
                rw [← HR.out, List.all_eq_true]
                intro u hu
                obtain ⟨i, hi, rfl⟩ := List.getElem_of_mem hu
                exact hA.out i hi hi)
              clear hA
              go_wp2_with fail
              go_ret
              exact ⟨ret_bool HRES.out.symm, hB.out⟩
        · have g1 : decide ((8 : Int) < (L.length : Int)) = true := decide_eq_true (by omega)
          rw [decide_eq_false h8, Bool.false_and]
          clear h8
          go_enter Tryz.func55, Tryz.ntmps55
          go_wp2_with fail
          refine (P2.out _ (Below.refl _ _)).mono ?_
          rintro e w5 ⟨rfl, hb5⟩
          obtain ⟨m0, m3, m4⟩ := HC.out w5 hb5
          go_wp2_with fail
          go_ret
          exact ⟨rfl, HB0.out.trans (hb5.mono HB0.out.size)⟩
    · rw [decide_eq_false hC, Bool.false_and]
      have z1 : (C == 0) = false := beqI hC
      have z2 : (C != 0) = true := bne_iff_ne.2 hC
      clear hpc hn2
      go_enter Tryz.func55, Tryz.ntmps55
      go_wp2_with fail
      refine (P2.out _ (Below.refl _ _)).mono ?_
      rintro e w5 ⟨rfl, hb5⟩
      obtain ⟨m0, m3, m4⟩ := HC.out w5 hb5
      go_wp2_with fail
      go_ret
      exact ⟨rfl, HB0.out.trans (hb5.mono HB0.out.size)⟩
  · rw [decide_eq_false h3, Bool.false_and]
    have z1 : (k == q) = false := beqI h3
    have z2 : (k != q) = true := bne_iff_ne.2 h3
    clear hpc hn2
    go_enter Tryz.func55, Tryz.ntmps55
    go_wp2_with fail
    go_ret
    exact ⟨rfl, HB0.out⟩
end Go.Proofs.YtdckldfekepopaaGreatDoor
