/-
  How the program compares: numbers, texts, rows of keys. · The program's compareSorted. · The program's compare, Equal, Less. · The statements' helper 'wakes': what the document says of values, plain. · The statements' helper 'wakes'. · The program's Check; sorting exists; a value in a list, in an object of one key.
-/
import Derived.Test.YtlamkadllbgamaaGreatDoorGG
import Derived.Test.YtlamkadllbgamaaGreatDoorGD
import Derived.Test.YtlamkadllbgamaaGreatDoorGH
import Derived.Deep.RegionWith
set_option linter.unusedVariables false
set_option linter.unusedSimpArgs false
namespace Go.Proofs.YtlamkadllbgamaaGreatDoor
open Go.RowKit

def cmpI (x y : Int) : Int := if x < y then -1 else if y < x then 1 else 0
theorem blq_eq : ∀ (x y : List UInt8), Op.bytesLess x y = decide (x < y)
  | [], [] => by simp [Op.bytesLess]
  | _ :: _, [] => by simp [Op.bytesLess]
  | [], _ :: _ => by simp [Op.bytesLess]
  | a :: x, b :: y => by
    rw [Op.bytesLess, blq_eq x y, Bool.eq_iff_iff]
    simp [List.cons_lt_cons_iff]
theorem cmpB_m1 : ∀ a b : List UInt8, Lib.compareBytes a b < 0 → Lib.compareBytes a b = -1
  | [], [], h => by simp [Lib.compareBytes] at h
  | [], b :: tb, _ => rfl
  | a :: ta, [], h => by simp [Lib.compareBytes] at h
  | a :: ta, b :: tb, h => by
    rw [Lib.compareBytes] at h ⊢
    by_cases h1 : a < b
    · rw [if_pos h1]
    · rw [if_neg h1] at h ⊢
      by_cases h2 : b < a
      · rw [if_pos h2] at h; omega
      · rw [if_neg h2] at h ⊢; exact cmpB_m1 ta tb h
theorem cmpB_p1 : ∀ a b : List UInt8, b < a → Lib.compareBytes a b = 1
  | [], [], h => absurd h (List.lt_irrefl _)
  | [], b :: tb, h => absurd h (List.not_lt_nil _)
  | a :: ta, [], h => rfl
  | a :: ta, b :: tb, h => by
    rw [List.cons_lt_cons_iff] at h
    rw [Lib.compareBytes]
    rcases h with h | ⟨rfl, h⟩
    · rw [if_neg (UInt8.lt_asymm h), if_pos h]
    · rw [if_neg (UInt8.lt_irrefl _), if_neg (UInt8.lt_irrefl _)]; exact cmpB_p1 ta tb h
set_option maxHeartbeats 2000000 in
theorem cmp8_any (x y : Int) (w : World) : Calls Tryz.prog 96 #[.int .i8 x, .int .i8 y] w fun e w' => e = .returned (.int .i64 (cmpI x y)) ∧ w' = w := by
  have hn : ∀ (x : Int) (w : World), Calls Tryz.prog 103 #[.int .i8 x] w fun e w' => e = .returned (.bool false) ∧ w' = w := fun x w => by
    go_enter Tryz.func103, Tryz.ntmps103
    go_wp2
    go_ret
    exact ⟨by simp, rfl⟩
  have HN := Lib.hid hn
  clear hn
  unfold cmpI
  by_cases h1 : x < y
  · rw [if_pos h1]
    go_enter Tryz.func96, Tryz.ntmps96
    go_wp2_with (go_at_call 103; refine (HN.out _ _).mono ?_; rintro e w5 ⟨rfl, rfl⟩)
    go_ret
    exact ⟨rfl, rfl⟩
  · rw [if_neg h1]
    by_cases h2 : y < x
    · rw [if_pos h2]
      go_enter Tryz.func96, Tryz.ntmps96
      go_wp2_with (go_at_call 103; refine (HN.out _ _).mono ?_; rintro e w5 ⟨rfl, rfl⟩)
      go_ret
      exact ⟨rfl, rfl⟩
    · rw [if_neg h2]
      go_enter Tryz.func96, Tryz.ntmps96
      go_wp2_with (go_at_call 103; refine (HN.out _ _).mono ?_; rintro e w5 ⟨rfl, rfl⟩)
      go_ret
      exact ⟨rfl, rfl⟩
set_option maxHeartbeats 2000000 in
theorem cmp64_any (x y : Int) (w : World) : Calls Tryz.prog 98 #[.int .i64 x, .int .i64 y] w fun e w' => e = .returned (.int .i64 (cmpI x y)) ∧ w' = w := by
  have hn : ∀ (x : Int) (w : World), Calls Tryz.prog 104 #[.int .i64 x] w fun e w' => e = .returned (.bool false) ∧ w' = w := fun x w => by
    go_enter Tryz.func104, Tryz.ntmps104
    go_wp2
    go_ret
    exact ⟨by simp, rfl⟩
  have HN := Lib.hid hn
  clear hn
  unfold cmpI
  by_cases h1 : x < y
  · rw [if_pos h1]
    go_enter Tryz.func98, Tryz.ntmps98
    go_wp2_with (go_at_call 104; refine (HN.out _ _).mono ?_; rintro e w5 ⟨rfl, rfl⟩)
    go_ret
    exact ⟨rfl, rfl⟩
  · rw [if_neg h1]
    by_cases h2 : y < x
    · rw [if_pos h2]
      go_enter Tryz.func98, Tryz.ntmps98
      go_wp2_with (go_at_call 104; refine (HN.out _ _).mono ?_; rintro e w5 ⟨rfl, rfl⟩)
      go_ret
      exact ⟨rfl, rfl⟩
    · rw [if_neg h2]
      go_enter Tryz.func98, Tryz.ntmps98
      go_wp2_with (go_at_call 104; refine (HN.out _ _).mono ?_; rintro e w5 ⟨rfl, rfl⟩)
      go_ret
      exact ⟨rfl, rfl⟩
set_option maxHeartbeats 2000000 in
theorem cmpS_any (s t : ByteArray) (w : World) : Calls Tryz.prog 106 #[.string s, .string t] w fun e w' => e = .returned (.int .i64 (cmpK s t)) ∧ w' = w := by
  have hn : ∀ (x : ByteArray) (w : World), Calls Tryz.prog 110 #[.string x] w fun e w' => e = .returned (.bool false) ∧ w' = w := fun x w => by
    go_enter Tryz.func110, Tryz.ntmps110
    go_wp2
    go_ret
    exact ⟨by simp, rfl⟩
  have HN := Lib.hid hn
  clear hn
  have hg : ∀ w, (Go.binOp .gtr 9 (.string s) (.string t)).run Tryz.prog w = .ok (.bool (Op.bytesLess t.toList s.toList)) w := fun w => by
    have key : (!Op.bytesLess s.toList t.toList && !s.toList == t.toList) = Op.bytesLess t.toList s.toList := by
      rw [blq_eq, blq_eq]
      by_cases h1 : s.toList < t.toList
      · simp [h1, List.lt_asymm h1]
      · by_cases h2 : s.toList = t.toList
        · simp [h2, List.lt_irrefl]
        · have h3 : t.toList < s.toList := Classical.byContradiction fun h => h2 (List.le_antisymm (List.not_lt.1 h) (List.not_lt.1 h1))
          simp [h1, h2, h3]
    simp [Go.binOp, go_sem, Go.Op.stringOp]
    exact key
  have e1 : cmpK s t = if Op.bytesLess s.toList t.toList = true then -1 else if Op.bytesLess t.toList s.toList = true then 1 else 0 := by
    rw [blq_eq, blq_eq, Lib.toList_data, Lib.toList_data]
    have q1 := cmpK_neg s t
    have q0 := cmpK_zero s t
    by_cases h1 : s.data.toList < t.data.toList
    · rw [if_pos (decide_eq_true h1)]
      exact cmpB_m1 _ _ (q1.2 h1)
    · rw [if_neg (by simp [h1])]
      by_cases h2 : t.data.toList < s.data.toList
      · rw [if_pos (decide_eq_true h2)]
        exact cmpB_p1 _ _ h2
      · rw [if_neg (by simp [h2])]
        exact (cmpB_zero _ _).2 (List.le_antisymm (List.not_lt.1 h2) (List.not_lt.1 h1))
  rw [e1]
  clear e1
  generalize h1 : Op.bytesLess s.toList t.toList = b1
  generalize h2 : Op.bytesLess t.toList s.toList = b2 at hg ⊢
  cases b1 with
  | true =>
    go_enter Tryz.func106, Tryz.ntmps106
    go_wp2_with (go_at_call 110; refine (HN.out _ _).mono ?_; rintro e w5 ⟨rfl, rfl⟩)
    go_ret
    exact ⟨rfl, rfl⟩
  | false =>
    cases b2 with
    | true =>
      go_enter Tryz.func106, Tryz.ntmps106
      go_wp2_with (go_at_call 110; refine (HN.out _ _).mono ?_; rintro e w5 ⟨rfl, rfl⟩)
      go_ret
      exact ⟨rfl, rfl⟩
    | false =>
      go_enter Tryz.func106, Tryz.ntmps106
      go_wp2_with (go_at_call 110; refine (HN.out _ _).mono ?_; rintro e w5 ⟨rfl, rfl⟩)
      go_ret
      exact ⟨rfl, rfl⟩
def cmpBo (a b : Bool) : Int := if a = b then 0 else if b then -1 else 1
set_option maxHeartbeats 1000000 in
theorem cmpBo_any (a b : Bool) (w : World) : Calls Tryz.prog 97 #[.bool a, .bool b] w fun e w' => e = .returned (.int .i64 (cmpBo a b)) ∧ w' = w := by
  cases a <;> cases b
  all_goals
    go_enter Tryz.func97, Tryz.ntmps97
    go_wp2
    go_ret
    exact ⟨rfl, rfl⟩
end Go.Proofs.YtlamkadllbgamaaGreatDoor

namespace Go.Proofs.YtlamkadllbgamaaGreatDoor
open Go.RowKit

def cmpKs : List ByteArray → List ByteArray → Int
  | [], [] => 0
  | [], _ :: _ => -1
  | _ :: _, [] => 1
  | s :: ks, t :: ts => if cmpK s t = 0 then cmpKs ks ts else cmpK s t
mutual
/-- The program's order: of objects all keys go ahead of all values. -/
def pcmpV : V → V → Int
  | .mk k b n s l ks, .mk k' b' n' s' l' ks' => if k ≠ k' then cmpI k k' else if k = 1 then cmpBo b b' else if k = 2 then cmpI n n' else if k = 3 then cmpK s s' else if k = 5 then (if cmpKs ks ks' = 0 then pcmpVs l l' else cmpKs ks ks') else pcmpVs l l'
def pcmpVs : List V → List V → Int
  | [], [] => 0
  | [], _ :: _ => -1
  | _ :: _, [] => 1
  | x :: t, y :: t' => if pcmpV x y = 0 then pcmpVs t t' else pcmpV x y
end
theorem cmpKs_at (ks ts : List ByteArray) (j : Nat) (h : j < ks.length) (h' : j < ts.length) : cmpKs (ks.drop j) (ts.drop j) = if cmpK ks[j] ts[j] = 0 then cmpKs (ks.drop (j + 1)) (ts.drop (j + 1)) else cmpK ks[j] ts[j] := by
  rw [List.drop_eq_getElem_cons h, List.drop_eq_getElem_cons h', cmpKs]
theorem cmpKs_end1 (ks ts : List ByteArray) (j : Nat) (h : j < ks.length) (h' : ¬ j < ts.length) : cmpKs (ks.drop j) (ts.drop j) = 1 := by
  rw [List.drop_eq_getElem_cons h, List.drop_eq_nil_of_le (show ts.length ≤ j by omega), cmpKs]
theorem cmpKs_end2 (ks ts : List ByteArray) (h : ks.length < ts.length) : cmpKs (ks.drop ks.length) (ts.drop ks.length) = -1 := by
  rw [List.drop_length, List.drop_eq_getElem_cons h, cmpKs]
theorem cmpKs_end3 (ks ts : List ByteArray) (h : ¬ ks.length < ts.length) : cmpKs (ks.drop ks.length) (ts.drop ks.length) = 0 := by
  rw [List.drop_length, List.drop_eq_nil_of_le (by omega), cmpKs]
theorem pcmpVs_at (ks ts : List V) (j : Nat) (h : j < ks.length) (h' : j < ts.length) : pcmpVs (ks.drop j) (ts.drop j) = if pcmpV ks[j] ts[j] = 0 then pcmpVs (ks.drop (j + 1)) (ts.drop (j + 1)) else pcmpV ks[j] ts[j] := by
  rw [List.drop_eq_getElem_cons h, List.drop_eq_getElem_cons h', pcmpVs]
theorem pcmpVs_end1 (ks ts : List V) (j : Nat) (h : j < ks.length) (h' : ¬ j < ts.length) : pcmpVs (ks.drop j) (ts.drop j) = 1 := by
  rw [List.drop_eq_getElem_cons h, List.drop_eq_nil_of_le (show ts.length ≤ j by omega), pcmpVs]
theorem pcmpVs_end2 (ks ts : List V) (h : ks.length < ts.length) : pcmpVs (ks.drop ks.length) (ts.drop ks.length) = -1 := by
  rw [List.drop_length, List.drop_eq_getElem_cons h, pcmpVs]
theorem pcmpVs_end3 (ks ts : List V) (h : ¬ ks.length < ts.length) : pcmpVs (ks.drop ks.length) (ts.drop ks.length) = 0 := by
  rw [List.drop_length, List.drop_eq_nil_of_le (by omega), pcmpVs]

set_option maxRecDepth 100000 in
set_option maxHeartbeats 4000000 in
theorem cmpKs_any (ks ts : List ByteArray) (v u : Value) (w : World) (hl : ks.length ≤ 1000000) (h : isK w ks v) (h' : isK w ts u) :
    Calls Tryz.prog 100 #[v, u] w fun e w' => e = .returned (.int .i64 (cmpKs ks ts)) ∧ w' = w := by
  obtain ⟨a, cap, ⟨o, rfl, hc1, hc2, ho⟩, hks⟩ := h
  obtain ⟨a', cap', ⟨o', rfl, hc1', hc2', ho'⟩, hts⟩ := h'
  unfold maxLen at hc2 hc2'
  have HK := Lib.hid hks
  have HT := Lib.hid hts
  have HC := Lib.hid cmpS_any
  obtain ⟨r, hr⟩ : ∃ r, cmpKs ks ts = r := ⟨_, rfl⟩
  rw [hr]
  have HR := Lib.hid hr
  clear hks hts hr
  go_enter Tryz.func100, Tryz.ntmps100
  go_wp2_with fail
  go_loopw [11] (fun i wr => ∃ j : Nat, j ≤ ks.length ∧ i = .int .i64 j ∧ Hid (cmpKs (ks.drop j) (ts.drop j) = r) ∧ wr = w) (fun i _ => ks.length - (intOf i).toNat)
  case atStart => exact ⟨0, by omega, rfl, HR, rfl⟩
  case round =>
    obtain ⟨j, hj, rfl, hA, rfl⟩ := hrel
    by_cases hlt : j < ks.length
    · obtain rfl := ho (by omega)
      have c1 := (HK.out j hlt).1
      by_cases hlt' : j < ts.length
      · obtain rfl := ho' (by omega)
        have c2 := (HT.out j hlt').1
        have hat := cmpKs_at ks ts j hlt hlt'
        rw [hA.out] at hat
        generalize ks[j] = s at *
        generalize ts[j] = t at *
        have hcc := HC.out s t
        generalize cmpK s t = q at *
        have HCC := Lib.hid hcc
        have hnl : ¬ (ts.length : Int) ≤ (j : Int) := by omega
        clear hcc
        by_cases hq : q = 0
        · subst hq
          rw [if_pos rfl] at hat
          have HAT := Lib.hid hat.symm
          clear hat
          go_wp2_with (go_at_call 106; refine (HCC.out _).mono ?_; rintro e w5 ⟨rfl, rfl⟩)
          go_roundw
          case rel => exact ⟨j + 1, by omega, by go_num, HAT, trivial⟩
          case measure => simp [intOf]; omega
        · rw [if_neg hq] at hat
          have HAT := Lib.hid hat
          have q1 : (q != 0) = true := bne_iff_ne.2 hq
          have q2 : (q == 0) = false := beqI hq
          clear hat hq
          go_wp2_with (go_at_call 106; refine (HCC.out _).mono ?_; rintro e w5 ⟨rfl, rfl⟩)
          go_ret
          exact ⟨ret_int HAT.out.symm, rfl⟩
      · have hat := cmpKs_end1 ks ts j hlt hlt'
        rw [hA.out] at hat
        have HAT := Lib.hid hat
        have hnl : (ts.length : Int) ≤ (j : Int) := by omega
        clear hat
        go_wp2_with fail
        go_ret
        exact ⟨ret_int HAT.out.symm, rfl⟩
    · obtain rfl : j = ks.length := by omega
      by_cases hlt' : ks.length < ts.length
      · have hat := cmpKs_end2 ks ts hlt'
        rw [hA.out] at hat
        have HAT := Lib.hid hat
        have hnl : (ks.length : Int) < (ts.length : Int) := by omega
        clear hat
        go_wp2_with fail
        go_ret
        exact ⟨ret_int HAT.out.symm, rfl⟩
      · have hat := cmpKs_end3 ks ts hlt'
        rw [hA.out] at hat
        have HAT := Lib.hid hat
        have hnl : ¬ (ks.length : Int) < (ts.length : Int) := by omega
        clear hat
        go_wp2_with fail
        go_ret
        exact ⟨ret_int HAT.out.symm, rfl⟩

set_option maxRecDepth 100000 in
set_option maxHeartbeats 8000000 in
theorem cmpF_any (ks : List V) (hI0 : ∀ (x : V), x ∈ ks → ∀ (y : V) (v u : Value) (w1 : World), isV w1 x v → isV w1 y u → Calls Tryz.prog 91 #[v, u] w1 fun e w' => e = .returned (.int .i64 (pcmpV x y)) ∧ Below w1.heap.size w1 w')
    (ts : List V) (o o' : Option Addr) (a a' : Addr) (cap cap' : Nat) (ho : 0 < ks.length → o = some a) (ho' : 0 < ts.length → o' = some a') (w : World) (hl : ks.length ≤ 1000000) (hlt : ts.length ≤ maxLen) (h : isVs w ks a) (h' : isVs w ts a') :
    Calls Tryz.prog 101 #[.slice o ks.length cap, .slice o' ts.length cap', .func (.func 91) #[] #[]] w fun e w' => e = .returned (.int .i64 (pcmpVs ks ts)) ∧ Below w.heap.size w w' := by
  unfold maxLen at hlt
  have HK := Lib.hid h
  have HT := Lib.hid h'
  have HI := Lib.hid hI0
  obtain ⟨r, hr⟩ : ∃ r, pcmpVs ks ts = r := ⟨_, rfl⟩
  rw [hr]
  have HR := Lib.hid hr
  have ef : ∀ args w, (callFunc 91 args).run Tryz.prog w = .ok (.enter 91 args) w := enters_of Tryz.func91 (by kernel_rfl) rfl
  clear h h' hr hI0
  go_enter Tryz.func101, Tryz.ntmps101
  go_wp2_with fail
  go_loopw [13] (fun i wr => ∃ j : Nat, j ≤ ks.length ∧ i = .int .i64 j ∧ Hid (pcmpVs (ks.drop j) (ts.drop j) = r) ∧ Hid (Below w.heap.size w wr)) (fun i _ => ks.length - (intOf i).toNat)
  case atStart => exact ⟨0, by omega, rfl, HR, Lib.hid (Below.refl _ _)⟩
  case round =>
    obtain ⟨j, hj, rfl, hA, hB⟩ := hrel
    by_cases hlt1 : j < ks.length
    · obtain rfl := ho (by omega)
      obtain ⟨k', b', n', s', o1, m1, p1, o3, m3, p3, g0, g1, g2, g3, g4, g5, hx⟩ := isVs_sl ks a j hlt1 HK.out
      have g0 := cell_below hB.out _ _ g0
      have g1 := cell_below hB.out _ _ g1
      have g2 := cell_below hB.out _ _ g2
      have g3 := cell_below hB.out _ _ g3
      have g4 := cell_below hB.out _ _ g4
      have g5 := cell_below hB.out _ _ g5
      by_cases hlt2 : j < ts.length
      · obtain rfl := ho' (by omega)
        obtain ⟨k2, b2, n2, s2, o4, m4, p4, o5, m5, p5, f0, f1, f2, f3, f4, f5, hy⟩ := isVs_sl ts a' j hlt2 HT.out
        have f0 := cell_below ((hB.out.alloc hB.out.size (.cells #[.int .i8 k', .bool b', .int .i64 n', .string s', .slice o1 m1 p1, .slice o3 m3 p3] 33))) _ _ f0
        have f1 := cell_below ((hB.out.alloc hB.out.size (.cells #[.int .i8 k', .bool b', .int .i64 n', .string s', .slice o1 m1 p1, .slice o3 m3 p3] 33))) _ _ f1
        have f2 := cell_below ((hB.out.alloc hB.out.size (.cells #[.int .i8 k', .bool b', .int .i64 n', .string s', .slice o1 m1 p1, .slice o3 m3 p3] 33))) _ _ f2
        have f3 := cell_below ((hB.out.alloc hB.out.size (.cells #[.int .i8 k', .bool b', .int .i64 n', .string s', .slice o1 m1 p1, .slice o3 m3 p3] 33))) _ _ f3
        have f4 := cell_below ((hB.out.alloc hB.out.size (.cells #[.int .i8 k', .bool b', .int .i64 n', .string s', .slice o1 m1 p1, .slice o3 m3 p3] 33))) _ _ f4
        have f5 := cell_below ((hB.out.alloc hB.out.size (.cells #[.int .i8 k', .bool b', .int .i64 n', .string s', .slice o1 m1 p1, .slice o3 m3 p3] 33))) _ _ f5
        have hW : Below w.heap.size w ((wr.alloc (.cells #[.int .i8 k', .bool b', .int .i64 n', .string s', .slice o1 m1 p1, .slice o3 m3 p3] 33)).alloc (.cells #[.int .i8 k2, .bool b2, .int .i64 n2, .string s2, .slice o4 m4 p4, .slice o5 m5 p5] 33)) := (hB.out.alloc hB.out.size _).alloc (by have := hB.out.size; simp; omega) _
        have hat := pcmpVs_at ks ts j hlt1 hlt2
        rw [hA.out] at hat
        have hcc := HI.out ks[j] (List.getElem_mem _) ts[j] _ _ _ (isV_below hW hx) (isV_below hW hy)
        generalize pcmpV ks[j] ts[j] = q at *
        have HCC := Lib.hid hcc
        have HW := Lib.hid hW
        have hnl : ¬ (ts.length : Int) ≤ (j : Int) := by omega
        clear hcc hx hy hW
        by_cases hq : q = 0
        · subst hq
          rw [if_pos rfl] at hat
          have HAT := Lib.hid hat.symm
          clear hat
          go_wp2_with (go_at_fn 91; refine HCC.out.mono ?_; rintro e w5 ⟨rfl, hb5⟩)
          go_roundw
          case rel => exact ⟨j + 1, by omega, by go_num, HAT, Lib.hid (HW.out.trans (hb5.mono HW.out.size))⟩
          case measure => simp [intOf]; omega
        · rw [if_neg hq] at hat
          have HAT := Lib.hid hat
          have q1 : (q != 0) = true := bne_iff_ne.2 hq
          have q2 : (q == 0) = false := beqI hq
          clear hat hq
          go_wp2_with (go_at_fn 91; refine HCC.out.mono ?_; rintro e w5 ⟨rfl, hb5⟩)
          go_ret
          exact ⟨ret_int HAT.out.symm, HW.out.trans (hb5.mono HW.out.size)⟩
      · have hat := pcmpVs_end1 ks ts j hlt1 hlt2
        rw [hA.out] at hat
        have HAT := Lib.hid hat
        have hnl : (ts.length : Int) ≤ (j : Int) := by omega
        clear hat hx
        go_wp2_with fail
        go_ret
        exact ⟨ret_int HAT.out.symm, hB.out.alloc hB.out.size _⟩
    · obtain rfl : j = ks.length := by omega
      by_cases hlt2 : ks.length < ts.length
      · have hat := pcmpVs_end2 ks ts hlt2
        rw [hA.out] at hat
        have HAT := Lib.hid hat
        have hnl : (ks.length : Int) < (ts.length : Int) := by omega
        clear hat
        go_wp2_with fail
        go_ret
        exact ⟨ret_int HAT.out.symm, hB.out⟩
      · have hat := pcmpVs_end3 ks ts hlt2
        rw [hA.out] at hat
        have HAT := Lib.hid hat
        have hnl : ¬ (ks.length : Int) < (ts.length : Int) := by omega
        clear hat
        go_wp2_with fail
        go_ret
        exact ⟨ret_int HAT.out.symm, hB.out⟩

/-- No row is too long. -/
def wideV (x : V) : Prop := ∀ z ∈ walkV x, z.list.length ≤ 1000000 ∧ z.keys.length ≤ 3000
theorem pcmpV_mk (k k' : Int) (b b' : Bool) (n n' : Int) (s s' : ByteArray) (l l' : List V) (ks ks' : List ByteArray) : pcmpV (.mk k b n s l ks) (.mk k' b' n' s' l' ks') = if k ≠ k' then cmpI k k' else if k = 1 then cmpBo b b' else if k = 2 then cmpI n n' else if k = 3 then cmpK s s' else if k = 5 then (if cmpKs ks ks' = 0 then pcmpVs l l' else cmpKs ks ks') else pcmpVs l l' := by rw [pcmpV]
theorem two_boxes (w : World) (cs cs' : Array Value) (t : TypeId) : Below w.heap.size w ((w.alloc (.cells cs t)).alloc (.cells cs' t)) ∧ ((w.alloc (.cells cs t)).alloc (.cells cs' t)).heap[w.heap.size]? = some (.cells cs t (0, 0)) ∧ ((w.alloc (.cells cs t)).alloc (.cells cs' t)).heap[w.heap.size + 1]? = some (.cells cs' t (0, 0)) := by
  have h := World.alloc_heap_new (w.alloc (.cells cs t)) (.cells cs' t)
  rw [World.size_alloc] at h
  exact ⟨by go_grown, (Below.heap_alloc _ _ _ (by simp)).trans (World.alloc_heap_new w _), h⟩

set_option maxRecDepth 100000 in
set_option maxHeartbeats 16000000 in
theorem pcmp_any : ∀ (N : Nat) (x y : V) (v u : Value) (w : World), depthV x ≤ N → wideV x → isV w x v → isV w y u →
    Calls Tryz.prog 91 #[v, u] w fun e w' => e = .returned (.int .i64 (pcmpV x y)) ∧ Below w.heap.size w w'
  | 0, x, y, v, u, w, hN, _, _, _ => absurd (depthV_pos x) (by omega)
  | N + 1, x, y, v, u, w, hN, hF, h, h' => by
    obtain ⟨k, b, n, s, l, ks⟩ := x
    obtain ⟨k', b', n', s', l', ks'⟩ := y
    unfold isV at h h'
    obtain ⟨lv, kv, rfl, hk, hn, hs, ⟨a, cap, ⟨o, rfl, hc1, hc2, ho⟩, hvs⟩, hks⟩ := h
    obtain ⟨lv', kv', rfl, hk', hn', hs', ⟨a', cap', ⟨o', rfl, hc1', hc2', ho'⟩, hvs'⟩, hks'⟩ := h'
    have hks0 := hks
    have hks0' := hks'
    obtain ⟨a2, cap2, ⟨o2, rfl, hc3, hc4, ho2⟩, _⟩ := hks0
    obtain ⟨a2', cap2', ⟨o2', rfl, hc3', hc4', ho2'⟩, _⟩ := hks0'
    have hsl : depthVs l ≤ N := by rw [depthV] at hN; omega
    have hll : l.length ≤ 1000000 := (hF (.mk k b n s l ks) (by rw [walkV]; exact List.mem_cons_self)).1
    have hkl : ks.length ≤ 3000 := (hF (.mk k b n s l ks) (by rw [walkV]; exact List.mem_cons_self)).2
    have hW := two_boxes w #[.int .i8 k, .bool b, .int .i64 n, .string s, .slice o l.length cap, .slice o2 ks.length cap2] #[.int .i8 k', .bool b', .int .i64 n', .string s', .slice o' l'.length cap', .slice o2' ks'.length cap2'] 33
    have hmk := pcmpV_mk k k' b b' n n' s s' l l' ks ks'
    obtain ⟨r, hr⟩ : ∃ r, pcmpV (.mk k b n s l ks) (.mk k' b' n' s' l' ks') = r := ⟨_, rfl⟩
    rw [hr] at hmk ⊢
    have HF : Hid (∀ w1, KB w w1 → Calls Tryz.prog 101 #[.slice o l.length cap, .slice o' l'.length cap', .func (.func 91) #[] #[]] w1 fun e w' => e = .returned (.int .i64 (pcmpVs l l')) ∧ Below w1.heap.size w1 w') := Lib.hid fun w1 hK =>
      cmpF_any l (fun x hx y v u w1 h1 h2 => pcmp_any N x y v u w1 (by obtain ⟨i, hi, rfl⟩ := List.getElem_of_mem hx; have := depthVs_get l i hi; omega) (fun z hz => hF z (walk_part hx rfl z hz)) h1 h2) l' o o' a a' cap cap' ho ho' w1 hll (by unfold maxLen at *; omega) (isVs_keep (cell_below hK) l a hvs) (isVs_keep (cell_below hK) l' a' hvs')
    have HKs : Hid (∀ w1, KB w w1 → Calls Tryz.prog 100 #[.slice o2 ks.length cap2, .slice o2' ks'.length cap2'] w1 fun e w' => e = .returned (.int .i64 (cmpKs ks ks')) ∧ w' = w1) := Lib.hid fun w1 hK =>
      cmpKs_any ks ks' _ _ w1 (by omega) (isK_keep (cell_below hK) hks) (isK_keep (cell_below hK) hks')
    have C8 := Lib.hid cmp8_any
    have C64 := Lib.hid cmp64_any
    have CB := Lib.hid cmpBo_any
    have CS := Lib.hid Tryz.strings_Compare
    clear hk hn hs hvs hks hk' hn' hs' hvs' hks' ho ho' ho2 ho2' hr hF
    have HW := Lib.hid hW.1
    clear hW
    by_cases hkk : k ≠ k'
    · rw [if_pos hkk] at hmk
      have HR := Lib.hid hmk
      have z1 : (k != k') = true := bne_iff_ne.2 hkk
      have z2 : (k == k') = false := beqI hkk
      clear hmk hkk
      go_enter Tryz.func91, Tryz.ntmps91
      go_wp2_with (go_at_call 96; refine (C8.out _ _ _).mono ?_; rintro e w5 ⟨rfl, rfl⟩)
      go_ret
      exact ⟨ret_int HR.out.symm, HW.out⟩
    obtain rfl : k = k' := Decidable.not_not.1 hkk
    rw [if_neg hkk] at hmk
    clear hkk
    by_cases h1 : k = 1
    · subst h1
      rw [if_pos rfl] at hmk
      have HR := Lib.hid hmk
      clear hmk
      go_enter Tryz.func91, Tryz.ntmps91
      go_wp2_with (go_at_call 97; refine (CB.out _ _ _).mono ?_; rintro e w5 ⟨rfl, rfl⟩)
      go_ret
      exact ⟨ret_int HR.out.symm, HW.out⟩
    by_cases h2 : k = 2
    · subst h2
      rw [if_neg (by decide), if_pos rfl] at hmk
      have HR := Lib.hid hmk
      clear hmk
      go_enter Tryz.func91, Tryz.ntmps91
      go_wp2_with (go_at_call 98; refine (C64.out _ _ _).mono ?_; rintro e w5 ⟨rfl, rfl⟩)
      go_ret
      exact ⟨ret_int HR.out.symm, HW.out⟩
    by_cases h3 : k = 3
    · subst h3
      rw [if_neg (by decide), if_neg (by decide), if_pos rfl] at hmk
      have HR := Lib.hid hmk
      clear hmk
      go_enter Tryz.func91, Tryz.ntmps91
      go_wp2_with (go_at_call 99; refine (CS.out _ _ _).mono ?_; rintro e w5 ⟨rfl, rfl⟩)
      go_ret
      exact ⟨ret_int HR.out.symm, HW.out⟩
    by_cases h5 : k = 5
    · subst h5
      rw [if_neg (by decide), if_neg (by decide), if_neg (by decide), if_pos rfl] at hmk
      generalize cmpKs ks ks' = q at *
      by_cases hq : q = 0
      · subst hq
        rw [if_pos rfl] at hmk
        have HR := Lib.hid hmk
        clear hmk
        go_enter Tryz.func91, Tryz.ntmps91
        go_wp2_with (first
          | (go_at_call 100; refine (HKs.out _ HW.out).mono ?_; rintro e w5 ⟨rfl, rfl⟩)
          | (go_at_call 101; refine (HF.out _ HW.out).mono ?_; rintro e w5 ⟨rfl, hb5⟩))
        go_ret
        exact ⟨ret_int HR.out.symm, HW.out.trans (hb5.mono HW.out.size)⟩
      · rw [if_neg hq] at hmk
        have HR := Lib.hid hmk
        have q1 : (q != 0) = true := bne_iff_ne.2 hq
        have q2 : (q == 0) = false := beqI hq
        clear hmk hq
        go_enter Tryz.func91, Tryz.ntmps91
        go_wp2_with (go_at_call 100; refine (HKs.out _ HW.out).mono ?_; rintro e w5 ⟨rfl, rfl⟩)
        go_ret
        exact ⟨ret_int HR.out.symm, HW.out⟩
    · rw [if_neg h1, if_neg h2, if_neg h3, if_neg h5] at hmk
      have HR := Lib.hid hmk
      have q1 : (k == 1) = false := beqI h1
      have q2 : (k == 2) = false := beqI h2
      have q3 : (k == 3) = false := beqI h3
      have q5 : (k == 5) = false := beqI h5
      clear hmk h1 h2 h3 h5
      go_enter Tryz.func91, Tryz.ntmps91
      go_wp2_with (go_at_call 101; refine (HF.out _ HW.out).mono ?_; rintro e w5 ⟨rfl, hb5⟩)
      go_ret
      exact ⟨ret_int HR.out.symm, HW.out.trans (hb5.mono HW.out.size)⟩
end Go.Proofs.YtlamkadllbgamaaGreatDoor

namespace Go.Proofs.YtlamkadllbgamaaGreatDoor
open Go.RowKit Go.Shelf

/-- No key twice, and as many as the parts. -/
def onceV (x : V) : Prop := ∀ z ∈ walkV x, z.keys.Nodup ∧ (z.kind = 5 → z.keys.length = z.list.length)
theorem once_of_wrong {x : V} (h : wrongV x = 0) : onceV x := by
  rw [← firstNZ_walk] at h
  have hall : ∀ (l : List V), firstNZ (l.map ownW) = 0 → ∀ z ∈ l, ownW z = 0 := by
    intro l
    induction l with
    | nil => intro _ z hz; cases hz
    | cons a t ih =>
      intro h z hz
      rw [List.map_cons, firstNZ] at h
      by_cases ha : ownW a = 0
      · rw [if_pos ha] at h
        rcases List.mem_cons.1 hz with rfl | hz
        · exact ha
        · exact ih h z hz
      · rw [if_neg ha] at h; exact absurd h ha
  intro z hz
  have h0 := hall _ h z hz
  unfold ownW at h0
  by_cases h1 : plainB z = false
  · rw [if_pos h1] at h0; omega
  · rw [if_neg h1] at h0
    have hp : plainP z := plain_eq (by simpa using h1)
    split at h0
    · omega
    · split at h0
      · omega
      · split at h0
        · omega
        · split at h0
          · omega
          · rename_i ho
            refine ⟨?_, ?_⟩
            · apply Classical.byContradiction
              intro hn
              exact ho (once_no hn)
            · obtain ⟨k, b, n, s, l, ks⟩ := z
              exact hp.2.2.2.2.2.1

theorem part_in {x y : V} (h : y ∈ x.list) : ∀ z ∈ walkV y, z ∈ walkV x := walk_part h rfl
theorem self_in (x : V) : x ∈ walkV x := by obtain ⟨_, _, _, _, _, _⟩ := x; rw [walkV]; exact List.mem_cons_self
theorem getD_in {l : List V} {i : Nat} (h : i < l.length) : l.getD i default ∈ l := by rw [getD_lt _ _ _ h]; exact List.getElem_mem h
theorem ord_lt {x : V} {ps : List Nat} (h : isOrd x ps) {i : Nat} (hi : i < ps.length) : ps.getD i 0 < x.list.length := by
  rw [getD_lt _ _ _ hi]
  have := h.1.mem_iff.1 (List.getElem_mem hi)
  simpa using this
/-- The places are one way, where no key stands twice. -/
theorem ord_uniq {x : V} {ps qs : List Nat} (h : isOrd x ps) (h' : isOrd x qs) (ho : x.keys.Nodup) (hl : x.kind = 5 → x.keys.length = x.list.length) : ps = qs := by
  by_cases hk : x.kind = 5
  · obtain ⟨h1, _, h3⟩ := h
    obtain ⟨h1', _, h3'⟩ := h'
    have hlen := hl hk
    refine List.Perm.eq_of_pairwise (le := fun p q => ¬ cmpK (x.keys.getD q ⟨#[]⟩) (x.keys.getD p ⟨#[]⟩) < 0) ?_ ?_ ?_ (h1.trans h1'.symm)
    · intro a b ha hb hab hba
      have ha' : a < x.keys.length := by rw [hlen]; simpa using h1.mem_iff.1 ha
      have hb' : b < x.keys.length := by rw [hlen]; simpa using h1'.mem_iff.1 hb
      rw [getD_lt _ _ _ ha', getD_lt _ _ _ hb', cmpK_neg] at hab hba
      have e : x.keys[a] = x.keys[b] := by
        have := List.le_antisymm (List.not_lt.1 hab) (List.not_lt.1 hba)
        exact ByteArray.ext (by simpa using congrArg List.toArray this)
      rcases Nat.lt_trichotomy a b with hlt | rfl | hlt
      · exact absurd ho (not_nodup x.keys a b hlt hb' e)
      · rfl
      · exact absurd ho (not_nodup x.keys b a hlt ha' e.symm)
    · rw [List.pairwise_iff_getElem]
      intro i j hi hj hij
      exact h3 hk i j hij hj
    · rw [List.pairwise_iff_getElem]
      intro i j hi hj hij
      exact h3' hk i j hij hj
  · rw [h.2.1 hk, h'.2.1 hk]

theorem sort_uniq {x y : V} (h : SortR x y) : ∀ {y' : V}, onceV x → SortR x y' → y = y' := by
  induction h with
  | mk k b n s l ks l' ks' ps ho hl hs hk ih =>
    intro y' hx h'
    cases h' with
    | mk _ _ _ _ _ _ l2 ks2 qs ho2 hl2 hs2 hk2 =>
      obtain ⟨hx1, hx2⟩ := hx _ (self_in _)
      obtain rfl := ord_uniq ho ho2 hx1 hx2
      have e1 : l' = l2 := by
        apply List.ext_getElem (by omega)
        intro i h1 h2
        have hp : ps.getD i 0 < l.length := ord_lt ho (by omega)
        exact ih i h1 (fun z hz => hx z (part_in (getD_in hp) z hz)) (hs2 i h2)
      rw [e1, hk, hk2]
theorem walkVs_mem {z : V} : ∀ {l : List V}, z ∈ walkVs l → ∃ y ∈ l, z ∈ walkV y
  | [], h => by rw [walkVs] at h; cases h
  | a :: t, h => by
    rw [walkVs] at h
    rcases List.mem_append.1 h with h | h
    · exact ⟨a, by simp, h⟩
    · obtain ⟨y, hy, hz⟩ := walkVs_mem h
      exact ⟨y, by simp [hy], hz⟩
theorem sort_wide {x y : V} (h : SortR x y) : (onceV x → wideV x → wideV y) ∧ depthV y ≤ depthV x := by
  induction h with
  | mk k b n s l ks l' ks' ps ho hl hs hk ih =>
    have hpl : ps.length = l.length := by have := ho.1.length_eq; simpa [V.list] using this
    constructor
    · intro hO hx z hz
      rw [walkV] at hz
      rcases List.mem_cons.1 hz with rfl | hz
      · have h1 := hx _ (self_in _)
        have h1a : l.length ≤ 1000000 := h1.1
        have h1b : ks.length ≤ 3000 := h1.2
        refine ⟨by show l'.length ≤ _; omega, ?_⟩
        show ks'.length ≤ 3000
        rw [hk]
        split
        · rename_i h5
          have h6 : ks.length = l.length := (hO _ (self_in _)).2 h5
          rw [List.length_map, hpl]
          omega
        · exact h1b
      · obtain ⟨y, hy, hz⟩ := walkVs_mem hz
        obtain ⟨i, hi, rfl⟩ := List.getElem_of_mem hy
        have hp : ps.getD i 0 < l.length := ord_lt ho (by omega)
        exact (ih i hi).1 (fun q hq => hO q (part_in (getD_in hp) q hq)) (fun q hq => hx q (part_in (getD_in hp) q hq)) z hz
    · rw [depthV, depthV]
      have := depthVs_le (depthVs l) l' (fun y hy => by
        obtain ⟨i, hi, rfl⟩ := List.getElem_of_mem hy
        have hp : ps.getD i 0 < l.length := ord_lt ho (by omega)
        have h1 := (ih i hi).2
        have h2 := depthVs_get l _ hp
        rw [getD_lt _ _ _ hp] at h1
        omega)
      omega
/-- The sorted value, where there is just one. -/
noncomputable def psortV (x : V) : V := @Classical.epsilon V ⟨x⟩ (fun y => SortR x y)
theorem psort_eq {x y : V} (h : SortR x y) (ho : onceV x) : y = psortV x :=
  sort_uniq h ho (@Classical.epsilon_spec_aux V ⟨x⟩ (fun y => SortR x y) ⟨y, h⟩)

theorem pwrong_zero {x : V} (h : pwrongV x = 0) : wrongV x = 0 ∧ depthV x ≤ 24 := by
  unfold pwrongV at h
  split at h
  · omega
  · exact ⟨h, by omega⟩
/-- What compare answers. -/
noncomputable def cmpA (x y : V) : Int × Bool := if pwrongV x ≠ 0 ∨ pwrongV y ≠ 0 then (0, false) else (pcmpV (psortV x) (psortV y), true)

theorem wide_of {x : V} (h : sizeV x ≤ 1000000) (hF : fineV x) : wideV x := fun z hz => by
  refine ⟨?_, hF z hz⟩
  have hsz : ∀ (x : V), z ∈ walkV x → sizeV z ≤ sizeV x := by
    have aux : ∀ (N : Nat) (x : V), sizeV x ≤ N → z ∈ walkV x → sizeV z ≤ sizeV x := by
      intro N
      induction N with
      | zero => intro x hx; exact absurd (sizeV_pos x) (by omega)
      | succ N ih =>
        intro x hx hz
        obtain ⟨k, b, n, s, l, ks⟩ := x
        rw [walkV] at hz
        rcases List.mem_cons.1 hz with rfl | hz
        · exact Nat.le_refl _
        · obtain ⟨y, hy, hz⟩ := walkVs_mem hz
          obtain ⟨i, hi, rfl⟩ := List.getElem_of_mem hy
          have h1 := sizeVs_get l i hi
          rw [sizeV] at hx ⊢
          have := ih l[i] (by omega) hz
          omega
    exact fun x => aux _ x (Nat.le_refl _)
  have h1 := hsz x hz
  have h2 := sizeVs_len z.list
  obtain ⟨k, b, n, s, l, ks⟩ := z
  rw [sizeV] at h1
  show l.length ≤ _
  have : l.length ≤ sizeVs l := h2
  omega

set_option maxRecDepth 100000 in
set_option maxHeartbeats 8000000 in
theorem compare_any (x y : V) (v u : Value) (w : World) (hE : Env w) (hM : sizeV x ≤ 1000000) (hF : fineV x) (hM' : sizeV y ≤ 1000000) (hF' : fineV y) (h : isV w x v) (h' : isV w y u) :
    Calls Tryz.prog 79 #[v, u] w fun e w' => e = .returned (.tuple #[.int .i64 (cmpA x y).1, .bool (cmpA x y).2]) ∧ Below w.heap.size w w' := by
  have hHV := h
  have hHV' := h'
  obtain ⟨k, b, n, s, o, m, c, o2, m2, c2, rfl⟩ := isV_six h
  obtain ⟨k', b', n', s', o', m', c', o2', m2', c2', rfl⟩ := isV_six h'
  have W1 : Hid (∀ w1, KB w w1 → Calls Tryz.prog 66 #[.agg #[.int .i8 k, .bool b, .int .i64 n, .string s, .slice o m c, .slice o2 m2 c2]] w1 fun e w' => e = .returned (.int .i64 (pwrongV x)) ∧ Below w1.heap.size w1 w') := Lib.hid fun w1 hK => pwrong_any x _ w1 (hE.kb hK) hM hF (isV_below hK h)
  have W2 : Hid (∀ w1, KB w w1 → Calls Tryz.prog 66 #[.agg #[.int .i8 k', .bool b', .int .i64 n', .string s', .slice o' m' c', .slice o2' m2' c2']] w1 fun e w' => e = .returned (.int .i64 (pwrongV y)) ∧ Below w1.heap.size w1 w') := Lib.hid fun w1 hK => pwrong_any y _ w1 (hE.kb hK) hM' hF' (isV_below hK h')
  have hW := two_boxes w #[.int .i8 k, .bool b, .int .i64 n, .string s, .slice o m c, .slice o2 m2 c2] #[.int .i8 k', .bool b', .int .i64 n', .string s', .slice o' m' c', .slice o2' m2' c2'] 33
  by_cases hx : pwrongV x ≠ 0
  · have hA : cmpA x y = (0, false) := by unfold cmpA; rw [if_pos (.inl hx)]
    rw [hA]
    generalize pwrongV x = q at *
    have q1 : (q != 0) = true := bne_iff_ne.2 hx
    have q2 : (q == 0) = false := beqI hx
    clear h h' hHV hHV' hx hE hM hF hM' hF' hA
    obtain ⟨hB, _⟩ := hW
    have HB := Lib.hid hB
    clear hB
    go_enter Tryz.func79, Tryz.ntmps79
    go_wp2_with (go_at_call 66; refine (W1.out _ HB.out).mono ?_; rintro e w5 ⟨rfl, hb5⟩)
    refine bodyPost_ret (v := .tuple #[.int .i64 0, .bool false]) (by simp [results, Tryz.results79, go_sem]) rfl ?_
    exact ⟨rfl, HB.out.trans (hb5.mono HB.out.size)⟩
  · have hx0 : pwrongV x = 0 := Decidable.not_not.1 hx
    rw [hx0] at W1
    by_cases hy : pwrongV y ≠ 0
    · have hA : cmpA x y = (0, false) := by unfold cmpA; rw [if_pos (.inr hy)]
      rw [hA]
      generalize pwrongV y = q at *
      have q1 : (q != 0) = true := bne_iff_ne.2 hy
      have q2 : (q == 0) = false := beqI hy
      clear h h' hHV hHV' hx hy hE hM hF hM' hF' hA hx0
      go_enter Tryz.func79, Tryz.ntmps79
      go_wp2_with fail
      generalize hW1 : (w.alloc (.cells #[.int .i8 k, .bool b, .int .i64 n, .string s, .slice o m c, .slice o2 m2 c2] 33)).alloc (.cells #[.int .i8 k', .bool b', .int .i64 n', .string s', .slice o' m' c', .slice o2' m2' c2'] 33) = Wb at *
      clear hW1
      obtain ⟨hB, hbx, hby⟩ := hW
      refine (W1.out _ hB).mono ?_
      rintro e w5 ⟨rfl, hb5⟩
      have hK5 := hB.trans (hb5.mono hB.size)
      obtain ⟨s0, s1, s2, s3, s4, s5⟩ := six_cells ((hb5.block _ (Array.getElem?_eq_some_iff.1 hby).1).trans hby)
      clear hb5 hB hbx hby
      go_wp2_with fail
      refine (W2.out _ hK5).mono ?_
      rintro e w6 ⟨rfl, hb6⟩
      clear s0 s1 s2 s3 s4 s5
      have HE6 := Lib.hid (hK5.trans (hb6.mono hK5.size))
      clear hb6 hK5
      go_wp2_with fail
      refine bodyPost_ret (v := .tuple #[.int .i64 0, .bool false]) (by simp [results, Tryz.results79, go_sem]) rfl ?_
      exact ⟨rfl, HE6.out⟩
    · have hy0 : pwrongV y = 0 := Decidable.not_not.1 hy
      rw [hy0] at W2
      have hA : cmpA x y = (pcmpV (psortV x) (psortV y), true) := by unfold cmpA; rw [if_neg (by rintro (h | h) <;> contradiction)]
      rw [hA]
      obtain ⟨wx, dx⟩ := pwrong_zero hx0
      obtain ⟨wy, dy⟩ := pwrong_zero hy0
      have S1 : Hid (∀ w1, KB w w1 → Calls Tryz.prog 92 #[.agg #[.int .i8 k, .bool b, .int .i64 n, .string s, .slice o m c, .slice o2 m2 c2]] w1 fun e w' => ∃ v', e = .returned v' ∧ SortR x (psortV x) ∧ isV w' (psortV x) v' ∧ Below w1.heap.size w1 w') := Lib.hid fun w1 hK => (psorted_any 1000000 x _ w1 _ hM (Nat.le_refl _) hF (ok_of_wrong x wx) (isVa_of x _ (isV_below hK h)) (fun q hq => hq)).mono fun e w' ⟨z, v', he, hs, hv, hb⟩ => ⟨v', he, by rw [← psort_eq hs (once_of_wrong wx)]; exact hs, by rw [← psort_eq hs (once_of_wrong wx)]; exact isV_of_a _ _ hv, hb⟩
      have S2 : Hid (∀ w1, KB w w1 → Calls Tryz.prog 92 #[.agg #[.int .i8 k', .bool b', .int .i64 n', .string s', .slice o' m' c', .slice o2' m2' c2']] w1 fun e w' => ∃ v', e = .returned v' ∧ isV w' (psortV y) v' ∧ Below w1.heap.size w1 w') := Lib.hid fun w1 hK => (psorted_any 1000000 y _ w1 _ hM' (Nat.le_refl _) hF' (ok_of_wrong y wy) (isVa_of y _ (isV_below hK h')) (fun q hq => hq)).mono fun e w' ⟨z, v', he, hs, hv, hb⟩ => ⟨v', he, by rw [← psort_eq hs (once_of_wrong wy)]; exact isV_of_a _ _ hv, hb⟩
      have S3 : Hid (∀ (v' u' : Value) (w1 : World), (SortR x (psortV x)) → isV w1 (psortV x) v' → isV w1 (psortV y) u' → Calls Tryz.prog 91 #[v', u'] w1 fun e w' => e = .returned (.int .i64 (pcmpV (psortV x) (psortV y))) ∧ Below w1.heap.size w1 w') := Lib.hid fun v' u' w1 hs h1 h2 => pcmp_any 24 _ _ v' u' w1 (by have := (sort_wide hs).2; omega) ((sort_wide hs).1 (once_of_wrong wx) (wide_of hM hF)) h1 h2
      clear h h' hHV hHV' hx hy hE hM hF hM' hF' hA hx0 hy0
      go_enter Tryz.func79, Tryz.ntmps79
      go_wp2_with fail
      generalize hW1 : (w.alloc (.cells #[.int .i8 k, .bool b, .int .i64 n, .string s, .slice o m c, .slice o2 m2 c2] 33)).alloc (.cells #[.int .i8 k', .bool b', .int .i64 n', .string s', .slice o' m' c', .slice o2' m2' c2'] 33) = Wb at *
      clear hW1
      obtain ⟨hB, hbx, hby⟩ := hW
      refine (W1.out _ hB).mono ?_
      rintro e w5 ⟨rfl, hb5⟩
      have hK5 := hB.trans (hb5.mono hB.size)
      have hx5 := (hb5.block _ (Array.getElem?_eq_some_iff.1 hbx).1).trans hbx
      have hy5 := (hb5.block _ (Array.getElem?_eq_some_iff.1 hby).1).trans hby
      obtain ⟨s0, s1, s2, s3, s4, s5⟩ := six_cells hy5
      clear hb5 hB hbx hby W1
      go_wp2_with fail
      refine (W2.out _ hK5).mono ?_
      rintro e w6 ⟨rfl, hb6⟩
      have hK6 := hK5.trans (hb6.mono hK5.size)
      have hx6 := (hb6.block _ (Array.getElem?_eq_some_iff.1 hx5).1).trans hx5
      have hy6 := (hb6.block _ (Array.getElem?_eq_some_iff.1 hy5).1).trans hy5
      clear s0 s1 s2 s3 s4 s5 hb6 hK5 hx5 hy5 W2
      obtain ⟨r0, r1, r2, r3, r4, r5⟩ := six_cells hx6
      obtain ⟨s0, s1, s2, s3, s4, s5⟩ := six_cells hy6
      go_wp2_with fail
      go_region_with (first
        | (go_at_call_of 92 (Value.agg #[.int .i8 k, .bool b, .int .i64 n, .string s, .slice o m c, .slice o2 m2 c2]); refine (S1.out _ ?_).mono ?_; exact hK6.drew; rintro e w7 ⟨sv, rfl, hsr, hsv, hb7⟩; have hK7 : Below w.heap.size w w7 := hK6.trans ((below_drew_of hb7).mono hK6.size); have s0 := cell_below (below_drew_of hb7) _ _ s0; have s1 := cell_below (below_drew_of hb7) _ _ s1; have s2 := cell_below (below_drew_of hb7) _ _ s2; have s3 := cell_below (below_drew_of hb7) _ _ s3; have s4 := cell_below (below_drew_of hb7) _ _ s4; have s5 := cell_below (below_drew_of hb7) _ _ s5)
        | (go_at_call_of 92 (Value.agg #[.int .i8 k', .bool b', .int .i64 n', .string s', .slice o' m' c', .slice o2' m2' c2']); refine (S2.out _ ?_).mono ?_; exact hK7; rintro e w8 ⟨su, rfl, hsu, hb8⟩; have hK8 : Below w.heap.size w w8 := hK7.trans (hb8.mono hK7.size))
        | (go_at_call 91; refine (S3.out _ _ _ hsr (isV_below hb8 hsv) hsu).mono ?_; rintro e w9 ⟨rfl, hb9⟩))
      all_goals
        have HE9 := Lib.hid (hK8.trans (hb9.mono hK8.size))
        clear hsr hsv hsu hb7 hb8 hb9 hK6 hK7 hK8 s0 s1 s2 s3 s4 s5 r0 r1 r2 r3 r4 r5 S1 S2 S3
        go_wp2_with fail
        refine bodyPost_ret (v := .tuple #[.int .i64 (pcmpV (psortV x) (psortV y)), .bool true]) (by simp [results, Tryz.results79, go_sem]) rfl ?_
        exact ⟨rfl, HE9.out⟩

noncomputable def eqA (x y : V) : Bool := (cmpA x y).2 && ((cmpA x y).1 == 0)
set_option maxRecDepth 100000 in
set_option maxHeartbeats 4000000 in
theorem peq_any (x y : V) (v u : Value) (w : World) (hE : Env w) (hM : sizeV x ≤ 1000000) (hF : fineV x) (hM' : sizeV y ≤ 1000000) (hF' : fineV y) (h : isV w x v) (h' : isV w y u) :
    Calls Tryz.prog 70 #[v, u] w fun e w' => e = .returned (.bool (eqA x y)) ∧ Below w.heap.size w w' := by
  have HC : Hid (∀ w1, KB w w1 → Calls Tryz.prog 79 #[v, u] w1 fun e w' => e = .returned (.tuple #[.int .i64 (cmpA x y).1, .bool (cmpA x y).2]) ∧ Below w1.heap.size w1 w') := Lib.hid fun w1 hK => compare_any x y v u w1 (hE.kb hK) hM hF hM' hF' (isV_below hK h) (isV_below hK h')
  obtain ⟨k, b, n, s, o, m, c, o2, m2, c2, rfl⟩ := isV_six h
  obtain ⟨k', b', n', s', o', m', c', o2', m2', c2', rfl⟩ := isV_six h'
  unfold eqA
  have HB := Lib.hid (two_boxes w #[.int .i8 k, .bool b, .int .i64 n, .string s, .slice o m c, .slice o2 m2 c2] #[.int .i8 k', .bool b', .int .i64 n', .string s', .slice o' m' c', .slice o2' m2' c2'] 33).1
  generalize cmpA x y = r at *
  obtain ⟨q, ok⟩ := r
  dsimp only at HC ⊢
  clear h h' hE hM hF hM' hF'
  cases ok with
  | false =>
    go_enter Tryz.func70, Tryz.ntmps70
    go_wp2_with (go_at_call 79; refine (HC.out _ HB.out).mono ?_; rintro e w5 ⟨rfl, hb5⟩)
    go_ret
    exact ⟨rfl, HB.out.trans (hb5.mono HB.out.size)⟩
  | true =>
    go_enter Tryz.func70, Tryz.ntmps70
    go_wp2_with (go_at_call 79; refine (HC.out _ HB.out).mono ?_; rintro e w5 ⟨rfl, hb5⟩)
    go_ret
    exact ⟨ret_bool (by simp), HB.out.trans (hb5.mono HB.out.size)⟩

noncomputable def lessA (x y : V) : Bool := (cmpA x y).2 && decide ((cmpA x y).1 < 0)
end Go.Proofs.YtlamkadllbgamaaGreatDoor

namespace Go.Proofs.YtlamkadllbgamaaGreatDoor
open Go.RowKit Go.Shelf

def E0' : ByteArray := ⟨#[]⟩
def nV (n : Int) : V := .mk 2 false n ⟨#[]⟩ [] []
def tV (s : ByteArray) : V := .mk 3 false 0 s [] []
def wA : V := .mk 5 false 0 ⟨#[]⟩ [nV 1, nV 2] [⟨#[97]⟩, ⟨#[98]⟩]
def wB : V := .mk 5 false 0 ⟨#[]⟩ [nV 2, nV 1] [⟨#[98]⟩, ⟨#[97]⟩]
theorem own_zero {x : V} (h1 : plainP x) (h2 : -9007199254740992 ≤ x.num ∧ x.num ≤ 9007199254740992) (h3 : validS x.text = true) (h4 : x.keys.all validS = true) (h5 : x.keys.Nodup) : ownW x = 0 := by
  unfold ownW
  rw [plain_yes h1, if_neg (by simp), if_neg (by omega), h3, if_neg (by simp), h4, if_neg (by simp), once_yes h5, if_neg (by simp)]
theorem wrong_n (n : Int) (h : -9007199254740992 ≤ n ∧ n ≤ 9007199254740992) : wrongV (nV n) = 0 := by
  unfold nV
  rw [wrongV, own_zero (x := .mk 2 false n ⟨#[]⟩ [] []) ⟨by omega, (by intro h; cases h), (fun _ => rfl), (fun h => absurd rfl h), (fun h => absurd rfl h), (by intro h; cases h), (fun _ => rfl)⟩ h rfl rfl List.nodup_nil, if_pos rfl, wrongVs]
theorem wrong_t (s : ByteArray) (h : validS s = true) : wrongV (tV s) = 0 := by
  unfold tV
  rw [wrongV, own_zero (x := .mk 3 false 0 s [] []) ⟨by omega, (by intro h; cases h), (fun h => absurd rfl h), (fun _ => rfl), (fun h => absurd rfl h), (by intro h; cases h), (fun _ => rfl)⟩ (by show (-9007199254740992 : Int) ≤ 0 ∧ (0 : Int) ≤ 9007199254740992; omega) h rfl List.nodup_nil, if_pos rfl, wrongVs]
theorem wrong_obj (x y : V) (s t : ByteArray) (hs : validS s = true) (ht : validS t = true) (hne : s ≠ t) (hx : wrongV x = 0) (hy : wrongV y = 0) : wrongV (.mk 5 false 0 ⟨#[]⟩ [x, y] [s, t]) = 0 := by
  rw [wrongV, own_zero (x := .mk 5 false 0 ⟨#[]⟩ [x, y] [s, t]) ⟨by omega, (by intro h; cases h), (fun h => absurd rfl h), (fun h => absurd rfl h), (fun _ => .inr rfl), (fun _ => rfl), (fun h => absurd rfl h)⟩ (by show (-9007199254740992 : Int) ≤ 0 ∧ (0 : Int) ≤ 9007199254740992; omega) rfl (by simp [V.keys, hs, ht]) (by simp [V.keys, hne]), if_pos rfl, wrongVs, hx, if_pos rfl, wrongVs, hy, if_pos rfl, wrongVs]
theorem sort_leaf (k : Int) (b : Bool) (n : Int) (s : ByteArray) : SortR (.mk k b n s [] []) (.mk k b n s [] []) :=
  SortR.mk k b n s [] [] [] [] [] ⟨List.Perm.refl _, fun _ => rfl, fun _ i j _ hj => absurd hj (by simp)⟩ rfl (fun i h => absurd h (by simp)) (by simp)
theorem sort_wA : SortR wA wA :=
  SortR.mk 5 false 0 ⟨#[]⟩ [nV 1, nV 2] [⟨#[97]⟩, ⟨#[98]⟩] [nV 1, nV 2] [⟨#[97]⟩, ⟨#[98]⟩] [0, 1] ⟨List.Perm.refl _, fun h => absurd rfl h, fun _ i j hi hj => by
      obtain rfl : i = 0 := by simp at hj; omega
      obtain rfl : j = 1 := by simp at hj; omega
      show ¬ cmpK ⟨#[98]⟩ ⟨#[97]⟩ < 0
      decide⟩ rfl (fun i h => by
      match i, h with
      | 0, _ => exact sort_leaf _ _ _ _
      | 1, _ => exact sort_leaf _ _ _ _) rfl
theorem sort_wB : SortR wB wA :=
  SortR.mk 5 false 0 ⟨#[]⟩ [nV 2, nV 1] [⟨#[98]⟩, ⟨#[97]⟩] [nV 1, nV 2] [⟨#[97]⟩, ⟨#[98]⟩] [1, 0] ⟨List.Perm.swap _ _ _, fun h => absurd rfl h, fun _ i j hi hj => by
      obtain rfl : i = 0 := by simp at hj; omega
      obtain rfl : j = 1 := by simp at hj; omega
      show ¬ cmpK ⟨#[98]⟩ ⟨#[97]⟩ < 0
      decide⟩ rfl (fun i h => by
      match i, h with
      | 0, _ => exact sort_leaf _ _ _ _
      | 1, _ => exact sort_leaf _ _ _ _) rfl
theorem wrong_wA : wrongV wA = 0 := wrong_obj _ _ _ _ rfl rfl (by decide) (wrong_n 1 (by omega)) (wrong_n 2 (by omega))
theorem wrong_wB : wrongV wB = 0 := wrong_obj _ _ _ _ rfl rfl (by decide) (wrong_n 2 (by omega)) (wrong_n 1 (by omega))
theorem depth_wA : depthV wA = 2 := rfl
theorem depth_wB : depthV wB = 2 := rfl
theorem pw_of {x : V} (h : wrongV x = 0) (hd : depthV x ≤ 24) : pwrongV x = 0 := by unfold pwrongV; rw [if_neg (by omega), h]
theorem cmpA_of {x y sx sy : V} (hx : wrongV x = 0) (hy : wrongV y = 0) (dx : depthV x ≤ 24) (dy : depthV y ≤ 24) (sx' : SortR x sx) (sy' : SortR y sy) : cmpA x y = (pcmpV sx sy, true) := by
  unfold cmpA
  rw [if_neg (by rw [pw_of hx dx, pw_of hy dy]; simp), psort_eq sx' (once_of_wrong hx), psort_eq sy' (once_of_wrong hy)]
theorem wake_eq : eqA wA wB = true := by
  unfold eqA
  rw [cmpA_of wrong_wA wrong_wB (by decide) (by decide) sort_wA sort_wB]
  rfl
theorem wake_less : lessA (nV 2) (tV ⟨#[97]⟩) = true := by
  unfold lessA
  rw [cmpA_of (wrong_n 2 (by omega)) (wrong_t ⟨#[97]⟩ rfl) (by decide) (by decide) (sort_leaf _ _ _ _) (sort_leaf _ _ _ _)]
  rfl
theorem fine_wA : fineV wA := by unfold fineV; decide
theorem fine_wB : fineV wB := by unfold fineV; decide
end Go.Proofs.YtlamkadllbgamaaGreatDoor

namespace Go.Proofs.YtlamkadllbgamaaGreatDoor
open Go.RowKit Go.Shelf

theorem obj_isV {W : World} {gL gK : Nat} {t t' : TypeId} (n1 n2 : Int) (h1 : -9223372036854775808 ≤ n1 ∧ n1 ≤ 9223372036854775807) (h2 : -9223372036854775808 ≤ n2 ∧ n2 ≤ 9223372036854775807) (s1 s2 : ByteArray) (hs1 : s1.size ≤ maxLen) (hs2 : s2.size ≤ maxLen)
    (hL : W.heap[gL]? = some (.cells #[.int .i8 2, .bool false, .int .i64 n1, .string ⟨#[]⟩, .slice none 0 0, .slice none 0 0, .int .i8 2, .bool false, .int .i64 n2, .string ⟨#[]⟩, .slice none 0 0, .slice none 0 0] t (0, 0))) (hK : W.heap[gK]? = some (.cells #[.string s1, .string s2] t' (0, 0))) :
    isV W (.mk 5 false 0 ⟨#[]⟩ [nV n1, nV n2] [s1, s2]) (.agg #[.int .i8 5, .bool false, .int .i64 0, .string ⟨#[]⟩, .slice (some ⟨gL, 0, none⟩) 2 2, .slice (some ⟨gK, 0, none⟩) 2 2]) := by
  have cl : ∀ i, i < 12 → W.cell? ⟨gL, i, none⟩ = (#[.int .i8 2, .bool false, .int .i64 n1, .string ⟨#[]⟩, .slice none 0 0, .slice none 0 0, .int .i8 2, .bool false, .int .i64 n2, .string ⟨#[]⟩, .slice none 0 0, .slice none 0 0] : Array Value)[i]? := fun i _ => by unfold World.cell?; simp [hL]
  have ck : ∀ i, i < 2 → W.cell? ⟨gK, i, none⟩ = (#[.string s1, .string s2] : Array Value)[i]? := fun i _ => by unfold World.cell?; simp [hK]
  unfold isV
  refine ⟨_, _, rfl, by omega, by omega, by decide, ⟨⟨gL, 0, none⟩, 2, ⟨_, rfl, Nat.le_refl _, by unfold maxLen; decide, fun _ => rfl⟩, ?_⟩, ⟨⟨gK, 0, none⟩, 2, ⟨_, rfl, Nat.le_refl _, by unfold maxLen; decide, fun _ => rfl⟩, ?_⟩⟩
  · unfold isVs
    refine ⟨⟨_, _, _, _, _, _, cl 0 (by decide), cl 1 (by decide), cl 2 (by decide), cl 3 (by decide), cl 4 (by decide), cl 5 (by decide), isV_leaf _ 2 false n1 ⟨#[]⟩ (by omega) h1 (by decide)⟩, ?_⟩
    unfold isVs
    refine ⟨⟨_, _, _, _, _, _, cl 6 (by decide), cl 7 (by decide), cl 8 (by decide), cl 9 (by decide), cl 10 (by decide), cl 11 (by decide), isV_leaf _ 2 false n2 ⟨#[]⟩ (by omega) h2 (by decide)⟩, ?_⟩
    unfold isVs
    trivial
  · intro i hi
    match i, hi with
    | 0, _ => exact ⟨ck 0 (by decide), hs1⟩
    | 1, _ => exact ⟨ck 1 (by decide), hs2⟩

end Go.Proofs.YtlamkadllbgamaaGreatDoor

namespace Go.Proofs.YtlamkadllbgamaaGreatDoor
open Go.RowKit Go.Shelf

theorem wt_fine : ∀ (left : Nat) (x : V), wtV left x ≤ 5000 → fineV x
  | 0, x, h => by unfold wtV at h; omega
  | left + 1, x, h => by
    obtain ⟨k, b, n, s, l, ks⟩ := x
    unfold wtV at h
    split at h
    · omega
    · rename_i hc
      simp only [V.list, V.text, V.keys] at h hc
      have hf := fold_small (wtV left) l _ h
      rw [hf] at h
      intro z hz
      rw [walkV] at hz
      rcases List.mem_cons.1 hz with rfl | hz
      · simp only [V.keys]; omega
      · obtain ⟨y, hy, hzy⟩ := walkVs_mem hz
        exact wt_fine left y (by have := mem_sum_le (wtV left) l y hy; omega) z hzy
theorem great_fine {x : V} (h : greatB x = false) : fineV x := wt_fine 30 x (by
  have h1 : ¬ 5000 < wtV 30 x := of_decide_eq_false h
  omega)

noncomputable def pcheckV (x : V) : Int := if pwrongV x ≠ 0 then pwrongV x else if 4096 < countV x then 3 else 0

set_option maxRecDepth 100000 in
set_option maxHeartbeats 4000000 in
theorem pcheck_any (x : V) (v : Value) (w : World) (hE : Env w) (hM : sizeV x ≤ 1000000) (hF : fineV x) (h : isV w x v) :
    Calls Tryz.prog 49 #[v] w fun e w' => e = .returned (.int .i64 (pcheckV x)) ∧ Below w.heap.size w w' := by
  have hcle : countV x ≤ 1000000 := Nat.le_trans (count_le_size x) hM
  have hC : pcheckV x = if pwrongV x ≠ 0 then pwrongV x else if 4096 < countV x then 3 else 0 := rfl
  obtain ⟨k, b, n, s, o, m, c, o2, m2, c2, rfl⟩ := isV_six h
  have HB0 : Hid (KB w (w.alloc (.cells #[.int .i8 k, .bool b, .int .i64 n, .string s, .slice o m c, .slice o2 m2 c2] 33))) := Lib.hid kbA
  have P2 : Hid (∀ w1, KB (w.alloc (.cells #[.int .i8 k, .bool b, .int .i64 n, .string s, .slice o m c, .slice o2 m2 c2] 33)) w1 → Calls Tryz.prog 66 #[.agg #[.int .i8 k, .bool b, .int .i64 n, .string s, .slice o m c, .slice o2 m2 c2]] w1 fun e w' => e = .returned (.int .i64 (pwrongV x)) ∧ KB (w.alloc (.cells #[.int .i8 k, .bool b, .int .i64 n, .string s, .slice o m c, .slice o2 m2 c2] 33)) w') := Lib.hid fun w1 hK => Calls.kb hK (pwrong_any x _ w1 ((hE.kb kbA).kb hK) hM hF (isV_below hK (isV_below kbA h)))
  have P3 : Hid (∀ w1, KB (w.alloc (.cells #[.int .i8 k, .bool b, .int .i64 n, .string s, .slice o m c, .slice o2 m2 c2] 33)) w1 → Calls Tryz.prog 67 #[.agg #[.int .i8 k, .bool b, .int .i64 n, .string s, .slice o m c, .slice o2 m2 c2]] w1 fun e w' => e = .returned (.int .i64 (countV x)) ∧ KB (w.alloc (.cells #[.int .i8 k, .bool b, .int .i64 n, .string s, .slice o m c, .slice o2 m2 c2] 33)) w') := Lib.hid fun w1 hK => Calls.kb hK (pcount_any x _ w1 hM (isV_below hK (isV_below kbA h)))
  have HC : Hid (∀ w1, KB (w.alloc (.cells #[.int .i8 k, .bool b, .int .i64 n, .string s, .slice o m c, .slice o2 m2 c2] 33)) w1 → w1.cell? ⟨w.heap.size, 0, none⟩ = some (.int .i8 k) ∧ w1.cell? ⟨w.heap.size, 1, none⟩ = some (.bool b) ∧ w1.cell? ⟨w.heap.size, 2, none⟩ = some (.int .i64 n) ∧ w1.cell? ⟨w.heap.size, 3, none⟩ = some (.string s) ∧ w1.cell? ⟨w.heap.size, 4, none⟩ = some (.slice o m c) ∧ w1.cell? ⟨w.heap.size, 5, none⟩ = some (.slice o2 m2 c2)) := Lib.hid fun w1 hK =>
    ⟨cell_below hK _ _ (by simp), cell_below hK _ _ (by simp), cell_below hK _ _ (by simp), cell_below hK _ _ (by simp), cell_below hK _ _ (by simp), cell_below hK _ _ (by simp)⟩
  obtain ⟨y, hy⟩ : ∃ y, pcheckV x = y := ⟨_, rfl⟩
  rw [hy] at hC ⊢
  obtain ⟨E, hEE⟩ : ∃ E, pwrongV x = E := ⟨_, rfl⟩
  obtain ⟨C, hCC⟩ : ∃ C, countV x = C := ⟨_, rfl⟩
  rw [hEE, hCC] at hC
  rw [hEE] at P2
  rw [hCC] at P3 hcle
  clear h hE hM hF hy hEE hCC
  by_cases hE0 : E ≠ 0
  · have HY : Hid (y = E) := Lib.hid (hC.trans (if_pos hE0))
    have z1 : (E == 0) = false := beqI hE0
    have z2 : (E != 0) = true := bne_iff_ne.2 hE0
    clear hC hE0
    go_enter Tryz.func49, Tryz.ntmps49
    go_wp2_with fail
    refine (P2.out _ (Below.refl _ _)).mono ?_
    rintro e w5 ⟨rfl, hb5⟩
    go_wp2_with fail
    go_ret
    exact ⟨ret_int (by rw [HY.out]), HB0.out.trans (hb5.mono HB0.out.size)⟩
  · obtain rfl : E = 0 := Decidable.not_not.1 hE0
    rw [if_neg hE0] at hC
    have HY : Hid (y = if 4096 < C then 3 else 0) := Lib.hid hC
    clear hC hE0
    by_cases hc : 4096 < C
    · have c1 : decide ((4096 : Int) < (C : Int)) = true := decide_eq_true (by omega)
      have HZ : Hid (y = 3) := Lib.hid (HY.out.trans (if_pos hc))
      clear hc
      go_enter Tryz.func49, Tryz.ntmps49
      go_wp2_with fail
      refine (P2.out _ (Below.refl _ _)).mono ?_
      rintro e w5 ⟨rfl, hb5⟩
      obtain ⟨m0, m1, m2, m3, m4, m5⟩ := HC.out w5 hb5
      go_wp2_with (go_at_call 67; (refine (P3.out _ hb5).mono ?_); rintro e w6 ⟨rfl, hb6⟩)
      go_ret
      exact ⟨ret_int (by rw [HZ.out]), HB0.out.trans (hb6.mono HB0.out.size)⟩
    · have c1 : decide ((4096 : Int) < (C : Int)) = false := decide_eq_false (by omega)
      have HZ : Hid (y = 0) := Lib.hid (HY.out.trans (if_neg hc))
      clear hc
      go_enter Tryz.func49, Tryz.ntmps49
      go_wp2_with fail
      refine (P2.out _ (Below.refl _ _)).mono ?_
      rintro e w5 ⟨rfl, hb5⟩
      obtain ⟨m0, m1, m2, m3, m4, m5⟩ := HC.out w5 hb5
      go_wp2_with (go_at_call 67; (refine (P3.out _ hb5).mono ?_); rintro e w6 ⟨rfl, hb6⟩)
      go_ret
      exact ⟨ret_int (by rw [HZ.out]), HB0.out.trans (hb6.mono HB0.out.size)⟩

/-- There are places. -/
theorem ord_some (x : V) : ∃ ps, isOrd x ps := by
  by_cases hk : x.kind = 5
  · refine ⟨(List.range x.list.length).mergeSort (fun i j => !decide (cmpK (x.keys.getD j ⟨#[]⟩) (x.keys.getD i ⟨#[]⟩) < 0)), List.mergeSort_perm _ _, fun h => absurd hk h, fun _ i j hi hj => ?_⟩
    have hs := List.pairwise_mergeSort (le := fun i j => !decide (cmpK (x.keys.getD j ⟨#[]⟩) (x.keys.getD i ⟨#[]⟩) < 0)) (by
      intro a b c h1 h2
      simp only [Bool.not_eq_true', decide_eq_false_iff_not, cmpK_neg] at h1 h2 ⊢
      exact fun h3 => absurd (List.le_trans h1 h2) (by simpa using h3)) (by
      intro a b
      simp only [Bool.or_eq_true, Bool.not_eq_true', decide_eq_false_iff_not, cmpK_neg]
      rcases List.le_total (x.keys.getD a ⟨#[]⟩).data.toList (x.keys.getD b ⟨#[]⟩).data.toList with h | h
      · exact .inl h
      · exact .inr h) (List.range x.list.length)
    have := (List.pairwise_iff_getElem.1 hs) i j (by omega) hj hi
    simpa using this
  · exact ⟨List.range x.list.length, List.Perm.refl _, fun _ => rfl, fun h => absurd h hk⟩
theorem sort_some : ∀ (N : Nat) (x : V), sizeV x ≤ N → SortR x (psortV x)
  | 0, x, h => absurd (sizeV_pos x) (by omega)
  | N + 1, x, h => by
    obtain ⟨ps, hps⟩ := ord_some x
    have hlt : ∀ i, i < ps.length → ps.getD i 0 < x.list.length := fun i hi => ord_lt hps hi
    obtain ⟨k, b, n, s, l, ks⟩ := x
    simp only [V.list] at hlt
    refine Classical.epsilon_spec (p := fun y => SortR (.mk k b n s l ks) y) ⟨_, SortR.mk k b n s l ks (ps.map fun p => psortV (l.getD p default)) (if k = 5 then ps.map (fun p => ks.getD p ⟨#[]⟩) else ks) ps hps (by simp) (fun i hi => ?_) rfl⟩
    have hi' : i < ps.length := by simpa using hi
    rw [List.getElem_map, getD_lt ps i 0 hi']
    refine sort_some N _ ?_
    have hp := hlt i hi'
    rw [getD_lt ps i 0 hi'] at hp
    rw [getD_lt l _ _ hp]
    have := sizeVs_get l _ hp
    unfold sizeV at h
    omega
theorem sort_p (x : V) : SortR x (psortV x) := sort_some _ x (Nat.le_refl _)

def wrapL (x : V) : V := .mk 4 false 0 ⟨#[]⟩ [x] []
def wrapO (s : ByteArray) (x : V) : V := .mk 5 false 0 ⟨#[]⟩ [x] [s]
theorem sort_wrapL {x y : V} (h : SortR x y) : SortR (wrapL x) (wrapL y) :=
  SortR.mk 4 false 0 ⟨#[]⟩ [x] [] [y] [] [0] ⟨List.Perm.refl _, fun _ => rfl, fun h => absurd h (by show ¬ (4 : Int) = 5; decide)⟩ rfl (fun i hi => by
    obtain rfl : i = 0 := by simp at hi; exact hi
    exact h) rfl
theorem sort_wrapO (s : ByteArray) {x y : V} (h : SortR x y) : SortR (wrapO s x) (wrapO s y) :=
  SortR.mk 5 false 0 ⟨#[]⟩ [x] [s] [y] [s] [0] ⟨List.Perm.refl _, fun h => absurd rfl h, fun _ i j hi hj => absurd hj (by simp; omega)⟩ rfl (fun i hi => by
    obtain rfl : i = 0 := by simp at hi; exact hi
    exact h) rfl
theorem pcmp_wrapL (x y : V) : pcmpV (wrapL x) (wrapL y) = pcmpV x y := by
  unfold wrapL
  rw [pcmpV_mk, if_neg (by simp), if_neg (by decide), if_neg (by decide), if_neg (by decide), if_neg (by decide), pcmpVs]
  split
  · rename_i h; rw [pcmpVs, h]
  · rfl
theorem pcmp_wrapO (s : ByteArray) (x y : V) : pcmpV (wrapO s x) (wrapO s y) = pcmpV x y := by
  unfold wrapO
  rw [pcmpV_mk, if_neg (by simp), if_neg (by decide), if_neg (by decide), if_neg (by decide), if_pos rfl, if_pos (by rw [cmpKs, if_pos ((cmpK_zero s s).2 rfl), cmpKs]), pcmpVs]
  split
  · rename_i h; rw [pcmpVs, h]
  · rfl
theorem pcheck_zero {x : V} (h : pcheckV x = 0) : wrongV x = 0 ∧ depthV x ≤ 24 ∧ countV x ≤ 4096 := by
  unfold pcheckV at h
  by_cases h1 : pwrongV x ≠ 0
  · rw [if_pos h1] at h; exact absurd h h1
  · rw [if_neg h1] at h
    obtain ⟨h2, h3⟩ := pwrong_zero (Decidable.not_not.1 h1)
    refine ⟨h2, h3, ?_⟩
    by_cases hc : 4096 < countV x
    · rw [if_pos hc] at h; omega
    · omega
theorem pcheck_part {k n : Int} {b : Bool} {s : ByteArray} {x : V} {ks : List ByteArray} (h : pcheckV (.mk k b n s [x] ks) = 0) : pcheckV x = 0 := by
  obtain ⟨h1, h2, h3⟩ := pcheck_zero h
  have hw : wrongV x = 0 := by
    rw [wrongV] at h1
    by_cases h0 : ownW (.mk k b n s [x] ks) = 0
    · rw [if_pos h0, wrongVs] at h1
      by_cases h4 : wrongV x = 0
      · exact h4
      · rw [if_neg h4] at h1; exact h1
    · rw [if_neg h0] at h1; exact absurd h1 h0
  have hd : depthV x ≤ 24 := by simp only [depthV, depthVs] at h2; omega
  have hc : countV x ≤ 4096 := by simp only [countV, countVs] at h3; omega
  unfold pcheckV
  rw [if_neg (by rw [pw_of hw hd]; simp), if_neg (by omega)]
theorem cmpA_wrapL {x y : V} (hx : pcheckV (wrapL x) = 0) (hy : pcheckV (wrapL y) = 0) : cmpA (wrapL x) (wrapL y) = cmpA x y := by
  obtain ⟨a1, a2, _⟩ := pcheck_zero hx
  obtain ⟨b1, b2, _⟩ := pcheck_zero hy
  obtain ⟨c1, c2, _⟩ := pcheck_zero (pcheck_part hx)
  obtain ⟨d1, d2, _⟩ := pcheck_zero (pcheck_part hy)
  rw [cmpA_of a1 b1 a2 b2 (sort_wrapL (sort_p x)) (sort_wrapL (sort_p y)), cmpA_of c1 d1 c2 d2 (sort_p x) (sort_p y), pcmp_wrapL]
theorem cmpA_wrapO (s : ByteArray) {x y : V} (hx : pcheckV (wrapO s x) = 0) (hy : pcheckV (wrapO s y) = 0) : cmpA (wrapO s x) (wrapO s y) = cmpA x y := by
  obtain ⟨a1, a2, _⟩ := pcheck_zero hx
  obtain ⟨b1, b2, _⟩ := pcheck_zero hy
  obtain ⟨c1, c2, _⟩ := pcheck_zero (pcheck_part hx)
  obtain ⟨d1, d2, _⟩ := pcheck_zero (pcheck_part hy)
  rw [cmpA_of a1 b1 a2 b2 (sort_wrapO s (sort_p x)) (sort_wrapO s (sort_p y)), cmpA_of c1 d1 c2 d2 (sort_p x) (sort_p y), pcmp_wrapO]
theorem size_E : (⟨#[]⟩ : ByteArray).size = 0 := rfl
theorem size_wrapL (x : V) : sizeV (wrapL x) = sizeV x + 1 := by unfold wrapL; simp only [sizeV, sizeVs, keysS, size_E]; simp; omega
theorem size_wrapO (s : ByteArray) (x : V) : sizeV (wrapO s x) = sizeV x + s.size + 1 := by unfold wrapO; simp only [sizeV, sizeVs, keysS, size_E]; simp; omega
theorem count_wrapL (x : V) : countV (wrapL x) = countV x + 1 := by unfold wrapL; simp only [countV, countVs]; omega
theorem count_wrapO (s : ByteArray) (x : V) : countV (wrapO s x) = countV x + 1 := by unfold wrapO; simp only [countV, countVs]; omega
theorem depth_wrapL (x : V) : depthV (wrapL x) = depthV x + 1 := by unfold wrapL; simp only [depthV, depthVs]; omega
theorem depth_wrapO (s : ByteArray) (x : V) : depthV (wrapO s x) = depthV x + 1 := by unfold wrapO; simp only [depthV, depthVs]; omega
theorem fine_wrap {k n : Int} {b : Bool} {s : ByteArray} {x : V} {ks : List ByteArray} (hk : ks.length ≤ 1) (h : fineV x) : fineV (.mk k b n s [x] ks) := by
  intro z hz
  rw [walkV] at hz
  rcases List.mem_cons.1 hz with rfl | hz
  · simp only [V.keys]; omega
  · obtain ⟨y, hy, hzy⟩ := walkVs_mem hz
    obtain rfl : y = x := by simpa using hy
    exact h z hzy
end Go.Proofs.YtlamkadllbgamaaGreatDoor
