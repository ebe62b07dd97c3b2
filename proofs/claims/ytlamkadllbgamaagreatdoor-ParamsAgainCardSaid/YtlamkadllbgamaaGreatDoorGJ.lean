/-
  Properties that are given, as they read; which values may be: the program's holds. · The program's holds at any kind: a list's parts are looked at one by one. · Are two values the same, but for what their lists hold? Are two lists one? · Is a value the zero one? (The program's alike, held against it.) · Which given properties may be: the program's may and Check.
-/
import Derived.Test.YtlamkadllbgamaaGreatDoorGI
import Derived.Deep.LoopGhost
set_option linter.unusedVariables false
set_option linter.unusedSimpArgs false
namespace Go.Proofs.YtlamkadllbgamaaGreatDoor
open Go.RowKit

/-- A property that is given. -/
structure G where
  nm : ByteArray
  unk : Bool
  v : V
def isG (W : World) (g : G) (v : Value) : Prop := ∃ c0 c1 c2 c3 c4 c5, v = .agg #[.string g.nm, .bool g.unk, c0, c1, c2, c3, c4, c5] ∧ isV W g.v (.agg #[c0, c1, c2, c3, c4, c5]) ∧ g.nm.size ≤ maxLen
/-- .. at an address. -/
def isGat (W : World) (g : G) (a : Addr) : Prop := ∃ c0 c1 c2 c3 c4 c5, W.cell? a = some (.string g.nm) ∧ W.cell? ⟨a.block, a.off + 1, none⟩ = some (.bool g.unk) ∧
  W.cell? ⟨a.block, a.off + 2, none⟩ = some c0 ∧ W.cell? ⟨a.block, a.off + 3, none⟩ = some c1 ∧ W.cell? ⟨a.block, a.off + 4, none⟩ = some c2 ∧ W.cell? ⟨a.block, a.off + 5, none⟩ = some c3 ∧ W.cell? ⟨a.block, a.off + 6, none⟩ = some c4 ∧ W.cell? ⟨a.block, a.off + 7, none⟩ = some c5 ∧
  isV W g.v (.agg #[c0, c1, c2, c3, c4, c5]) ∧ g.nm.size ≤ maxLen
def isGs (W : World) (L : List G) (v : Value) : Prop := ∃ a cap, slv v L.length a cap ∧ ∀ i (h : i < L.length), isGat W L[i] (a.add (i * 8))
theorem isG_below {W W' : World} (hb : Below W.heap.size W W') {g : G} {v : Value} (h : isG W g v) : isG W' g v := by
  obtain ⟨c0, c1, c2, c3, c4, c5, h1, h2, h3⟩ := h
  exact ⟨c0, c1, c2, c3, c4, c5, h1, isV_below hb h2, h3⟩
theorem isGat_below {W W' : World} (hb : Below W.heap.size W W') {g : G} {a : Addr} (h : isGat W g a) : isGat W' g a := by
  obtain ⟨c0, c1, c2, c3, c4, c5, g0, g1, g2, g3, g4, g5, g6, g7, h2, h3⟩ := h
  have k := cell_below hb
  exact ⟨c0, c1, c2, c3, c4, c5, k _ _ g0, k _ _ g1, k _ _ g2, k _ _ g3, k _ _ g4, k _ _ g5, k _ _ g6, k _ _ g7, isV_below hb h2, h3⟩
theorem isGs_below {W W' : World} (hb : Below W.heap.size W W') {L : List G} {v : Value} (h : isGs W L v) : isGs W' L v := by
  obtain ⟨a, cap, h1, h2⟩ := h
  exact ⟨a, cap, h1, fun i hi => isGat_below hb (h2 i hi)⟩


def wordB (s : ByteArray) : Bool := decide (s.size ≤ 64) && validS s
noncomputable def leafB (u : V) : Bool := decide (u.kind = 3) && decide (pcheckV u = 0) && wordB u.text
noncomputable def holdsB (x : V) (q : Int) : Bool := decide (x.kind = q) && decide (pcheckV x = 0) && (if q = 3 then wordB x.text else if q = 4 then decide (x.list.length ≤ 8) && x.list.all leafB else true)

set_option maxHeartbeats 1000000 in
theorem Word_any (s : ByteArray) (hs : s.size ≤ maxLen) (w : World) (hE : Env w) : Calls Tryz.prog 48 #[.string s] w fun e w' => e = .returned (.bool (wordB s)) ∧ Below w.heap.size w w' := by
  have HV := Lib.hid (valid_any s hs w hE)
  unfold wordB
  generalize validS s = r at *
  unfold maxLen at hs
  clear hE
  by_cases h : s.size ≤ 64
  · rw [decide_eq_true h, Bool.true_and]
    have h' : decide ((s.size : Int) ≤ 64) = true := decide_eq_true (by omega)
    go_enter Tryz.func48, Tryz.ntmps48
    go_wp2_with (go_at_call 65; refine HV.out.mono ?_; rintro e w5 ⟨rfl, hb5⟩)
    go_ret
    exact ⟨rfl, hb5⟩
  · rw [decide_eq_false h, Bool.false_and]
    have h' : decide ((s.size : Int) ≤ 64) = false := decide_eq_false (by omega)
    go_enter Tryz.func48, Tryz.ntmps48
    go_wp2_with fail
    go_ret
    exact ⟨rfl, Below.refl _ _⟩

theorem isV_parts {W : World} {x : V} {k n : Int} {b : Bool} {s : ByteArray} {o : Option Addr} {m c : Nat} {d : Value} (h : isV W x (.agg #[.int .i8 k, .bool b, .int .i64 n, .string s, .slice o m c, d])) :
    x.kind = k ∧ x.text = s ∧ s.size ≤ maxLen ∧ ∃ a, slv (.slice o m c) x.list.length a c ∧ m = x.list.length ∧ isVs W x.list a := by
  obtain ⟨k', b', n', s', l, ks⟩ := x
  unfold isV at h
  obtain ⟨lv, kv, e, _, _, h4, ⟨a, cap, h5, h6⟩, _⟩ := h
  simp only [Value.agg.injEq, Array.mk.injEq, List.cons.injEq, Value.int.injEq, Value.string.injEq, true_and, and_true] at e
  obtain ⟨rfl, _, _, rfl, rfl, rfl⟩ := e
  have hh := h5
  obtain ⟨o', e, _⟩ := h5
  simp only [Value.slice.injEq] at e
  obtain ⟨rfl, rfl, rfl⟩ := e
  exact ⟨rfl, rfl, h4, a, hh, rfl, h6⟩

end Go.Proofs.YtlamkadllbgamaaGreatDoor

namespace Go.Proofs.YtlamkadllbgamaaGreatDoor
open Go.RowKit

theorem size_in {x u : V} (h : u ∈ x.list) : sizeV u ≤ sizeV x := by
  obtain ⟨j, hj, rfl⟩ := List.getElem_of_mem h
  have := sizeVs_get x.list j hj
  obtain ⟨k, b, n, s, l, ks⟩ := x
  simp only [sizeV, V.list] at *
  omega
theorem fine_in {x u : V} (h : u ∈ x.list) (hF : fineV x) : fineV u := fun y hy => hF y (part_in h y hy)

end Go.Proofs.YtlamkadllbgamaaGreatDoor

namespace Go.Proofs.YtlamkadllbgamaaGreatDoor
open Go.RowKit

set_option maxRecDepth 100000 in
set_option maxHeartbeats 4000000 in
theorem eqKs_any (ks ts : List ByteArray) (v u : Value) (w : World) (hl : ks.length ≤ 1000000) (h : isK w ks v) (h' : isK w ts u) :
    Calls Tryz.prog 93 #[v, u] w fun e w' => e = .returned (.bool (decide (ks = ts))) ∧ Below w.heap.size w w' := by
  obtain ⟨a, cap, ⟨o, rfl, hc1, hc2, ho⟩, hks⟩ := h
  obtain ⟨a', cap', ⟨o', rfl, hc1', hc2', ho'⟩, hts⟩ := h'
  unfold maxLen at hc2 hc2'
  have HK := Lib.hid hks
  have HT := Lib.hid hts
  clear hks hts
  by_cases hlen : ks.length = ts.length
  · obtain ⟨r, hr⟩ : ∃ r, decide (ks = ts) = r := ⟨_, rfl⟩
    rw [hr]
    have HR := Lib.hid hr
    have HL := Lib.hid hlen
    rw [← hlen] at hc1' ho' ⊢
    clear hr hlen
    go_enter Tryz.func93, Tryz.ntmps93
    go_wp2_with fail
    go_loopw [13] (fun i wr => ∃ j : Nat, j ≤ ks.length ∧ i = .int .i64 j ∧ Hid (ks.take j = ts.take j) ∧ Hid (Below w.heap.size w wr)) (fun i _ => ks.length - (intOf i).toNat)
    case atStart => exact ⟨0, by omega, rfl, Lib.hid (by simp), Lib.hid (Below.refl _ _)⟩
    case round =>
      obtain ⟨j, hj, rfl, hA, hB⟩ := hrel
      by_cases hlt : j < ks.length
      · obtain rfl := ho (by omega)
        obtain rfl := ho' (by omega)
        have hlt' : j < ts.length := by rw [← HL.out]; exact hlt
        have q0 := cell_below hB.out _ _ (HK.out j hlt).1
        have q1 := cell_below hB.out _ _ (HT.out j hlt').1
        by_cases he : ks[j] = ts[j]
        · have HA : Hid (ks.take (j + 1) = ts.take (j + 1)) := Lib.hid (by rw [List.take_succ_eq_append_getElem hlt, List.take_succ_eq_append_getElem hlt', hA.out, he])
          rw [← he] at q1
          have z : (ks[j].toList == ks[j].toList) = true := beq_self_eq_true _
          clear he hA hlt'
          generalize ks[j] = s at *
          go_wp2_with fail
          go_quiet (fail)
          go_wp2_with fail
          go_roundw
          case rel => exact ⟨j + 1, by omega, by go_num, HA, Lib.hid (hB.out.trans (drewB _ _ _))⟩
          case measure => simp [intOf]; omega
        · have HF : Hid (r = false) := Lib.hid (by
            rw [← HR.out]
            exact decide_eq_false (fun e => he (by subst e; rfl)))
          have z := beq_toList he
          clear he hA HR
          generalize ks[j] = s at *
          generalize ts[j] = t at *
          clear hlt'
          go_wp2_with fail
          go_quiet (fail)
          go_wp2_with fail
          go_ret
          exact ⟨ret_bool HF.out.symm, hB.out.trans (drewB _ _ _)⟩
      · obtain rfl : j = ks.length := by omega
        have HF : Hid (r = true) := Lib.hid (by
          have h := hA.out
          rw [List.take_of_length_le (Nat.le_refl _), List.take_of_length_le (Nat.le_of_eq HL.out.symm)] at h
          rw [← HR.out]
          exact decide_eq_true h)
        go_wp2_with fail
        go_ret
        exact ⟨ret_bool HF.out.symm, hB.out⟩
  · have hne : ks ≠ ts := fun e => hlen (by rw [e])
    rw [decide_eq_false hne]
    have z1 : (ks.length == ts.length) = false := beq_eq_false_iff_ne.2 hlen
    have z2 : ((ks.length : Int) == (ts.length : Int)) = false := beq_eq_false_iff_ne.2 (by omega)
    have z3 : ((ks.length : Int) != (ts.length : Int)) = true := bne_iff_ne.2 (by omega)
    clear HK HT hne
    generalize ks.length = L at *
    generalize ts.length = L' at *
    go_enter Tryz.func93, Tryz.ntmps93
    go_wp2_with fail
    go_ret
    exact ⟨rfl, Below.refl _ _⟩

set_option maxHeartbeats 2000000 in
/-- Two lists of nothing are one. -/
theorem one_nil (o o' : Option Addr) (c c' : Nat) (w : World) :
    Calls Tryz.prog 81 #[.slice o 0 c, .slice o' 0 c'] w fun e w' => e = .returned (.bool true) ∧ Below w.heap.size w w' := by
  go_enter Tryz.func81, Tryz.ntmps81
  go_wp2_with fail
  go_quiet (fail)
  go_wp2_with fail
  go_ret
  exact ⟨rfl, drewB _ _ _⟩

/-- The same, but for what the lists hold. -/
def butB (x y : V) : Bool := decide (x.kind = y.kind) && (decide (x.bool = y.bool) && (decide (x.num = y.num) && (decide (x.text = y.text) && (decide (x.keys = y.keys) && decide (x.list.length = y.list.length)))))

theorem isV_all {W : World} {x : V} {k n : Int} {b : Bool} {s : ByteArray} {o : Option Addr} {m c : Nat} {d : Value} (h : isV W x (.agg #[.int .i8 k, .bool b, .int .i64 n, .string s, .slice o m c, d])) :
    x.kind = k ∧ x.bool = b ∧ x.num = n ∧ x.text = s ∧ m = x.list.length ∧ isK W x.keys d := by
  obtain ⟨k', b', n', s', l, ks⟩ := x
  unfold isV at h
  obtain ⟨lv, kv, e, _, _, h4, ⟨a, cap, ⟨o', e2, _⟩, h6⟩, h7⟩ := h
  simp only [Value.agg.injEq, Array.mk.injEq, List.cons.injEq, Value.int.injEq, Value.string.injEq, Value.bool.injEq, true_and, and_true] at e
  obtain ⟨rfl, rfl, rfl, rfl, rfl, rfl⟩ := e
  simp only [Value.slice.injEq] at e2
  obtain ⟨_, rfl, _⟩ := e2
  exact ⟨rfl, rfl, rfl, rfl, rfl, h7⟩

set_option maxRecDepth 100000 in
set_option maxHeartbeats 8000000 in
theorem alikeBut_any (x y : V) (v u : Value) (w : World) (hM : x.keys.length ≤ 1000000) (h : isV w x v) (h' : isV w y u) :
    Calls Tryz.prog 80 #[v, u] w fun e w' => e = .returned (.bool (butB x y)) ∧ Below w.heap.size w w' := by
  obtain ⟨k, b, n, s, o, m, c, o2, m2, c2, rfl⟩ := isV_six h
  obtain ⟨k', b', n', s', o', m', c', o2', m2', c2', rfl⟩ := isV_six h'
  obtain ⟨e1, e2, e3, e4, e5, hk⟩ := isV_all h
  obtain ⟨d1, d2, d3, d4, d5, hk'⟩ := isV_all h'
  have HB : Hid (KB w ((w.alloc (.cells #[.int .i8 k, .bool b, .int .i64 n, .string s, .slice o m c, .slice o2 m2 c2] 33)).alloc (.cells #[.int .i8 k', .bool b', .int .i64 n', .string s', .slice o' m' c', .slice o2' m2' c2'] 33))) := Lib.hid KB.two
  have HK : Hid (Calls Tryz.prog 93 #[.slice o2 m2 c2, .slice o2' m2' c2'] ((w.alloc (.cells #[.int .i8 k, .bool b, .int .i64 n, .string s, .slice o m c, .slice o2 m2 c2] 33)).alloc (.cells #[.int .i8 k', .bool b', .int .i64 n', .string s', .slice o' m' c', .slice o2' m2' c2'] 33)) fun e w' => e = .returned (.bool (decide (x.keys = y.keys))) ∧ Below ((w.alloc (.cells #[.int .i8 k, .bool b, .int .i64 n, .string s, .slice o m c, .slice o2 m2 c2] 33)).alloc (.cells #[.int .i8 k', .bool b', .int .i64 n', .string s', .slice o' m' c', .slice o2' m2' c2'] 33)).heap.size ((w.alloc (.cells #[.int .i8 k, .bool b, .int .i64 n, .string s, .slice o m c, .slice o2 m2 c2] 33)).alloc (.cells #[.int .i8 k', .bool b', .int .i64 n', .string s', .slice o' m' c', .slice o2' m2' c2'] 33)) w') :=
    Lib.hid (eqKs_any x.keys y.keys _ _ _ hM (isK_keep (cell_below KB.two) hk) (isK_keep (cell_below KB.two) hk'))
  have hcl : ∀ w1, Below ((w.alloc (.cells #[.int .i8 k, .bool b, .int .i64 n, .string s, .slice o m c, .slice o2 m2 c2] 33)).alloc (.cells #[.int .i8 k', .bool b', .int .i64 n', .string s', .slice o' m' c', .slice o2' m2' c2'] 33)).heap.size ((w.alloc (.cells #[.int .i8 k, .bool b, .int .i64 n, .string s, .slice o m c, .slice o2 m2 c2] 33)).alloc (.cells #[.int .i8 k', .bool b', .int .i64 n', .string s', .slice o' m' c', .slice o2' m2' c2'] 33)) w1 → w1.cell? ⟨w.heap.size, 4, none⟩ = some (.slice o m c) ∧ w1.cell? ⟨w.heap.size + 1, 4, none⟩ = some (.slice o' m' c') := fun w1 h1 => ⟨cell_below h1 _ _ (by simp), cell_below h1 _ _ (by simp)⟩
  have HCL := Lib.hid hcl
  have hr : butB x y = (decide (k = k') && (decide (b = b') && (decide (n = n') && (decide (s = s') && (decide (x.keys = y.keys) && decide (m = m')))))) := by
    unfold butB
    rw [e1, e2, e3, e4, d1, d2, d3, d4, e5, d5]
  rw [hr]
  generalize decide (x.keys = y.keys) = R at *
  clear h h' e1 e2 e3 e4 e5 d1 d2 d3 d4 d5 hk hk' hcl hr
  by_cases q1 : k = k'
  · subst q1
    rw [decide_eq_true rfl, Bool.true_and]
    by_cases q2 : b = b'
    · subst q2
      rw [decide_eq_true rfl, Bool.true_and]
      by_cases q3 : n = n'
      · subst q3
        rw [decide_eq_true rfl, Bool.true_and]
        by_cases q4 : s = s'
        · subst q4
          rw [decide_eq_true rfl, Bool.true_and]
          have z4 : (s.toList == s.toList) = true := beq_self_eq_true _
          cases R with
          | false =>
            rw [Bool.false_and]
            go_enter Tryz.func80, Tryz.ntmps80
            go_wp2_with (go_at_call 93; refine HK.out.mono ?_; rintro e w5 ⟨rfl, hb5⟩; obtain ⟨p1, p2⟩ := HCL.out _ hb5)
            go_ret
            exact ⟨rfl, HB.out.trans (hb5.mono HB.out.size)⟩
          | true =>
            rw [Bool.true_and]
            by_cases q5 : m = m'
            · subst q5
              rw [decide_eq_true rfl]
              go_enter Tryz.func80, Tryz.ntmps80
              go_wp2_with (go_at_call 93; refine HK.out.mono ?_; rintro e w5 ⟨rfl, hb5⟩; obtain ⟨p1, p2⟩ := HCL.out _ hb5)
              go_ret
              exact ⟨ret_bool (by simp), HB.out.trans (hb5.mono HB.out.size)⟩
            · rw [decide_eq_false q5]
              have y1 : (m == m') = false := beq_eq_false_iff_ne.2 q5
              have y2 : ((m : Int) == (m' : Int)) = false := beq_eq_false_iff_ne.2 (by omega)
              go_enter Tryz.func80, Tryz.ntmps80
              go_wp2_with (go_at_call 93; refine HK.out.mono ?_; rintro e w5 ⟨rfl, hb5⟩; obtain ⟨p1, p2⟩ := HCL.out _ hb5)
              go_ret
              exact ⟨ret_bool (by simp), HB.out.trans (hb5.mono HB.out.size)⟩
        · rw [decide_eq_false q4, Bool.false_and]
          have z := beq_toList q4
          go_enter Tryz.func80, Tryz.ntmps80
          go_wp2_with fail
          go_ret
          exact ⟨rfl, HB.out⟩
      · rw [decide_eq_false q3, Bool.false_and]
        have z : (n == n') = false := beqI q3
        go_enter Tryz.func80, Tryz.ntmps80
        go_wp2_with fail
        go_ret
        exact ⟨rfl, HB.out⟩
    · rw [decide_eq_false q2, Bool.false_and]
      have z : (b == b') = false := beq_eq_false_iff_ne.2 q2
      go_enter Tryz.func80, Tryz.ntmps80
      go_wp2_with fail
      go_ret
      exact ⟨rfl, HB.out⟩
  · rw [decide_eq_false q1, Bool.false_and]
    have z : (k == k') = false := beqI q1
    go_enter Tryz.func80, Tryz.ntmps80
    go_wp2_with fail
    go_ret
    exact ⟨rfl, HB.out⟩
end Go.Proofs.YtlamkadllbgamaaGreatDoor

namespace Go.Proofs.YtlamkadllbgamaaGreatDoor
open Go.RowKit

def zV : V := .mk 0 false 0 ⟨#[]⟩ [] []
theorem butL {x y : V} (hy : y.list = []) : butB x y = sm x y := by
  cases hb : butB x y with
  | true =>
    symm
    apply sm_yes
    unfold butB at hb
    simp only [Bool.and_eq_true, decide_eq_true_eq] at hb
    obtain ⟨k, b, n, s, l, ks⟩ := x
    obtain ⟨k', b', n', s', l', ks'⟩ := y
    obtain ⟨h1, h2, h3, h4, h5, h6⟩ := hb
    simp only [V.list] at hy
    subst hy
    simp only [V.kind, V.bool, V.num, V.text, V.keys, V.list, List.length_nil] at h1 h2 h3 h4 h5 h6
    rw [h1, h2, h3, h4, h5, List.eq_nil_of_length_eq_zero h6]
  | false =>
    symm
    apply sm_no
    intro e
    subst e
    have : butB x x = true := by unfold butB; simp
    rw [this] at hb
    cases hb

theorem three_rows (U : World) (X Y P : Array Value) (t t' t'' : TypeId) :
    (∀ i, (((U.alloc (.cells X t)).alloc (.cells Y t')).alloc (.cells P t'')).cell? ⟨U.heap.size, i, none⟩ = X[i]?) ∧ (∀ i, (((U.alloc (.cells X t)).alloc (.cells Y t')).alloc (.cells P t'')).cell? ⟨U.heap.size + 1, i, none⟩ = Y[i]?) ∧
    ∀ i, (((U.alloc (.cells X t)).alloc (.cells Y t')).alloc (.cells P t'')).cell? ⟨U.heap.size + 1 + 1, i, none⟩ = P[i]? := by
  have z1 : (U.alloc (.cells X t)).heap.size = U.heap.size + 1 := by simp
  have z2 : ((U.alloc (.cells X t)).alloc (.cells Y t')).heap.size = U.heap.size + 1 + 1 := by simp
  refine ⟨fun i => cell_of_row _ _ _ _ _ _ (((MapKept.heap_alloc _ _).2 U.heap.size (by omega)).trans (((MapKept.heap_alloc _ _).2 U.heap.size (by omega)).trans (MapKept.heap_alloc U _).1)), fun i => ?_, fun i => ?_⟩
  · refine cell_of_row _ _ _ Y t' (0, 0) (((MapKept.heap_alloc _ _).2 (U.heap.size + 1) (by omega)).trans ?_)
    have h := (MapKept.heap_alloc (U.alloc (.cells X t)) (.cells Y t')).1
    rw [z1] at h; exact h
  · refine cell_of_row _ _ _ P t'' (0, 0) ?_
    have h := (MapKept.heap_alloc ((U.alloc (.cells X t)).alloc (.cells Y t')) (.cells P t'')).1
    rw [z2] at h; exact h

set_option maxRecDepth 100000 in
set_option maxHeartbeats 8000000 in
theorem alikeL_any (x y : V) (hy : y.list = []) (v u : Value) (w : World) (hM : x.keys.length ≤ 1000000) (h : isV w x v) (h' : isV w y u) :
    Calls Tryz.prog 71 #[v, u] w fun e w' => e = .returned (.bool (sm x y)) ∧ Below w.heap.size w w' := by
  obtain ⟨k, b, n, s, o, m, c, o2, m2, c2, rfl⟩ := isV_six h
  obtain ⟨k', b', n', s', o', m', c', o2', m2', c2', rfl⟩ := isV_six h'
  obtain ⟨_, _, _, _, hm, _⟩ := isV_all h
  obtain ⟨_, _, _, _, hm', _⟩ := isV_all h'
  obtain rfl : m' = 0 := by rw [hm', hy]; rfl
  have hbz : butB x y = true → m = 0 := fun hb => by
    unfold butB at hb
    simp only [Bool.and_eq_true, decide_eq_true_eq] at hb
    rw [hm]
    have := hb.2.2.2.2.2
    rw [hy] at this
    exact this
  have HBUT : Hid (∀ w1, KB w w1 → Calls Tryz.prog 80 #[.agg #[.int .i8 k, .bool b, .int .i64 n, .string s, .slice o m c, .slice o2 m2 c2], .agg #[.int .i8 k', .bool b', .int .i64 n', .string s', .slice o' 0 c', .slice o2' m2' c2']] w1 fun e w' => e = .returned (.bool (butB x y)) ∧ Below w1.heap.size w1 w') := Lib.hid fun w1 hK => alikeBut_any x y _ _ w1 hM (isV_below hK h) (isV_below hK h')
  have HONE : Hid (∀ w1, Calls Tryz.prog 81 #[.slice o 0 c, .slice o' 0 c'] w1 fun e w' => e = .returned (.bool true) ∧ Below w1.heap.size w1 w') := Lib.hid fun w1 => one_nil o o' c c' w1
  rw [butL hy] at HBUT hbz
  obtain ⟨r, hr⟩ : ∃ r, sm x y = r := ⟨_, rfl⟩
  rw [hr] at HBUT hbz ⊢
  clear h h' hm hM hr hm' hy
  have HB5 : Hid (Below w.heap.size w (((((w.alloc (.cells #[.int .i8 k, .bool b, .int .i64 n, .string s, .slice o m c, .slice o2 m2 c2] 33)).alloc (.cells #[.int .i8 k', .bool b', .int .i64 n', .string s', .slice o' 0 c', .slice o2' m2' c2'] 33)).alloc (.cells #[.int .i8 k, .bool b, .int .i64 n, .string s, .slice o m c, .slice o2 m2 c2] 33)).alloc (.cells #[.int .i8 k', .bool b', .int .i64 n', .string s', .slice o' 0 c', .slice o2' m2' c2'] 33)).alloc (.cells #[.slice (some ⟨w.heap.size + 1 + 1, 0, none⟩) 1 1, .slice (some ⟨w.heap.size + 1 + 1 + 1, 0, none⟩) 1 1] 97))) := Lib.hid (((((Below.refl _ _).alloc (Nat.le_refl _) _).alloc (by simp) _).alloc (by simp; omega) _).alloc (by simp; omega) _ |>.alloc (by simp; omega) _)
  have hU : ((w.alloc (.cells #[.int .i8 k, .bool b, .int .i64 n, .string s, .slice o m c, .slice o2 m2 c2] 33)).alloc (.cells #[.int .i8 k', .bool b', .int .i64 n', .string s', .slice o' 0 c', .slice o2' m2' c2'] 33)).heap.size = w.heap.size + 1 + 1 := by simp
  have h3 := three_rows ((w.alloc (.cells #[.int .i8 k, .bool b, .int .i64 n, .string s, .slice o m c, .slice o2 m2 c2] 33)).alloc (.cells #[.int .i8 k', .bool b', .int .i64 n', .string s', .slice o' 0 c', .slice o2' m2' c2'] 33)) (#[.int .i8 k, .bool b, .int .i64 n, .string s, .slice o m c, .slice o2 m2 c2] : Array Value) (#[.int .i8 k', .bool b', .int .i64 n', .string s', .slice o' 0 c', .slice o2' m2' c2'] : Array Value) (#[.slice (some ⟨w.heap.size + 1 + 1, 0, none⟩) 1 1, .slice (some ⟨w.heap.size + 1 + 1 + 1, 0, none⟩) 1 1] : Array Value) 33 33 97
  rw [hU] at h3
  have Fx0 : (((((w.alloc (.cells #[.int .i8 k, .bool b, .int .i64 n, .string s, .slice o m c, .slice o2 m2 c2] 33)).alloc (.cells #[.int .i8 k', .bool b', .int .i64 n', .string s', .slice o' 0 c', .slice o2' m2' c2'] 33)).alloc (.cells #[.int .i8 k, .bool b, .int .i64 n, .string s, .slice o m c, .slice o2 m2 c2] 33)).alloc (.cells #[.int .i8 k', .bool b', .int .i64 n', .string s', .slice o' 0 c', .slice o2' m2' c2'] 33)).alloc (.cells #[.slice (some ⟨w.heap.size + 1 + 1, 0, none⟩) 1 1, .slice (some ⟨w.heap.size + 1 + 1 + 1, 0, none⟩) 1 1] 97)).cell? ⟨w.heap.size + 1 + 1, 0, none⟩ = some (.int .i8 k) := (h3.1 0).trans rfl
  have Fx1 : (((((w.alloc (.cells #[.int .i8 k, .bool b, .int .i64 n, .string s, .slice o m c, .slice o2 m2 c2] 33)).alloc (.cells #[.int .i8 k', .bool b', .int .i64 n', .string s', .slice o' 0 c', .slice o2' m2' c2'] 33)).alloc (.cells #[.int .i8 k, .bool b, .int .i64 n, .string s, .slice o m c, .slice o2 m2 c2] 33)).alloc (.cells #[.int .i8 k', .bool b', .int .i64 n', .string s', .slice o' 0 c', .slice o2' m2' c2'] 33)).alloc (.cells #[.slice (some ⟨w.heap.size + 1 + 1, 0, none⟩) 1 1, .slice (some ⟨w.heap.size + 1 + 1 + 1, 0, none⟩) 1 1] 97)).cell? ⟨w.heap.size + 1 + 1, 1, none⟩ = some (.bool b) := (h3.1 1).trans rfl
  have Fx2 : (((((w.alloc (.cells #[.int .i8 k, .bool b, .int .i64 n, .string s, .slice o m c, .slice o2 m2 c2] 33)).alloc (.cells #[.int .i8 k', .bool b', .int .i64 n', .string s', .slice o' 0 c', .slice o2' m2' c2'] 33)).alloc (.cells #[.int .i8 k, .bool b, .int .i64 n, .string s, .slice o m c, .slice o2 m2 c2] 33)).alloc (.cells #[.int .i8 k', .bool b', .int .i64 n', .string s', .slice o' 0 c', .slice o2' m2' c2'] 33)).alloc (.cells #[.slice (some ⟨w.heap.size + 1 + 1, 0, none⟩) 1 1, .slice (some ⟨w.heap.size + 1 + 1 + 1, 0, none⟩) 1 1] 97)).cell? ⟨w.heap.size + 1 + 1, 2, none⟩ = some (.int .i64 n) := (h3.1 2).trans rfl
  have Fx3 : (((((w.alloc (.cells #[.int .i8 k, .bool b, .int .i64 n, .string s, .slice o m c, .slice o2 m2 c2] 33)).alloc (.cells #[.int .i8 k', .bool b', .int .i64 n', .string s', .slice o' 0 c', .slice o2' m2' c2'] 33)).alloc (.cells #[.int .i8 k, .bool b, .int .i64 n, .string s, .slice o m c, .slice o2 m2 c2] 33)).alloc (.cells #[.int .i8 k', .bool b', .int .i64 n', .string s', .slice o' 0 c', .slice o2' m2' c2'] 33)).alloc (.cells #[.slice (some ⟨w.heap.size + 1 + 1, 0, none⟩) 1 1, .slice (some ⟨w.heap.size + 1 + 1 + 1, 0, none⟩) 1 1] 97)).cell? ⟨w.heap.size + 1 + 1, 3, none⟩ = some (.string s) := (h3.1 3).trans rfl
  have Fx4 : (((((w.alloc (.cells #[.int .i8 k, .bool b, .int .i64 n, .string s, .slice o m c, .slice o2 m2 c2] 33)).alloc (.cells #[.int .i8 k', .bool b', .int .i64 n', .string s', .slice o' 0 c', .slice o2' m2' c2'] 33)).alloc (.cells #[.int .i8 k, .bool b, .int .i64 n, .string s, .slice o m c, .slice o2 m2 c2] 33)).alloc (.cells #[.int .i8 k', .bool b', .int .i64 n', .string s', .slice o' 0 c', .slice o2' m2' c2'] 33)).alloc (.cells #[.slice (some ⟨w.heap.size + 1 + 1, 0, none⟩) 1 1, .slice (some ⟨w.heap.size + 1 + 1 + 1, 0, none⟩) 1 1] 97)).cell? ⟨w.heap.size + 1 + 1, 4, none⟩ = some (.slice o m c) := (h3.1 4).trans rfl
  have Fx5 : (((((w.alloc (.cells #[.int .i8 k, .bool b, .int .i64 n, .string s, .slice o m c, .slice o2 m2 c2] 33)).alloc (.cells #[.int .i8 k', .bool b', .int .i64 n', .string s', .slice o' 0 c', .slice o2' m2' c2'] 33)).alloc (.cells #[.int .i8 k, .bool b, .int .i64 n, .string s, .slice o m c, .slice o2 m2 c2] 33)).alloc (.cells #[.int .i8 k', .bool b', .int .i64 n', .string s', .slice o' 0 c', .slice o2' m2' c2'] 33)).alloc (.cells #[.slice (some ⟨w.heap.size + 1 + 1, 0, none⟩) 1 1, .slice (some ⟨w.heap.size + 1 + 1 + 1, 0, none⟩) 1 1] 97)).cell? ⟨w.heap.size + 1 + 1, 5, none⟩ = some (.slice o2 m2 c2) := (h3.1 5).trans rfl
  have Fy0 : (((((w.alloc (.cells #[.int .i8 k, .bool b, .int .i64 n, .string s, .slice o m c, .slice o2 m2 c2] 33)).alloc (.cells #[.int .i8 k', .bool b', .int .i64 n', .string s', .slice o' 0 c', .slice o2' m2' c2'] 33)).alloc (.cells #[.int .i8 k, .bool b, .int .i64 n, .string s, .slice o m c, .slice o2 m2 c2] 33)).alloc (.cells #[.int .i8 k', .bool b', .int .i64 n', .string s', .slice o' 0 c', .slice o2' m2' c2'] 33)).alloc (.cells #[.slice (some ⟨w.heap.size + 1 + 1, 0, none⟩) 1 1, .slice (some ⟨w.heap.size + 1 + 1 + 1, 0, none⟩) 1 1] 97)).cell? ⟨w.heap.size + 1 + 1 + 1, 0, none⟩ = some (.int .i8 k') := (h3.2.1 0).trans rfl
  have Fy1 : (((((w.alloc (.cells #[.int .i8 k, .bool b, .int .i64 n, .string s, .slice o m c, .slice o2 m2 c2] 33)).alloc (.cells #[.int .i8 k', .bool b', .int .i64 n', .string s', .slice o' 0 c', .slice o2' m2' c2'] 33)).alloc (.cells #[.int .i8 k, .bool b, .int .i64 n, .string s, .slice o m c, .slice o2 m2 c2] 33)).alloc (.cells #[.int .i8 k', .bool b', .int .i64 n', .string s', .slice o' 0 c', .slice o2' m2' c2'] 33)).alloc (.cells #[.slice (some ⟨w.heap.size + 1 + 1, 0, none⟩) 1 1, .slice (some ⟨w.heap.size + 1 + 1 + 1, 0, none⟩) 1 1] 97)).cell? ⟨w.heap.size + 1 + 1 + 1, 1, none⟩ = some (.bool b') := (h3.2.1 1).trans rfl
  have Fy2 : (((((w.alloc (.cells #[.int .i8 k, .bool b, .int .i64 n, .string s, .slice o m c, .slice o2 m2 c2] 33)).alloc (.cells #[.int .i8 k', .bool b', .int .i64 n', .string s', .slice o' 0 c', .slice o2' m2' c2'] 33)).alloc (.cells #[.int .i8 k, .bool b, .int .i64 n, .string s, .slice o m c, .slice o2 m2 c2] 33)).alloc (.cells #[.int .i8 k', .bool b', .int .i64 n', .string s', .slice o' 0 c', .slice o2' m2' c2'] 33)).alloc (.cells #[.slice (some ⟨w.heap.size + 1 + 1, 0, none⟩) 1 1, .slice (some ⟨w.heap.size + 1 + 1 + 1, 0, none⟩) 1 1] 97)).cell? ⟨w.heap.size + 1 + 1 + 1, 2, none⟩ = some (.int .i64 n') := (h3.2.1 2).trans rfl
  have Fy3 : (((((w.alloc (.cells #[.int .i8 k, .bool b, .int .i64 n, .string s, .slice o m c, .slice o2 m2 c2] 33)).alloc (.cells #[.int .i8 k', .bool b', .int .i64 n', .string s', .slice o' 0 c', .slice o2' m2' c2'] 33)).alloc (.cells #[.int .i8 k, .bool b, .int .i64 n, .string s, .slice o m c, .slice o2 m2 c2] 33)).alloc (.cells #[.int .i8 k', .bool b', .int .i64 n', .string s', .slice o' 0 c', .slice o2' m2' c2'] 33)).alloc (.cells #[.slice (some ⟨w.heap.size + 1 + 1, 0, none⟩) 1 1, .slice (some ⟨w.heap.size + 1 + 1 + 1, 0, none⟩) 1 1] 97)).cell? ⟨w.heap.size + 1 + 1 + 1, 3, none⟩ = some (.string s') := (h3.2.1 3).trans rfl
  have Fy4 : (((((w.alloc (.cells #[.int .i8 k, .bool b, .int .i64 n, .string s, .slice o m c, .slice o2 m2 c2] 33)).alloc (.cells #[.int .i8 k', .bool b', .int .i64 n', .string s', .slice o' 0 c', .slice o2' m2' c2'] 33)).alloc (.cells #[.int .i8 k, .bool b, .int .i64 n, .string s, .slice o m c, .slice o2 m2 c2] 33)).alloc (.cells #[.int .i8 k', .bool b', .int .i64 n', .string s', .slice o' 0 c', .slice o2' m2' c2'] 33)).alloc (.cells #[.slice (some ⟨w.heap.size + 1 + 1, 0, none⟩) 1 1, .slice (some ⟨w.heap.size + 1 + 1 + 1, 0, none⟩) 1 1] 97)).cell? ⟨w.heap.size + 1 + 1 + 1, 4, none⟩ = some (.slice o' 0 c') := (h3.2.1 4).trans rfl
  have Fy5 : (((((w.alloc (.cells #[.int .i8 k, .bool b, .int .i64 n, .string s, .slice o m c, .slice o2 m2 c2] 33)).alloc (.cells #[.int .i8 k', .bool b', .int .i64 n', .string s', .slice o' 0 c', .slice o2' m2' c2'] 33)).alloc (.cells #[.int .i8 k, .bool b, .int .i64 n, .string s, .slice o m c, .slice o2 m2 c2] 33)).alloc (.cells #[.int .i8 k', .bool b', .int .i64 n', .string s', .slice o' 0 c', .slice o2' m2' c2'] 33)).alloc (.cells #[.slice (some ⟨w.heap.size + 1 + 1, 0, none⟩) 1 1, .slice (some ⟨w.heap.size + 1 + 1 + 1, 0, none⟩) 1 1] 97)).cell? ⟨w.heap.size + 1 + 1 + 1, 5, none⟩ = some (.slice o2' m2' c2') := (h3.2.1 5).trans rfl
  have Fp0 : (((((w.alloc (.cells #[.int .i8 k, .bool b, .int .i64 n, .string s, .slice o m c, .slice o2 m2 c2] 33)).alloc (.cells #[.int .i8 k', .bool b', .int .i64 n', .string s', .slice o' 0 c', .slice o2' m2' c2'] 33)).alloc (.cells #[.int .i8 k, .bool b, .int .i64 n, .string s, .slice o m c, .slice o2 m2 c2] 33)).alloc (.cells #[.int .i8 k', .bool b', .int .i64 n', .string s', .slice o' 0 c', .slice o2' m2' c2'] 33)).alloc (.cells #[.slice (some ⟨w.heap.size + 1 + 1, 0, none⟩) 1 1, .slice (some ⟨w.heap.size + 1 + 1 + 1, 0, none⟩) 1 1] 97)).cell? ⟨w.heap.size + 1 + 1 + 1 + 1, 0, none⟩ = some (.slice (some ⟨w.heap.size + 1 + 1, 0, none⟩) 1 1) := (h3.2.2 0).trans rfl
  have Fp1 : (((((w.alloc (.cells #[.int .i8 k, .bool b, .int .i64 n, .string s, .slice o m c, .slice o2 m2 c2] 33)).alloc (.cells #[.int .i8 k', .bool b', .int .i64 n', .string s', .slice o' 0 c', .slice o2' m2' c2'] 33)).alloc (.cells #[.int .i8 k, .bool b, .int .i64 n, .string s, .slice o m c, .slice o2 m2 c2] 33)).alloc (.cells #[.int .i8 k', .bool b', .int .i64 n', .string s', .slice o' 0 c', .slice o2' m2' c2'] 33)).alloc (.cells #[.slice (some ⟨w.heap.size + 1 + 1, 0, none⟩) 1 1, .slice (some ⟨w.heap.size + 1 + 1 + 1, 0, none⟩) 1 1] 97)).cell? ⟨w.heap.size + 1 + 1 + 1 + 1, 1, none⟩ = some (.slice (some ⟨w.heap.size + 1 + 1 + 1, 0, none⟩) 1 1) := (h3.2.2 1).trans rfl
  clear h3 hU
  cases r with
  | true =>
    obtain rfl : 0 = m := (hbz rfl).symm
    go_enter Tryz.func71, Tryz.ntmps71
    go_wp2_with fail
    generalize (((((w.alloc (.cells #[.int .i8 k, .bool b, .int .i64 n, .string s, .slice o 0 c, .slice o2 m2 c2] 33)).alloc (.cells #[.int .i8 k', .bool b', .int .i64 n', .string s', .slice o' 0 c', .slice o2' m2' c2'] 33)).alloc (.cells #[.int .i8 k, .bool b, .int .i64 n, .string s, .slice o 0 c, .slice o2 m2 c2] 33)).alloc (.cells #[.int .i8 k', .bool b', .int .i64 n', .string s', .slice o' 0 c', .slice o2' m2' c2'] 33)).alloc (.cells #[.slice (some ⟨w.heap.size + 1 + 1, 0, none⟩) 1 1, .slice (some ⟨w.heap.size + 1 + 1 + 1, 0, none⟩) 1 1] 97)) = W5 at *
    go_loopg [5] 1 (fun g lv wr => (g = 1 ∧ lv = .slice (some ⟨w.heap.size + 1 + 1 + 1 + 1, 0, none⟩) 1 1 ∧ Hid (Below W5.heap.size W5 wr)) ∨ (g = 0 ∧ lv = .slice (some ⟨w.heap.size + 1 + 1 + 1 + 1, 0, none⟩) 0 1 ∧ Hid (true = true) ∧ Hid (Below W5.heap.size W5 wr)))
    case atStart => exact .inl ⟨rfl, rfl, Lib.hid (Below.refl _ _)⟩
    case round =>
      rcases hrel with ⟨rfl, rfl, hB⟩ | ⟨rfl, rfl, hR, hB⟩
      · have hBw := HB5.out.trans (hB.out.mono HB5.out.size)
        have Gx0 := cell_below hB.out _ _ Fx0
        have Gx1 := cell_below hB.out _ _ Fx1
        have Gx2 := cell_below hB.out _ _ Fx2
        have Gx3 := cell_below hB.out _ _ Fx3
        have Gx4 := cell_below hB.out _ _ Fx4
        have Gx5 := cell_below hB.out _ _ Fx5
        have Gy0 := cell_below hB.out _ _ Fy0
        have Gy1 := cell_below hB.out _ _ Fy1
        have Gy2 := cell_below hB.out _ _ Fy2
        have Gy3 := cell_below hB.out _ _ Fy3
        have Gy4 := cell_below hB.out _ _ Fy4
        have Gy5 := cell_below hB.out _ _ Fy5
        have Gp0 := cell_below hB.out _ _ Fp0
        have Gp1 := cell_below hB.out _ _ Fp1
        have hbp : Below wr.heap.size wr (wr.alloc (.cells #[.slice (some ⟨w.heap.size + 1 + 1, 0, none⟩) 1 1, .slice (some ⟨w.heap.size + 1 + 1 + 1, 0, none⟩) 1 1] 97)) := (Below.refl _ _).alloc (Nat.le_refl _) _
        have Hq0 : (wr.alloc (.cells #[.slice (some ⟨w.heap.size + 1 + 1, 0, none⟩) 1 1, .slice (some ⟨w.heap.size + 1 + 1 + 1, 0, none⟩) 1 1] 97)).cell? ⟨wr.heap.size, 0, none⟩ = some (.slice (some ⟨w.heap.size + 1 + 1, 0, none⟩) 1 1) := by simp
        have Hq1 : (wr.alloc (.cells #[.slice (some ⟨w.heap.size + 1 + 1, 0, none⟩) 1 1, .slice (some ⟨w.heap.size + 1 + 1 + 1, 0, none⟩) 1 1] 97)).cell? ⟨wr.heap.size, 1, none⟩ = some (.slice (some ⟨w.heap.size + 1 + 1 + 1, 0, none⟩) 1 1) := by simp
        have Hx0 := cell_below hbp _ _ Gx0
        have Hx1 := cell_below hbp _ _ Gx1
        have Hx2 := cell_below hbp _ _ Gx2
        have Hx3 := cell_below hbp _ _ Gx3
        have Hx4 := cell_below hbp _ _ Gx4
        have Hx5 := cell_below hbp _ _ Gx5
        have Hy0 := cell_below hbp _ _ Gy0
        have Hy1 := cell_below hbp _ _ Gy1
        have Hy2 := cell_below hbp _ _ Gy2
        have Hy3 := cell_below hbp _ _ Gy3
        have Hy4 := cell_below hbp _ _ Gy4
        have Hy5 := cell_below hbp _ _ Gy5
        have Hp0 := cell_below hbp _ _ Gp0
        have Hp1 := cell_below hbp _ _ Gp1
        have HBP := Lib.hid (hBw.trans (hbp.mono hBw.size))
        have HB9 := Lib.hid (hB.out.trans (hbp.mono hB.out.size))
        clear hbp hBw hB
        go_wp2_with fail
        generalize (wr.alloc (.cells #[.slice (some ⟨w.heap.size + 1 + 1, 0, none⟩) 1 1, .slice (some ⟨w.heap.size + 1 + 1 + 1, 0, none⟩) 1 1] 97)) = wp at *
        go_loopw [5, 33] (fun lv i w6 => lv = .slice (some ⟨w.heap.size + 1 + 1 + 1 + 1, 0, none⟩) 0 1 ∧ (i = .int .i64 0 ∨ (i = .int .i64 1 ∧ Hid (true = true))) ∧ Hid (Below wp.heap.size wp w6)) (fun _ i _ => 1 - (intOf i).toNat)
        case atStart => exact ⟨rfl, .inl rfl, Lib.hid (Below.refl _ _)⟩
        case round =>
          obtain ⟨rfl, hi, hB6⟩ := hrel
          rcases hi with rfl | ⟨rfl, hR⟩
          · have hBw6 := HBP.out.trans (hB6.out.mono HBP.out.size)
            have Kx0 := cell_below hB6.out _ _ Hx0
            have Kx1 := cell_below hB6.out _ _ Hx1
            have Kx2 := cell_below hB6.out _ _ Hx2
            have Kx3 := cell_below hB6.out _ _ Hx3
            have Kx4 := cell_below hB6.out _ _ Hx4
            have Kx5 := cell_below hB6.out _ _ Hx5
            have Ky0 := cell_below hB6.out _ _ Hy0
            have Ky1 := cell_below hB6.out _ _ Hy1
            have Ky2 := cell_below hB6.out _ _ Hy2
            have Ky3 := cell_below hB6.out _ _ Hy3
            have Ky4 := cell_below hB6.out _ _ Hy4
            have Ky5 := cell_below hB6.out _ _ Hy5
            have Kp0 := cell_below hB6.out _ _ Hp0
            have Kp1 := cell_below hB6.out _ _ Hp1
            have Kq0 := cell_below hB6.out _ _ Hq0
            have Kq1 := cell_below hB6.out _ _ Hq1
            have hbA : Below wr.heap.size wr (wr.alloc (.cells #[.int .i8 k, .bool b, .int .i64 n, .string s, .slice o 0 c, .slice o2 m2 c2] 33)) := (Below.refl _ _).alloc (Nat.le_refl _) _
            have Mq1 := cell_below hbA _ _ Kq1
            have My0 := cell_below hbA _ _ Ky0
            have My1 := cell_below hbA _ _ Ky1
            have My2 := cell_below hbA _ _ Ky2
            have My3 := cell_below hbA _ _ Ky3
            have My4 := cell_below hbA _ _ Ky4
            have My5 := cell_below hbA _ _ Ky5
            clear hbA
            have hcl : ∀ w8, Below ((wr.alloc (.cells #[.int .i8 k, .bool b, .int .i64 n, .string s, .slice o 0 c, .slice o2 m2 c2] 33)).alloc (.cells #[.int .i8 k', .bool b', .int .i64 n', .string s', .slice o' 0 c', .slice o2' m2' c2'] 33)).heap.size ((wr.alloc (.cells #[.int .i8 k, .bool b, .int .i64 n, .string s, .slice o 0 c, .slice o2 m2 c2] 33)).alloc (.cells #[.int .i8 k', .bool b', .int .i64 n', .string s', .slice o' 0 c', .slice o2' m2' c2'] 33)) w8 → w8.cell? ⟨wr.heap.size, 4, none⟩ = some (.slice o 0 c) ∧ w8.cell? ⟨wr.heap.size + 1, 4, none⟩ = some (.slice o' 0 c') := fun w8 h8 => ⟨cell_below h8 _ _ (by simp), cell_below h8 _ _ (by simp)⟩
            have HCL := Lib.hid hcl
            have hb67 : Below wr.heap.size wr ((wr.alloc (.cells #[.int .i8 k, .bool b, .int .i64 n, .string s, .slice o 0 c, .slice o2 m2 c2] 33)).alloc (.cells #[.int .i8 k', .bool b', .int .i64 n', .string s', .slice o' 0 c', .slice o2' m2' c2'] 33)) := ((Below.refl _ _).alloc (Nat.le_refl _) _).alloc (by simp) _
            have HB67 := Lib.hid hb67
            have HX := Lib.hid (HBUT.out _ (hBw6.trans (hb67.mono hBw6.size)))
            clear hcl hb67
            go_wp2_with (go_at_call 80; refine HX.out.mono ?_; rintro e w8 ⟨rfl, hb8⟩; obtain ⟨m1, m2'⟩ := HCL.out _ hb8)
            go_wp2_with (go_at_call 81; refine (HONE.out _).mono ?_; rintro e w9 ⟨rfl, hb9⟩)
            go_roundw
            case rel => exact ⟨rfl, .inr ⟨rfl, Lib.hid (by simp)⟩, Lib.hid (hB6.out.trans ((HB67.out.trans ((hb8.trans (hb9.mono hb8.size)).mono HB67.out.size)).mono hB6.out.size))⟩
            case measure => simp [intOf]
          · go_wp2_with fail
            go_roundg 0
            case measure => omega
            case rel => exact .inr ⟨rfl, rfl, Lib.hid (by simp), Lib.hid (HB9.out.trans (hB6.out.mono HB9.out.size))⟩
      · go_wp2_with fail
        go_ret
        exact ⟨rfl, HB5.out.trans (hB.out.mono HB5.out.size)⟩
  | false =>
    clear hbz
    go_enter Tryz.func71, Tryz.ntmps71
    go_wp2_with fail
    generalize (((((w.alloc (.cells #[.int .i8 k, .bool b, .int .i64 n, .string s, .slice o m c, .slice o2 m2 c2] 33)).alloc (.cells #[.int .i8 k', .bool b', .int .i64 n', .string s', .slice o' 0 c', .slice o2' m2' c2'] 33)).alloc (.cells #[.int .i8 k, .bool b, .int .i64 n, .string s, .slice o m c, .slice o2 m2 c2] 33)).alloc (.cells #[.int .i8 k', .bool b', .int .i64 n', .string s', .slice o' 0 c', .slice o2' m2' c2'] 33)).alloc (.cells #[.slice (some ⟨w.heap.size + 1 + 1, 0, none⟩) 1 1, .slice (some ⟨w.heap.size + 1 + 1 + 1, 0, none⟩) 1 1] 97)) = W5 at *
    go_loopg [5] 1 (fun g lv wr => (g = 1 ∧ lv = .slice (some ⟨w.heap.size + 1 + 1 + 1 + 1, 0, none⟩) 1 1 ∧ Hid (Below W5.heap.size W5 wr)) ∨ (g = 0 ∧ lv = .slice (some ⟨w.heap.size + 1 + 1 + 1 + 1, 0, none⟩) 0 1 ∧ Hid (false = true) ∧ Hid (Below W5.heap.size W5 wr)))
    case atStart => exact .inl ⟨rfl, rfl, Lib.hid (Below.refl _ _)⟩
    case round =>
      rcases hrel with ⟨rfl, rfl, hB⟩ | ⟨rfl, rfl, hR, hB⟩
      · have hBw := HB5.out.trans (hB.out.mono HB5.out.size)
        have Gx0 := cell_below hB.out _ _ Fx0
        have Gx1 := cell_below hB.out _ _ Fx1
        have Gx2 := cell_below hB.out _ _ Fx2
        have Gx3 := cell_below hB.out _ _ Fx3
        have Gx4 := cell_below hB.out _ _ Fx4
        have Gx5 := cell_below hB.out _ _ Fx5
        have Gy0 := cell_below hB.out _ _ Fy0
        have Gy1 := cell_below hB.out _ _ Fy1
        have Gy2 := cell_below hB.out _ _ Fy2
        have Gy3 := cell_below hB.out _ _ Fy3
        have Gy4 := cell_below hB.out _ _ Fy4
        have Gy5 := cell_below hB.out _ _ Fy5
        have Gp0 := cell_below hB.out _ _ Fp0
        have Gp1 := cell_below hB.out _ _ Fp1
        have hbp : Below wr.heap.size wr (wr.alloc (.cells #[.slice (some ⟨w.heap.size + 1 + 1, 0, none⟩) 1 1, .slice (some ⟨w.heap.size + 1 + 1 + 1, 0, none⟩) 1 1] 97)) := (Below.refl _ _).alloc (Nat.le_refl _) _
        have Hq0 : (wr.alloc (.cells #[.slice (some ⟨w.heap.size + 1 + 1, 0, none⟩) 1 1, .slice (some ⟨w.heap.size + 1 + 1 + 1, 0, none⟩) 1 1] 97)).cell? ⟨wr.heap.size, 0, none⟩ = some (.slice (some ⟨w.heap.size + 1 + 1, 0, none⟩) 1 1) := by simp
        have Hq1 : (wr.alloc (.cells #[.slice (some ⟨w.heap.size + 1 + 1, 0, none⟩) 1 1, .slice (some ⟨w.heap.size + 1 + 1 + 1, 0, none⟩) 1 1] 97)).cell? ⟨wr.heap.size, 1, none⟩ = some (.slice (some ⟨w.heap.size + 1 + 1 + 1, 0, none⟩) 1 1) := by simp
        have Hx0 := cell_below hbp _ _ Gx0
        have Hx1 := cell_below hbp _ _ Gx1
        have Hx2 := cell_below hbp _ _ Gx2
        have Hx3 := cell_below hbp _ _ Gx3
        have Hx4 := cell_below hbp _ _ Gx4
        have Hx5 := cell_below hbp _ _ Gx5
        have Hy0 := cell_below hbp _ _ Gy0
        have Hy1 := cell_below hbp _ _ Gy1
        have Hy2 := cell_below hbp _ _ Gy2
        have Hy3 := cell_below hbp _ _ Gy3
        have Hy4 := cell_below hbp _ _ Gy4
        have Hy5 := cell_below hbp _ _ Gy5
        have Hp0 := cell_below hbp _ _ Gp0
        have Hp1 := cell_below hbp _ _ Gp1
        have HBP := Lib.hid (hBw.trans (hbp.mono hBw.size))
        have HB9 := Lib.hid (hB.out.trans (hbp.mono hB.out.size))
        clear hbp hBw hB
        go_wp2_with fail
        generalize (wr.alloc (.cells #[.slice (some ⟨w.heap.size + 1 + 1, 0, none⟩) 1 1, .slice (some ⟨w.heap.size + 1 + 1 + 1, 0, none⟩) 1 1] 97)) = wp at *
        go_loopw [5, 33] (fun lv i w6 => lv = .slice (some ⟨w.heap.size + 1 + 1 + 1 + 1, 0, none⟩) 0 1 ∧ (i = .int .i64 0 ∨ (i = .int .i64 1 ∧ Hid (false = true))) ∧ Hid (Below wp.heap.size wp w6)) (fun _ i _ => 1 - (intOf i).toNat)
        case atStart => exact ⟨rfl, .inl rfl, Lib.hid (Below.refl _ _)⟩
        case round =>
          obtain ⟨rfl, hi, hB6⟩ := hrel
          rcases hi with rfl | ⟨rfl, hR⟩
          · have hBw6 := HBP.out.trans (hB6.out.mono HBP.out.size)
            have Kx0 := cell_below hB6.out _ _ Hx0
            have Kx1 := cell_below hB6.out _ _ Hx1
            have Kx2 := cell_below hB6.out _ _ Hx2
            have Kx3 := cell_below hB6.out _ _ Hx3
            have Kx4 := cell_below hB6.out _ _ Hx4
            have Kx5 := cell_below hB6.out _ _ Hx5
            have Ky0 := cell_below hB6.out _ _ Hy0
            have Ky1 := cell_below hB6.out _ _ Hy1
            have Ky2 := cell_below hB6.out _ _ Hy2
            have Ky3 := cell_below hB6.out _ _ Hy3
            have Ky4 := cell_below hB6.out _ _ Hy4
            have Ky5 := cell_below hB6.out _ _ Hy5
            have Kp0 := cell_below hB6.out _ _ Hp0
            have Kp1 := cell_below hB6.out _ _ Hp1
            have Kq0 := cell_below hB6.out _ _ Hq0
            have Kq1 := cell_below hB6.out _ _ Hq1
            have hbA : Below wr.heap.size wr (wr.alloc (.cells #[.int .i8 k, .bool b, .int .i64 n, .string s, .slice o m c, .slice o2 m2 c2] 33)) := (Below.refl _ _).alloc (Nat.le_refl _) _
            have Mq1 := cell_below hbA _ _ Kq1
            have My0 := cell_below hbA _ _ Ky0
            have My1 := cell_below hbA _ _ Ky1
            have My2 := cell_below hbA _ _ Ky2
            have My3 := cell_below hbA _ _ Ky3
            have My4 := cell_below hbA _ _ Ky4
            have My5 := cell_below hbA _ _ Ky5
            clear hbA
            have hcl : ∀ w8, Below ((wr.alloc (.cells #[.int .i8 k, .bool b, .int .i64 n, .string s, .slice o m c, .slice o2 m2 c2] 33)).alloc (.cells #[.int .i8 k', .bool b', .int .i64 n', .string s', .slice o' 0 c', .slice o2' m2' c2'] 33)).heap.size ((wr.alloc (.cells #[.int .i8 k, .bool b, .int .i64 n, .string s, .slice o m c, .slice o2 m2 c2] 33)).alloc (.cells #[.int .i8 k', .bool b', .int .i64 n', .string s', .slice o' 0 c', .slice o2' m2' c2'] 33)) w8 → w8.cell? ⟨wr.heap.size, 4, none⟩ = some (.slice o m c) ∧ w8.cell? ⟨wr.heap.size + 1, 4, none⟩ = some (.slice o' 0 c') := fun w8 h8 => ⟨cell_below h8 _ _ (by simp), cell_below h8 _ _ (by simp)⟩
            have HCL := Lib.hid hcl
            have hb67 : Below wr.heap.size wr ((wr.alloc (.cells #[.int .i8 k, .bool b, .int .i64 n, .string s, .slice o m c, .slice o2 m2 c2] 33)).alloc (.cells #[.int .i8 k', .bool b', .int .i64 n', .string s', .slice o' 0 c', .slice o2' m2' c2'] 33)) := ((Below.refl _ _).alloc (Nat.le_refl _) _).alloc (by simp) _
            have HB67 := Lib.hid hb67
            have HX := Lib.hid (HBUT.out _ (hBw6.trans (hb67.mono hBw6.size)))
            clear hcl hb67
            go_wp2_with (go_at_call 80; refine HX.out.mono ?_; rintro e w8 ⟨rfl, hb8⟩; obtain ⟨m1, m2'⟩ := HCL.out _ hb8)
            go_ret
            exact ⟨rfl, hBw6.trans ((HB67.out.trans (hb8.mono HB67.out.size)).mono hBw6.size)⟩
          · cases hR.out
      · cases hR.out
end Go.Proofs.YtlamkadllbgamaaGreatDoor

namespace Go.Proofs.YtlamkadllbgamaaGreatDoor
open Go.RowKit Go.Maps Go.ChangeMaps Go.WideMaps

theorem isV_zero (W : World) : isV W zV (.agg #[.int .i8 0, .bool false, .int .i64 0, .string ⟨#[]⟩, .slice none 0 0, .slice none 0 0]) := by
  unfold zV isV
  refine ⟨_, _, rfl, by omega, by omega, by unfold maxLen; simp [ByteArray.size], ⟨⟨0, 0, none⟩, 0, ⟨none, rfl, Nat.le_refl _, by unfold maxLen; omega, fun h => by simp at h⟩, ?_⟩, ⟨⟨0, 0, none⟩, 0, ⟨none, rfl, Nat.le_refl _, by unfold maxLen; omega, fun h => by simp at h⟩, fun i h => by simp at h⟩⟩
  unfold isVs
  trivial
noncomputable def mayB (g : G) (q : Int) : Bool := if g.unk then (!decide (q = 2)) && sm g.v zV else holdsB g.v q

theorem isG_eight {W : World} {g : G} {v : Value} (h : isG W g v) : ∃ (k : Int) (b : Bool) (n : Int) (s : ByteArray) (o : Option Addr) (m c : Nat) (o2 : Option Addr) (m2 c2 : Nat), v = .agg #[.string g.nm, .bool g.unk, .int .i8 k, .bool b, .int .i64 n, .string s, .slice o m c, .slice o2 m2 c2] ∧ isV W g.v (.agg #[.int .i8 k, .bool b, .int .i64 n, .string s, .slice o m c, .slice o2 m2 c2]) := by
  obtain ⟨c0, c1, c2, c3, c4, c5, rfl, h2, h3⟩ := h
  obtain ⟨k, b, n, s, o, m, c, o2, m2, c2, e⟩ := isV_six h2
  simp only [Value.agg.injEq, Array.mk.injEq, List.cons.injEq, and_true] at e
  obtain ⟨rfl, rfl, rfl, rfl, rfl, rfl⟩ := e
  exact ⟨k, b, n, s, o, m, c, o2, m2, c2, rfl, h2⟩

end Go.Proofs.YtlamkadllbgamaaGreatDoor
