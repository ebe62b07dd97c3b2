/-
  Properties that are given, as they read; which values may be: the program's holds. · The program's holds at any kind: a list's parts are looked at one by one. · Are two values the same, but for what their lists hold? Are two lists one?
-/
import Derived.Test.YtdckldfekepopaaGreatDoorZR
import Derived.Test.YtdckldfekepopaaGreatDoorZQ
set_option linter.unusedVariables false
set_option linter.unusedSimpArgs false
namespace Go.Proofs.YtdckldfekepopaaGreatDoor
open Go.RowKit

/-- A property that is given. -/
structure G where
  nm : ByteArray
  unk : Bool
  v : V
def isG (W : World) (g : G) (v : Value) : Prop := ∃ c0 c1 c2 c3 c4 c5, v = .agg #[.string g.nm, .bool g.unk, c0, c1, c2, c3, c4, c5] ∧ isV W g.v (.agg #[c0, c1, c2, c3, c4, c5]) ∧ g.nm.size ≤ maxLen
/-- .. at an address. -/
def isGat (W : World) (g : G) (a : Addr) : Prop := ∃ c0 c1 c2 c3 c4 c5, W.cell? a = some (.string g.nm) ∧ W.cell? ⟨a.block, a.off + 1, none⟩ = some (.bool g.unk) ∧
  W.cell? ⟨a.block, a.off + 2, none⟩ = some c0 ∧ W.cell? ⟨a.block, a.off + 3, none⟩ = some c1 ∧ W.cell? ⟨a.block, a.off + 4, none⟩ = some c2 ∧ W.cell? ⟨a.block, a.off + 5, none⟩ = some c3 ∧ W.cell? ⟨a.block, a.off + 6, none⟩ = some c4 ∧ W.cell? ⟨a.block, a.off + 7, none⟩ = some c5 ∧
  isV W g.v (.agg #[c0, c1, c2, c3, c4, c5]) ∧ g.nm.size ≤ maxLen
def isGs (W : World) (L : List G) (v : Value) : Prop := ∃ a cap, slv v L.length a cap ∧ ∀ i (h : i < L.length), isGat W L[i] (a.add (i * 8))
theorem isG_below {W W' : World} (hb : Below W.heap.size W W') {g : G} {v : Value} (h : isG W g v) : isG W' g v := by
  obtain ⟨c0, c1, c2, c3, c4, c5, h1, h2, h3⟩ := h
  exact ⟨c0, c1, c2, c3, c4, c5, h1, isV_below hb h2, h3⟩
theorem isGat_below {W W' : World} (hb : Below W.heap.size W W') {g : G} {a : Addr} (h : isGat W g a) : isGat W' g a := by
  obtain ⟨c0, c1, c2, c3, c4, c5, g0, g1, g2, g3, g4, g5, g6, g7, h2, h3⟩ := h
  have k := cell_below hb
  exact ⟨c0, c1, c2, c3, c4, c5, k _ _ g0, k _ _ g1, k _ _ g2, k _ _ g3, k _ _ g4, k _ _ g5, k _ _ g6, k _ _ g7, isV_below hb h2, h3⟩
theorem isGs_below {W W' : World} (hb : Below W.heap.size W W') {L : List G} {v : Value} (h : isGs W L v) : isGs W' L v := by
  obtain ⟨a, cap, h1, h2⟩ := h
  exact ⟨a, cap, h1, fun i hi => isGat_below hb (h2 i hi)⟩

/-- The package's variables hold utf8's two tables, and the rows. -/
def Env9 (w : World) : Prop := Env w ∧ RowsE w
theorem Env9.kb {w w' : World} (h : Env9 w) (hb : Below w.heap.size w w') : Env9 w' := ⟨h.1.kb hb, h.2.below hb (by have := h.1.1; omega)⟩

def wordB (s : ByteArray) : Bool := decide (s.size ≤ 64) && validS s
noncomputable def leafB (u : V) : Bool := decide (u.kind = 3) && decide (pcheckV u = 0) && wordB u.text
noncomputable def holdsB (x : V) (q : Int) : Bool := decide (x.kind = q) && decide (pcheckV x = 0) && (if q = 3 then wordB x.text else if q = 4 then decide (x.list.length ≤ 8) && x.list.all leafB else true)

set_option maxHeartbeats 1000000 in
theorem Word_any (s : ByteArray) (hs : s.size ≤ maxLen) (w : World) (hE : Env w) : Calls Tryz.prog 105 #[.string s] w fun e w' => e = .returned (.bool (wordB s)) ∧ Below w.heap.size w w' := by
  have HV := Lib.hid (valid_any s hs w hE)
  unfold wordB
  generalize validS s = r at *
  unfold maxLen at hs
  clear hE
  by_cases h : s.size ≤ 64
  · rw [decide_eq_true h, Bool.true_and]
    have h' : decide ((s.size : Int) ≤ 64) = true := decide_eq_true (by omega)
    go_enter Tryz.func105, Tryz.ntmps105
    go_wp2_with (go_at_call 116; refine HV.out.mono ?_; rintro e w5 ⟨rfl, hb5⟩)
    go_ret
    exact ⟨rfl, hb5⟩
  · rw [decide_eq_false h, Bool.false_and]
    have h' : decide ((s.size : Int) ≤ 64) = false := decide_eq_false (by omega)
    go_enter Tryz.func105, Tryz.ntmps105
    go_wp2_with fail
    go_ret
    exact ⟨rfl, Below.refl _ _⟩

theorem isV_parts {W : World} {x : V} {k n : Int} {b : Bool} {s : ByteArray} {o : Option Addr} {m c : Nat} {d : Value} (h : isV W x (.agg #[.int .i8 k, .bool b, .int .i64 n, .string s, .slice o m c, d])) :
    x.kind = k ∧ x.text = s ∧ s.size ≤ maxLen ∧ ∃ a, slv (.slice o m c) x.list.length a c ∧ m = x.list.length ∧ isVs W x.list a := by
  obtain ⟨k', b', n', s', l, ks⟩ := x
  unfold isV at h
  obtain ⟨lv, kv, e, _, _, h4, ⟨a, cap, h5, h6⟩, _⟩ := h
  simp only [Value.agg.injEq, Array.mk.injEq, List.cons.injEq, Value.int.injEq, Value.string.injEq, true_and, and_true] at e
  obtain ⟨rfl, _, _, rfl, rfl, rfl⟩ := e
  have hh := h5
  obtain ⟨o', e, _⟩ := h5
  simp only [Value.slice.injEq] at e
  obtain ⟨rfl, rfl, rfl⟩ := e
  exact ⟨rfl, rfl, h4, a, hh, rfl, h6⟩

set_option maxRecDepth 100000 in
set_option maxHeartbeats 4000000 in
/-- holds of a text. -/
theorem holdsT_any (x : V) (v : Value) (w : World) (hE : Env w) (hM : sizeV x ≤ 1000000) (hF : fineV x) (h : isV w x v) :
    Calls Tryz.prog 96 #[v, .int .i8 3] w fun e w' => e = .returned (.bool (leafB x)) ∧ Below w.heap.size w w' := by
  obtain ⟨k, b, n, s, o, m, c, o2, m2, c2, rfl⟩ := isV_six h
  obtain ⟨hk, ht, hs, _⟩ := isV_parts h
  have HB0 : Hid (KB w (w.alloc (.cells #[.int .i8 k, .bool b, .int .i64 n, .string s, .slice o m c, .slice o2 m2 c2] 64))) := Lib.hid kbA
  have P2 : Hid (∀ w1, KB (w.alloc (.cells #[.int .i8 k, .bool b, .int .i64 n, .string s, .slice o m c, .slice o2 m2 c2] 64)) w1 → Calls Tryz.prog 104 #[.agg #[.int .i8 k, .bool b, .int .i64 n, .string s, .slice o m c, .slice o2 m2 c2]] w1 fun e w' => e = .returned (.int .i64 (pcheckV x)) ∧ KB (w.alloc (.cells #[.int .i8 k, .bool b, .int .i64 n, .string s, .slice o m c, .slice o2 m2 c2] 64)) w') := Lib.hid fun w1 hK => Calls.kb hK (pcheck_any x _ w1 ((hE.kb kbA).kb hK) hM hF (isV_below hK (isV_below kbA h)))
  have PW : Hid (∀ w1, KB (w.alloc (.cells #[.int .i8 k, .bool b, .int .i64 n, .string s, .slice o m c, .slice o2 m2 c2] 64)) w1 → Calls Tryz.prog 105 #[.string s] w1 fun e w' => e = .returned (.bool (wordB s)) ∧ KB (w.alloc (.cells #[.int .i8 k, .bool b, .int .i64 n, .string s, .slice o m c, .slice o2 m2 c2] 64)) w') := Lib.hid fun w1 hK => Calls.kb hK (Word_any s hs w1 ((hE.kb kbA).kb hK))
  have HC : Hid (∀ w1, KB (w.alloc (.cells #[.int .i8 k, .bool b, .int .i64 n, .string s, .slice o m c, .slice o2 m2 c2] 64)) w1 → w1.cell? ⟨w.heap.size, 3, none⟩ = some (.string s)) := Lib.hid fun w1 hK => cell_below hK _ _ (by simp)
  unfold leafB
  rw [hk, ht]
  generalize pcheckV x = C at *
  generalize wordB s = R at *
  clear h hE hM hF hk ht
  by_cases h3 : k = 3
  · subst h3
    rw [decide_eq_true rfl, Bool.true_and]
    by_cases hC : C = 0
    · subst hC
      rw [decide_eq_true rfl, Bool.true_and]
      go_enter Tryz.func96, Tryz.ntmps96
      go_wp2_with (go_at_call 104; refine (P2.out _ (Below.refl _ _)).mono ?_; rintro e w5 ⟨rfl, hb5⟩; have m3 := HC.out w5 hb5)
      go_wp2_with (go_at_call 105; refine (PW.out _ hb5).mono ?_; rintro e w6 ⟨rfl, hb6⟩)
      go_ret
      exact ⟨rfl, HB0.out.trans (hb6.mono HB0.out.size)⟩
    · rw [decide_eq_false hC, Bool.false_and]
      have z1 : (C == 0) = false := beqI hC
      have z2 : (C != 0) = true := bne_iff_ne.2 hC
      go_enter Tryz.func96, Tryz.ntmps96
      go_wp2_with (go_at_call 104; refine (P2.out _ (Below.refl _ _)).mono ?_; rintro e w5 ⟨rfl, hb5⟩; have m3 := HC.out w5 hb5)
      go_wp2_with fail
      go_ret
      exact ⟨rfl, HB0.out.trans (hb5.mono HB0.out.size)⟩
  · rw [decide_eq_false h3, Bool.false_and]
    have z1 : (k == 3) = false := beqI h3
    have z2 : (k != 3) = true := bne_iff_ne.2 h3
    go_enter Tryz.func96, Tryz.ntmps96
    go_wp2_with fail
    go_ret
    exact ⟨rfl, HB0.out⟩
end Go.Proofs.YtdckldfekepopaaGreatDoor

namespace Go.Proofs.YtdckldfekepopaaGreatDoor
open Go.RowKit

set_option maxRecDepth 100000 in
set_option maxHeartbeats 4000000 in
theorem noWord_any (x : V) (v : Value) (w : World) (hE : Env w) (hM : sizeV x ≤ 1000000) (hF : fineV x) (h : isV w x v) :
    Calls Tryz.prog 107 #[v] w fun e w' => e = .returned (.bool (!leafB x)) ∧ Below w.heap.size w w' := by
  obtain ⟨k, b, n, s, o, m, c, o2, m2, c2, rfl⟩ := isV_six h
  have HB0 : Hid (KB w (w.alloc (.cells #[.int .i8 k, .bool b, .int .i64 n, .string s, .slice o m c, .slice o2 m2 c2] 64))) := Lib.hid kbA
  have P2 : Hid (Calls Tryz.prog 96 #[.agg #[.int .i8 k, .bool b, .int .i64 n, .string s, .slice o m c, .slice o2 m2 c2], .int .i8 3] (w.alloc (.cells #[.int .i8 k, .bool b, .int .i64 n, .string s, .slice o m c, .slice o2 m2 c2] 64)) fun e w' => e = .returned (.bool (leafB x)) ∧ KB (w.alloc (.cells #[.int .i8 k, .bool b, .int .i64 n, .string s, .slice o m c, .slice o2 m2 c2] 64)) w') := Lib.hid (holdsT_any x _ _ (hE.kb kbA) hM hF (isV_below kbA h))
  generalize leafB x = r at *
  clear h hE hM hF
  go_enter Tryz.func107, Tryz.ntmps107
  go_wp2_with (go_at_call 96; refine P2.out.mono ?_; rintro e w5 ⟨rfl, hb5⟩)
  go_ret
  exact ⟨rfl, HB0.out.trans (hb5.mono HB0.out.size)⟩

set_option maxRecDepth 100000 in
set_option maxHeartbeats 4000000 in
/-- slices.IndexFunc of the parts: is there one that is no word? -/
theorem idxV_any (l : List V) (a : Addr) (o : Option Addr) (cap : Nat) (w : World) (hE : Env w) (hl : l.length ≤ 1000000) (hP : ∀ u ∈ l, sizeV u ≤ 1000000 ∧ fineV u) (h : slv (.slice o l.length cap) l.length a cap) (hs : isVs w l a) :
    Calls Tryz.prog 117 #[.slice o l.length cap, .func (.func 107) #[] #[]] w fun e w' => (∃ i : Int, e = .returned (.int .i64 i) ∧ decide (0 ≤ i) = !(l.all leafB)) ∧ Below w.heap.size w w' := by
  obtain ⟨o', e, hc1, hc2, ho⟩ := h
  simp only [Value.slice.injEq, and_true] at e
  obtain rfl := e
  unfold maxLen at hc2
  have HK := Lib.hid hs
  have HE := Lib.hid hE
  have HP := Lib.hid hP
  obtain ⟨r, hr⟩ : ∃ r, (!(l.all leafB)) = r := ⟨_, rfl⟩
  rw [hr]
  have HR := Lib.hid hr
  have ef : ∀ args w, (callFunc 107 args).run Tryz.prog w = .ok (.enter 107 args) w := enters_of Tryz.func107 (by kernel_rfl) rfl
  clear hs hr hE hP
  go_enter Tryz.func117, Tryz.ntmps117
  go_wp2_with fail
  go_loopw [8] (fun i wr => ∃ (j : Nat), j ≤ l.length ∧ i = .int .i64 j ∧ Hid ((l.take j).all leafB = true) ∧ Hid (Below w.heap.size w wr)) (fun i _ => l.length - (intOf i).toNat)
  case atStart => exact ⟨0, by omega, rfl, Lib.hid rfl, Lib.hid (Below.refl _ _)⟩
  case round =>
    obtain ⟨j, hj, rfl, hA, hB⟩ := hrel
    by_cases hlt : j < l.length
    · obtain rfl := ho (by omega)
      obtain ⟨c0, c1, c2, c3, c4, c5, q0, q1, q2, q3, q4, q5, hx⟩ := isVs_at l a j hlt (isVs_keep (cell_below hB.out) l a HK.out)
      have hp := HP.out l[j] (List.getElem_mem hlt)
      have HN := Lib.hid (noWord_any l[j] _ wr (HE.out.below hB.out HE.out.1) hp.1 hp.2 hx)
      clear hx hp
      cases hv : leafB l[j] with
      | false =>
        rw [hv] at HN
        have hr2 : r = true := by
          rw [← HR.out]
          have : l.all leafB = false := by
            rw [Bool.eq_false_iff]
            intro h
            have := List.all_eq_true.1 h _ (List.getElem_mem hlt)
            rw [hv] at this; cases this
          rw [this]; rfl
        have HR2 := Lib.hid hr2
        clear hr2 hv
        go_wp2_with (go_at_fn 107; refine HN.out.mono ?_; rintro e w5 ⟨rfl, hb5⟩)
        go_ret
        exact ⟨⟨_, rfl, by rw [HR2.out, decide_eq_true]; omega⟩, hB.out.trans (hb5.mono hB.out.size)⟩
      | true =>
        rw [hv] at HN
        have HA : Hid ((l.take (j + 1)).all leafB = true) := Lib.hid (by rw [List.take_succ_eq_append_getElem hlt, List.all_append, hA.out]; simp [hv])
        clear hv
        go_wp2_with (go_at_fn 107; refine HN.out.mono ?_; rintro e w5 ⟨rfl, hb5⟩)
        go_roundw
        case rel => exact ⟨j + 1, by omega, by go_num, HA, Lib.hid (hB.out.trans (hb5.mono hB.out.size))⟩
        case measure => simp [intOf]; omega
    · obtain rfl : j = l.length := by omega
      have HRES : Hid (r = false) := Lib.hid (by
        have := hA.out
        rw [List.take_of_length_le (Nat.le_refl _)] at this
        rw [← HR.out, this]; rfl)
      go_wp2_with fail
      go_ret
      exact ⟨⟨_, rfl, by rw [HRES.out]; rfl⟩, hB.out⟩

set_option maxHeartbeats 1000000 in
theorem contV_any (l : List V) (a : Addr) (o : Option Addr) (cap : Nat) (w : World) (hE : Env w) (hl : l.length ≤ 1000000) (hP : ∀ u ∈ l, sizeV u ≤ 1000000 ∧ fineV u) (h : slv (.slice o l.length cap) l.length a cap) (hs : isVs w l a) :
    Calls Tryz.prog 106 #[.slice o l.length cap, .func (.func 107) #[] #[]] w fun e w' => e = .returned (.bool (!(l.all leafB))) ∧ Below w.heap.size w w' := by
  have HI := Lib.hid (idxV_any l a o cap w hE hl hP h hs)
  generalize (!(l.all leafB)) = r at *
  clear hE hP h hs
  go_enter Tryz.func106, Tryz.ntmps106
  go_wp2_with (go_at_call 117; refine HI.out.mono ?_; rintro e w5 ⟨⟨i, rfl, hi⟩, hb5⟩)
  go_ret
  exact ⟨ret_bool (by rw [← hi]), hb5⟩

theorem size_in {x u : V} (h : u ∈ x.list) : sizeV u ≤ sizeV x := by
  obtain ⟨j, hj, rfl⟩ := List.getElem_of_mem h
  have := sizeVs_get x.list j hj
  obtain ⟨k, b, n, s, l, ks⟩ := x
  simp only [sizeV, V.list] at *
  omega
theorem fine_in {x u : V} (h : u ∈ x.list) (hF : fineV x) : fineV u := fun y hy => hF y (part_in h y hy)

set_option maxRecDepth 100000 in
set_option maxHeartbeats 4000000 in
/-- holds. -/
theorem holds_any (x : V) (q : Int) (hq : q = 2 ∨ q = 3 ∨ q = 4) (v : Value) (w : World) (hE : Env w) (hM : sizeV x ≤ 1000000) (hF : fineV x) (h : isV w x v) :
    Calls Tryz.prog 96 #[v, .int .i8 q] w fun e w' => e = .returned (.bool (holdsB x q)) ∧ Below w.heap.size w w' := by
  by_cases hq3 : q = 3
  · subst hq3
    exact holdsT_any x v w hE hM hF h
  obtain ⟨k, b, n, s, o, m, c, o2, m2, c2, rfl⟩ := isV_six h
  obtain ⟨hk, ht, hs, a, hsl, rfl, hvs⟩ := isV_parts h
  have HB0 : Hid (KB w (w.alloc (.cells #[.int .i8 k, .bool b, .int .i64 n, .string s, .slice o x.list.length c, .slice o2 m2 c2] 64))) := Lib.hid kbA
  have P2 : Hid (∀ w1, KB (w.alloc (.cells #[.int .i8 k, .bool b, .int .i64 n, .string s, .slice o x.list.length c, .slice o2 m2 c2] 64)) w1 → Calls Tryz.prog 104 #[.agg #[.int .i8 k, .bool b, .int .i64 n, .string s, .slice o x.list.length c, .slice o2 m2 c2]] w1 fun e w' => e = .returned (.int .i64 (pcheckV x)) ∧ KB (w.alloc (.cells #[.int .i8 k, .bool b, .int .i64 n, .string s, .slice o x.list.length c, .slice o2 m2 c2] 64)) w') := Lib.hid fun w1 hK => Calls.kb hK (pcheck_any x _ w1 ((hE.kb kbA).kb hK) hM hF (isV_below hK (isV_below kbA h)))
  have PC : Hid (∀ w1, KB (w.alloc (.cells #[.int .i8 k, .bool b, .int .i64 n, .string s, .slice o x.list.length c, .slice o2 m2 c2] 64)) w1 → Calls Tryz.prog 106 #[.slice o x.list.length c, .func (.func 107) #[] #[]] w1 fun e w' => e = .returned (.bool (!(x.list.all leafB))) ∧ KB (w.alloc (.cells #[.int .i8 k, .bool b, .int .i64 n, .string s, .slice o x.list.length c, .slice o2 m2 c2] 64)) w') := Lib.hid fun w1 hK => Calls.kb hK (contV_any x.list a o c w1 ((hE.kb kbA).kb hK) (Nat.le_trans (Nat.le_trans (sizeVs_len _) (by obtain ⟨k', b', n', s', l, ks⟩ := x; simp only [sizeV, V.list]; omega)) hM) (fun u hu => ⟨Nat.le_trans (size_in hu) hM, fine_in hu hF⟩) hsl (isVs_keep (cell_below hK) _ _ (isVs_keep (cell_below kbA) _ _ hvs)))
  have HC : Hid (∀ w1, KB (w.alloc (.cells #[.int .i8 k, .bool b, .int .i64 n, .string s, .slice o x.list.length c, .slice o2 m2 c2] 64)) w1 → w1.cell? ⟨w.heap.size, 4, none⟩ = some (.slice o x.list.length c)) := Lib.hid fun w1 hK => cell_below hK _ _ (by simp)
  unfold holdsB
  rw [hk, if_neg hq3]
  have hlen : x.list.length ≤ 1000000 := Nat.le_trans (Nat.le_trans (sizeVs_len _) (by obtain ⟨k', b', n', s', l, ks⟩ := x; simp only [sizeV, V.list]; omega)) hM
  generalize x.list.all leafB = R at *
  generalize x.list.length = L at *
  generalize pcheckV x = C at *
  clear h hE hM hF hk ht hsl hvs
  by_cases h3 : k = q
  · subst h3
    have y1 : (k == k) = true := beq_self_eq_true k
    have y2 : (k != k) = false := by simp
    rw [decide_eq_true rfl, Bool.true_and]
    by_cases hC : C = 0
    · subst hC
      rw [decide_eq_true rfl, Bool.true_and]
      rcases hq with rfl | h9 | rfl
      · go_enter Tryz.func96, Tryz.ntmps96
        go_wp2_with (go_at_call 104; refine (P2.out _ (Below.refl _ _)).mono ?_; rintro e w5 ⟨rfl, hb5⟩)
        go_wp2_with fail
        go_ret
        exact ⟨rfl, HB0.out.trans (hb5.mono HB0.out.size)⟩
      · exact absurd h9 hq3
      · rw [if_pos rfl]
        by_cases h8 : L ≤ 8
        · have g1 : decide ((L : Int) ≤ 8) = true := decide_eq_true (by omega)
          rw [decide_eq_true h8, Bool.true_and]
          go_enter Tryz.func96, Tryz.ntmps96
          go_wp2_with (go_at_call 104; refine (P2.out _ (Below.refl _ _)).mono ?_; rintro e w5 ⟨rfl, hb5⟩; have m3 := HC.out w5 hb5)
          go_wp2_with (go_at_call 106; refine (PC.out _ hb5).mono ?_; rintro e w6 ⟨rfl, hb6⟩)
          go_ret
          exact ⟨ret_bool (by simp), HB0.out.trans (hb6.mono HB0.out.size)⟩
        · have g1 : decide ((L : Int) ≤ 8) = false := decide_eq_false (by omega)
          rw [decide_eq_false h8, Bool.false_and]
          go_enter Tryz.func96, Tryz.ntmps96
          go_wp2_with (go_at_call 104; refine (P2.out _ (Below.refl _ _)).mono ?_; rintro e w5 ⟨rfl, hb5⟩; have m3 := HC.out w5 hb5)
          go_wp2_with fail
          go_ret
          exact ⟨rfl, HB0.out.trans (hb5.mono HB0.out.size)⟩
    · rw [decide_eq_false hC, Bool.false_and]
      have z1 : (C == 0) = false := beqI hC
      have z2 : (C != 0) = true := bne_iff_ne.2 hC
      go_enter Tryz.func96, Tryz.ntmps96
      go_wp2_with (go_at_call 104; refine (P2.out _ (Below.refl _ _)).mono ?_; rintro e w5 ⟨rfl, hb5⟩)
      go_wp2_with fail
      go_ret
      exact ⟨rfl, HB0.out.trans (hb5.mono HB0.out.size)⟩
  · rw [decide_eq_false h3, Bool.false_and]
    have z1 : (k == q) = false := beqI h3
    have z2 : (k != q) = true := bne_iff_ne.2 h3
    rcases hq with rfl | h9 | rfl
    · go_enter Tryz.func96, Tryz.ntmps96
      go_wp2_with fail
      go_ret
      exact ⟨rfl, HB0.out⟩
    · exact absurd h9 hq3
    · go_enter Tryz.func96, Tryz.ntmps96
      go_wp2_with fail
      go_ret
      exact ⟨rfl, HB0.out⟩
end Go.Proofs.YtdckldfekepopaaGreatDoor

namespace Go.Proofs.YtdckldfekepopaaGreatDoor
open Go.RowKit

set_option maxRecDepth 100000 in
set_option maxHeartbeats 4000000 in
theorem eqKs_any (ks ts : List ByteArray) (v u : Value) (w : World) (hl : ks.length ≤ 1000000) (h : isK w ks v) (h' : isK w ts u) :
    Calls Tryz.prog 114 #[v, u] w fun e w' => e = .returned (.bool (decide (ks = ts))) ∧ Below w.heap.size w w' := by
  obtain ⟨a, cap, ⟨o, rfl, hc1, hc2, ho⟩, hks⟩ := h
  obtain ⟨a', cap', ⟨o', rfl, hc1', hc2', ho'⟩, hts⟩ := h'
  unfold maxLen at hc2 hc2'
  have HK := Lib.hid hks
  have HT := Lib.hid hts
  clear hks hts
  by_cases hlen : ks.length = ts.length
  · obtain ⟨r, hr⟩ : ∃ r, decide (ks = ts) = r := ⟨_, rfl⟩
    rw [hr]
    have HR := Lib.hid hr
    have HL := Lib.hid hlen
    rw [← hlen] at hc1' ho' ⊢
    clear hr hlen
    go_enter Tryz.func114, Tryz.ntmps114
    go_wp2_with fail
    go_loopw [13] (fun i wr => ∃ j : Nat, j ≤ ks.length ∧ i = .int .i64 j ∧ Hid (ks.take j = ts.take j) ∧ Hid (Below w.heap.size w wr)) (fun i _ => ks.length - (intOf i).toNat)
    case atStart => exact ⟨0, by omega, rfl, Lib.hid (by simp), Lib.hid (Below.refl _ _)⟩
    case round =>
      obtain ⟨j, hj, rfl, hA, hB⟩ := hrel
      by_cases hlt : j < ks.length
      · obtain rfl := ho (by omega)
        obtain rfl := ho' (by omega)
        have hlt' : j < ts.length := by rw [← HL.out]; exact hlt
        have q0 := cell_below hB.out _ _ (HK.out j hlt).1
        have q1 := cell_below hB.out _ _ (HT.out j hlt').1
        by_cases he : ks[j] = ts[j]
        · have HA : Hid (ks.take (j + 1) = ts.take (j + 1)) := Lib.hid (by rw [List.take_succ_eq_append_getElem hlt, List.take_succ_eq_append_getElem hlt', hA.out, he])
          rw [← he] at q1
          have z : (ks[j].toList == ks[j].toList) = true := beq_self_eq_true _
          clear he hA hlt'
          generalize ks[j] = s at *
          go_wp2_with fail
          go_quiet (fail)
          go_wp2_with fail
          go_roundw
          case rel => exact ⟨j + 1, by omega, by go_num, HA, Lib.hid (hB.out.trans (drewB _ _ _))⟩
          case measure => simp [intOf]; omega
        · have HF : Hid (r = false) := Lib.hid (by
            rw [← HR.out]
            exact decide_eq_false (fun e => he (by subst e; rfl)))
          have z := beq_toList he
          clear he hA HR
          generalize ks[j] = s at *
          generalize ts[j] = t at *
          clear hlt'
          go_wp2_with fail
          go_quiet (fail)
          go_wp2_with fail
          go_ret
          exact ⟨ret_bool HF.out.symm, hB.out.trans (drewB _ _ _)⟩
      · obtain rfl : j = ks.length := by omega
        have HF : Hid (r = true) := Lib.hid (by
          have h := hA.out
          rw [List.take_of_length_le (Nat.le_refl _), List.take_of_length_le (Nat.le_of_eq HL.out.symm)] at h
          rw [← HR.out]
          exact decide_eq_true h)
        go_wp2_with fail
        go_ret
        exact ⟨ret_bool HF.out.symm, hB.out⟩
  · have hne : ks ≠ ts := fun e => hlen (by rw [e])
    rw [decide_eq_false hne]
    have z1 : (ks.length == ts.length) = false := beq_eq_false_iff_ne.2 hlen
    have z2 : ((ks.length : Int) == (ts.length : Int)) = false := beq_eq_false_iff_ne.2 (by omega)
    have z3 : ((ks.length : Int) != (ts.length : Int)) = true := bne_iff_ne.2 (by omega)
    clear HK HT hne
    generalize ks.length = L at *
    generalize ts.length = L' at *
    go_enter Tryz.func114, Tryz.ntmps114
    go_wp2_with fail
    go_ret
    exact ⟨rfl, Below.refl _ _⟩

set_option maxHeartbeats 2000000 in
/-- Two lists of nothing are one. -/
theorem one_nil (o o' : Option Addr) (c c' : Nat) (w : World) :
    Calls Tryz.prog 103 #[.slice o 0 c, .slice o' 0 c'] w fun e w' => e = .returned (.bool true) ∧ Below w.heap.size w w' := by
  go_enter Tryz.func103, Tryz.ntmps103
  go_wp2_with fail
  go_quiet (fail)
  go_wp2_with fail
  go_ret
  exact ⟨rfl, drewB _ _ _⟩

/-- The same, but for what the lists hold. -/
def butB (x y : V) : Bool := decide (x.kind = y.kind) && (decide (x.bool = y.bool) && (decide (x.num = y.num) && (decide (x.text = y.text) && (decide (x.keys = y.keys) && decide (x.list.length = y.list.length)))))

theorem isV_all {W : World} {x : V} {k n : Int} {b : Bool} {s : ByteArray} {o : Option Addr} {m c : Nat} {d : Value} (h : isV W x (.agg #[.int .i8 k, .bool b, .int .i64 n, .string s, .slice o m c, d])) :
    x.kind = k ∧ x.bool = b ∧ x.num = n ∧ x.text = s ∧ m = x.list.length ∧ isK W x.keys d := by
  obtain ⟨k', b', n', s', l, ks⟩ := x
  unfold isV at h
  obtain ⟨lv, kv, e, _, _, h4, ⟨a, cap, ⟨o', e2, _⟩, h6⟩, h7⟩ := h
  simp only [Value.agg.injEq, Array.mk.injEq, List.cons.injEq, Value.int.injEq, Value.string.injEq, Value.bool.injEq, true_and, and_true] at e
  obtain ⟨rfl, rfl, rfl, rfl, rfl, rfl⟩ := e
  simp only [Value.slice.injEq] at e2
  obtain ⟨_, rfl, _⟩ := e2
  exact ⟨rfl, rfl, rfl, rfl, rfl, h7⟩

set_option maxRecDepth 100000 in
set_option maxHeartbeats 8000000 in
theorem alikeBut_any (x y : V) (v u : Value) (w : World) (hM : x.keys.length ≤ 1000000) (h : isV w x v) (h' : isV w y u) :
    Calls Tryz.prog 102 #[v, u] w fun e w' => e = .returned (.bool (butB x y)) ∧ Below w.heap.size w w' := by
  obtain ⟨k, b, n, s, o, m, c, o2, m2, c2, rfl⟩ := isV_six h
  obtain ⟨k', b', n', s', o', m', c', o2', m2', c2', rfl⟩ := isV_six h'
  obtain ⟨e1, e2, e3, e4, e5, hk⟩ := isV_all h
  obtain ⟨d1, d2, d3, d4, d5, hk'⟩ := isV_all h'
  have HB : Hid (KB w ((w.alloc (.cells #[.int .i8 k, .bool b, .int .i64 n, .string s, .slice o m c, .slice o2 m2 c2] 64)).alloc (.cells #[.int .i8 k', .bool b', .int .i64 n', .string s', .slice o' m' c', .slice o2' m2' c2'] 64))) := Lib.hid KB.two
  have HK : Hid (Calls Tryz.prog 114 #[.slice o2 m2 c2, .slice o2' m2' c2'] ((w.alloc (.cells #[.int .i8 k, .bool b, .int .i64 n, .string s, .slice o m c, .slice o2 m2 c2] 64)).alloc (.cells #[.int .i8 k', .bool b', .int .i64 n', .string s', .slice o' m' c', .slice o2' m2' c2'] 64)) fun e w' => e = .returned (.bool (decide (x.keys = y.keys))) ∧ Below ((w.alloc (.cells #[.int .i8 k, .bool b, .int .i64 n, .string s, .slice o m c, .slice o2 m2 c2] 64)).alloc (.cells #[.int .i8 k', .bool b', .int .i64 n', .string s', .slice o' m' c', .slice o2' m2' c2'] 64)).heap.size ((w.alloc (.cells #[.int .i8 k, .bool b, .int .i64 n, .string s, .slice o m c, .slice o2 m2 c2] 64)).alloc (.cells #[.int .i8 k', .bool b', .int .i64 n', .string s', .slice o' m' c', .slice o2' m2' c2'] 64)) w') :=
    Lib.hid (eqKs_any x.keys y.keys _ _ _ hM (isK_keep (cell_below KB.two) hk) (isK_keep (cell_below KB.two) hk'))
  have hcl : ∀ w1, Below ((w.alloc (.cells #[.int .i8 k, .bool b, .int .i64 n, .string s, .slice o m c, .slice o2 m2 c2] 64)).alloc (.cells #[.int .i8 k', .bool b', .int .i64 n', .string s', .slice o' m' c', .slice o2' m2' c2'] 64)).heap.size ((w.alloc (.cells #[.int .i8 k, .bool b, .int .i64 n, .string s, .slice o m c, .slice o2 m2 c2] 64)).alloc (.cells #[.int .i8 k', .bool b', .int .i64 n', .string s', .slice o' m' c', .slice o2' m2' c2'] 64)) w1 → w1.cell? ⟨w.heap.size, 4, none⟩ = some (.slice o m c) ∧ w1.cell? ⟨w.heap.size + 1, 4, none⟩ = some (.slice o' m' c') := fun w1 h1 => ⟨cell_below h1 _ _ (by simp), cell_below h1 _ _ (by simp)⟩
  have HCL := Lib.hid hcl
  have hr : butB x y = (decide (k = k') && (decide (b = b') && (decide (n = n') && (decide (s = s') && (decide (x.keys = y.keys) && decide (m = m')))))) := by
    unfold butB
    rw [e1, e2, e3, e4, d1, d2, d3, d4, e5, d5]
  rw [hr]
  generalize decide (x.keys = y.keys) = R at *
  clear h h' e1 e2 e3 e4 e5 d1 d2 d3 d4 d5 hk hk' hcl hr
  by_cases q1 : k = k'
  · subst q1
    rw [decide_eq_true rfl, Bool.true_and]
    by_cases q2 : b = b'
    · subst q2
      rw [decide_eq_true rfl, Bool.true_and]
      by_cases q3 : n = n'
      · subst q3
        rw [decide_eq_true rfl, Bool.true_and]
        by_cases q4 : s = s'
        · subst q4
          rw [decide_eq_true rfl, Bool.true_and]
          have z4 : (s.toList == s.toList) = true := beq_self_eq_true _
          cases R with
          | false =>
            rw [Bool.false_and]
            go_enter Tryz.func102, Tryz.ntmps102
            go_wp2_with (go_at_call 114; refine HK.out.mono ?_; rintro e w5 ⟨rfl, hb5⟩; obtain ⟨p1, p2⟩ := HCL.out _ hb5)
            go_ret
            exact ⟨rfl, HB.out.trans (hb5.mono HB.out.size)⟩
          | true =>
            rw [Bool.true_and]
            by_cases q5 : m = m'
            · subst q5
              rw [decide_eq_true rfl]
              go_enter Tryz.func102, Tryz.ntmps102
              go_wp2_with (go_at_call 114; refine HK.out.mono ?_; rintro e w5 ⟨rfl, hb5⟩; obtain ⟨p1, p2⟩ := HCL.out _ hb5)
              go_ret
              exact ⟨ret_bool (by simp), HB.out.trans (hb5.mono HB.out.size)⟩
            · rw [decide_eq_false q5]
              have y1 : (m == m') = false := beq_eq_false_iff_ne.2 q5
              have y2 : ((m : Int) == (m' : Int)) = false := beq_eq_false_iff_ne.2 (by omega)
              go_enter Tryz.func102, Tryz.ntmps102
              go_wp2_with (go_at_call 114; refine HK.out.mono ?_; rintro e w5 ⟨rfl, hb5⟩; obtain ⟨p1, p2⟩ := HCL.out _ hb5)
              go_ret
              exact ⟨ret_bool (by simp), HB.out.trans (hb5.mono HB.out.size)⟩
        · rw [decide_eq_false q4, Bool.false_and]
          have z := beq_toList q4
          go_enter Tryz.func102, Tryz.ntmps102
          go_wp2_with fail
          go_ret
          exact ⟨rfl, HB.out⟩
      · rw [decide_eq_false q3, Bool.false_and]
        have z : (n == n') = false := beqI q3
        go_enter Tryz.func102, Tryz.ntmps102
        go_wp2_with fail
        go_ret
        exact ⟨rfl, HB.out⟩
    · rw [decide_eq_false q2, Bool.false_and]
      have z : (b == b') = false := beq_eq_false_iff_ne.2 q2
      go_enter Tryz.func102, Tryz.ntmps102
      go_wp2_with fail
      go_ret
      exact ⟨rfl, HB.out⟩
  · rw [decide_eq_false q1, Bool.false_and]
    have z : (k == k') = false := beqI q1
    go_enter Tryz.func102, Tryz.ntmps102
    go_wp2_with fail
    go_ret
    exact ⟨rfl, HB.out⟩
end Go.Proofs.YtdckldfekepopaaGreatDoor
