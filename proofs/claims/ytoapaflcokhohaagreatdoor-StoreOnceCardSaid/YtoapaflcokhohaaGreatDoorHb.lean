/-
  Properties that are given, as they read; which values may be: the program's holds. · The program's holds at any kind: a list's parts are looked at one by one. · Are two values the same, but for what their lists hold? Are two lists one? · Is a value the zero one? (The program's alike, held against it.)
-/
import Derived.Test.YtoapaflcokhohaaGreatDoorHa
import Derived.Test.YtoapaflcokhohaaGreatDoorGf
import Derived.Deep.LoopGhost
set_option linter.unusedVariables false
namespace Go.Proofs.YtoapaflcokhohaaGreatDoor
open Go.RowKit

/-- A property that is given. -/
structure G where
  nm : ByteArray
  unk : Bool
  v : V
def isG (W : World) (g : G) (v : Value) : Prop := ∃ c0 c1 c2 c3 c4 c5, v = .agg #[.string g.nm, .bool g.unk, c0, c1, c2, c3, c4, c5] ∧ isV W g.v (.agg #[c0, c1, c2, c3, c4, c5]) ∧ g.nm.size ≤ maxLen
/-- .. at an address. -/
def isGat (W : World) (g : G) (a : Addr) : Prop := ∃ c0 c1 c2 c3 c4 c5, W.cell? a = some (.string g.nm) ∧ W.cell? ⟨a.block, a.off + 1, none⟩ = some (.bool g.unk) ∧
  W.cell? ⟨a.block, a.off + 2, none⟩ = some c0 ∧ W.cell? ⟨a.block, a.off + 3, none⟩ = some c1 ∧ W.cell? ⟨a.block, a.off + 4, none⟩ = some c2 ∧ W.cell? ⟨a.block, a.off + 5, none⟩ = some c3 ∧ W.cell? ⟨a.block, a.off + 6, none⟩ = some c4 ∧ W.cell? ⟨a.block, a.off + 7, none⟩ = some c5 ∧
  isV W g.v (.agg #[c0, c1, c2, c3, c4, c5]) ∧ g.nm.size ≤ maxLen
def isGs (W : World) (L : List G) (v : Value) : Prop := ∃ a cap, slv v L.length a cap ∧ ∀ i (h : i < L.length), isGat W L[i] (a.add (i * 8))
theorem isG_below {W W' : World} (hb : Below W.heap.size W W') {g : G} {v : Value} (h : isG W g v) : isG W' g v := by
  obtain ⟨c0, c1, c2, c3, c4, c5, h1, h2, h3⟩ := h
  exact ⟨c0, c1, c2, c3, c4, c5, h1, isV_below hb h2, h3⟩
theorem isGat_below {W W' : World} (hb : Below W.heap.size W W') {g : G} {a : Addr} (h : isGat W g a) : isGat W' g a := by
  obtain ⟨c0, c1, c2, c3, c4, c5, g0, g1, g2, g3, g4, g5, g6, g7, h2, h3⟩ := h
  have k := cell_below hb
  exact ⟨c0, c1, c2, c3, c4, c5, k _ _ g0, k _ _ g1, k _ _ g2, k _ _ g3, k _ _ g4, k _ _ g5, k _ _ g6, k _ _ g7, isV_below hb h2, h3⟩
theorem isGs_below {W W' : World} (hb : Below W.heap.size W W') {L : List G} {v : Value} (h : isGs W L v) : isGs W' L v := by
  obtain ⟨a, cap, h1, h2⟩ := h
  exact ⟨a, cap, h1, fun i hi => isGat_below hb (h2 i hi)⟩

/-- The package's variables hold utf8's two tables, and the rows. -/
def Env9 (w : World) : Prop := Env w ∧ RowsE w
theorem Env9.kb {w w' : World} (h : Env9 w) (hb : Below w.heap.size w w') : Env9 w' := ⟨h.1.kb hb, h.2.below hb (by have := h.1.1; omega)⟩

def wordB (s : ByteArray) : Bool := decide (s.size ≤ 64) && validS s
noncomputable def leafB (u : V) : Bool := decide (u.kind = 3) && decide (pcheckV u = 0) && wordB u.text
noncomputable def holdsB (x : V) (q : Int) : Bool := decide (x.kind = q) && decide (pcheckV x = 0) && (if q = 3 then wordB x.text else if q = 4 then decide (x.list.length ≤ 8) && x.list.all leafB else true)

set_option maxHeartbeats 1000000 in
theorem Word_any (s : ByteArray) (hs : s.size ≤ maxLen) (w : World) (hE : Env w) : Calls Tryz.prog 104 #[.string s] w fun e w' => e = .returned (.bool (wordB s)) ∧ Below w.heap.size w w' := by
  have HV := Lib.hid (valid_any s hs w hE)
  unfold wordB
  generalize validS s = r at *
  unfold maxLen at hs
  clear hE
  by_cases h : s.size ≤ 64
  · rw [decide_eq_true h, Bool.true_and]
    have h' : decide ((s.size : Int) ≤ 64) = true := decide_eq_true (by omega)
    go_enter Tryz.func104, Tryz.ntmps104
    go_wp2_with (go_at_call 115; refine HV.out.mono ?_; rintro e w5 ⟨rfl, hb5⟩)
    go_ret
    exact ⟨rfl, hb5⟩
  · rw [decide_eq_false h, Bool.false_and]
    have h' : decide ((s.size : Int) ≤ 64) = false := decide_eq_false (by omega)
    go_enter Tryz.func104, Tryz.ntmps104
    go_wp2_with fail
    go_ret
    exact ⟨rfl, Below.refl _ _⟩

theorem isV_parts {W : World} {x : V} {k n : Int} {b : Bool} {s : ByteArray} {o : Option Addr} {m c : Nat} {d : Value} (h : isV W x (.agg #[.int .i8 k, .bool b, .int .i64 n, .string s, .slice o m c, d])) :
    x.kind = k ∧ x.text = s ∧ s.size ≤ maxLen ∧ ∃ a, slv (.slice o m c) x.list.length a c ∧ m = x.list.length ∧ isVs W x.list a := by
  obtain ⟨k', b', n', s', l, ks⟩ := x
  unfold isV at h
  obtain ⟨lv, kv, e, _, _, h4, ⟨a, cap, h5, h6⟩, _⟩ := h
  simp only [Value.agg.injEq, Array.mk.injEq, List.cons.injEq, Value.int.injEq, Value.string.injEq, true_and, and_true] at e
  obtain ⟨rfl, _, _, rfl, rfl, rfl⟩ := e
  have hh := h5
  obtain ⟨o', e, _⟩ := h5
  simp only [Value.slice.injEq] at e
  obtain ⟨rfl, rfl, rfl⟩ := e
  exact ⟨rfl, rfl, h4, a, hh, rfl, h6⟩

set_option maxRecDepth 100000 in
set_option maxHeartbeats 4000000 in
/-- holds of a text. -/
theorem holdsT_any (x : V) (v : Value) (w : World) (hE : Env w) (hM : sizeV x ≤ 1000000) (hF : fineV x) (h : isV w x v) :
    Calls Tryz.prog 95 #[v, .int .i8 3] w fun e w' => e = .returned (.bool (leafB x)) ∧ Below w.heap.size w w' := by
  obtain ⟨k, b, n, s, o, m, c, o2, m2, c2, rfl⟩ := isV_six h
  obtain ⟨hk, ht, hs, _⟩ := isV_parts h
  have HB0 : Hid (KB w (w.alloc (.cells #[.int .i8 k, .bool b, .int .i64 n, .string s, .slice o m c, .slice o2 m2 c2] 64))) := Lib.hid kbA
  have P2 : Hid (∀ w1, KB (w.alloc (.cells #[.int .i8 k, .bool b, .int .i64 n, .string s, .slice o m c, .slice o2 m2 c2] 64)) w1 → Calls Tryz.prog 103 #[.agg #[.int .i8 k, .bool b, .int .i64 n, .string s, .slice o m c, .slice o2 m2 c2]] w1 fun e w' => e = .returned (.int .i64 (pcheckV x)) ∧ KB (w.alloc (.cells #[.int .i8 k, .bool b, .int .i64 n, .string s, .slice o m c, .slice o2 m2 c2] 64)) w') := Lib.hid fun w1 hK => Calls.kb hK (pcheck_any x _ w1 ((hE.kb kbA).kb hK) hM hF (isV_below hK (isV_below kbA h)))
  have PW : Hid (∀ w1, KB (w.alloc (.cells #[.int .i8 k, .bool b, .int .i64 n, .string s, .slice o m c, .slice o2 m2 c2] 64)) w1 → Calls Tryz.prog 104 #[.string s] w1 fun e w' => e = .returned (.bool (wordB s)) ∧ KB (w.alloc (.cells #[.int .i8 k, .bool b, .int .i64 n, .string s, .slice o m c, .slice o2 m2 c2] 64)) w') := Lib.hid fun w1 hK => Calls.kb hK (Word_any s hs w1 ((hE.kb kbA).kb hK))
  have HC : Hid (∀ w1, KB (w.alloc (.cells #[.int .i8 k, .bool b, .int .i64 n, .string s, .slice o m c, .slice o2 m2 c2] 64)) w1 → w1.cell? ⟨w.heap.size, 3, none⟩ = some (.string s)) := Lib.hid fun w1 hK => cell_below hK _ _ (by simp)
  unfold leafB
  rw [hk, ht]
  generalize pcheckV x = C at *
  generalize wordB s = R at *
  clear h hE hM hF hk ht
  by_cases h3 : k = 3
  · subst h3
    rw [decide_eq_true rfl, Bool.true_and]
    by_cases hC : C = 0
    · subst hC
      rw [decide_eq_true rfl, Bool.true_and]
      go_enter Tryz.func95, Tryz.ntmps95
      go_wp2_with (go_at_call 103; refine (P2.out _ (Below.refl _ _)).mono ?_; rintro e w5 ⟨rfl, hb5⟩; have m3 := HC.out w5 hb5)
      go_wp2_with (go_at_call 104; refine (PW.out _ hb5).mono ?_; rintro e w6 ⟨rfl, hb6⟩)
      go_ret
      exact ⟨rfl, HB0.out.trans (hb6.mono HB0.out.size)⟩
    · rw [decide_eq_false hC, Bool.false_and]
      have z1 : (C == 0) = false := beqI hC
      have z2 : (C != 0) = true := bne_iff_ne.2 hC
      go_enter Tryz.func95, Tryz.ntmps95
      go_wp2_with (go_at_call 103; refine (P2.out _ (Below.refl _ _)).mono ?_; rintro e w5 ⟨rfl, hb5⟩; have m3 := HC.out w5 hb5)
      go_wp2_with fail
      go_ret
      exact ⟨rfl, HB0.out.trans (hb5.mono HB0.out.size)⟩
  · rw [decide_eq_false h3, Bool.false_and]
    have z1 : (k == 3) = false := beqI h3
    have z2 : (k != 3) = true := bne_iff_ne.2 h3
    go_enter Tryz.func95, Tryz.ntmps95
    go_wp2_with fail
    go_ret
    exact ⟨rfl, HB0.out⟩
end Go.Proofs.YtoapaflcokhohaaGreatDoor

set_option linter.unusedVariables false
namespace Go.Proofs.YtoapaflcokhohaaGreatDoor
open Go.RowKit

set_option maxRecDepth 100000 in
set_option maxHeartbeats 4000000 in
theorem noWord_any (x : V) (v : Value) (w : World) (hE : Env w) (hM : sizeV x ≤ 1000000) (hF : fineV x) (h : isV w x v) :
    Calls Tryz.prog 106 #[v] w fun e w' => e = .returned (.bool (!leafB x)) ∧ Below w.heap.size w w' := by
  obtain ⟨k, b, n, s, o, m, c, o2, m2, c2, rfl⟩ := isV_six h
  have HB0 : Hid (KB w (w.alloc (.cells #[.int .i8 k, .bool b, .int .i64 n, .string s, .slice o m c, .slice o2 m2 c2] 64))) := Lib.hid kbA
  have P2 : Hid (Calls Tryz.prog 95 #[.agg #[.int .i8 k, .bool b, .int .i64 n, .string s, .slice o m c, .slice o2 m2 c2], .int .i8 3] (w.alloc (.cells #[.int .i8 k, .bool b, .int .i64 n, .string s, .slice o m c, .slice o2 m2 c2] 64)) fun e w' => e = .returned (.bool (leafB x)) ∧ KB (w.alloc (.cells #[.int .i8 k, .bool b, .int .i64 n, .string s, .slice o m c, .slice o2 m2 c2] 64)) w') := Lib.hid (holdsT_any x _ _ (hE.kb kbA) hM hF (isV_below kbA h))
  generalize leafB x = r at *
  clear h hE hM hF
  go_enter Tryz.func106, Tryz.ntmps106
  go_wp2_with (go_at_call 95; refine P2.out.mono ?_; rintro e w5 ⟨rfl, hb5⟩)
  go_ret
  exact ⟨rfl, HB0.out.trans (hb5.mono HB0.out.size)⟩

set_option maxRecDepth 100000 in
set_option maxHeartbeats 4000000 in
/-- slices.IndexFunc of the parts: is there one that is no word? -/
theorem idxV_any (l : List V) (a : Addr) (o : Option Addr) (cap : Nat) (w : World) (hE : Env w) (hl : l.length ≤ 1000000) (hP : ∀ u ∈ l, sizeV u ≤ 1000000 ∧ fineV u) (h : slv (.slice o l.length cap) l.length a cap) (hs : isVs w l a) :
    Calls Tryz.prog 116 #[.slice o l.length cap, .func (.func 106) #[] #[]] w fun e w' => (∃ i : Int, e = .returned (.int .i64 i) ∧ decide (0 ≤ i) = !(l.all leafB)) ∧ Below w.heap.size w w' := by
  obtain ⟨o', e, hc1, hc2, ho⟩ := h
  simp only [Value.slice.injEq, and_true] at e
  obtain rfl := e
  unfold maxLen at hc2
  have HK := Lib.hid hs
  have HE := Lib.hid hE
  have HP := Lib.hid hP
  obtain ⟨r, hr⟩ : ∃ r, (!(l.all leafB)) = r := ⟨_, rfl⟩
  rw [hr]
  have HR := Lib.hid hr
  have ef : ∀ args w, (callFunc 106 args).run Tryz.prog w = .ok (.enter 106 args) w := enters_of Tryz.func106 (by kernel_rfl) rfl
  clear hs hr hE hP
  go_enter Tryz.func116, Tryz.ntmps116
  go_wp2_with fail
  go_loopw [8] (fun i wr => ∃ (j : Nat), j ≤ l.length ∧ i = .int .i64 j ∧ Hid ((l.take j).all leafB = true) ∧ Hid (Below w.heap.size w wr)) (fun i _ => l.length - (intOf i).toNat)
  case atStart => exact ⟨0, by omega, rfl, Lib.hid rfl, Lib.hid (Below.refl _ _)⟩
  case round =>
    obtain ⟨j, hj, rfl, hA, hB⟩ := hrel
    by_cases hlt : j < l.length
    · obtain rfl := ho (by omega)
      obtain ⟨c0, c1, c2, c3, c4, c5, q0, q1, q2, q3, q4, q5, hx⟩ := isVs_at l a j hlt (isVs_keep (cell_below hB.out) l a HK.out)
      have hp := HP.out l[j] (List.getElem_mem hlt)
      have HN := Lib.hid (noWord_any l[j] _ wr (HE.out.below hB.out HE.out.1) hp.1 hp.2 hx)
      clear hx hp
      cases hv : leafB l[j] with
      | false =>
        rw [hv] at HN
        have hr2 : r = true := by
          rw [← HR.out]
          have : l.all leafB = false := by
            rw [Bool.eq_false_iff]
            intro h
            have := List.all_eq_true.1 h _ (List.getElem_mem hlt)
            rw [hv] at this; cases this
          rw [this]; rfl
        have HR2 := Lib.hid hr2
        clear hr2 hv
        go_wp2_with (go_at_fn 106; refine HN.out.mono ?_; rintro e w5 ⟨rfl, hb5⟩)
        go_ret
        exact ⟨⟨_, rfl, by rw [HR2.out, decide_eq_true]; omega⟩, hB.out.trans (hb5.mono hB.out.size)⟩
      | true =>
        rw [hv] at HN
        have HA : Hid ((l.take (j + 1)).all leafB = true) := Lib.hid (by rw [List.take_succ_eq_append_getElem hlt, List.all_append, hA.out]; simp [hv])
        clear hv
        go_wp2_with (go_at_fn 106; refine HN.out.mono ?_; rintro e w5 ⟨rfl, hb5⟩)
        go_roundw
        case rel => exact ⟨j + 1, by omega, by go_num, HA, Lib.hid (hB.out.trans (hb5.mono hB.out.size))⟩
        case measure => simp [intOf]; omega
    · obtain rfl : j = l.length := by omega
      have HRES : Hid (r = false) := Lib.hid (by
        have := hA.out
        rw [List.take_of_length_le (Nat.le_refl _)] at this
        rw [← HR.out, this]; rfl)
      go_wp2_with fail
      go_ret
      exact ⟨⟨_, rfl, by rw [HRES.out]; rfl⟩, hB.out⟩

set_option maxHeartbeats 1000000 in
theorem contV_any (l : List V) (a : Addr) (o : Option Addr) (cap : Nat) (w : World) (hE : Env w) (hl : l.length ≤ 1000000) (hP : ∀ u ∈ l, sizeV u ≤ 1000000 ∧ fineV u) (h : slv (.slice o l.length cap) l.length a cap) (hs : isVs w l a) :
    Calls Tryz.prog 105 #[.slice o l.length cap, .func (.func 106) #[] #[]] w fun e w' => e = .returned (.bool (!(l.all leafB))) ∧ Below w.heap.size w w' := by
  have HI := Lib.hid (idxV_any l a o cap w hE hl hP h hs)
  generalize (!(l.all leafB)) = r at *
  clear hE hP h hs
  go_enter Tryz.func105, Tryz.ntmps105
  go_wp2_with (go_at_call 116; refine HI.out.mono ?_; rintro e w5 ⟨⟨i, rfl, hi⟩, hb5⟩)
  go_ret
  exact ⟨ret_bool (by rw [← hi]), hb5⟩

theorem size_in {x u : V} (h : u ∈ x.list) : sizeV u ≤ sizeV x := by
  obtain ⟨j, hj, rfl⟩ := List.getElem_of_mem h
  have := sizeVs_get x.list j hj
  obtain ⟨k, b, n, s, l, ks⟩ := x
  simp only [sizeV, V.list] at *
  omega
theorem fine_in {x u : V} (h : u ∈ x.list) (hF : fineV x) : fineV u := fun y hy => hF y (part_in h y hy)

set_option maxRecDepth 100000 in
set_option maxHeartbeats 4000000 in
/-- holds. -/
theorem holds_any (x : V) (q : Int) (hq : q = 2 ∨ q = 3 ∨ q = 4) (v : Value) (w : World) (hE : Env w) (hM : sizeV x ≤ 1000000) (hF : fineV x) (h : isV w x v) :
    Calls Tryz.prog 95 #[v, .int .i8 q] w fun e w' => e = .returned (.bool (holdsB x q)) ∧ Below w.heap.size w w' := by
  by_cases hq3 : q = 3
  · subst hq3
    exact holdsT_any x v w hE hM hF h
  obtain ⟨k, b, n, s, o, m, c, o2, m2, c2, rfl⟩ := isV_six h
  obtain ⟨hk, ht, hs, a, hsl, rfl, hvs⟩ := isV_parts h
  have HB0 : Hid (KB w (w.alloc (.cells #[.int .i8 k, .bool b, .int .i64 n, .string s, .slice o x.list.length c, .slice o2 m2 c2] 64))) := Lib.hid kbA
  have P2 : Hid (∀ w1, KB (w.alloc (.cells #[.int .i8 k, .bool b, .int .i64 n, .string s, .slice o x.list.length c, .slice o2 m2 c2] 64)) w1 → Calls Tryz.prog 103 #[.agg #[.int .i8 k, .bool b, .int .i64 n, .string s, .slice o x.list.length c, .slice o2 m2 c2]] w1 fun e w' => e = .returned (.int .i64 (pcheckV x)) ∧ KB (w.alloc (.cells #[.int .i8 k, .bool b, .int .i64 n, .string s, .slice o x.list.length c, .slice o2 m2 c2] 64)) w') := Lib.hid fun w1 hK => Calls.kb hK (pcheck_any x _ w1 ((hE.kb kbA).kb hK) hM hF (isV_below hK (isV_below kbA h)))
  have PC : Hid (∀ w1, KB (w.alloc (.cells #[.int .i8 k, .bool b, .int .i64 n, .string s, .slice o x.list.length c, .slice o2 m2 c2] 64)) w1 → Calls Tryz.prog 105 #[.slice o x.list.length c, .func (.func 106) #[] #[]] w1 fun e w' => e = .returned (.bool (!(x.list.all leafB))) ∧ KB (w.alloc (.cells #[.int .i8 k, .bool b, .int .i64 n, .string s, .slice o x.list.length c, .slice o2 m2 c2] 64)) w') := Lib.hid fun w1 hK => Calls.kb hK (contV_any x.list a o c w1 ((hE.kb kbA).kb hK) (Nat.le_trans (Nat.le_trans (sizeVs_len _) (by obtain ⟨k', b', n', s', l, ks⟩ := x; simp only [sizeV, V.list]; omega)) hM) (fun u hu => ⟨Nat.le_trans (size_in hu) hM, fine_in hu hF⟩) hsl (isVs_keep (cell_below hK) _ _ (isVs_keep (cell_below kbA) _ _ hvs)))
  have HC : Hid (∀ w1, KB (w.alloc (.cells #[.int .i8 k, .bool b, .int .i64 n, .string s, .slice o x.list.length c, .slice o2 m2 c2] 64)) w1 → w1.cell? ⟨w.heap.size, 4, none⟩ = some (.slice o x.list.length c)) := Lib.hid fun w1 hK => cell_below hK _ _ (by simp)
  unfold holdsB
  rw [hk, if_neg hq3]
  have hlen : x.list.length ≤ 1000000 := Nat.le_trans (Nat.le_trans (sizeVs_len _) (by obtain ⟨k', b', n', s', l, ks⟩ := x; simp only [sizeV, V.list]; omega)) hM
  generalize x.list.all leafB = R at *
  generalize x.list.length = L at *
  generalize pcheckV x = C at *
  clear h hE hM hF hk ht hsl hvs
  by_cases h3 : k = q
  · subst h3
    have y1 : (k == k) = true := beq_self_eq_true k
    have y2 : (k != k) = false := by simp
    rw [decide_eq_true rfl, Bool.true_and]
    by_cases hC : C = 0
    · subst hC
      rw [decide_eq_true rfl, Bool.true_and]
      rcases hq with rfl | h9 | rfl
      · go_enter Tryz.func95, Tryz.ntmps95
        go_wp2_with (go_at_call 103; refine (P2.out _ (Below.refl _ _)).mono ?_; rintro e w5 ⟨rfl, hb5⟩)
        go_wp2_with fail
        go_ret
        exact ⟨rfl, HB0.out.trans (hb5.mono HB0.out.size)⟩
      · exact absurd h9 hq3
      · rw [if_pos rfl]
        by_cases h8 : L ≤ 8
        · have g1 : decide ((L : Int) ≤ 8) = true := decide_eq_true (by omega)
          rw [decide_eq_true h8, Bool.true_and]
          go_enter Tryz.func95, Tryz.ntmps95
          go_wp2_with (go_at_call 103; refine (P2.out _ (Below.refl _ _)).mono ?_; rintro e w5 ⟨rfl, hb5⟩; have m3 := HC.out w5 hb5)
          go_wp2_with (go_at_call 105; refine (PC.out _ hb5).mono ?_; rintro e w6 ⟨rfl, hb6⟩)
          go_ret
          exact ⟨ret_bool (by simp), HB0.out.trans (hb6.mono HB0.out.size)⟩
        · have g1 : decide ((L : Int) ≤ 8) = false := decide_eq_false (by omega)
          rw [decide_eq_false h8, Bool.false_and]
          go_enter Tryz.func95, Tryz.ntmps95
          go_wp2_with (go_at_call 103; refine (P2.out _ (Below.refl _ _)).mono ?_; rintro e w5 ⟨rfl, hb5⟩; have m3 := HC.out w5 hb5)
          go_wp2_with fail
          go_ret
          exact ⟨rfl, HB0.out.trans (hb5.mono HB0.out.size)⟩
    · rw [decide_eq_false hC, Bool.false_and]
      have z1 : (C == 0) = false := beqI hC
      have z2 : (C != 0) = true := bne_iff_ne.2 hC
      go_enter Tryz.func95, Tryz.ntmps95
      go_wp2_with (go_at_call 103; refine (P2.out _ (Below.refl _ _)).mono ?_; rintro e w5 ⟨rfl, hb5⟩)
      go_wp2_with fail
      go_ret
      exact ⟨rfl, HB0.out.trans (hb5.mono HB0.out.size)⟩
  · rw [decide_eq_false h3, Bool.false_and]
    have z1 : (k == q) = false := beqI h3
    have z2 : (k != q) = true := bne_iff_ne.2 h3
    rcases hq with rfl | h9 | rfl
    · go_enter Tryz.func95, Tryz.ntmps95
      go_wp2_with fail
      go_ret
      exact ⟨rfl, HB0.out⟩
    · exact absurd h9 hq3
    · go_enter Tryz.func95, Tryz.ntmps95
      go_wp2_with fail
      go_ret
      exact ⟨rfl, HB0.out⟩
end Go.Proofs.YtoapaflcokhohaaGreatDoor

set_option linter.unusedVariables false
namespace Go.Proofs.YtoapaflcokhohaaGreatDoor
open Go.RowKit

set_option maxRecDepth 100000 in
set_option maxHeartbeats 4000000 in
theorem eqKs_any (ks ts : List ByteArray) (v u : Value) (w : World) (hl : ks.length ≤ 1000000) (h : isK w ks v) (h' : isK w ts u) :
    Calls Tryz.prog 113 #[v, u] w fun e w' => e = .returned (.bool (decide (ks = ts))) ∧ Below w.heap.size w w' := by
  obtain ⟨a, cap, ⟨o, rfl, hc1, hc2, ho⟩, hks⟩ := h
  obtain ⟨a', cap', ⟨o', rfl, hc1', hc2', ho'⟩, hts⟩ := h'
  unfold maxLen at hc2 hc2'
  have HK := Lib.hid hks
  have HT := Lib.hid hts
  clear hks hts
  by_cases hlen : ks.length = ts.length
  · obtain ⟨r, hr⟩ : ∃ r, decide (ks = ts) = r := ⟨_, rfl⟩
    rw [hr]
    have HR := Lib.hid hr
    have HL := Lib.hid hlen
    rw [← hlen] at hc1' ho' ⊢
    clear hr hlen
    go_enter Tryz.func113, Tryz.ntmps113
    go_wp2_with fail
    go_loopw [13] (fun i wr => ∃ j : Nat, j ≤ ks.length ∧ i = .int .i64 j ∧ Hid (ks.take j = ts.take j) ∧ Hid (Below w.heap.size w wr)) (fun i _ => ks.length - (intOf i).toNat)
    case atStart => exact ⟨0, by omega, rfl, Lib.hid (by simp), Lib.hid (Below.refl _ _)⟩
    case round =>
      obtain ⟨j, hj, rfl, hA, hB⟩ := hrel
      by_cases hlt : j < ks.length
      · obtain rfl := ho (by omega)
        obtain rfl := ho' (by omega)
        have hlt' : j < ts.length := by rw [← HL.out]; exact hlt
        have q0 := cell_below hB.out _ _ (HK.out j hlt).1
        have q1 := cell_below hB.out _ _ (HT.out j hlt').1
        by_cases he : ks[j] = ts[j]
        · have HA : Hid (ks.take (j + 1) = ts.take (j + 1)) := Lib.hid (by rw [List.take_succ_eq_append_getElem hlt, List.take_succ_eq_append_getElem hlt', hA.out, he])
          rw [← he] at q1
          have z : (ks[j].toList == ks[j].toList) = true := beq_self_eq_true _
          clear he hA hlt'
          generalize ks[j] = s at *
          go_wp2_with fail
          go_quiet (fail)
          go_wp2_with fail
          go_roundw
          case rel => exact ⟨j + 1, by omega, by go_num, HA, Lib.hid (hB.out.trans (drewB _ _ _))⟩
          case measure => simp [intOf]; omega
        · have HF : Hid (r = false) := Lib.hid (by
            rw [← HR.out]
            exact decide_eq_false (fun e => he (by subst e; rfl)))
          have z := beq_toList he
          clear he hA HR
          generalize ks[j] = s at *
          generalize ts[j] = t at *
          clear hlt'
          go_wp2_with fail
          go_quiet (fail)
          go_wp2_with fail
          go_ret
          exact ⟨ret_bool HF.out.symm, hB.out.trans (drewB _ _ _)⟩
      · obtain rfl : j = ks.length := by omega
        have HF : Hid (r = true) := Lib.hid (by
          have h := hA.out
          rw [List.take_of_length_le (Nat.le_refl _), List.take_of_length_le (Nat.le_of_eq HL.out.symm)] at h
          rw [← HR.out]
          exact decide_eq_true h)
        go_wp2_with fail
        go_ret
        exact ⟨ret_bool HF.out.symm, hB.out⟩
  · have hne : ks ≠ ts := fun e => hlen (by rw [e])
    rw [decide_eq_false hne]
    have z1 : (ks.length == ts.length) = false := beq_eq_false_iff_ne.2 hlen
    have z2 : ((ks.length : Int) == (ts.length : Int)) = false := beq_eq_false_iff_ne.2 (by omega)
    have z3 : ((ks.length : Int) != (ts.length : Int)) = true := bne_iff_ne.2 (by omega)
    clear HK HT hne
    generalize ks.length = L at *
    generalize ts.length = L' at *
    go_enter Tryz.func113, Tryz.ntmps113
    go_wp2_with fail
    go_ret
    exact ⟨rfl, Below.refl _ _⟩

set_option maxHeartbeats 2000000 in
/-- Two lists of nothing are one. -/
theorem one_nil (o o' : Option Addr) (c c' : Nat) (w : World) :
    Calls Tryz.prog 102 #[.slice o 0 c, .slice o' 0 c'] w fun e w' => e = .returned (.bool true) ∧ Below w.heap.size w w' := by
  go_enter Tryz.func102, Tryz.ntmps102
  go_wp2_with fail
  go_quiet (fail)
  go_wp2_with fail
  go_ret
  exact ⟨rfl, drewB _ _ _⟩

/-- The same, but for what the lists hold. -/
def butB (x y : V) : Bool := decide (x.kind = y.kind) && (decide (x.bool = y.bool) && (decide (x.num = y.num) && (decide (x.text = y.text) && (decide (x.keys = y.keys) && decide (x.list.length = y.list.length)))))

theorem isV_all {W : World} {x : V} {k n : Int} {b : Bool} {s : ByteArray} {o : Option Addr} {m c : Nat} {d : Value} (h : isV W x (.agg #[.int .i8 k, .bool b, .int .i64 n, .string s, .slice o m c, d])) :
    x.kind = k ∧ x.bool = b ∧ x.num = n ∧ x.text = s ∧ m = x.list.length ∧ isK W x.keys d := by
  obtain ⟨k', b', n', s', l, ks⟩ := x
  unfold isV at h
  obtain ⟨lv, kv, e, _, _, h4, ⟨a, cap, ⟨o', e2, _⟩, h6⟩, h7⟩ := h
  simp only [Value.agg.injEq, Array.mk.injEq, List.cons.injEq, Value.int.injEq, Value.string.injEq, Value.bool.injEq, true_and, and_true] at e
  obtain ⟨rfl, rfl, rfl, rfl, rfl, rfl⟩ := e
  simp only [Value.slice.injEq] at e2
  obtain ⟨_, rfl, _⟩ := e2
  exact ⟨rfl, rfl, rfl, rfl, rfl, h7⟩

set_option maxRecDepth 100000 in
set_option maxHeartbeats 8000000 in
theorem alikeBut_any (x y : V) (v u : Value) (w : World) (hM : x.keys.length ≤ 1000000) (h : isV w x v) (h' : isV w y u) :
    Calls Tryz.prog 101 #[v, u] w fun e w' => e = .returned (.bool (butB x y)) ∧ Below w.heap.size w w' := by
  obtain ⟨k, b, n, s, o, m, c, o2, m2, c2, rfl⟩ := isV_six h
  obtain ⟨k', b', n', s', o', m', c', o2', m2', c2', rfl⟩ := isV_six h'
  obtain ⟨e1, e2, e3, e4, e5, hk⟩ := isV_all h
  obtain ⟨d1, d2, d3, d4, d5, hk'⟩ := isV_all h'
  have HB : Hid (KB w ((w.alloc (.cells #[.int .i8 k, .bool b, .int .i64 n, .string s, .slice o m c, .slice o2 m2 c2] 64)).alloc (.cells #[.int .i8 k', .bool b', .int .i64 n', .string s', .slice o' m' c', .slice o2' m2' c2'] 64))) := Lib.hid KB.two
  have HK : Hid (Calls Tryz.prog 113 #[.slice o2 m2 c2, .slice o2' m2' c2'] ((w.alloc (.cells #[.int .i8 k, .bool b, .int .i64 n, .string s, .slice o m c, .slice o2 m2 c2] 64)).alloc (.cells #[.int .i8 k', .bool b', .int .i64 n', .string s', .slice o' m' c', .slice o2' m2' c2'] 64)) fun e w' => e = .returned (.bool (decide (x.keys = y.keys))) ∧ Below ((w.alloc (.cells #[.int .i8 k, .bool b, .int .i64 n, .string s, .slice o m c, .slice o2 m2 c2] 64)).alloc (.cells #[.int .i8 k', .bool b', .int .i64 n', .string s', .slice o' m' c', .slice o2' m2' c2'] 64)).heap.size ((w.alloc (.cells #[.int .i8 k, .bool b, .int .i64 n, .string s, .slice o m c, .slice o2 m2 c2] 64)).alloc (.cells #[.int .i8 k', .bool b', .int .i64 n', .string s', .slice o' m' c', .slice o2' m2' c2'] 64)) w') :=
    Lib.hid (eqKs_any x.keys y.keys _ _ _ hM (isK_keep (cell_below KB.two) hk) (isK_keep (cell_below KB.two) hk'))
  have hcl : ∀ w1, Below ((w.alloc (.cells #[.int .i8 k, .bool b, .int .i64 n, .string s, .slice o m c, .slice o2 m2 c2] 64)).alloc (.cells #[.int .i8 k', .bool b', .int .i64 n', .string s', .slice o' m' c', .slice o2' m2' c2'] 64)).heap.size ((w.alloc (.cells #[.int .i8 k, .bool b, .int .i64 n, .string s, .slice o m c, .slice o2 m2 c2] 64)).alloc (.cells #[.int .i8 k', .bool b', .int .i64 n', .string s', .slice o' m' c', .slice o2' m2' c2'] 64)) w1 → w1.cell? ⟨w.heap.size, 4, none⟩ = some (.slice o m c) ∧ w1.cell? ⟨w.heap.size + 1, 4, none⟩ = some (.slice o' m' c') := fun w1 h1 => ⟨cell_below h1 _ _ (by simp), cell_below h1 _ _ (by simp)⟩
  have HCL := Lib.hid hcl
  have hr : butB x y = (decide (k = k') && (decide (b = b') && (decide (n = n') && (decide (s = s') && (decide (x.keys = y.keys) && decide (m = m')))))) := by
    unfold butB
    rw [e1, e2, e3, e4, d1, d2, d3, d4, e5, d5]
  rw [hr]
  generalize decide (x.keys = y.keys) = R at *
  clear h h' e1 e2 e3 e4 e5 d1 d2 d3 d4 d5 hk hk' hcl hr
  by_cases q1 : k = k'
  · subst q1
    rw [decide_eq_true rfl, Bool.true_and]
    by_cases q2 : b = b'
    · subst q2
      rw [decide_eq_true rfl, Bool.true_and]
      by_cases q3 : n = n'
      · subst q3
        rw [decide_eq_true rfl, Bool.true_and]
        by_cases q4 : s = s'
        · subst q4
          rw [decide_eq_true rfl, Bool.true_and]
          have z4 : (s.toList == s.toList) = true := beq_self_eq_true _
          cases R with
          | false =>
            rw [Bool.false_and]
            go_enter Tryz.func101, Tryz.ntmps101
            go_wp2_with (go_at_call 113; refine HK.out.mono ?_; rintro e w5 ⟨rfl, hb5⟩; obtain ⟨p1, p2⟩ := HCL.out _ hb5)
            go_ret
            exact ⟨rfl, HB.out.trans (hb5.mono HB.out.size)⟩
          | true =>
            rw [Bool.true_and]
            by_cases q5 : m = m'
            · subst q5
              rw [decide_eq_true rfl]
              go_enter Tryz.func101, Tryz.ntmps101
              go_wp2_with (go_at_call 113; refine HK.out.mono ?_; rintro e w5 ⟨rfl, hb5⟩; obtain ⟨p1, p2⟩ := HCL.out _ hb5)
              go_ret
              exact ⟨ret_bool (by simp), HB.out.trans (hb5.mono HB.out.size)⟩
            · rw [decide_eq_false q5]
              have y1 : (m == m') = false := beq_eq_false_iff_ne.2 q5
              have y2 : ((m : Int) == (m' : Int)) = false := beq_eq_false_iff_ne.2 (by omega)
              go_enter Tryz.func101, Tryz.ntmps101
              go_wp2_with (go_at_call 113; refine HK.out.mono ?_; rintro e w5 ⟨rfl, hb5⟩; obtain ⟨p1, p2⟩ := HCL.out _ hb5)
              go_ret
              exact ⟨ret_bool (by simp), HB.out.trans (hb5.mono HB.out.size)⟩
        · rw [decide_eq_false q4, Bool.false_and]
          have z := beq_toList q4
          go_enter Tryz.func101, Tryz.ntmps101
          go_wp2_with fail
          go_ret
          exact ⟨rfl, HB.out⟩
      · rw [decide_eq_false q3, Bool.false_and]
        have z : (n == n') = false := beqI q3
        go_enter Tryz.func101, Tryz.ntmps101
        go_wp2_with fail
        go_ret
        exact ⟨rfl, HB.out⟩
    · rw [decide_eq_false q2, Bool.false_and]
      have z : (b == b') = false := beq_eq_false_iff_ne.2 q2
      go_enter Tryz.func101, Tryz.ntmps101
      go_wp2_with fail
      go_ret
      exact ⟨rfl, HB.out⟩
  · rw [decide_eq_false q1, Bool.false_and]
    have z : (k == k') = false := beqI q1
    go_enter Tryz.func101, Tryz.ntmps101
    go_wp2_with fail
    go_ret
    exact ⟨rfl, HB.out⟩
end Go.Proofs.YtoapaflcokhohaaGreatDoor

set_option linter.unusedVariables false
namespace Go.Proofs.YtoapaflcokhohaaGreatDoor
open Go.RowKit

def zV : V := .mk 0 false 0 ⟨#[]⟩ [] []
theorem butZ (x : V) : butB x zV = sm x zV := by
  cases hb : butB x zV with
  | true =>
    symm
    apply sm_yes
    unfold butB at hb
    simp only [Bool.and_eq_true, decide_eq_true_eq] at hb
    obtain ⟨k, b, n, s, l, ks⟩ := x
    obtain ⟨h1, h2, h3, h4, h5, h6⟩ := hb
    unfold zV at *
    simp only [V.kind, V.bool, V.num, V.text, V.keys, V.list, List.length_nil] at h1 h2 h3 h4 h5 h6
    rw [h1, h2, h3, h4, h5, List.eq_nil_of_length_eq_zero h6]
  | false =>
    symm
    apply sm_no
    intro e
    subst e
    have : butB zV zV = true := by unfold butB zV; simp
    rw [this] at hb
    cases hb

theorem three_rows (U : World) (X Y P : Array Value) (t t' t'' : TypeId) :
    (∀ i, (((U.alloc (.cells X t)).alloc (.cells Y t')).alloc (.cells P t'')).cell? ⟨U.heap.size, i, none⟩ = X[i]?) ∧ (∀ i, (((U.alloc (.cells X t)).alloc (.cells Y t')).alloc (.cells P t'')).cell? ⟨U.heap.size + 1, i, none⟩ = Y[i]?) ∧
    ∀ i, (((U.alloc (.cells X t)).alloc (.cells Y t')).alloc (.cells P t'')).cell? ⟨U.heap.size + 1 + 1, i, none⟩ = P[i]? := by
  have z1 : (U.alloc (.cells X t)).heap.size = U.heap.size + 1 := by simp
  have z2 : ((U.alloc (.cells X t)).alloc (.cells Y t')).heap.size = U.heap.size + 1 + 1 := by simp
  refine ⟨fun i => cell_of_row _ _ _ _ _ _ (((MapKept.heap_alloc _ _).2 U.heap.size (by omega)).trans (((MapKept.heap_alloc _ _).2 U.heap.size (by omega)).trans (MapKept.heap_alloc U _).1)), fun i => ?_, fun i => ?_⟩
  · refine cell_of_row _ _ _ Y t' (0, 0) (((MapKept.heap_alloc _ _).2 (U.heap.size + 1) (by omega)).trans ?_)
    have h := (MapKept.heap_alloc (U.alloc (.cells X t)) (.cells Y t')).1
    rw [z1] at h; exact h
  · refine cell_of_row _ _ _ P t'' (0, 0) ?_
    have h := (MapKept.heap_alloc ((U.alloc (.cells X t)).alloc (.cells Y t')) (.cells P t'')).1
    rw [z2] at h; exact h

set_option maxRecDepth 100000 in
set_option maxHeartbeats 8000000 in
theorem alikeZ_any (x : V) (v u : Value) (w : World) (hM : x.keys.length ≤ 1000000) (h : isV w x v) (h' : isV w zV u) :
    Calls Tryz.prog 94 #[v, u] w fun e w' => e = .returned (.bool (sm x zV)) ∧ Below w.heap.size w w' := by
  obtain ⟨k, b, n, s, o, m, c, o2, m2, c2, rfl⟩ := isV_six h
  obtain ⟨k', b', n', s', o', m', c', o2', m2', c2', rfl⟩ := isV_six h'
  obtain ⟨_, _, _, _, hm, _⟩ := isV_all h
  obtain ⟨_, _, _, _, hm', _⟩ := isV_all h'
  obtain rfl : m' = 0 := hm'
  have hbz : butB x zV = true → m = 0 := fun hb => by
    unfold butB at hb
    simp only [Bool.and_eq_true, decide_eq_true_eq] at hb
    rw [hm]
    exact hb.2.2.2.2.2
  have HBUT : Hid (∀ w1, KB w w1 → Calls Tryz.prog 101 #[.agg #[.int .i8 k, .bool b, .int .i64 n, .string s, .slice o m c, .slice o2 m2 c2], .agg #[.int .i8 k', .bool b', .int .i64 n', .string s', .slice o' 0 c', .slice o2' m2' c2']] w1 fun e w' => e = .returned (.bool (butB x zV)) ∧ Below w1.heap.size w1 w') := Lib.hid fun w1 hK => alikeBut_any x zV _ _ w1 hM (isV_below hK h) (isV_below hK h')
  have HONE : Hid (∀ w1, Calls Tryz.prog 102 #[.slice o 0 c, .slice o' 0 c'] w1 fun e w' => e = .returned (.bool true) ∧ Below w1.heap.size w1 w') := Lib.hid fun w1 => one_nil o o' c c' w1
  rw [butZ] at HBUT hbz
  obtain ⟨r, hr⟩ : ∃ r, sm x zV = r := ⟨_, rfl⟩
  rw [hr] at HBUT hbz ⊢
  clear h h' hm hM hr
  have HB5 : Hid (Below w.heap.size w (((((w.alloc (.cells #[.int .i8 k, .bool b, .int .i64 n, .string s, .slice o m c, .slice o2 m2 c2] 64)).alloc (.cells #[.int .i8 k', .bool b', .int .i64 n', .string s', .slice o' 0 c', .slice o2' m2' c2'] 64)).alloc (.cells #[.int .i8 k, .bool b, .int .i64 n, .string s, .slice o m c, .slice o2 m2 c2] 64)).alloc (.cells #[.int .i8 k', .bool b', .int .i64 n', .string s', .slice o' 0 c', .slice o2' m2' c2'] 64)).alloc (.cells #[.slice (some ⟨w.heap.size + 1 + 1, 0, none⟩) 1 1, .slice (some ⟨w.heap.size + 1 + 1 + 1, 0, none⟩) 1 1] 136))) := Lib.hid (((((Below.refl _ _).alloc (Nat.le_refl _) _).alloc (by simp) _).alloc (by simp; omega) _).alloc (by simp; omega) _ |>.alloc (by simp; omega) _)
  have hU : ((w.alloc (.cells #[.int .i8 k, .bool b, .int .i64 n, .string s, .slice o m c, .slice o2 m2 c2] 64)).alloc (.cells #[.int .i8 k', .bool b', .int .i64 n', .string s', .slice o' 0 c', .slice o2' m2' c2'] 64)).heap.size = w.heap.size + 1 + 1 := by simp
  have h3 := three_rows ((w.alloc (.cells #[.int .i8 k, .bool b, .int .i64 n, .string s, .slice o m c, .slice o2 m2 c2] 64)).alloc (.cells #[.int .i8 k', .bool b', .int .i64 n', .string s', .slice o' 0 c', .slice o2' m2' c2'] 64)) (#[.int .i8 k, .bool b, .int .i64 n, .string s, .slice o m c, .slice o2 m2 c2] : Array Value) (#[.int .i8 k', .bool b', .int .i64 n', .string s', .slice o' 0 c', .slice o2' m2' c2'] : Array Value) (#[.slice (some ⟨w.heap.size + 1 + 1, 0, none⟩) 1 1, .slice (some ⟨w.heap.size + 1 + 1 + 1, 0, none⟩) 1 1] : Array Value) 64 64 136
  rw [hU] at h3
  have Fx0 : (((((w.alloc (.cells #[.int .i8 k, .bool b, .int .i64 n, .string s, .slice o m c, .slice o2 m2 c2] 64)).alloc (.cells #[.int .i8 k', .bool b', .int .i64 n', .string s', .slice o' 0 c', .slice o2' m2' c2'] 64)).alloc (.cells #[.int .i8 k, .bool b, .int .i64 n, .string s, .slice o m c, .slice o2 m2 c2] 64)).alloc (.cells #[.int .i8 k', .bool b', .int .i64 n', .string s', .slice o' 0 c', .slice o2' m2' c2'] 64)).alloc (.cells #[.slice (some ⟨w.heap.size + 1 + 1, 0, none⟩) 1 1, .slice (some ⟨w.heap.size + 1 + 1 + 1, 0, none⟩) 1 1] 136)).cell? ⟨w.heap.size + 1 + 1, 0, none⟩ = some (.int .i8 k) := (h3.1 0).trans rfl
  have Fx1 : (((((w.alloc (.cells #[.int .i8 k, .bool b, .int .i64 n, .string s, .slice o m c, .slice o2 m2 c2] 64)).alloc (.cells #[.int .i8 k', .bool b', .int .i64 n', .string s', .slice o' 0 c', .slice o2' m2' c2'] 64)).alloc (.cells #[.int .i8 k, .bool b, .int .i64 n, .string s, .slice o m c, .slice o2 m2 c2] 64)).alloc (.cells #[.int .i8 k', .bool b', .int .i64 n', .string s', .slice o' 0 c', .slice o2' m2' c2'] 64)).alloc (.cells #[.slice (some ⟨w.heap.size + 1 + 1, 0, none⟩) 1 1, .slice (some ⟨w.heap.size + 1 + 1 + 1, 0, none⟩) 1 1] 136)).cell? ⟨w.heap.size + 1 + 1, 1, none⟩ = some (.bool b) := (h3.1 1).trans rfl
  have Fx2 : (((((w.alloc (.cells #[.int .i8 k, .bool b, .int .i64 n, .string s, .slice o m c, .slice o2 m2 c2] 64)).alloc (.cells #[.int .i8 k', .bool b', .int .i64 n', .string s', .slice o' 0 c', .slice o2' m2' c2'] 64)).alloc (.cells #[.int .i8 k, .bool b, .int .i64 n, .string s, .slice o m c, .slice o2 m2 c2] 64)).alloc (.cells #[.int .i8 k', .bool b', .int .i64 n', .string s', .slice o' 0 c', .slice o2' m2' c2'] 64)).alloc (.cells #[.slice (some ⟨w.heap.size + 1 + 1, 0, none⟩) 1 1, .slice (some ⟨w.heap.size + 1 + 1 + 1, 0, none⟩) 1 1] 136)).cell? ⟨w.heap.size + 1 + 1, 2, none⟩ = some (.int .i64 n) := (h3.1 2).trans rfl
  have Fx3 : (((((w.alloc (.cells #[.int .i8 k, .bool b, .int .i64 n, .string s, .slice o m c, .slice o2 m2 c2] 64)).alloc (.cells #[.int .i8 k', .bool b', .int .i64 n', .string s', .slice o' 0 c', .slice o2' m2' c2'] 64)).alloc (.cells #[.int .i8 k, .bool b, .int .i64 n, .string s, .slice o m c, .slice o2 m2 c2] 64)).alloc (.cells #[.int .i8 k', .bool b', .int .i64 n', .string s', .slice o' 0 c', .slice o2' m2' c2'] 64)).alloc (.cells #[.slice (some ⟨w.heap.size + 1 + 1, 0, none⟩) 1 1, .slice (some ⟨w.heap.size + 1 + 1 + 1, 0, none⟩) 1 1] 136)).cell? ⟨w.heap.size + 1 + 1, 3, none⟩ = some (.string s) := (h3.1 3).trans rfl
  have Fx4 : (((((w.alloc (.cells #[.int .i8 k, .bool b, .int .i64 n, .string s, .slice o m c, .slice o2 m2 c2] 64)).alloc (.cells #[.int .i8 k', .bool b', .int .i64 n', .string s', .slice o' 0 c', .slice o2' m2' c2'] 64)).alloc (.cells #[.int .i8 k, .bool b, .int .i64 n, .string s, .slice o m c, .slice o2 m2 c2] 64)).alloc (.cells #[.int .i8 k', .bool b', .int .i64 n', .string s', .slice o' 0 c', .slice o2' m2' c2'] 64)).alloc (.cells #[.slice (some ⟨w.heap.size + 1 + 1, 0, none⟩) 1 1, .slice (some ⟨w.heap.size + 1 + 1 + 1, 0, none⟩) 1 1] 136)).cell? ⟨w.heap.size + 1 + 1, 4, none⟩ = some (.slice o m c) := (h3.1 4).trans rfl
  have Fx5 : (((((w.alloc (.cells #[.int .i8 k, .bool b, .int .i64 n, .string s, .slice o m c, .slice o2 m2 c2] 64)).alloc (.cells #[.int .i8 k', .bool b', .int .i64 n', .string s', .slice o' 0 c', .slice o2' m2' c2'] 64)).alloc (.cells #[.int .i8 k, .bool b, .int .i64 n, .string s, .slice o m c, .slice o2 m2 c2] 64)).alloc (.cells #[.int .i8 k', .bool b', .int .i64 n', .string s', .slice o' 0 c', .slice o2' m2' c2'] 64)).alloc (.cells #[.slice (some ⟨w.heap.size + 1 + 1, 0, none⟩) 1 1, .slice (some ⟨w.heap.size + 1 + 1 + 1, 0, none⟩) 1 1] 136)).cell? ⟨w.heap.size + 1 + 1, 5, none⟩ = some (.slice o2 m2 c2) := (h3.1 5).trans rfl
  have Fy0 : (((((w.alloc (.cells #[.int .i8 k, .bool b, .int .i64 n, .string s, .slice o m c, .slice o2 m2 c2] 64)).alloc (.cells #[.int .i8 k', .bool b', .int .i64 n', .string s', .slice o' 0 c', .slice o2' m2' c2'] 64)).alloc (.cells #[.int .i8 k, .bool b, .int .i64 n, .string s, .slice o m c, .slice o2 m2 c2] 64)).alloc (.cells #[.int .i8 k', .bool b', .int .i64 n', .string s', .slice o' 0 c', .slice o2' m2' c2'] 64)).alloc (.cells #[.slice (some ⟨w.heap.size + 1 + 1, 0, none⟩) 1 1, .slice (some ⟨w.heap.size + 1 + 1 + 1, 0, none⟩) 1 1] 136)).cell? ⟨w.heap.size + 1 + 1 + 1, 0, none⟩ = some (.int .i8 k') := (h3.2.1 0).trans rfl
  have Fy1 : (((((w.alloc (.cells #[.int .i8 k, .bool b, .int .i64 n, .string s, .slice o m c, .slice o2 m2 c2] 64)).alloc (.cells #[.int .i8 k', .bool b', .int .i64 n', .string s', .slice o' 0 c', .slice o2' m2' c2'] 64)).alloc (.cells #[.int .i8 k, .bool b, .int .i64 n, .string s, .slice o m c, .slice o2 m2 c2] 64)).alloc (.cells #[.int .i8 k', .bool b', .int .i64 n', .string s', .slice o' 0 c', .slice o2' m2' c2'] 64)).alloc (.cells #[.slice (some ⟨w.heap.size + 1 + 1, 0, none⟩) 1 1, .slice (some ⟨w.heap.size + 1 + 1 + 1, 0, none⟩) 1 1] 136)).cell? ⟨w.heap.size + 1 + 1 + 1, 1, none⟩ = some (.bool b') := (h3.2.1 1).trans rfl
  have Fy2 : (((((w.alloc (.cells #[.int .i8 k, .bool b, .int .i64 n, .string s, .slice o m c, .slice o2 m2 c2] 64)).alloc (.cells #[.int .i8 k', .bool b', .int .i64 n', .string s', .slice o' 0 c', .slice o2' m2' c2'] 64)).alloc (.cells #[.int .i8 k, .bool b, .int .i64 n, .string s, .slice o m c, .slice o2 m2 c2] 64)).alloc (.cells #[.int .i8 k', .bool b', .int .i64 n', .string s', .slice o' 0 c', .slice o2' m2' c2'] 64)).alloc (.cells #[.slice (some ⟨w.heap.size + 1 + 1, 0, none⟩) 1 1, .slice (some ⟨w.heap.size + 1 + 1 + 1, 0, none⟩) 1 1] 136)).cell? ⟨w.heap.size + 1 + 1 + 1, 2, none⟩ = some (.int .i64 n') := (h3.2.1 2).trans rfl
  have Fy3 : (((((w.alloc (.cells #[.int .i8 k, .bool b, .int .i64 n, .string s, .slice o m c, .slice o2 m2 c2] 64)).alloc (.cells #[.int .i8 k', .bool b', .int .i64 n', .string s', .slice o' 0 c', .slice o2' m2' c2'] 64)).alloc (.cells #[.int .i8 k, .bool b, .int .i64 n, .string s, .slice o m c, .slice o2 m2 c2] 64)).alloc (.cells #[.int .i8 k', .bool b', .int .i64 n', .string s', .slice o' 0 c', .slice o2' m2' c2'] 64)).alloc (.cells #[.slice (some ⟨w.heap.size + 1 + 1, 0, none⟩) 1 1, .slice (some ⟨w.heap.size + 1 + 1 + 1, 0, none⟩) 1 1] 136)).cell? ⟨w.heap.size + 1 + 1 + 1, 3, none⟩ = some (.string s') := (h3.2.1 3).trans rfl
  have Fy4 : (((((w.alloc (.cells #[.int .i8 k, .bool b, .int .i64 n, .string s, .slice o m c, .slice o2 m2 c2] 64)).alloc (.cells #[.int .i8 k', .bool b', .int .i64 n', .string s', .slice o' 0 c', .slice o2' m2' c2'] 64)).alloc (.cells #[.int .i8 k, .bool b, .int .i64 n, .string s, .slice o m c, .slice o2 m2 c2] 64)).alloc (.cells #[.int .i8 k', .bool b', .int .i64 n', .string s', .slice o' 0 c', .slice o2' m2' c2'] 64)).alloc (.cells #[.slice (some ⟨w.heap.size + 1 + 1, 0, none⟩) 1 1, .slice (some ⟨w.heap.size + 1 + 1 + 1, 0, none⟩) 1 1] 136)).cell? ⟨w.heap.size + 1 + 1 + 1, 4, none⟩ = some (.slice o' 0 c') := (h3.2.1 4).trans rfl
  have Fy5 : (((((w.alloc (.cells #[.int .i8 k, .bool b, .int .i64 n, .string s, .slice o m c, .slice o2 m2 c2] 64)).alloc (.cells #[.int .i8 k', .bool b', .int .i64 n', .string s', .slice o' 0 c', .slice o2' m2' c2'] 64)).alloc (.cells #[.int .i8 k, .bool b, .int .i64 n, .string s, .slice o m c, .slice o2 m2 c2] 64)).alloc (.cells #[.int .i8 k', .bool b', .int .i64 n', .string s', .slice o' 0 c', .slice o2' m2' c2'] 64)).alloc (.cells #[.slice (some ⟨w.heap.size + 1 + 1, 0, none⟩) 1 1, .slice (some ⟨w.heap.size + 1 + 1 + 1, 0, none⟩) 1 1] 136)).cell? ⟨w.heap.size + 1 + 1 + 1, 5, none⟩ = some (.slice o2' m2' c2') := (h3.2.1 5).trans rfl
  have Fp0 : (((((w.alloc (.cells #[.int .i8 k, .bool b, .int .i64 n, .string s, .slice o m c, .slice o2 m2 c2] 64)).alloc (.cells #[.int .i8 k', .bool b', .int .i64 n', .string s', .slice o' 0 c', .slice o2' m2' c2'] 64)).alloc (.cells #[.int .i8 k, .bool b, .int .i64 n, .string s, .slice o m c, .slice o2 m2 c2] 64)).alloc (.cells #[.int .i8 k', .bool b', .int .i64 n', .string s', .slice o' 0 c', .slice o2' m2' c2'] 64)).alloc (.cells #[.slice (some ⟨w.heap.size + 1 + 1, 0, none⟩) 1 1, .slice (some ⟨w.heap.size + 1 + 1 + 1, 0, none⟩) 1 1] 136)).cell? ⟨w.heap.size + 1 + 1 + 1 + 1, 0, none⟩ = some (.slice (some ⟨w.heap.size + 1 + 1, 0, none⟩) 1 1) := (h3.2.2 0).trans rfl
  have Fp1 : (((((w.alloc (.cells #[.int .i8 k, .bool b, .int .i64 n, .string s, .slice o m c, .slice o2 m2 c2] 64)).alloc (.cells #[.int .i8 k', .bool b', .int .i64 n', .string s', .slice o' 0 c', .slice o2' m2' c2'] 64)).alloc (.cells #[.int .i8 k, .bool b, .int .i64 n, .string s, .slice o m c, .slice o2 m2 c2] 64)).alloc (.cells #[.int .i8 k', .bool b', .int .i64 n', .string s', .slice o' 0 c', .slice o2' m2' c2'] 64)).alloc (.cells #[.slice (some ⟨w.heap.size + 1 + 1, 0, none⟩) 1 1, .slice (some ⟨w.heap.size + 1 + 1 + 1, 0, none⟩) 1 1] 136)).cell? ⟨w.heap.size + 1 + 1 + 1 + 1, 1, none⟩ = some (.slice (some ⟨w.heap.size + 1 + 1 + 1, 0, none⟩) 1 1) := (h3.2.2 1).trans rfl
  clear h3 hU
  cases r with
  | true =>
    obtain rfl : 0 = m := (hbz rfl).symm
    go_enter Tryz.func94, Tryz.ntmps94
    go_wp2_with fail
    generalize (((((w.alloc (.cells #[.int .i8 k, .bool b, .int .i64 n, .string s, .slice o 0 c, .slice o2 m2 c2] 64)).alloc (.cells #[.int .i8 k', .bool b', .int .i64 n', .string s', .slice o' 0 c', .slice o2' m2' c2'] 64)).alloc (.cells #[.int .i8 k, .bool b, .int .i64 n, .string s, .slice o 0 c, .slice o2 m2 c2] 64)).alloc (.cells #[.int .i8 k', .bool b', .int .i64 n', .string s', .slice o' 0 c', .slice o2' m2' c2'] 64)).alloc (.cells #[.slice (some ⟨w.heap.size + 1 + 1, 0, none⟩) 1 1, .slice (some ⟨w.heap.size + 1 + 1 + 1, 0, none⟩) 1 1] 136)) = W5 at *
    go_loopg [5] 1 (fun g lv wr => (g = 1 ∧ lv = .slice (some ⟨w.heap.size + 1 + 1 + 1 + 1, 0, none⟩) 1 1 ∧ Hid (Below W5.heap.size W5 wr)) ∨ (g = 0 ∧ lv = .slice (some ⟨w.heap.size + 1 + 1 + 1 + 1, 0, none⟩) 0 1 ∧ Hid (true = true) ∧ Hid (Below W5.heap.size W5 wr)))
    case atStart => exact .inl ⟨rfl, rfl, Lib.hid (Below.refl _ _)⟩
    case round =>
      rcases hrel with ⟨rfl, rfl, hB⟩ | ⟨rfl, rfl, hR, hB⟩
      · have hBw := HB5.out.trans (hB.out.mono HB5.out.size)
        have Gx0 := cell_below hB.out _ _ Fx0
        have Gx1 := cell_below hB.out _ _ Fx1
        have Gx2 := cell_below hB.out _ _ Fx2
        have Gx3 := cell_below hB.out _ _ Fx3
        have Gx4 := cell_below hB.out _ _ Fx4
        have Gx5 := cell_below hB.out _ _ Fx5
        have Gy0 := cell_below hB.out _ _ Fy0
        have Gy1 := cell_below hB.out _ _ Fy1
        have Gy2 := cell_below hB.out _ _ Fy2
        have Gy3 := cell_below hB.out _ _ Fy3
        have Gy4 := cell_below hB.out _ _ Fy4
        have Gy5 := cell_below hB.out _ _ Fy5
        have Gp0 := cell_below hB.out _ _ Fp0
        have Gp1 := cell_below hB.out _ _ Fp1
        have hbp : Below wr.heap.size wr (wr.alloc (.cells #[.slice (some ⟨w.heap.size + 1 + 1, 0, none⟩) 1 1, .slice (some ⟨w.heap.size + 1 + 1 + 1, 0, none⟩) 1 1] 136)) := (Below.refl _ _).alloc (Nat.le_refl _) _
        have Hq0 : (wr.alloc (.cells #[.slice (some ⟨w.heap.size + 1 + 1, 0, none⟩) 1 1, .slice (some ⟨w.heap.size + 1 + 1 + 1, 0, none⟩) 1 1] 136)).cell? ⟨wr.heap.size, 0, none⟩ = some (.slice (some ⟨w.heap.size + 1 + 1, 0, none⟩) 1 1) := by simp
        have Hq1 : (wr.alloc (.cells #[.slice (some ⟨w.heap.size + 1 + 1, 0, none⟩) 1 1, .slice (some ⟨w.heap.size + 1 + 1 + 1, 0, none⟩) 1 1] 136)).cell? ⟨wr.heap.size, 1, none⟩ = some (.slice (some ⟨w.heap.size + 1 + 1 + 1, 0, none⟩) 1 1) := by simp
        have Hx0 := cell_below hbp _ _ Gx0
        have Hx1 := cell_below hbp _ _ Gx1
        have Hx2 := cell_below hbp _ _ Gx2
        have Hx3 := cell_below hbp _ _ Gx3
        have Hx4 := cell_below hbp _ _ Gx4
        have Hx5 := cell_below hbp _ _ Gx5
        have Hy0 := cell_below hbp _ _ Gy0
        have Hy1 := cell_below hbp _ _ Gy1
        have Hy2 := cell_below hbp _ _ Gy2
        have Hy3 := cell_below hbp _ _ Gy3
        have Hy4 := cell_below hbp _ _ Gy4
        have Hy5 := cell_below hbp _ _ Gy5
        have Hp0 := cell_below hbp _ _ Gp0
        have Hp1 := cell_below hbp _ _ Gp1
        have HBP := Lib.hid (hBw.trans (hbp.mono hBw.size))
        have HB9 := Lib.hid (hB.out.trans (hbp.mono hB.out.size))
        clear hbp hBw hB
        go_wp2_with fail
        generalize (wr.alloc (.cells #[.slice (some ⟨w.heap.size + 1 + 1, 0, none⟩) 1 1, .slice (some ⟨w.heap.size + 1 + 1 + 1, 0, none⟩) 1 1] 136)) = wp at *
        go_loopw [5, 33] (fun lv i w6 => lv = .slice (some ⟨w.heap.size + 1 + 1 + 1 + 1, 0, none⟩) 0 1 ∧ (i = .int .i64 0 ∨ (i = .int .i64 1 ∧ Hid (true = true))) ∧ Hid (Below wp.heap.size wp w6)) (fun _ i _ => 1 - (intOf i).toNat)
        case atStart => exact ⟨rfl, .inl rfl, Lib.hid (Below.refl _ _)⟩
        case round =>
          obtain ⟨rfl, hi, hB6⟩ := hrel
          rcases hi with rfl | ⟨rfl, hR⟩
          · have hBw6 := HBP.out.trans (hB6.out.mono HBP.out.size)
            have Kx0 := cell_below hB6.out _ _ Hx0
            have Kx1 := cell_below hB6.out _ _ Hx1
            have Kx2 := cell_below hB6.out _ _ Hx2
            have Kx3 := cell_below hB6.out _ _ Hx3
            have Kx4 := cell_below hB6.out _ _ Hx4
            have Kx5 := cell_below hB6.out _ _ Hx5
            have Ky0 := cell_below hB6.out _ _ Hy0
            have Ky1 := cell_below hB6.out _ _ Hy1
            have Ky2 := cell_below hB6.out _ _ Hy2
            have Ky3 := cell_below hB6.out _ _ Hy3
            have Ky4 := cell_below hB6.out _ _ Hy4
            have Ky5 := cell_below hB6.out _ _ Hy5
            have Kp0 := cell_below hB6.out _ _ Hp0
            have Kp1 := cell_below hB6.out _ _ Hp1
            have Kq0 := cell_below hB6.out _ _ Hq0
            have Kq1 := cell_below hB6.out _ _ Hq1
            have hbA : Below wr.heap.size wr (wr.alloc (.cells #[.int .i8 k, .bool b, .int .i64 n, .string s, .slice o 0 c, .slice o2 m2 c2] 64)) := (Below.refl _ _).alloc (Nat.le_refl _) _
            have Mq1 := cell_below hbA _ _ Kq1
            have My0 := cell_below hbA _ _ Ky0
            have My1 := cell_below hbA _ _ Ky1
            have My2 := cell_below hbA _ _ Ky2
            have My3 := cell_below hbA _ _ Ky3
            have My4 := cell_below hbA _ _ Ky4
            have My5 := cell_below hbA _ _ Ky5
            clear hbA
            have hcl : ∀ w8, Below ((wr.alloc (.cells #[.int .i8 k, .bool b, .int .i64 n, .string s, .slice o 0 c, .slice o2 m2 c2] 64)).alloc (.cells #[.int .i8 k', .bool b', .int .i64 n', .string s', .slice o' 0 c', .slice o2' m2' c2'] 64)).heap.size ((wr.alloc (.cells #[.int .i8 k, .bool b, .int .i64 n, .string s, .slice o 0 c, .slice o2 m2 c2] 64)).alloc (.cells #[.int .i8 k', .bool b', .int .i64 n', .string s', .slice o' 0 c', .slice o2' m2' c2'] 64)) w8 → w8.cell? ⟨wr.heap.size, 4, none⟩ = some (.slice o 0 c) ∧ w8.cell? ⟨wr.heap.size + 1, 4, none⟩ = some (.slice o' 0 c') := fun w8 h8 => ⟨cell_below h8 _ _ (by simp), cell_below h8 _ _ (by simp)⟩
            have HCL := Lib.hid hcl
            have hb67 : Below wr.heap.size wr ((wr.alloc (.cells #[.int .i8 k, .bool b, .int .i64 n, .string s, .slice o 0 c, .slice o2 m2 c2] 64)).alloc (.cells #[.int .i8 k', .bool b', .int .i64 n', .string s', .slice o' 0 c', .slice o2' m2' c2'] 64)) := ((Below.refl _ _).alloc (Nat.le_refl _) _).alloc (by simp) _
            have HB67 := Lib.hid hb67
            have HX := Lib.hid (HBUT.out _ (hBw6.trans (hb67.mono hBw6.size)))
            clear hcl hb67
            go_wp2_with (go_at_call 101; refine HX.out.mono ?_; rintro e w8 ⟨rfl, hb8⟩; obtain ⟨m1, m2'⟩ := HCL.out _ hb8)
            go_wp2_with (go_at_call 102; refine (HONE.out _).mono ?_; rintro e w9 ⟨rfl, hb9⟩)
            go_roundw
            case rel => exact ⟨rfl, .inr ⟨rfl, Lib.hid (by simp)⟩, Lib.hid (hB6.out.trans ((HB67.out.trans ((hb8.trans (hb9.mono hb8.size)).mono HB67.out.size)).mono hB6.out.size))⟩
            case measure => simp [intOf]
          · go_wp2_with fail
            go_roundg 0
            case measure => omega
            case rel => exact .inr ⟨rfl, rfl, Lib.hid (by simp), Lib.hid (HB9.out.trans (hB6.out.mono HB9.out.size))⟩
      · go_wp2_with fail
        go_ret
        exact ⟨rfl, HB5.out.trans (hB.out.mono HB5.out.size)⟩
  | false =>
    clear hbz
    go_enter Tryz.func94, Tryz.ntmps94
    go_wp2_with fail
    generalize (((((w.alloc (.cells #[.int .i8 k, .bool b, .int .i64 n, .string s, .slice o m c, .slice o2 m2 c2] 64)).alloc (.cells #[.int .i8 k', .bool b', .int .i64 n', .string s', .slice o' 0 c', .slice o2' m2' c2'] 64)).alloc (.cells #[.int .i8 k, .bool b, .int .i64 n, .string s, .slice o m c, .slice o2 m2 c2] 64)).alloc (.cells #[.int .i8 k', .bool b', .int .i64 n', .string s', .slice o' 0 c', .slice o2' m2' c2'] 64)).alloc (.cells #[.slice (some ⟨w.heap.size + 1 + 1, 0, none⟩) 1 1, .slice (some ⟨w.heap.size + 1 + 1 + 1, 0, none⟩) 1 1] 136)) = W5 at *
    go_loopg [5] 1 (fun g lv wr => (g = 1 ∧ lv = .slice (some ⟨w.heap.size + 1 + 1 + 1 + 1, 0, none⟩) 1 1 ∧ Hid (Below W5.heap.size W5 wr)) ∨ (g = 0 ∧ lv = .slice (some ⟨w.heap.size + 1 + 1 + 1 + 1, 0, none⟩) 0 1 ∧ Hid (false = true) ∧ Hid (Below W5.heap.size W5 wr)))
    case atStart => exact .inl ⟨rfl, rfl, Lib.hid (Below.refl _ _)⟩
    case round =>
      rcases hrel with ⟨rfl, rfl, hB⟩ | ⟨rfl, rfl, hR, hB⟩
      · have hBw := HB5.out.trans (hB.out.mono HB5.out.size)
        have Gx0 := cell_below hB.out _ _ Fx0
        have Gx1 := cell_below hB.out _ _ Fx1
        have Gx2 := cell_below hB.out _ _ Fx2
        have Gx3 := cell_below hB.out _ _ Fx3
        have Gx4 := cell_below hB.out _ _ Fx4
        have Gx5 := cell_below hB.out _ _ Fx5
        have Gy0 := cell_below hB.out _ _ Fy0
        have Gy1 := cell_below hB.out _ _ Fy1
        have Gy2 := cell_below hB.out _ _ Fy2
        have Gy3 := cell_below hB.out _ _ Fy3
        have Gy4 := cell_below hB.out _ _ Fy4
        have Gy5 := cell_below hB.out _ _ Fy5
        have Gp0 := cell_below hB.out _ _ Fp0
        have Gp1 := cell_below hB.out _ _ Fp1
        have hbp : Below wr.heap.size wr (wr.alloc (.cells #[.slice (some ⟨w.heap.size + 1 + 1, 0, none⟩) 1 1, .slice (some ⟨w.heap.size + 1 + 1 + 1, 0, none⟩) 1 1] 136)) := (Below.refl _ _).alloc (Nat.le_refl _) _
        have Hq0 : (wr.alloc (.cells #[.slice (some ⟨w.heap.size + 1 + 1, 0, none⟩) 1 1, .slice (some ⟨w.heap.size + 1 + 1 + 1, 0, none⟩) 1 1] 136)).cell? ⟨wr.heap.size, 0, none⟩ = some (.slice (some ⟨w.heap.size + 1 + 1, 0, none⟩) 1 1) := by simp
        have Hq1 : (wr.alloc (.cells #[.slice (some ⟨w.heap.size + 1 + 1, 0, none⟩) 1 1, .slice (some ⟨w.heap.size + 1 + 1 + 1, 0, none⟩) 1 1] 136)).cell? ⟨wr.heap.size, 1, none⟩ = some (.slice (some ⟨w.heap.size + 1 + 1 + 1, 0, none⟩) 1 1) := by simp
        have Hx0 := cell_below hbp _ _ Gx0
        have Hx1 := cell_below hbp _ _ Gx1
        have Hx2 := cell_below hbp _ _ Gx2
        have Hx3 := cell_below hbp _ _ Gx3
        have Hx4 := cell_below hbp _ _ Gx4
        have Hx5 := cell_below hbp _ _ Gx5
        have Hy0 := cell_below hbp _ _ Gy0
        have Hy1 := cell_below hbp _ _ Gy1
        have Hy2 := cell_below hbp _ _ Gy2
        have Hy3 := cell_below hbp _ _ Gy3
        have Hy4 := cell_below hbp _ _ Gy4
        have Hy5 := cell_below hbp _ _ Gy5
        have Hp0 := cell_below hbp _ _ Gp0
        have Hp1 := cell_below hbp _ _ Gp1
        have HBP := Lib.hid (hBw.trans (hbp.mono hBw.size))
        have HB9 := Lib.hid (hB.out.trans (hbp.mono hB.out.size))
        clear hbp hBw hB
        go_wp2_with fail
        generalize (wr.alloc (.cells #[.slice (some ⟨w.heap.size + 1 + 1, 0, none⟩) 1 1, .slice (some ⟨w.heap.size + 1 + 1 + 1, 0, none⟩) 1 1] 136)) = wp at *
        go_loopw [5, 33] (fun lv i w6 => lv = .slice (some ⟨w.heap.size + 1 + 1 + 1 + 1, 0, none⟩) 0 1 ∧ (i = .int .i64 0 ∨ (i = .int .i64 1 ∧ Hid (false = true))) ∧ Hid (Below wp.heap.size wp w6)) (fun _ i _ => 1 - (intOf i).toNat)
        case atStart => exact ⟨rfl, .inl rfl, Lib.hid (Below.refl _ _)⟩
        case round =>
          obtain ⟨rfl, hi, hB6⟩ := hrel
          rcases hi with rfl | ⟨rfl, hR⟩
          · have hBw6 := HBP.out.trans (hB6.out.mono HBP.out.size)
            have Kx0 := cell_below hB6.out _ _ Hx0
            have Kx1 := cell_below hB6.out _ _ Hx1
            have Kx2 := cell_below hB6.out _ _ Hx2
            have Kx3 := cell_below hB6.out _ _ Hx3
            have Kx4 := cell_below hB6.out _ _ Hx4
            have Kx5 := cell_below hB6.out _ _ Hx5
            have Ky0 := cell_below hB6.out _ _ Hy0
            have Ky1 := cell_below hB6.out _ _ Hy1
            have Ky2 := cell_below hB6.out _ _ Hy2
            have Ky3 := cell_below hB6.out _ _ Hy3
            have Ky4 := cell_below hB6.out _ _ Hy4
            have Ky5 := cell_below hB6.out _ _ Hy5
            have Kp0 := cell_below hB6.out _ _ Hp0
            have Kp1 := cell_below hB6.out _ _ Hp1
            have Kq0 := cell_below hB6.out _ _ Hq0
            have Kq1 := cell_below hB6.out _ _ Hq1
            have hbA : Below wr.heap.size wr (wr.alloc (.cells #[.int .i8 k, .bool b, .int .i64 n, .string s, .slice o m c, .slice o2 m2 c2] 64)) := (Below.refl _ _).alloc (Nat.le_refl _) _
            have Mq1 := cell_below hbA _ _ Kq1
            have My0 := cell_below hbA _ _ Ky0
            have My1 := cell_below hbA _ _ Ky1
            have My2 := cell_below hbA _ _ Ky2
            have My3 := cell_below hbA _ _ Ky3
            have My4 := cell_below hbA _ _ Ky4
            have My5 := cell_below hbA _ _ Ky5
            clear hbA
            have hcl : ∀ w8, Below ((wr.alloc (.cells #[.int .i8 k, .bool b, .int .i64 n, .string s, .slice o m c, .slice o2 m2 c2] 64)).alloc (.cells #[.int .i8 k', .bool b', .int .i64 n', .string s', .slice o' 0 c', .slice o2' m2' c2'] 64)).heap.size ((wr.alloc (.cells #[.int .i8 k, .bool b, .int .i64 n, .string s, .slice o m c, .slice o2 m2 c2] 64)).alloc (.cells #[.int .i8 k', .bool b', .int .i64 n', .string s', .slice o' 0 c', .slice o2' m2' c2'] 64)) w8 → w8.cell? ⟨wr.heap.size, 4, none⟩ = some (.slice o m c) ∧ w8.cell? ⟨wr.heap.size + 1, 4, none⟩ = some (.slice o' 0 c') := fun w8 h8 => ⟨cell_below h8 _ _ (by simp), cell_below h8 _ _ (by simp)⟩
            have HCL := Lib.hid hcl
            have hb67 : Below wr.heap.size wr ((wr.alloc (.cells #[.int .i8 k, .bool b, .int .i64 n, .string s, .slice o m c, .slice o2 m2 c2] 64)).alloc (.cells #[.int .i8 k', .bool b', .int .i64 n', .string s', .slice o' 0 c', .slice o2' m2' c2'] 64)) := ((Below.refl _ _).alloc (Nat.le_refl _) _).alloc (by simp) _
            have HB67 := Lib.hid hb67
            have HX := Lib.hid (HBUT.out _ (hBw6.trans (hb67.mono hBw6.size)))
            clear hcl hb67
            go_wp2_with (go_at_call 101; refine HX.out.mono ?_; rintro e w8 ⟨rfl, hb8⟩; obtain ⟨m1, m2'⟩ := HCL.out _ hb8)
            go_ret
            exact ⟨rfl, hBw6.trans ((HB67.out.trans (hb8.mono HB67.out.size)).mono hBw6.size)⟩
          · cases hR.out
      · cases hR.out
end Go.Proofs.YtoapaflcokhohaaGreatDoor
