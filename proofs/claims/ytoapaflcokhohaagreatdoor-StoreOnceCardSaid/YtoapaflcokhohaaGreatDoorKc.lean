/-
  Physical ids and their numbers, of the program's store. · Where a thing stands; what is wrong with a thing; which stores may be. Of the program. · The library's slices.Clone at properties and at things; rows of them as lists of cells.
-/
import Derived.Test.YtoapaflcokhohaaGreatDoorKn
import Derived.Test.YtoapaflcokhohaaGreatDoorShelf
import Derived.Test.YtoapaflcokhohaaGreatDoorHc
import Derived.Test.YtoapaflcokhohaaGreatDoorKa
import Derived.Test.YtoapaflcokhohaaGreatDoorGe
set_option linter.unusedVariables false
namespace Go.Proofs.YtoapaflcokhohaaGreatDoor
open Go.RowKit

/-- What Number answers. -/
def numL (s : ByteArray) : Int × Bool := if Lib.hasPrefix s.data.toList [112] = true ∧ (Nu.readL (s.data.toList.drop 1)).2 = 0 ∧ 1 ≤ (Nu.readL (s.data.toList.drop 1)).1 then ((Nu.readL (s.data.toList.drop 1)).1, true) else (0, false)
def physS (n : Int) : ByteArray := ⟨(112 :: Nu.txt n).toArray⟩
theorem trim_p (s : ByteArray) (h : Lib.hasPrefix s.data.toList [112] = true) : Lib.trimPrefix s.data.toList (ByteArray.mk #[112]).data.toList = s.data.toList.drop 1 := by
  show Lib.trimPrefix s.data.toList [112] = _
  unfold Lib.trimPrefix
  rw [if_pos h]; rfl

set_option maxRecDepth 100000 in
set_option maxHeartbeats 2000000 in
theorem Number_any (s : ByteArray) (hs : s.size ≤ maxLen) (w : World) :
    Calls Tryz.prog 18 #[.string s] w fun e w' => e = .returned (.tuple #[.int .i64 (numL s).1, .bool (numL s).2]) ∧ w = w' := by
  have HP := Lib.hid (Tryz.strings_CutPrefix s ⟨#[112]⟩ w)
  unfold numL
  cases hp : Lib.hasPrefix s.data.toList [112] with
  | false =>
    rw [if_neg (fun h => by cases h.1)]
    have hp' : Lib.hasPrefix s.data.toList (ByteArray.mk #[112]).data.toList = false := hp
    rw [hp'] at HP
    generalize (⟨(Lib.trimPrefix s.data.toList (ByteArray.mk #[112]).data.toList).toArray⟩ : ByteArray) = T at *
    clear hp hp'
    go_enter Tryz.func18, Tryz.ntmps18
    go_wp2_with (go_at_call 38; refine HP.out.mono ?_; rintro e w5 ⟨rfl, rfl⟩)
    go_ret2
    exact ⟨rfl, rfl⟩
  | true =>
    have hp' : Lib.hasPrefix s.data.toList (ByteArray.mk #[112]).data.toList = true := hp
    rw [hp', trim_p s hp] at HP
    have hT : (⟨(s.data.toList.drop 1).toArray⟩ : ByteArray).data.toList = s.data.toList.drop 1 := rfl
    have hTs : (⟨(s.data.toList.drop 1).toArray⟩ : ByteArray).size ≤ maxLen := by
      have : (⟨(s.data.toList.drop 1).toArray⟩ : ByteArray).size = (s.data.toList.drop 1).length := Nu.size_arr _
      rw [this, List.length_drop, Nu.toList_length]; omega
    have HR := Nu.read_any (⟨(s.data.toList.drop 1).toArray⟩ : ByteArray) hTs w
    rw [hT] at HR
    obtain ⟨n, e, hne⟩ : ∃ n e, Nu.readL (s.data.toList.drop 1) = (n, e) := ⟨_, _, rfl⟩
    rw [hne] at HR ⊢
    unfold Nu.readV at HR
    dsimp only at HR ⊢
    have HR := Lib.hid HR
    generalize (⟨(s.data.toList.drop 1).toArray⟩ : ByteArray) = T at *
    clear hp hp' hT hTs hne
    by_cases he : e = 0
    · subst he
      by_cases h1 : 1 ≤ n
      · rw [if_pos ⟨rfl, rfl, h1⟩]
        have z1 : decide (n < 1) = false := decide_eq_false (by omega)
        go_enter Tryz.func18, Tryz.ntmps18
        go_wp2_with (first
          | (go_at_call 38; refine HP.out.mono ?_; rintro e w5 ⟨rfl, rfl⟩)
          | (go_at_call 39; refine HR.out.mono ?_; rintro e w5 ⟨rfl, rfl⟩))
        go_ret2
        exact ⟨rfl, rfl⟩
      · rw [if_neg (fun h => h1 h.2.2)]
        have z1 : decide (n < 1) = true := decide_eq_true (by omega)
        go_enter Tryz.func18, Tryz.ntmps18
        go_wp2_with (first
          | (go_at_call 38; refine HP.out.mono ?_; rintro e w5 ⟨rfl, rfl⟩)
          | (go_at_call 39; refine HR.out.mono ?_; rintro e w5 ⟨rfl, rfl⟩))
        go_ret2
        exact ⟨rfl, rfl⟩
    · rw [if_neg (fun h => he h.2.1)]
      have z1 : (e == 0) = false := beqI he
      have z2 : (e != 0) = true := bne_iff_ne.2 he
      go_enter Tryz.func18, Tryz.ntmps18
      go_wp2_with (first
        | (go_at_call 38; refine HP.out.mono ?_; rintro e w5 ⟨rfl, rfl⟩)
        | (go_at_call 39; refine HR.out.mono ?_; rintro e w5 ⟨rfl, rfl⟩))
      go_ret2
      exact ⟨rfl, rfl⟩

theorem fit_phys {n : Int} (h1 : 1 ≤ n) (h2 : n ≤ 1099511627776) : Nu.fitB n = true := Nu.fitB_iff.2 ⟨by omega, by omega⟩
set_option maxRecDepth 100000 in
set_option maxHeartbeats 2000000 in
theorem Phys_any (n : Int) (w : World) (hn : -9223372036854775808 ≤ n ∧ n ≤ 9223372036854775807) :
    Calls Tryz.prog 17 #[.int .i64 n] w fun e w' => e = .returned (.tuple #[.string (if 1 ≤ n ∧ n ≤ 1099511627776 then physS n else ⟨#[]⟩), .int .i64 (if 1 ≤ n ∧ n ≤ 1099511627776 then 0 else 2)]) ∧ Below w.heap.size w w' := by
  by_cases h1 : 1 ≤ n
  · by_cases h2 : n ≤ 1099511627776
    · rw [if_pos ⟨h1, h2⟩, if_pos ⟨h1, h2⟩]
      have HT := Nu.text_any n w
      rw [fit_phys h1 h2] at HT
      have HT := Lib.hid HT
      have hl := Nu.txt_len n
      have hS : physS n = (⟨#[112]⟩ : ByteArray) ++ ⟨(Nu.txt n).toArray⟩ := by
        unfold physS
        apply ByteArray.ext
        simp [ByteArray.data_append]
      have hSs : (⟨(Nu.txt n).toArray⟩ : ByteArray).size ≤ 17 := by
        have : (⟨(Nu.txt n).toArray⟩ : ByteArray).size = (Nu.txt n).length := Nu.size_arr _
        omega
      have HS := Lib.hid hS
      have z1 : decide (n < 1) = false := decide_eq_false (by omega)
      have z2 : decide ((1099511627776 : Int) < n) = false := decide_eq_false (by omega)
      generalize (⟨(Nu.txt n).toArray⟩ : ByteArray) = T at *
      clear hS hl h1 h2
      go_enter Tryz.func17, Tryz.ntmps17
      go_wp2_with (go_at_call 37; refine HT.out.mono ?_; rintro e w5 ⟨rfl, hb5⟩)
      go_ret2
      exact ⟨by rw [HS.out]; rfl, hb5⟩
    · rw [if_neg (fun h => h2 h.2), if_neg (fun h => h2 h.2)]
      have z1 : decide (n < 1) = false := decide_eq_false (by omega)
      have z2 : decide ((1099511627776 : Int) < n) = true := decide_eq_true (by omega)
      clear h1 h2
      go_enter Tryz.func17, Tryz.ntmps17
      go_wp2_with fail
      go_ret2
      exact ⟨rfl, Below.refl _ _⟩
  · rw [if_neg (fun h => h1 h.1), if_neg (fun h => h1 h.1)]
    have z1 : decide (n < 1) = true := decide_eq_true (by omega)
    clear h1
    go_enter Tryz.func17, Tryz.ntmps17
    go_wp2_with fail
    go_ret2
    exact ⟨rfl, Below.refl _ _⟩

/-! What these say together. -/
theorem num_phys {n : Int} (h1 : 1 ≤ n) (h2 : n ≤ 1099511627776) : numL (physS n) = (n, true) := by
  have h : (physS n).data.toList = 112 :: Nu.txt n := by unfold physS; simp
  unfold numL
  rw [h]
  have hd : (112 :: Nu.txt n).drop 1 = Nu.txt n := rfl
  rw [hd, Nu.read_text n (fit_phys h1 h2), if_pos ⟨by simp [Lib.hasPrefix], rfl, h1⟩]
theorem num_form {s : ByteArray} {n : Int} (h : numL s = (n, true)) : s = physS n ∧ 1 ≤ n ∧ Nu.fitB n = true := by
  unfold numL at h
  split at h
  · rename_i hc
    obtain ⟨h1, h2, h3⟩ := hc
    have e : (Nu.readL (s.data.toList.drop 1)).1 = n := (Prod.mk.injEq _ _ _ _ ▸ h).1
    have hr : Nu.readL (s.data.toList.drop 1) = (n, 0) := by rw [← e, ← h2]
    obtain ⟨hf, ht⟩ := Nu.text_read _ _ hr
    refine ⟨?_, by omega, hf⟩
    unfold physS
    rw [ht]
    have : s.data.toList = 112 :: s.data.toList.drop 1 := by
      unfold Lib.hasPrefix at h1
      cases hl : s.data.toList with
      | nil => rw [hl] at h1; cases h1
      | cons a t =>
        rw [hl] at h1
        simp at h1
        rw [← h1]; rfl
    rw [← this]
  · cases h
end Go.Proofs.YtoapaflcokhohaaGreatDoor

set_option linter.unusedVariables false
namespace Go.Proofs.YtoapaflcokhohaaGreatDoor
open Go.RowKit

set_option maxHeartbeats 1000000 in
theorem wr1_any (g : G) (v : Value) (w : World) (h : isG w g v) : Calls Tryz.prog 49 #[v] w fun e w' => e = .returned (.bool g.unk) ∧ Below w.heap.size w w' := by
  obtain ⟨k, b, n, s, o, m, c, o2, m2, c2, rfl, hv⟩ := isG_eight h
  have HB0 : Hid (KB w (w.alloc (.cells #[.string g.nm, .bool g.unk, .int .i8 k, .bool b, .int .i64 n, .string s, .slice o m c, .slice o2 m2 c2] 66))) := Lib.hid kbA
  clear h hv
  go_enter Tryz.func49, Tryz.ntmps49
  go_wp2_with fail
  go_ret
  exact ⟨rfl, HB0.out⟩

set_option maxRecDepth 100000 in
set_option maxHeartbeats 4000000 in
/-- find, of the properties: is one unknown? -/
theorem findG_any (L : List G) (v : Value) (w : World) (hl : L.length ≤ 1000000) (h : isGs w L v) :
    Calls Tryz.prog 48 #[v, .func (.func 49) #[] #[]] w fun e w' => (∃ i : Int, e = .returned (.tuple #[.int .i64 i, .bool (L.any (·.unk))])) ∧ Below w.heap.size w w' := by
  obtain ⟨a, cap, ⟨o, rfl, hc1, hc2, ho⟩, hgs⟩ := h
  unfold maxLen at hc2
  have HK := Lib.hid hgs
  obtain ⟨r, hr⟩ : ∃ r, L.any (·.unk) = r := ⟨_, rfl⟩
  rw [hr]
  have HR := Lib.hid hr
  have ef : ∀ args w, (callFunc 49 args).run Tryz.prog w = .ok (.enter 49 args) w := enters_of Tryz.func49 (by kernel_rfl) rfl
  clear hgs hr
  go_enter Tryz.func48, Tryz.ntmps48
  go_wp2_with fail
  go_loopw [10] (fun i wr => ∃ (j : Nat), j ≤ L.length ∧ i = .int .i64 j ∧ Hid ((L.take j).any (·.unk) = false) ∧ Hid (Below w.heap.size w wr)) (fun i _ => L.length - (intOf i).toNat)
  case atStart => exact ⟨0, by omega, rfl, Lib.hid rfl, Lib.hid (Below.refl _ _)⟩
  case round =>
    obtain ⟨j, hj, rfl, hA, hB⟩ := hrel
    by_cases hlt : j < L.length
    · obtain rfl := ho (by omega)
      obtain ⟨k, b1, n, s, o1, m, c, o2, m2, c2, q0, q1, q2, q3, q4, q5, q6, q7, hg⟩ := isGat_eight (isGat_below hB.out (HK.out j hlt))
      have HN : Hid (∀ w1, KB wr w1 → Calls Tryz.prog 49 #[.agg #[.string L[j].nm, .bool L[j].unk, .int .i8 k, .bool b1, .int .i64 n, .string s, .slice o1 m c, .slice o2 m2 c2]] w1 fun e w' => e = .returned (.bool L[j].unk) ∧ KB wr w') := Lib.hid fun w1 hK => Calls.kb hK (wr1_any L[j] _ w1 (isG_below hK hg))
      have HA1 : Hid (KB wr (wr.alloc (.cells #[.string L[j].nm, .bool L[j].unk, .int .i8 k, .bool b1, .int .i64 n, .string s, .slice o1 m c, .slice o2 m2 c2] 66))) := Lib.hid kbA
      clear hg
      cases hv : L[j].unk with
      | true =>
        have hr2 : r = true := by
          rw [← HR.out, List.any_eq_true]
          exact ⟨L[j], List.getElem_mem hlt, hv⟩
        have HR2 := Lib.hid hr2
        rw [hv] at HN q1 HA1
        clear hr2 hv
        generalize L[j] = g at *
        go_wp2_with (go_at_fn 49; refine (HN.out _ HA1.out).mono ?_; rintro e w5 ⟨rfl, hb5⟩)
        go_ret2
        exact ⟨⟨(j : Int), by rw [HR2.out]; rfl⟩, hB.out.trans (hb5.mono hB.out.size)⟩
      | false =>
        have HA : Hid ((L.take (j + 1)).any (·.unk) = false) := Lib.hid (by rw [List.take_succ_eq_append_getElem hlt, List.any_append, hA.out]; simp [hv])
        rw [hv] at HN q1 HA1
        clear hv
        generalize L[j] = g at *
        go_wp2_with (go_at_fn 49; refine (HN.out _ HA1.out).mono ?_; rintro e w5 ⟨rfl, hb5⟩)
        go_roundw
        case rel => exact ⟨j + 1, by omega, by go_num, HA, Lib.hid (hB.out.trans (hb5.mono hB.out.size))⟩
        case measure => simp [intOf]; omega
    · obtain rfl : j = L.length := by omega
      have HRES : Hid (r = false) := Lib.hid (by
        have := hA.out
        rw [List.take_of_length_le (Nat.le_refl _)] at this
        rw [← HR.out, this])
      go_wp2_with fail
      go_ret2
      exact ⟨⟨0, by rw [HRES.out]; rfl⟩, hB.out⟩

/-- What wrong answers. -/
noncomputable def wrongL (K : ByteArray) (L : List G) : Int := if checkL K L = 0 then (if L.any (·.unk) then 91 else 0) else checkL K L
def fineG (L : List G) : Prop := L.length ≤ 1000000 ∧ ∀ g ∈ L, sizeV g.v ≤ 1000000 ∧ fineV g.v
set_option maxRecDepth 100000 in
set_option maxHeartbeats 2000000 in
theorem wrong10_any (K : ByteArray) (L : List G) (v : Value) (w : World) (hE : Env9 w) (hK : K.size ≤ 400) (hP : fineG L) (h : isGs w L v) :
    Calls Tryz.prog 25 #[.string K, v] w fun e w' => e = .returned (.int .i64 (wrongL K L)) ∧ Below w.heap.size w w' := by
  have HC := Lib.hid (Check_any K L v w hE hK hP.1 hP.2 h)
  have HF : Hid (∀ w1, KB w w1 → Calls Tryz.prog 48 #[v, .func (.func 49) #[] #[]] w1 fun e w' => (∃ i : Int, e = .returned (.tuple #[.int .i64 i, .bool (L.any (·.unk))])) ∧ KB w w') := Lib.hid fun w1 hK => (findG_any L v w1 hP.1 (isGs_below hK h)).mono fun e w' ⟨he, hb⟩ => ⟨he, hK.trans (hb.mono hK.size)⟩
  obtain ⟨a, cap, ⟨o, rfl, _⟩, _⟩ := h
  unfold wrongL
  generalize checkL K L = C at *
  generalize L.any (·.unk) = U at *
  clear hE hP
  by_cases hC : C = 0
  · subst hC
    rw [if_pos rfl]
    cases U with
    | true =>
      go_enter Tryz.func25, Tryz.ntmps25
      go_wp2_with (first
        | (go_at_call 47; refine HC.out.mono ?_; rintro e w5 ⟨rfl, hb5⟩)
        | (go_at_call 48; refine (HF.out _ hb5).mono ?_; rintro e w6 ⟨⟨i, rfl⟩, hb6⟩))
      go_ret
      exact ⟨rfl, hb6⟩
    | false =>
      go_enter Tryz.func25, Tryz.ntmps25
      go_wp2_with (first
        | (go_at_call 47; refine HC.out.mono ?_; rintro e w5 ⟨rfl, hb5⟩)
        | (go_at_call 48; refine (HF.out _ hb5).mono ?_; rintro e w6 ⟨⟨i, rfl⟩, hb6⟩))
      go_ret
      exact ⟨rfl, hb6⟩
  · rw [if_neg hC]
    have z1 : (C == 0) = false := beqI hC
    have z2 : (C != 0) = true := bne_iff_ne.2 hC
    clear hC
    go_enter Tryz.func25, Tryz.ntmps25
    go_wp2_with (go_at_call 47; refine HC.out.mono ?_; rintro e w5 ⟨rfl, hb5⟩)
    go_ret
    exact ⟨rfl, hb5⟩

/-! Where a thing stands. -/
theorem isTh_three {W : World} {t : Th} {v : Value} (h : isTh W t v) : ∃ (o : Option Addr) (cap : Nat), v = .agg #[.string t.ph, .string t.ty, .slice o t.ps.length cap] ∧ isGs W t.ps (.slice o t.ps.length cap) ∧ t.ph.size ≤ maxLen ∧ t.ty.size ≤ maxLen := by
  obtain ⟨pv, rfl, hg, h3, h4⟩ := h
  have hg' := hg
  obtain ⟨a, cap, ⟨o, rfl, _⟩, _⟩ := hg
  exact ⟨o, cap, rfl, hg', h3, h4⟩
theorem isTat_three {W : World} {t : Th} {a : Addr} (h : isTat W t a) : ∃ (o : Option Addr) (cap : Nat), W.cell? a = some (.string t.ph) ∧ W.cell? ⟨a.block, a.off + 1, none⟩ = some (.string t.ty) ∧ W.cell? ⟨a.block, a.off + 2, none⟩ = some (.slice o t.ps.length cap) ∧ isTh W t (.agg #[.string t.ph, .string t.ty, .slice o t.ps.length cap]) := by
  obtain ⟨pv, g0, g1, g2, hg, h3, h4⟩ := h
  have hg' := hg
  obtain ⟨a, cap, ⟨o, rfl, _⟩, _⟩ := hg
  exact ⟨o, cap, g0, g1, g2, ⟨_, rfl, hg', h3, h4⟩⟩
theorem beq_ba {s t : ByteArray} : (s.toList == t.toList) = decide (s = t) := by
  by_cases e : s = t
  · subst e; rw [decide_eq_true rfl]; exact beq_self_eq_true _
  · rw [decide_eq_false e]; exact beq_toList e
set_option maxHeartbeats 1000000 in
theorem pl1_any (t : Th) (p : ByteArray) (b : Nat) (v : Value) (w : World) (h : isTh w t v) (hb : w.cell? ⟨b, 0, none⟩ = some (.string p)) :
    Calls Tryz.prog 69 #[v, .pointer (some ⟨b, 0, none⟩)] w fun e w' => e = .returned (.bool (decide (t.ph = p))) ∧ Below w.heap.size w w' := by
  obtain ⟨o, cap, rfl, _, _, _⟩ := isTh_three h
  have HB0 : Hid (KB w (w.alloc (.cells #[.string t.ph, .string t.ty, .slice o t.ps.length cap] 52))) := Lib.hid kbA
  have hb1 := cell_below HB0.out _ _ hb
  rw [← beq_ba]
  clear h hb
  go_enter Tryz.func69, Tryz.ntmps69
  go_wp2_with fail
  go_ret
  exact ⟨rfl, HB0.out⟩

def idxT (L : List Th) (p : ByteArray) : Option Nat := L.findIdx? (fun t => decide (t.ph = p))
theorem idxT_some {L : List Th} {p : ByteArray} {j : Nat} (hj : j < L.length) (h1 : L[j].ph = p) (h2 : ∀ i (h : i < j), (L[i]'(by omega)).ph ≠ p) : idxT L p = some j := by
  unfold idxT
  rw [List.findIdx?_eq_some_iff_getElem]
  exact ⟨hj, decide_eq_true h1, fun i hi => by simpa using h2 i hi⟩
theorem idxT_none {L : List Th} {p : ByteArray} (h : ∀ i (h : i < L.length), L[i].ph ≠ p) : idxT L p = none := by
  unfold idxT
  rw [List.findIdx?_eq_none_iff]
  intro x hx
  obtain ⟨i, hi, rfl⟩ := List.getElem_of_mem hx
  exact decide_eq_false (h i hi)
theorem idxT_at {L : List Th} {p : ByteArray} {j : Nat} (h : idxT L p = some j) : ∃ hj : j < L.length, L[j].ph = p ∧ ∀ i (h : i < j), (L[i]'(by omega)).ph ≠ p := by
  unfold idxT at h
  rw [List.findIdx?_eq_some_iff_getElem] at h
  obtain ⟨hj, h1, h2⟩ := h
  exact ⟨hj, of_decide_eq_true h1, fun i hi => by simpa using h2 i hi⟩
theorem idxT_no {L : List Th} {p : ByteArray} (h : idxT L p = none) : ∀ t ∈ L, t.ph ≠ p := by
  unfold idxT at h
  rw [List.findIdx?_eq_none_iff] at h
  intro t ht
  exact of_decide_eq_false (h t ht)

set_option maxRecDepth 100000 in
set_option maxHeartbeats 4000000 in
theorem findT_any (L : List Th) (p : ByteArray) (b : Nat) (v : Value) (w : World) (hl : L.length ≤ 1000000) (h : isTs w L v) (hb : w.cell? ⟨b, 0, none⟩ = some (.string p)) :
    Calls Tryz.prog 68 #[v, .func (.func 69) #[] #[.pointer (some ⟨b, 0, none⟩)]] w fun e w' => e = .returned (.tuple #[.int .i64 ((idxT L p).getD 0 : Nat), .bool (idxT L p).isSome]) ∧ Below w.heap.size w w' := by
  obtain ⟨a, cap, ⟨o, rfl, hc1, hc2, ho⟩, hts⟩ := h
  unfold maxLen at hc2
  have HK := Lib.hid hts
  have HBX := Lib.hid hb
  obtain ⟨r, hr⟩ : ∃ r, idxT L p = r := ⟨_, rfl⟩
  rw [hr]
  have HR := Lib.hid hr
  have ef : ∀ args w, (callFunc 69 args).run Tryz.prog w = .ok (.enter 69 args) w := enters_of Tryz.func69 (by kernel_rfl) rfl
  clear hts hr hb
  go_enter Tryz.func68, Tryz.ntmps68
  go_wp2_with fail
  go_loopw [10] (fun i wr => ∃ (j : Nat), j ≤ L.length ∧ i = .int .i64 j ∧ Hid (∀ i (h : i < L.length), i < j → L[i].ph ≠ p) ∧ Hid (Below w.heap.size w wr)) (fun i _ => L.length - (intOf i).toNat)
  case atStart => exact ⟨0, by omega, rfl, Lib.hid (fun i _ h => absurd h (by omega)), Lib.hid (Below.refl _ _)⟩
  case round =>
    obtain ⟨j, hj, rfl, hA, hB⟩ := hrel
    by_cases hlt : j < L.length
    · obtain rfl := ho (by omega)
      obtain ⟨o1, c1, q0, q1, q2, ht⟩ := isTat_three (isTat_below hB.out (HK.out j hlt))
      have HN : Hid (∀ w1, KB wr w1 → Calls Tryz.prog 69 #[.agg #[.string L[j].ph, .string L[j].ty, .slice o1 L[j].ps.length c1], .pointer (some ⟨b, 0, none⟩)] w1 fun e w' => e = .returned (.bool (decide (L[j].ph = p))) ∧ KB wr w') := Lib.hid fun w1 hK => Calls.kb hK (pl1_any L[j] p b _ w1 (isTh_below hK ht) (cell_below (hB.out.trans (hK.mono hB.out.size)) _ _ HBX.out))
      have HA1 : Hid (KB wr (wr.alloc (.cells #[.string L[j].ph, .string L[j].ty, .slice o1 L[j].ps.length c1] 52))) := Lib.hid kbA
      clear ht
      by_cases hv : L[j].ph = p
      · have HR2 : Hid (r = some j) := Lib.hid (by rw [← HR.out]; exact idxT_some hlt hv (fun i hi => hA.out i (by omega) hi))
        rw [decide_eq_true hv] at HN
        clear hv
        generalize L[j] = t at *
        go_wp2_with (go_at_fn 69; refine (HN.out _ HA1.out).mono ?_; rintro e w5 ⟨rfl, hb5⟩)
        go_ret2
        exact ⟨by rw [HR2.out]; rfl, hB.out.trans (hb5.mono hB.out.size)⟩
      · have HA : Hid (∀ i (h : i < L.length), i < j + 1 → L[i].ph ≠ p) := Lib.hid fun i h hi => by
          by_cases e : i = j
          · subst e; exact hv
          · exact hA.out i h (by omega)
        rw [decide_eq_false hv] at HN
        clear hv
        generalize L[j] = t at *
        go_wp2_with (go_at_fn 69; refine (HN.out _ HA1.out).mono ?_; rintro e w5 ⟨rfl, hb5⟩)
        go_roundw
        case rel => exact ⟨j + 1, by omega, by go_num, HA, Lib.hid (hB.out.trans (hb5.mono hB.out.size))⟩
        case measure => simp [intOf]; omega
    · obtain rfl : j = L.length := by omega
      have HRES : Hid (r = none) := Lib.hid (by rw [← HR.out]; exact idxT_none (fun i h => hA.out i h h))
      go_wp2_with fail
      go_ret2
      exact ⟨by rw [HRES.out]; rfl, hB.out⟩

theorem isS_two {W : World} {s : St} {v : Value} (h : isS W s v) : ∃ (o : Option Addr) (cap : Nat), v = .agg #[.slice o s.l.length cap, .int .i64 s.made] ∧ isTs W s.l (.slice o s.l.length cap) ∧ (-9223372036854775808 ≤ s.made ∧ s.made ≤ 9223372036854775807) := by
  obtain ⟨lv, rfl, hl, hm⟩ := h
  have hl' := hl
  obtain ⟨a, cap, ⟨o, rfl, _⟩, _⟩ := hl
  exact ⟨o, cap, rfl, hl', hm⟩
set_option maxRecDepth 100000 in
set_option maxHeartbeats 2000000 in
theorem place_any (s : St) (p : ByteArray) (v : Value) (w : World) (hl : s.l.length ≤ 1000000) (h : isS w s v) :
    Calls Tryz.prog 40 #[v, .string p] w fun e w' => e = .returned (.tuple #[.int .i64 ((idxT s.l p).getD 0 : Nat), .bool (idxT s.l p).isSome]) ∧ Below w.heap.size w w' := by
  obtain ⟨o, cap, rfl, hts, _⟩ := isS_two h
  have HB0 : Hid (KB w ((w.alloc (.cells #[.slice o s.l.length cap, .int .i64 s.made] 24)).alloc (.cells #[.string p] 9))) := Lib.hid (by unfold KB; go_grown)
  have HF := Lib.hid (findT_any s.l p (w.heap.size + 1) _ ((w.alloc (.cells #[.slice o s.l.length cap, .int .i64 s.made] 24)).alloc (.cells #[.string p] 9)) hl (isTs_below HB0.out hts) (by simp))
  clear h hts
  go_enter Tryz.func40, Tryz.ntmps40
  go_wp2_with (go_at_call 68; refine HF.out.mono ?_; rintro e w5 ⟨rfl, hb5⟩)
  go_ret2
  exact ⟨rfl, HB0.out.trans (hb5.mono HB0.out.size)⟩
end Go.Proofs.YtoapaflcokhohaaGreatDoor

set_option linter.unusedVariables false
namespace Go.Proofs.YtoapaflcokhohaaGreatDoor
open Go.RowKit Go.Maps

theorem infoG10 : (Tryz.prog.info? 66).map (fun i => (i.zero, i.size, i.bytes)) = some (some (.agg #[.string ⟨#[]⟩, .bool false, .int .i8 0, .bool false, .int .i64 0, .string ⟨#[]⟩, .slice none 0 0, .slice none 0 0]), 8, 104) := by kernel_rfl
theorem infoT10 : (Tryz.prog.info? 52).map (fun i => (i.zero, i.size, i.bytes)) = some (some (.agg #[.string ⟨#[]⟩, .string ⟨#[]⟩, .slice none 0 0]), 3, 56) := by kernel_rfl

set_option maxRecDepth 100000 in
set_option maxHeartbeats 2000000 in
/-- slices.Clone of so many properties: their cells, in a row of the call's own. -/
theorem cloneG_any (o : Option Addr) (a : Addr) (n cap : Nat) (ho : 0 < n → o = some a) (hn : n ≤ 1000000) (news : List Value) (w : World) (hl : news.length = n * 8) (hc : ∀ j u, news[j]? = some u → w.cell? (a.add j) = some u) (h1 : ∀ u ∈ news, u.oneCell' = true) :
    Calls Tryz.prog 61 #[.slice o n cap] w fun e w' => ∃ v', e = .returned v' ∧ w'.ownsRow w.heap.size 66 8 v' n news ∧ Below w.heap.size w w' := by
  obtain ⟨i0, hi0, hz0, hz1, hz2⟩ := info_parts infoG10
  have hq : ∀ (w : World) (a : Option Addr) (n c n' c' : Nat), (binOp .eql 25 (.slice a n c) (.slice none n' c')).run Tryz.prog w = .ok (.bool a.isNone) w := fun w a n c n' c' => Lib.run_eql_slice_nil w _ _ a n c n' c' Tryz.underlying25
  cases o with
  | none =>
    obtain rfl : n = 0 := by
      rcases Nat.eq_zero_or_pos n with h | h
      · exact h
      · cases ho h
    go_enter Tryz.func61, Tryz.ntmps61
    go_wp2
    go_ret
    exact ⟨_, rfl, ⟨hl, .inl ⟨rfl, rfl⟩⟩, Below.refl _ _⟩
  | some b =>
    have hc2 : ∀ j u, news[j]? = some u → w.cell? (b.add j) = some u := fun j u h => by
      have hj := (List.getElem?_eq_some_iff.1 h).1
      cases ho (by omega)
      exact hc j u h
    have HC := Lib.hid hc2
    have H1 := Lib.hid h1
    clear hc hc2 h1 ho
    go_enter Tryz.func61, Tryz.ntmps61
    go_wp2_with (at_builtin; refine wpList_append_own _ rfl _ _ 25 rfl w.heap.size 66 i0 _ 8 104 Tryz.underlying25 hi0 hz0 hz1 hz2 rfl (by decide) _ 0 [] rfl (World.ownsRow_lit w #[] 0 (Nat.le_refl _) (by unfold maxLen; omega) rfl) b n cap news rfl hl ?d1 H1.out ?d3 ?d4 ?d5 ?_)
    case d1 => intro j u h; exact cell_below ((Below.refl _ w).alloc (Nat.le_refl _) _) _ _ (HC.out j u h)
    case d3 => unfold maxLen; omega
    case d4 => omega
    case d5 => simp
    intro v' w1 hown' hgrow _
    have hO : w1.ownsRow w.heap.size 66 8 v' n news := by simpa using hown'
    have HO := Lib.hid hO
    have HB : Hid (Below w.heap.size w w1) := Lib.hid (((Below.refl _ w).alloc (Nat.le_refl _) _).grown hgrow (by simp) (fun r e => by cases e; exact Nat.le_refl _))
    clear hown' hgrow hO
    go_wp2_with fail
    go_ret
    exact ⟨v', rfl, HO.out, HB.out⟩
set_option maxRecDepth 100000 in
set_option maxHeartbeats 2000000 in
/-- slices.Clone of so many things: their cells, in a row of the call's own. -/
theorem cloneT_any (o : Option Addr) (a : Addr) (n cap : Nat) (ho : 0 < n → o = some a) (hn : n ≤ 1000000) (news : List Value) (w : World) (hl : news.length = n * 3) (hc : ∀ j u, news[j]? = some u → w.cell? (a.add j) = some u) (h1 : ∀ u ∈ news, u.oneCell' = true) :
    Calls Tryz.prog 50 #[.slice o n cap] w fun e w' => ∃ v', e = .returned v' ∧ w'.ownsRow w.heap.size 52 3 v' n news ∧ Below w.heap.size w w' := by
  obtain ⟨i0, hi0, hz0, hz1, hz2⟩ := info_parts infoT10
  have hq : ∀ (w : World) (a : Option Addr) (n c n' c' : Nat), (binOp .eql 22 (.slice a n c) (.slice none n' c')).run Tryz.prog w = .ok (.bool a.isNone) w := fun w a n c n' c' => Lib.run_eql_slice_nil w _ _ a n c n' c' Tryz.underlying22
  cases o with
  | none =>
    obtain rfl : n = 0 := by
      rcases Nat.eq_zero_or_pos n with h | h
      · exact h
      · cases ho h
    go_enter Tryz.func50, Tryz.ntmps50
    go_wp2
    go_ret
    exact ⟨_, rfl, ⟨hl, .inl ⟨rfl, rfl⟩⟩, Below.refl _ _⟩
  | some b =>
    have hc2 : ∀ j u, news[j]? = some u → w.cell? (b.add j) = some u := fun j u h => by
      have hj := (List.getElem?_eq_some_iff.1 h).1
      cases ho (by omega)
      exact hc j u h
    have HC := Lib.hid hc2
    have H1 := Lib.hid h1
    clear hc hc2 h1 ho
    go_enter Tryz.func50, Tryz.ntmps50
    go_wp2_with (at_builtin; refine wpList_append_own _ rfl _ _ 22 rfl w.heap.size 52 i0 _ 3 56 Tryz.underlying22 hi0 hz0 hz1 hz2 rfl (by decide) _ 0 [] rfl (World.ownsRow_lit w #[] 0 (Nat.le_refl _) (by unfold maxLen; omega) rfl) b n cap news rfl hl ?d1 H1.out ?d3 ?d4 ?d5 ?_)
    case d1 => intro j u h; exact cell_below ((Below.refl _ w).alloc (Nat.le_refl _) _) _ _ (HC.out j u h)
    case d3 => unfold maxLen; omega
    case d4 => omega
    case d5 => simp
    intro v' w1 hown' hgrow _
    have hO : w1.ownsRow w.heap.size 52 3 v' n news := by simpa using hown'
    have HO := Lib.hid hO
    have HB : Hid (Below w.heap.size w w1) := Lib.hid (((Below.refl _ w).alloc (Nat.le_refl _) _).grown hgrow (by simp) (fun r e => by cases e; exact Nat.le_refl _))
    clear hown' hgrow hO
    go_wp2_with fail
    go_ret
    exact ⟨v', rfl, HO.out, HB.out⟩

/-- Cells that hold such things, one behind another. -/
def isTL (W : World) : List Th → List Value → Prop
  | [], xs => xs = []
  | t :: r, xs => ∃ pv rest, xs = .string t.ph :: .string t.ty :: pv :: rest ∧ isGs W t.ps pv ∧ t.ph.size ≤ maxLen ∧ t.ty.size ≤ maxLen ∧ isTL W r rest
theorem isTL_app {W : World} : ∀ (l m : List Th) (xs ys : List Value), isTL W l xs → isTL W m ys → isTL W (l ++ m) (xs ++ ys)
  | [], m, xs, ys, h, h' => by
    unfold isTL at h
    subst h
    exact h'
  | x :: t, m, xs, ys, h, h' => by
    unfold isTL at h
    obtain ⟨pv, rest, rfl, hx, hn, hm, ht⟩ := h
    rw [List.cons_append]
    unfold isTL
    exact ⟨pv, rest ++ ys, rfl, hx, hn, hm, isTL_app t m rest ys ht h'⟩
theorem isTL_len {W : World} : ∀ (l : List Th) (xs : List Value), isTL W l xs → xs.length = l.length * 3
  | [], xs, h => by unfold isTL at h; subst h; rfl
  | x :: t, xs, h => by
    unfold isTL at h
    obtain ⟨pv, rest, rfl, hx, hn, hm, ht⟩ := h
    have := isTL_len t rest ht
    simp only [List.length_cons]; omega
theorem isTL_one {W : World} : ∀ (l : List Th) (xs : List Value), isTL W l xs → ∀ u ∈ xs, u.oneCell' = true
  | [], xs, h, u, hu => by unfold isTL at h; subst h; cases hu
  | x :: t, xs, h, u, hu => by
    unfold isTL at h
    obtain ⟨pv, rest, rfl, ⟨a, cap, ⟨o, rfl, _⟩, _⟩, hn, hm, ht⟩ := h
    rcases List.mem_cons.1 hu with rfl | hu
    · rfl
    rcases List.mem_cons.1 hu with rfl | hu
    · rfl
    rcases List.mem_cons.1 hu with rfl | hu
    · rfl
    · exact isTL_one t rest ht u hu
theorem isTL_below {W W' : World} (hb : Below W.heap.size W W') : ∀ (l : List Th) (xs : List Value), isTL W l xs → isTL W' l xs
  | [], xs, h => by unfold isTL at h ⊢; exact h
  | x :: t, xs, h => by
    unfold isTL at h ⊢
    obtain ⟨pv, rest, e, hx, hn, hm, ht⟩ := h
    exact ⟨pv, rest, e, isGs_below hb hx, hn, hm, isTL_below hb t rest ht⟩
theorem isTL_cut {W : World} : ∀ (l : List Th) (xs : List Value) (k : Nat), isTL W l xs → isTL W (l.take k) (xs.take (k * 3)) ∧ isTL W (l.drop k) (xs.drop (k * 3))
  | l, xs, 0, h => by
    rw [Nat.zero_mul, List.take_zero, List.take_zero, List.drop_zero, List.drop_zero]
    exact ⟨rfl, h⟩
  | [], xs, k + 1, h => by
    unfold isTL at h
    subst h
    simp only [List.take_nil, List.drop_nil]
    exact ⟨rfl, rfl⟩
  | x :: t, xs, k + 1, h => by
    unfold isTL at h
    obtain ⟨pv, rest, rfl, hx, hn, hm, ht⟩ := h
    obtain ⟨h1, h2⟩ := isTL_cut t rest k ht
    rw [show (k + 1) * 3 = k * 3 + 3 by omega]
    simp only [List.take_succ_cons, List.drop_succ_cons]
    refine ⟨?_, h2⟩
    unfold isTL
    exact ⟨pv, _, rfl, hx, hn, hm, h1⟩
theorem isTL_of {W : World} : ∀ (l : List Th) (a : Addr), (∀ i (h : i < l.length), isTat W l[i] (a.add (i * 3))) → ∃ xs, isTL W l xs ∧ ∀ j u, xs[j]? = some u → W.cell? (a.add j) = some u
  | [], a, _ => ⟨[], by unfold isTL; rfl, fun j u h => by simp at h⟩
  | g :: t, a, h => by
    obtain ⟨xs, h1, h2⟩ := isTL_of t (a.add 3) (fun i hi => by
      have := h (i + 1) (by simpa using hi)
      rw [show (i + 1) * 3 = 3 + i * 3 by omega, ← add_add] at this
      simpa using this)
    obtain ⟨pv, g0, g1, g2, h3, h4, h5⟩ := h 0 (by simp)
    simp only [List.getElem_cons_zero] at g0 g1 h3 h4 h5
    have hs : a.spot = none := cell_spot g0
    simp only [at_add hs, Nat.zero_mul, Nat.zero_add] at g0 g1 g2
    refine ⟨.string g.ph :: .string g.ty :: pv :: xs, by unfold isTL; exact ⟨pv, xs, rfl, h3, h4, h5, h1⟩, fun j u hj => ?_⟩
    match j, hj with
    | 0, hj => obtain rfl := Option.some.inj hj; exact g0
    | 1, hj => obtain rfl := Option.some.inj hj; exact g1
    | 2, hj => obtain rfl := Option.some.inj hj; exact g2
    | j + 3, hj =>
      have := h2 j u (by simpa using hj)
      rwa [add_add, Nat.add_comm 3 j] at this
theorem isTL_at {W : World} : ∀ (l : List Th) (xs : List Value) (a : Addr), a.spot = none → isTL W l xs → (∀ j u, xs[j]? = some u → W.cell? (a.add j) = some u) → ∀ i (h : i < l.length), isTat W l[i] (a.add (i * 3))
  | [], xs, a, hs, h, hc, i, hi => absurd hi (by simp)
  | g :: t, xs, a, hs, h, hc, i, hi => by
    unfold isTL at h
    obtain ⟨pv, rest, rfl, hx, hn, hm, ht⟩ := h
    match i, hi with
    | 0, hi =>
      refine ⟨pv, ?_, ?_, ?_, hx, hn, hm⟩
      · exact hc 0 _ rfl
      all_goals (rw [at_add hs]; apply hc; rfl)
    | i + 1, hi =>
      have := isTL_at t rest (a.add 3) (by simp [Addr.add]) ht (fun j u hj => by
        rw [add_add, Nat.add_comm 3 j]
        exact hc (j + 3) u (by simpa using hj)) i (by simpa using hi)
      rw [add_add, show 3 + i * 3 = (i + 1) * 3 by omega] at this
      simpa using this

/-- Cells that hold such properties, in given blocks, one behind another. -/
def isGLa (W : World) (B : Nat → Prop) : List G → List Value → Prop
  | [], xs => xs = []
  | g :: t, xs => ∃ c0 c1 c2 c3 c4 c5 rest, xs = .string g.nm :: .bool g.unk :: c0 :: c1 :: c2 :: c3 :: c4 :: c5 :: rest ∧ isVa W B g.v (.agg #[c0, c1, c2, c3, c4, c5]) ∧ g.nm.size ≤ maxLen ∧ isGLa W B t rest
theorem isGLa_len {W : World} {B : Nat → Prop} : ∀ (l : List G) (xs : List Value), isGLa W B l xs → xs.length = l.length * 8
  | [], xs, h => by unfold isGLa at h; subst h; rfl
  | x :: t, xs, h => by
    unfold isGLa at h
    obtain ⟨c0, c1, c2, c3, c4, c5, rest, rfl, hx, hn, ht⟩ := h
    have := isGLa_len t rest ht
    simp only [List.length_cons]; omega
theorem isGLa_one {W : World} {B : Nat → Prop} : ∀ (l : List G) (xs : List Value), isGLa W B l xs → ∀ u ∈ xs, u.oneCell' = true
  | [], xs, h, u, hu => by unfold isGLa at h; subst h; cases hu
  | x :: t, xs, h, u, hu => by
    unfold isGLa at h
    obtain ⟨c0, c1, c2, c3, c4, c5, rest, rfl, hx, hn, ht⟩ := h
    rcases List.mem_cons.1 hu with rfl | hu
    · rfl
    rcases List.mem_cons.1 hu with rfl | hu
    · rfl
    rw [show c0 :: c1 :: c2 :: c3 :: c4 :: c5 :: rest = [c0, c1, c2, c3, c4, c5] ++ rest from rfl] at hu
    rcases List.mem_append.1 hu with hu | hu
    · exact isV_one (isV_of_a _ _ hx) u hu
    · exact isGLa_one t rest ht u hu
theorem isGLa_of {W : World} {B : Nat → Prop} : ∀ (l : List G) (a : Addr), (∀ i (h : i < l.length), isGata W B l[i] (a.add (i * 8))) → ∃ xs, isGLa W B l xs ∧ ∀ j u, xs[j]? = some u → W.cell? (a.add j) = some u
  | [], a, _ => ⟨[], by unfold isGLa; rfl, fun j u h => by simp at h⟩
  | g :: t, a, h => by
    obtain ⟨xs, h1, h2⟩ := isGLa_of t (a.add 8) (fun i hi => by
      have := h (i + 1) (by simpa using hi)
      rw [show (i + 1) * 8 = 8 + i * 8 by omega, ← add_add] at this
      simpa using this)
    obtain ⟨c0, c1, c2, c3, c4, c5, g0, g1, g2, g3, g4, g5, g6, g7, h3, h4⟩ := h 0 (by simp)
    simp only [List.getElem_cons_zero] at g0 g1 h3 h4
    have hs : a.spot = none := cell_spot g0
    simp only [at_add hs, Nat.zero_mul, Nat.zero_add] at g0 g1 g2 g3 g4 g5 g6 g7
    refine ⟨.string g.nm :: .bool g.unk :: c0 :: c1 :: c2 :: c3 :: c4 :: c5 :: xs, by unfold isGLa; exact ⟨c0, c1, c2, c3, c4, c5, xs, rfl, h3, h4, h1⟩, fun j u hj => ?_⟩
    match j, hj with
    | 0, hj => obtain rfl := Option.some.inj hj; exact g0
    | 1, hj => obtain rfl := Option.some.inj hj; exact g1
    | 2, hj => obtain rfl := Option.some.inj hj; exact g2
    | 3, hj => obtain rfl := Option.some.inj hj; exact g3
    | 4, hj => obtain rfl := Option.some.inj hj; exact g4
    | 5, hj => obtain rfl := Option.some.inj hj; exact g5
    | 6, hj => obtain rfl := Option.some.inj hj; exact g6
    | 7, hj => obtain rfl := Option.some.inj hj; exact g7
    | j + 8, hj =>
      have := h2 j u (by simpa using hj)
      rwa [add_add, Nat.add_comm 8 j] at this
/-- The cells of a property in a row of the call's own. -/
def Gfa (W : World) (B : Nat → Prop) (g : G) (f : Nat → Value) (p : Nat) : Prop := f p = .string g.nm ∧ f (p + 1) = .bool g.unk ∧ isVa W B g.v (.agg #[f (p + 2), f (p + 3), f (p + 4), f (p + 5), f (p + 6), f (p + 7)]) ∧ g.nm.size ≤ maxLen
theorem isGLa_get {W : World} {B : Nat → Prop} : ∀ (L : List G) (xs : List Value) (f : Nat → Value), isGLa W B L xs → (∀ j u, xs[j]? = some u → f j = u) → ∀ i (h : i < L.length), Gfa W B L[i] f (i * 8)
  | g :: t, xs, f, h, hf, i, hi => by
    unfold isGLa at h
    obtain ⟨c0, c1, c2, c3, c4, c5, rest, rfl, hx, hn, ht⟩ := h
    match i, hi with
    | 0, hi =>
      have e0 := hf 0 _ rfl
      have e1 := hf 1 _ rfl
      have e2 := hf 2 _ rfl
      have e3 := hf 3 _ rfl
      have e4 := hf 4 _ rfl
      have e5 := hf 5 _ rfl
      have e6 := hf 6 _ rfl
      have e7 := hf 7 _ rfl
      refine ⟨e0, e1, ?_, hn⟩
      show isVa W B g.v (.agg #[f 2, f 3, f 4, f 5, f 6, f 7])
      rw [e2, e3, e4, e5, e6, e7]
      exact hx
    | i + 1, hi =>
      obtain ⟨h1, h2, h3, h4⟩ := isGLa_get t rest (fun j => f (j + 8)) ht (fun j u hj => hf (j + 8) u (by simpa using hj)) i (by simpa using hi)
      have e : (i + 1) * 8 = i * 8 + 8 := by omega
      rw [e]
      refine ⟨h1, ?_, ?_, h4⟩
      · rw [show i * 8 + 8 + 1 = i * 8 + 1 + 8 by omega]; exact h2
      · rw [show i * 8 + 8 + 2 = i * 8 + 2 + 8 by omega, show i * 8 + 8 + 3 = i * 8 + 3 + 8 by omega, show i * 8 + 8 + 4 = i * 8 + 4 + 8 by omega, show i * 8 + 8 + 5 = i * 8 + 5 + 8 by omega, show i * 8 + 8 + 6 = i * 8 + 6 + 8 by omega, show i * 8 + 8 + 7 = i * 8 + 7 + 8 by omega]
        exact h3
/-! Things in given blocks. -/
def isTata (W : World) (B : Nat → Prop) (t : Th) (a : Addr) : Prop := ∃ pv, W.cell? a = some (.string t.ph) ∧ W.cell? ⟨a.block, a.off + 1, none⟩ = some (.string t.ty) ∧ W.cell? ⟨a.block, a.off + 2, none⟩ = some pv ∧ isGsa W B t.ps pv ∧ t.ph.size ≤ maxLen ∧ t.ty.size ≤ maxLen
def isTLa (W : World) (B : Nat → Prop) : List Th → List Value → Prop
  | [], xs => xs = []
  | t :: r, xs => ∃ pv rest, xs = .string t.ph :: .string t.ty :: pv :: rest ∧ isGsa W B t.ps pv ∧ t.ph.size ≤ maxLen ∧ t.ty.size ≤ maxLen ∧ isTLa W B r rest
theorem isTLa_of_TL {W : World} : ∀ (l : List Th) (xs : List Value), isTL W l xs → isTLa W (fun q => q < W.heap.size) l xs
  | [], xs, h => by unfold isTL at h; unfold isTLa; exact h
  | x :: t, xs, h => by
    unfold isTL at h
    obtain ⟨pv, rest, e, hx, hn, hm, ht⟩ := h
    unfold isTLa
    exact ⟨pv, rest, e, isGsa_of hx, hn, hm, isTLa_of_TL t rest ht⟩
/-- The cells of a thing in a row of the call's own. -/
def Tfa (W : World) (B : Nat → Prop) (t : Th) (f : Nat → Value) (p : Nat) : Prop := f p = .string t.ph ∧ f (p + 1) = .string t.ty ∧ isGsa W B t.ps (f (p + 2)) ∧ t.ph.size ≤ maxLen ∧ t.ty.size ≤ maxLen
theorem isTLa_get {W : World} {B : Nat → Prop} : ∀ (L : List Th) (xs : List Value) (f : Nat → Value), isTLa W B L xs → (∀ j u, xs[j]? = some u → f j = u) → ∀ i (h : i < L.length), Tfa W B L[i] f (i * 3)
  | g :: t, xs, f, h, hf, i, hi => by
    unfold isTLa at h
    obtain ⟨pv, rest, rfl, hx, hn, hm, ht⟩ := h
    match i, hi with
    | 0, hi =>
      have e0 := hf 0 _ rfl
      have e1 := hf 1 _ rfl
      have e2 := hf 2 _ rfl
      refine ⟨e0, e1, ?_, hn, hm⟩
      show isGsa W B g.ps (f 2)
      rw [e2]
      exact hx
    | i + 1, hi =>
      obtain ⟨h1, h2, h3, h4, h5⟩ := isTLa_get t rest (fun j => f (j + 3)) ht (fun j u hj => hf (j + 3) u (by simpa using hj)) i (by simpa using hi)
      have e : (i + 1) * 3 = i * 3 + 3 := by omega
      rw [e]
      refine ⟨h1, ?_, ?_, h4, h5⟩
      · rw [show i * 3 + 3 + 1 = i * 3 + 1 + 3 by omega]; exact h2
      · rw [show i * 3 + 3 + 2 = i * 3 + 2 + 3 by omega]; exact h3
end Go.Proofs.YtoapaflcokhohaaGreatDoor
