/-
  Physical ids and their numbers, of the program's store. · Where a thing stands; what is wrong with a thing; which stores may be. Of the program.
-/
import Derived.Test.YtdckldfekepopaaGreatDoorZ2
import Derived.Test.YtdckldfekepopaaGreatDoorZ1
import Derived.Test.YtdckldfekepopaaGreatDoorShelf
import Derived.Test.YtdckldfekepopaaGreatDoorZV
import Derived.Test.YtdckldfekepopaaGreatDoorZ3
set_option linter.unusedVariables false
set_option linter.unusedSimpArgs false
namespace Go.Proofs.YtdckldfekepopaaGreatDoor
open Go.RowKit

/-- What Number answers. -/
def numL (s : ByteArray) : Int × Bool := if Lib.hasPrefix s.data.toList [112] = true ∧ (Nu.readL (s.data.toList.drop 1)).2 = 0 ∧ (1 ≤ (Nu.readL (s.data.toList.drop 1)).1 ∧ (Nu.readL (s.data.toList.drop 1)).1 ≤ 1099511627776) then ((Nu.readL (s.data.toList.drop 1)).1, true) else (0, false)
def physS (n : Int) : ByteArray := ⟨(112 :: Nu.txt n).toArray⟩
theorem trim_p (s : ByteArray) (h : Lib.hasPrefix s.data.toList [112] = true) : Lib.trimPrefix s.data.toList (ByteArray.mk #[112]).data.toList = s.data.toList.drop 1 := by
  show Lib.trimPrefix s.data.toList [112] = _
  unfold Lib.trimPrefix
  rw [if_pos h]; rfl

theorem hasID_any (n : Int) (w : World) : Calls Tryz.prog 37 #[.int .i64 n] w fun e w' => e = .returned (.bool (decide (1 ≤ n ∧ n ≤ 1099511627776))) ∧ w = w' := by
  by_cases h1 : 1 ≤ n
  · have z1 : decide (1 ≤ n) = true := decide_eq_true h1
    by_cases h2 : n ≤ 1099511627776
    · have z2 : decide (n ≤ 1099511627776) = true := decide_eq_true h2
      rw [show decide (1 ≤ n ∧ n ≤ 1099511627776) = true from decide_eq_true ⟨h1, h2⟩]
      clear h1 h2
      go_enter Tryz.func37, Tryz.ntmps37
      go_wp2_with fail
      go_ret
      exact ⟨rfl, rfl⟩
    · have z2 : decide (n ≤ 1099511627776) = false := decide_eq_false h2
      rw [show decide (1 ≤ n ∧ n ≤ 1099511627776) = false from decide_eq_false (fun h => h2 h.2)]
      clear h1 h2
      go_enter Tryz.func37, Tryz.ntmps37
      go_wp2_with fail
      go_ret
      exact ⟨rfl, rfl⟩
  · have z1 : decide (1 ≤ n) = false := decide_eq_false h1
    rw [show decide (1 ≤ n ∧ n ≤ 1099511627776) = false from decide_eq_false (fun h => h1 h.1)]
    clear h1
    go_enter Tryz.func37, Tryz.ntmps37
    go_wp2_with fail
    go_ret
    exact ⟨rfl, rfl⟩
set_option maxRecDepth 100000 in
set_option maxHeartbeats 2000000 in
theorem Number_any (s : ByteArray) (hs : s.size ≤ maxLen) (w : World) :
    Calls Tryz.prog 18 #[.string s] w fun e w' => e = .returned (.tuple #[.int .i64 (numL s).1, .bool (numL s).2]) ∧ w = w' := by
  have HP := Lib.hid (Tryz.strings_CutPrefix s ⟨#[112]⟩ w)
  unfold numL
  cases hp : Lib.hasPrefix s.data.toList [112] with
  | false =>
    rw [if_neg (fun h => by cases h.1)]
    have hp' : Lib.hasPrefix s.data.toList (ByteArray.mk #[112]).data.toList = false := hp
    rw [hp'] at HP
    generalize (⟨(Lib.trimPrefix s.data.toList (ByteArray.mk #[112]).data.toList).toArray⟩ : ByteArray) = T at *
    clear hp hp'
    go_enter Tryz.func18, Tryz.ntmps18
    go_wp2_with (go_at_call 39; refine HP.out.mono ?_; rintro e w5 ⟨rfl, rfl⟩)
    go_ret2
    exact ⟨rfl, rfl⟩
  | true =>
    have hp' : Lib.hasPrefix s.data.toList (ByteArray.mk #[112]).data.toList = true := hp
    rw [hp', trim_p s hp] at HP
    have hT : (⟨(s.data.toList.drop 1).toArray⟩ : ByteArray).data.toList = s.data.toList.drop 1 := rfl
    have hTs : (⟨(s.data.toList.drop 1).toArray⟩ : ByteArray).size ≤ maxLen := by
      have : (⟨(s.data.toList.drop 1).toArray⟩ : ByteArray).size = (s.data.toList.drop 1).length := Nu.size_arr _
      rw [this, List.length_drop, Nu.toList_length]; omega
    have HR := Nu.read_any (⟨(s.data.toList.drop 1).toArray⟩ : ByteArray) hTs w
    rw [hT] at HR
    obtain ⟨n, e, hne⟩ : ∃ n e, Nu.readL (s.data.toList.drop 1) = (n, e) := ⟨_, _, rfl⟩
    rw [hne] at HR ⊢
    unfold Nu.readV at HR
    dsimp only at HR ⊢
    have HR := Lib.hid HR
    generalize (⟨(s.data.toList.drop 1).toArray⟩ : ByteArray) = T at *
    clear hp hp' hT hTs hne
    by_cases he : e = 0
    · subst he
      have HI := Lib.hid (hasID_any n w)
      by_cases h1 : 1 ≤ n ∧ n ≤ 1099511627776
      · rw [if_pos ⟨rfl, rfl, h1⟩]
        rw [show decide (1 ≤ n ∧ n ≤ 1099511627776) = true from decide_eq_true h1] at HI
        clear h1
        go_enter Tryz.func18, Tryz.ntmps18
        go_wp2_with (first
          | (go_at_call 39; refine HP.out.mono ?_; rintro e w5 ⟨rfl, rfl⟩)
          | (go_at_call 40; refine HR.out.mono ?_; rintro e w5 ⟨rfl, rfl⟩)
          | (go_at_call 37; refine HI.out.mono ?_; rintro e w5 ⟨rfl, rfl⟩))
        go_ret2
        exact ⟨rfl, rfl⟩
      · rw [if_neg (fun h => h1 h.2.2)]
        rw [show decide (1 ≤ n ∧ n ≤ 1099511627776) = false from decide_eq_false h1] at HI
        clear h1
        go_enter Tryz.func18, Tryz.ntmps18
        go_wp2_with (first
          | (go_at_call 39; refine HP.out.mono ?_; rintro e w5 ⟨rfl, rfl⟩)
          | (go_at_call 40; refine HR.out.mono ?_; rintro e w5 ⟨rfl, rfl⟩)
          | (go_at_call 37; refine HI.out.mono ?_; rintro e w5 ⟨rfl, rfl⟩))
        go_ret2
        exact ⟨rfl, rfl⟩
    · rw [if_neg (fun h => he h.2.1)]
      have z1 : (e == 0) = false := beqI he
      have z2 : (e != 0) = true := bne_iff_ne.2 he
      go_enter Tryz.func18, Tryz.ntmps18
      go_wp2_with (first
        | (go_at_call 39; refine HP.out.mono ?_; rintro e w5 ⟨rfl, rfl⟩)
        | (go_at_call 40; refine HR.out.mono ?_; rintro e w5 ⟨rfl, rfl⟩))
      go_ret2
      exact ⟨rfl, rfl⟩

theorem fit_phys {n : Int} (h1 : 1 ≤ n) (h2 : n ≤ 1099511627776) : Nu.fitB n = true := Nu.fitB_iff.2 ⟨by omega, by omega⟩
set_option maxRecDepth 100000 in
set_option maxHeartbeats 2000000 in
theorem Phys_any (n : Int) (w : World) (hn : -9223372036854775808 ≤ n ∧ n ≤ 9223372036854775807) :
    Calls Tryz.prog 17 #[.int .i64 n] w fun e w' => e = .returned (.tuple #[.string (if 1 ≤ n ∧ n ≤ 1099511627776 then physS n else ⟨#[]⟩), .int .i64 (if 1 ≤ n ∧ n ≤ 1099511627776 then 0 else 2)]) ∧ Below w.heap.size w w' := by
  have HI := Lib.hid (hasID_any n w)
  by_cases h1 : 1 ≤ n ∧ n ≤ 1099511627776
  · rw [if_pos h1, if_pos h1]
    rw [show decide (1 ≤ n ∧ n ≤ 1099511627776) = true from decide_eq_true h1] at HI
    have HT := Nu.text_any n w
    rw [fit_phys h1.1 h1.2] at HT
    have HT := Lib.hid HT
    have hl := Nu.txt_len n
    have hS : physS n = (⟨#[112]⟩ : ByteArray) ++ ⟨(Nu.txt n).toArray⟩ := by
      unfold physS
      apply ByteArray.ext
      simp [ByteArray.data_append]
    have hSs : (⟨(Nu.txt n).toArray⟩ : ByteArray).size ≤ 17 := by
      have : (⟨(Nu.txt n).toArray⟩ : ByteArray).size = (Nu.txt n).length := Nu.size_arr _
      omega
    have HS := Lib.hid hS
    generalize (⟨(Nu.txt n).toArray⟩ : ByteArray) = T at *
    clear hS hl h1
    go_enter Tryz.func17, Tryz.ntmps17
    go_wp2_with (first
      | (go_at_call 38; refine HT.out.mono ?_; rintro e w5 ⟨rfl, hb5⟩)
      | (go_at_call 37; refine HI.out.mono ?_; rintro e w5 ⟨rfl, rfl⟩))
    go_ret2
    exact ⟨by rw [HS.out]; rfl, hb5⟩
  · rw [if_neg h1, if_neg h1]
    rw [show decide (1 ≤ n ∧ n ≤ 1099511627776) = false from decide_eq_false h1] at HI
    clear h1
    go_enter Tryz.func17, Tryz.ntmps17
    go_wp2_with (go_at_call 37; refine HI.out.mono ?_; rintro e w5 ⟨rfl, rfl⟩)
    go_ret2
    exact ⟨rfl, Below.refl _ _⟩

/-! What these say together. -/
theorem num_phys {n : Int} (h1 : 1 ≤ n) (h2 : n ≤ 1099511627776) : numL (physS n) = (n, true) := by
  have h : (physS n).data.toList = 112 :: Nu.txt n := by unfold physS; simp
  unfold numL
  rw [h]
  have hd : (112 :: Nu.txt n).drop 1 = Nu.txt n := rfl
  rw [hd, Nu.read_text n (fit_phys h1 h2), if_pos ⟨by simp [Lib.hasPrefix], rfl, h1, h2⟩]
theorem num_form {s : ByteArray} {n : Int} (h : numL s = (n, true)) : s = physS n ∧ 1 ≤ n ∧ Nu.fitB n = true := by
  unfold numL at h
  split at h
  · rename_i hc
    obtain ⟨h1, h2, h3⟩ := hc
    have e : (Nu.readL (s.data.toList.drop 1)).1 = n := (Prod.mk.injEq _ _ _ _ ▸ h).1
    have hr : Nu.readL (s.data.toList.drop 1) = (n, 0) := by rw [← e, ← h2]
    obtain ⟨hf, ht⟩ := Nu.text_read _ _ hr
    refine ⟨?_, by omega, hf⟩
    unfold physS
    rw [ht]
    have : s.data.toList = 112 :: s.data.toList.drop 1 := by
      unfold Lib.hasPrefix at h1
      cases hl : s.data.toList with
      | nil => rw [hl] at h1; cases h1
      | cons a t =>
        rw [hl] at h1
        simp at h1
        rw [← h1]; rfl
    rw [← this]
  · cases h
end Go.Proofs.YtdckldfekepopaaGreatDoor

namespace Go.Proofs.YtdckldfekepopaaGreatDoor
open Go.RowKit

set_option maxHeartbeats 1000000 in
theorem wr1_any (g : G) (v : Value) (w : World) (h : isG w g v) : Calls Tryz.prog 50 #[v] w fun e w' => e = .returned (.bool g.unk) ∧ Below w.heap.size w w' := by
  obtain ⟨k, b, n, s, o, m, c, o2, m2, c2, rfl, hv⟩ := isG_eight h
  have HB0 : Hid (KB w (w.alloc (.cells #[.string g.nm, .bool g.unk, .int .i8 k, .bool b, .int .i64 n, .string s, .slice o m c, .slice o2 m2 c2] 66))) := Lib.hid kbA
  clear h hv
  go_enter Tryz.func50, Tryz.ntmps50
  go_wp2_with fail
  go_ret
  exact ⟨rfl, HB0.out⟩

set_option maxRecDepth 100000 in
set_option maxHeartbeats 4000000 in
/-- find, of the properties: is one unknown? -/
theorem findG_any (L : List G) (v : Value) (w : World) (hl : L.length ≤ 1000000) (h : isGs w L v) :
    Calls Tryz.prog 49 #[v, .func (.func 50) #[] #[]] w fun e w' => (∃ i : Int, e = .returned (.tuple #[.int .i64 i, .bool (L.any (·.unk))])) ∧ Below w.heap.size w w' := by
  obtain ⟨a, cap, ⟨o, rfl, hc1, hc2, ho⟩, hgs⟩ := h
  unfold maxLen at hc2
  have HK := Lib.hid hgs
  obtain ⟨r, hr⟩ : ∃ r, L.any (·.unk) = r := ⟨_, rfl⟩
  rw [hr]
  have HR := Lib.hid hr
  have ef : ∀ args w, (callFunc 50 args).run Tryz.prog w = .ok (.enter 50 args) w := enters_of Tryz.func50 (by kernel_rfl) rfl
  clear hgs hr
  go_enter Tryz.func49, Tryz.ntmps49
  go_wp2_with fail
  go_loopw [10] (fun i wr => ∃ (j : Nat), j ≤ L.length ∧ i = .int .i64 j ∧ Hid ((L.take j).any (·.unk) = false) ∧ Hid (Below w.heap.size w wr)) (fun i _ => L.length - (intOf i).toNat)
  case atStart => exact ⟨0, by omega, rfl, Lib.hid rfl, Lib.hid (Below.refl _ _)⟩
  case round =>
    obtain ⟨j, hj, rfl, hA, hB⟩ := hrel
    by_cases hlt : j < L.length
    · obtain rfl := ho (by omega)
      obtain ⟨k, b1, n, s, o1, m, c, o2, m2, c2, q0, q1, q2, q3, q4, q5, q6, q7, hg⟩ := isGat_eight (isGat_below hB.out (HK.out j hlt))
      have HN : Hid (∀ w1, KB wr w1 → Calls Tryz.prog 50 #[.agg #[.string L[j].nm, .bool L[j].unk, .int .i8 k, .bool b1, .int .i64 n, .string s, .slice o1 m c, .slice o2 m2 c2]] w1 fun e w' => e = .returned (.bool L[j].unk) ∧ KB wr w') := Lib.hid fun w1 hK => Calls.kb hK (wr1_any L[j] _ w1 (isG_below hK hg))
      have HA1 : Hid (KB wr (wr.alloc (.cells #[.string L[j].nm, .bool L[j].unk, .int .i8 k, .bool b1, .int .i64 n, .string s, .slice o1 m c, .slice o2 m2 c2] 66))) := Lib.hid kbA
      clear hg
      cases hv : L[j].unk with
      | true =>
        have hr2 : r = true := by
          rw [← HR.out, List.any_eq_true]
          exact ⟨L[j], List.getElem_mem hlt, hv⟩
        have HR2 := Lib.hid hr2
        rw [hv] at HN q1 HA1
        clear hr2 hv
        generalize L[j] = g at *
        go_wp2_with (go_at_fn 50; refine (HN.out _ HA1.out).mono ?_; rintro e w5 ⟨rfl, hb5⟩)
        go_ret2
        exact ⟨⟨(j : Int), by rw [HR2.out]; rfl⟩, hB.out.trans (hb5.mono hB.out.size)⟩
      | false =>
        have HA : Hid ((L.take (j + 1)).any (·.unk) = false) := Lib.hid (by rw [List.take_succ_eq_append_getElem hlt, List.any_append, hA.out]; simp [hv])
        rw [hv] at HN q1 HA1
        clear hv
        generalize L[j] = g at *
        go_wp2_with (go_at_fn 50; refine (HN.out _ HA1.out).mono ?_; rintro e w5 ⟨rfl, hb5⟩)
        go_roundw
        case rel => exact ⟨j + 1, by omega, by go_num, HA, Lib.hid (hB.out.trans (hb5.mono hB.out.size))⟩
        case measure => simp [intOf]; omega
    · obtain rfl : j = L.length := by omega
      have HRES : Hid (r = false) := Lib.hid (by
        have := hA.out
        rw [List.take_of_length_le (Nat.le_refl _)] at this
        rw [← HR.out, this])
      go_wp2_with fail
      go_ret2
      exact ⟨⟨0, by rw [HRES.out]; rfl⟩, hB.out⟩

/-- What wrong answers. -/
noncomputable def wrongL (K : ByteArray) (L : List G) : Int := if checkL K L = 0 then (if L.any (·.unk) then 91 else 0) else checkL K L
def fineG (L : List G) : Prop := L.length ≤ 1000000 ∧ ∀ g ∈ L, sizeV g.v ≤ 1000000 ∧ fineV g.v
set_option maxRecDepth 100000 in
set_option maxHeartbeats 2000000 in
theorem wrong10_any (K : ByteArray) (L : List G) (v : Value) (w : World) (hE : Env9 w) (hK : K.size ≤ 400) (hP : fineG L) (h : isGs w L v) :
    Calls Tryz.prog 25 #[.string K, v] w fun e w' => e = .returned (.int .i64 (wrongL K L)) ∧ Below w.heap.size w w' := by
  have HC := Lib.hid (Check_any K L v w hE hK hP.1 hP.2 h)
  have HF : Hid (∀ w1, KB w w1 → Calls Tryz.prog 49 #[v, .func (.func 50) #[] #[]] w1 fun e w' => (∃ i : Int, e = .returned (.tuple #[.int .i64 i, .bool (L.any (·.unk))])) ∧ KB w w') := Lib.hid fun w1 hK => (findG_any L v w1 hP.1 (isGs_below hK h)).mono fun e w' ⟨he, hb⟩ => ⟨he, hK.trans (hb.mono hK.size)⟩
  obtain ⟨a, cap, ⟨o, rfl, _⟩, _⟩ := h
  unfold wrongL
  generalize checkL K L = C at *
  generalize L.any (·.unk) = U at *
  clear hE hP
  by_cases hC : C = 0
  · subst hC
    rw [if_pos rfl]
    cases U with
    | true =>
      go_enter Tryz.func25, Tryz.ntmps25
      go_wp2_with (first
        | (go_at_call 48; refine HC.out.mono ?_; rintro e w5 ⟨rfl, hb5⟩)
        | (go_at_call 49; refine (HF.out _ hb5).mono ?_; rintro e w6 ⟨⟨i, rfl⟩, hb6⟩))
      go_ret
      exact ⟨rfl, hb6⟩
    | false =>
      go_enter Tryz.func25, Tryz.ntmps25
      go_wp2_with (first
        | (go_at_call 48; refine HC.out.mono ?_; rintro e w5 ⟨rfl, hb5⟩)
        | (go_at_call 49; refine (HF.out _ hb5).mono ?_; rintro e w6 ⟨⟨i, rfl⟩, hb6⟩))
      go_ret
      exact ⟨rfl, hb6⟩
  · rw [if_neg hC]
    have z1 : (C == 0) = false := beqI hC
    have z2 : (C != 0) = true := bne_iff_ne.2 hC
    clear hC
    go_enter Tryz.func25, Tryz.ntmps25
    go_wp2_with (go_at_call 48; refine HC.out.mono ?_; rintro e w5 ⟨rfl, hb5⟩)
    go_ret
    exact ⟨rfl, hb5⟩

/-! Where a thing stands. -/
theorem isTh_three {W : World} {t : Th} {v : Value} (h : isTh W t v) : ∃ (o : Option Addr) (cap : Nat), v = .agg #[.string t.ph, .string t.ty, .slice o t.ps.length cap] ∧ isGs W t.ps (.slice o t.ps.length cap) ∧ t.ph.size ≤ maxLen ∧ t.ty.size ≤ maxLen := by
  obtain ⟨pv, rfl, hg, h3, h4⟩ := h
  have hg' := hg
  obtain ⟨a, cap, ⟨o, rfl, _⟩, _⟩ := hg
  exact ⟨o, cap, rfl, hg', h3, h4⟩
theorem isTat_three {W : World} {t : Th} {a : Addr} (h : isTat W t a) : ∃ (o : Option Addr) (cap : Nat), W.cell? a = some (.string t.ph) ∧ W.cell? ⟨a.block, a.off + 1, none⟩ = some (.string t.ty) ∧ W.cell? ⟨a.block, a.off + 2, none⟩ = some (.slice o t.ps.length cap) ∧ isTh W t (.agg #[.string t.ph, .string t.ty, .slice o t.ps.length cap]) := by
  obtain ⟨pv, g0, g1, g2, hg, h3, h4⟩ := h
  have hg' := hg
  obtain ⟨a, cap, ⟨o, rfl, _⟩, _⟩ := hg
  exact ⟨o, cap, g0, g1, g2, ⟨_, rfl, hg', h3, h4⟩⟩
theorem beq_ba {s t : ByteArray} : (s.toList == t.toList) = decide (s = t) := by
  by_cases e : s = t
  · subst e; rw [decide_eq_true rfl]; exact beq_self_eq_true _
  · rw [decide_eq_false e]; exact beq_toList e
set_option maxHeartbeats 1000000 in
theorem pl1_any (t : Th) (p : ByteArray) (b : Nat) (v : Value) (w : World) (h : isTh w t v) (hb : w.cell? ⟨b, 0, none⟩ = some (.string p)) :
    Calls Tryz.prog 70 #[v, .pointer (some ⟨b, 0, none⟩)] w fun e w' => e = .returned (.bool (decide (t.ph = p))) ∧ Below w.heap.size w w' := by
  obtain ⟨o, cap, rfl, _, _, _⟩ := isTh_three h
  have HB0 : Hid (KB w (w.alloc (.cells #[.string t.ph, .string t.ty, .slice o t.ps.length cap] 52))) := Lib.hid kbA
  have hb1 := cell_below HB0.out _ _ hb
  rw [← beq_ba]
  clear h hb
  go_enter Tryz.func70, Tryz.ntmps70
  go_wp2_with fail
  go_ret
  exact ⟨rfl, HB0.out⟩

def idxT (L : List Th) (p : ByteArray) : Option Nat := L.findIdx? (fun t => decide (t.ph = p))
theorem idxT_some {L : List Th} {p : ByteArray} {j : Nat} (hj : j < L.length) (h1 : L[j].ph = p) (h2 : ∀ i (h : i < j), (L[i]'(by omega)).ph ≠ p) : idxT L p = some j := by
  unfold idxT
  rw [List.findIdx?_eq_some_iff_getElem]
  exact ⟨hj, decide_eq_true h1, fun i hi => by simpa using h2 i hi⟩
theorem idxT_none {L : List Th} {p : ByteArray} (h : ∀ i (h : i < L.length), L[i].ph ≠ p) : idxT L p = none := by
  unfold idxT
  rw [List.findIdx?_eq_none_iff]
  intro x hx
  obtain ⟨i, hi, rfl⟩ := List.getElem_of_mem hx
  exact decide_eq_false (h i hi)
theorem idxT_at {L : List Th} {p : ByteArray} {j : Nat} (h : idxT L p = some j) : ∃ hj : j < L.length, L[j].ph = p ∧ ∀ i (h : i < j), (L[i]'(by omega)).ph ≠ p := by
  unfold idxT at h
  rw [List.findIdx?_eq_some_iff_getElem] at h
  obtain ⟨hj, h1, h2⟩ := h
  exact ⟨hj, of_decide_eq_true h1, fun i hi => by simpa using h2 i hi⟩
theorem idxT_no {L : List Th} {p : ByteArray} (h : idxT L p = none) : ∀ t ∈ L, t.ph ≠ p := by
  unfold idxT at h
  rw [List.findIdx?_eq_none_iff] at h
  intro t ht
  exact of_decide_eq_false (h t ht)

set_option maxRecDepth 100000 in
set_option maxHeartbeats 4000000 in
theorem findT_any (L : List Th) (p : ByteArray) (b : Nat) (v : Value) (w : World) (hl : L.length ≤ 1000000) (h : isTs w L v) (hb : w.cell? ⟨b, 0, none⟩ = some (.string p)) :
    Calls Tryz.prog 69 #[v, .func (.func 70) #[] #[.pointer (some ⟨b, 0, none⟩)]] w fun e w' => e = .returned (.tuple #[.int .i64 ((idxT L p).getD 0 : Nat), .bool (idxT L p).isSome]) ∧ Below w.heap.size w w' := by
  obtain ⟨a, cap, ⟨o, rfl, hc1, hc2, ho⟩, hts⟩ := h
  unfold maxLen at hc2
  have HK := Lib.hid hts
  have HBX := Lib.hid hb
  obtain ⟨r, hr⟩ : ∃ r, idxT L p = r := ⟨_, rfl⟩
  rw [hr]
  have HR := Lib.hid hr
  have ef : ∀ args w, (callFunc 70 args).run Tryz.prog w = .ok (.enter 70 args) w := enters_of Tryz.func70 (by kernel_rfl) rfl
  clear hts hr hb
  go_enter Tryz.func69, Tryz.ntmps69
  go_wp2_with fail
  go_loopw [10] (fun i wr => ∃ (j : Nat), j ≤ L.length ∧ i = .int .i64 j ∧ Hid (∀ i (h : i < L.length), i < j → L[i].ph ≠ p) ∧ Hid (Below w.heap.size w wr)) (fun i _ => L.length - (intOf i).toNat)
  case atStart => exact ⟨0, by omega, rfl, Lib.hid (fun i _ h => absurd h (by omega)), Lib.hid (Below.refl _ _)⟩
  case round =>
    obtain ⟨j, hj, rfl, hA, hB⟩ := hrel
    by_cases hlt : j < L.length
    · obtain rfl := ho (by omega)
      obtain ⟨o1, c1, q0, q1, q2, ht⟩ := isTat_three (isTat_below hB.out (HK.out j hlt))
      have HN : Hid (∀ w1, KB wr w1 → Calls Tryz.prog 70 #[.agg #[.string L[j].ph, .string L[j].ty, .slice o1 L[j].ps.length c1], .pointer (some ⟨b, 0, none⟩)] w1 fun e w' => e = .returned (.bool (decide (L[j].ph = p))) ∧ KB wr w') := Lib.hid fun w1 hK => Calls.kb hK (pl1_any L[j] p b _ w1 (isTh_below hK ht) (cell_below (hB.out.trans (hK.mono hB.out.size)) _ _ HBX.out))
      have HA1 : Hid (KB wr (wr.alloc (.cells #[.string L[j].ph, .string L[j].ty, .slice o1 L[j].ps.length c1] 52))) := Lib.hid kbA
      clear ht
      by_cases hv : L[j].ph = p
      · have HR2 : Hid (r = some j) := Lib.hid (by rw [← HR.out]; exact idxT_some hlt hv (fun i hi => hA.out i (by omega) hi))
        rw [decide_eq_true hv] at HN
        clear hv
        generalize L[j] = t at *
        go_wp2_with (go_at_fn 70; refine (HN.out _ HA1.out).mono ?_; rintro e w5 ⟨rfl, hb5⟩)
        go_ret2
        exact ⟨by rw [HR2.out]; rfl, hB.out.trans (hb5.mono hB.out.size)⟩
      · have HA : Hid (∀ i (h : i < L.length), i < j + 1 → L[i].ph ≠ p) := Lib.hid fun i h hi => by
          by_cases e : i = j
          · subst e; exact hv
          · exact hA.out i h (by omega)
        rw [decide_eq_false hv] at HN
        clear hv
        generalize L[j] = t at *
        go_wp2_with (go_at_fn 70; refine (HN.out _ HA1.out).mono ?_; rintro e w5 ⟨rfl, hb5⟩)
        go_roundw
        case rel => exact ⟨j + 1, by omega, by go_num, HA, Lib.hid (hB.out.trans (hb5.mono hB.out.size))⟩
        case measure => simp [intOf]; omega
    · obtain rfl : j = L.length := by omega
      have HRES : Hid (r = none) := Lib.hid (by rw [← HR.out]; exact idxT_none (fun i h => hA.out i h h))
      go_wp2_with fail
      go_ret2
      exact ⟨by rw [HRES.out]; rfl, hB.out⟩

theorem isS_two {W : World} {s : St} {v : Value} (h : isS W s v) : ∃ (o : Option Addr) (cap : Nat), v = .agg #[.slice o s.l.length cap, .int .i64 s.made] ∧ isTs W s.l (.slice o s.l.length cap) ∧ (-9223372036854775808 ≤ s.made ∧ s.made ≤ 9223372036854775807) := by
  obtain ⟨lv, rfl, hl, hm⟩ := h
  have hl' := hl
  obtain ⟨a, cap, ⟨o, rfl, _⟩, _⟩ := hl
  exact ⟨o, cap, rfl, hl', hm⟩
set_option maxRecDepth 100000 in
set_option maxHeartbeats 2000000 in
theorem place_any (s : St) (p : ByteArray) (v : Value) (w : World) (hl : s.l.length ≤ 1000000) (h : isS w s v) :
    Calls Tryz.prog 41 #[v, .string p] w fun e w' => e = .returned (.tuple #[.int .i64 ((idxT s.l p).getD 0 : Nat), .bool (idxT s.l p).isSome]) ∧ Below w.heap.size w w' := by
  obtain ⟨o, cap, rfl, hts, _⟩ := isS_two h
  have HB0 : Hid (KB w ((w.alloc (.cells #[.slice o s.l.length cap, .int .i64 s.made] 24)).alloc (.cells #[.string p] 9))) := Lib.hid (by unfold KB; go_grown)
  have HF := Lib.hid (findT_any s.l p (w.heap.size + 1) _ ((w.alloc (.cells #[.slice o s.l.length cap, .int .i64 s.made] 24)).alloc (.cells #[.string p] 9)) hl (isTs_below HB0.out hts) (by simp))
  clear h hts
  go_enter Tryz.func41, Tryz.ntmps41
  go_wp2_with (go_at_call 69; refine HF.out.mono ?_; rintro e w5 ⟨rfl, hb5⟩)
  go_ret2
  exact ⟨rfl, HB0.out.trans (hb5.mono HB0.out.size)⟩
end Go.Proofs.YtdckldfekepopaaGreatDoor
