/-
  Physical ids and their numbers, of the program's store. · Where a thing stands; what is wrong with a thing; which stores may be. Of the program. · The library's slices.Clone at properties and at things; rows of them as lists of cells. · Which stores may be: the program's Check. · The store's copies of properties and things. · The program's named and Get.
-/
import Derived.Test.YtkigeegahepnaaaGreatDoorGM
import Derived.Test.YtkigeegahepnaaaGreatDoorShelf
import Derived.Test.YtkigeegahepnaaaGreatDoorGK
import Derived.Test.YtkigeegahepnaaaGreatDoorGN
import Derived.Test.YtkigeegahepnaaaGreatDoorGF
import Derived.Test.YtkigeegahepnaaaGreatDoorGO
set_option linter.unusedVariables false
set_option linter.unusedSimpArgs false
namespace Go.Proofs.YtkigeegahepnaaaGreatDoor
open Go.RowKit

/-- What Number answers. -/
def numL (s : ByteArray) : Int × Bool := if Lib.hasPrefix s.data.toList [112] = true ∧ (Nu.readL (s.data.toList.drop 1)).2 = 0 ∧ (1 ≤ (Nu.readL (s.data.toList.drop 1)).1 ∧ (Nu.readL (s.data.toList.drop 1)).1 ≤ 1099511627776) then ((Nu.readL (s.data.toList.drop 1)).1, true) else (0, false)
def physS (n : Int) : ByteArray := ⟨(112 :: Nu.txt n).toArray⟩
theorem trim_p (s : ByteArray) (h : Lib.hasPrefix s.data.toList [112] = true) : Lib.trimPrefix s.data.toList (ByteArray.mk #[112]).data.toList = s.data.toList.drop 1 := by
  show Lib.trimPrefix s.data.toList [112] = _
  unfold Lib.trimPrefix
  rw [if_pos h]; rfl

theorem hasID_any (n : Int) (w : World) : Calls Tryz.prog 117 #[.int .i64 n] w fun e w' => e = .returned (.bool (decide (1 ≤ n ∧ n ≤ 1099511627776))) ∧ w = w' := by
  by_cases h1 : 1 ≤ n
  · have z1 : decide (1 ≤ n) = true := decide_eq_true h1
    by_cases h2 : n ≤ 1099511627776
    · have z2 : decide (n ≤ 1099511627776) = true := decide_eq_true h2
      rw [show decide (1 ≤ n ∧ n ≤ 1099511627776) = true from decide_eq_true ⟨h1, h2⟩]
      clear h1 h2
      go_enter Tryz.func117, Tryz.ntmps117
      go_wp2_with fail
      go_ret
      exact ⟨rfl, rfl⟩
    · have z2 : decide (n ≤ 1099511627776) = false := decide_eq_false h2
      rw [show decide (1 ≤ n ∧ n ≤ 1099511627776) = false from decide_eq_false (fun h => h2 h.2)]
      clear h1 h2
      go_enter Tryz.func117, Tryz.ntmps117
      go_wp2_with fail
      go_ret
      exact ⟨rfl, rfl⟩
  · have z1 : decide (1 ≤ n) = false := decide_eq_false h1
    rw [show decide (1 ≤ n ∧ n ≤ 1099511627776) = false from decide_eq_false (fun h => h1 h.1)]
    clear h1
    go_enter Tryz.func117, Tryz.ntmps117
    go_wp2_with fail
    go_ret
    exact ⟨rfl, rfl⟩
set_option maxRecDepth 100000 in
set_option maxHeartbeats 2000000 in
theorem Number_any (s : ByteArray) (hs : s.size ≤ maxLen) (w : World) :
    Calls Tryz.prog 114 #[.string s] w fun e w' => e = .returned (.tuple #[.int .i64 (numL s).1, .bool (numL s).2]) ∧ w = w' := by
  have HP := Lib.hid (Tryz.strings_CutPrefix s ⟨#[112]⟩ w)
  unfold numL
  cases hp : Lib.hasPrefix s.data.toList [112] with
  | false =>
    rw [if_neg (fun h => by cases h.1)]
    have hp' : Lib.hasPrefix s.data.toList (ByteArray.mk #[112]).data.toList = false := hp
    rw [hp'] at HP
    generalize (⟨(Lib.trimPrefix s.data.toList (ByteArray.mk #[112]).data.toList).toArray⟩ : ByteArray) = T at *
    clear hp hp'
    go_enter Tryz.func114, Tryz.ntmps114
    go_wp2_with (go_at_call 130; refine HP.out.mono ?_; rintro e w5 ⟨rfl, rfl⟩)
    go_ret2
    exact ⟨rfl, rfl⟩
  | true =>
    have hp' : Lib.hasPrefix s.data.toList (ByteArray.mk #[112]).data.toList = true := hp
    rw [hp', trim_p s hp] at HP
    have hT : (⟨(s.data.toList.drop 1).toArray⟩ : ByteArray).data.toList = s.data.toList.drop 1 := rfl
    have hTs : (⟨(s.data.toList.drop 1).toArray⟩ : ByteArray).size ≤ maxLen := by
      have : (⟨(s.data.toList.drop 1).toArray⟩ : ByteArray).size = (s.data.toList.drop 1).length := Nu.size_arr _
      rw [this, List.length_drop, Nu.toList_length]; omega
    have HR := Nu.read_any (⟨(s.data.toList.drop 1).toArray⟩ : ByteArray) hTs w
    rw [hT] at HR
    obtain ⟨n, e, hne⟩ : ∃ n e, Nu.readL (s.data.toList.drop 1) = (n, e) := ⟨_, _, rfl⟩
    rw [hne] at HR ⊢
    unfold Nu.readV at HR
    dsimp only at HR ⊢
    have HR := Lib.hid HR
    generalize (⟨(s.data.toList.drop 1).toArray⟩ : ByteArray) = T at *
    clear hp hp' hT hTs hne
    by_cases he : e = 0
    · subst he
      have HI := Lib.hid (hasID_any n w)
      by_cases h1 : 1 ≤ n ∧ n ≤ 1099511627776
      · rw [if_pos ⟨rfl, rfl, h1⟩]
        rw [show decide (1 ≤ n ∧ n ≤ 1099511627776) = true from decide_eq_true h1] at HI
        clear h1
        go_enter Tryz.func114, Tryz.ntmps114
        go_wp2_with (first
          | (go_at_call 130; refine HP.out.mono ?_; rintro e w5 ⟨rfl, rfl⟩)
          | (go_at_call 131; refine HR.out.mono ?_; rintro e w5 ⟨rfl, rfl⟩)
          | (go_at_call 117; refine HI.out.mono ?_; rintro e w5 ⟨rfl, rfl⟩))
        go_ret2
        exact ⟨rfl, rfl⟩
      · rw [if_neg (fun h => h1 h.2.2)]
        rw [show decide (1 ≤ n ∧ n ≤ 1099511627776) = false from decide_eq_false h1] at HI
        clear h1
        go_enter Tryz.func114, Tryz.ntmps114
        go_wp2_with (first
          | (go_at_call 130; refine HP.out.mono ?_; rintro e w5 ⟨rfl, rfl⟩)
          | (go_at_call 131; refine HR.out.mono ?_; rintro e w5 ⟨rfl, rfl⟩)
          | (go_at_call 117; refine HI.out.mono ?_; rintro e w5 ⟨rfl, rfl⟩))
        go_ret2
        exact ⟨rfl, rfl⟩
    · rw [if_neg (fun h => he h.2.1)]
      have z1 : (e == 0) = false := beqI he
      have z2 : (e != 0) = true := bne_iff_ne.2 he
      go_enter Tryz.func114, Tryz.ntmps114
      go_wp2_with (first
        | (go_at_call 130; refine HP.out.mono ?_; rintro e w5 ⟨rfl, rfl⟩)
        | (go_at_call 131; refine HR.out.mono ?_; rintro e w5 ⟨rfl, rfl⟩))
      go_ret2
      exact ⟨rfl, rfl⟩

theorem fit_phys {n : Int} (h1 : 1 ≤ n) (h2 : n ≤ 1099511627776) : Nu.fitB n = true := Nu.fitB_iff.2 ⟨by omega, by omega⟩
set_option maxRecDepth 100000 in
set_option maxHeartbeats 2000000 in
theorem Phys_any (n : Int) (w : World) (hn : -9223372036854775808 ≤ n ∧ n ≤ 9223372036854775807) :
    Calls Tryz.prog 96 #[.int .i64 n] w fun e w' => e = .returned (.tuple #[.string (if 1 ≤ n ∧ n ≤ 1099511627776 then physS n else ⟨#[]⟩), .int .i64 (if 1 ≤ n ∧ n ≤ 1099511627776 then 0 else 2)]) ∧ Below w.heap.size w w' := by
  have HI := Lib.hid (hasID_any n w)
  by_cases h1 : 1 ≤ n ∧ n ≤ 1099511627776
  · rw [if_pos h1, if_pos h1]
    rw [show decide (1 ≤ n ∧ n ≤ 1099511627776) = true from decide_eq_true h1] at HI
    have HT := Nu.text_any n w
    rw [fit_phys h1.1 h1.2] at HT
    have HT := Lib.hid HT
    have hl := Nu.txt_len n
    have hS : physS n = (⟨#[112]⟩ : ByteArray) ++ ⟨(Nu.txt n).toArray⟩ := by
      unfold physS
      apply ByteArray.ext
      simp [ByteArray.data_append]
    have hSs : (⟨(Nu.txt n).toArray⟩ : ByteArray).size ≤ 17 := by
      have : (⟨(Nu.txt n).toArray⟩ : ByteArray).size = (Nu.txt n).length := Nu.size_arr _
      omega
    have HS := Lib.hid hS
    generalize (⟨(Nu.txt n).toArray⟩ : ByteArray) = T at *
    clear hS hl h1
    go_enter Tryz.func96, Tryz.ntmps96
    go_wp2_with (first
      | (go_at_call 118; refine HT.out.mono ?_; rintro e w5 ⟨rfl, hb5⟩)
      | (go_at_call 117; refine HI.out.mono ?_; rintro e w5 ⟨rfl, rfl⟩))
    go_ret2
    exact ⟨by rw [HS.out]; rfl, hb5⟩
  · rw [if_neg h1, if_neg h1]
    rw [show decide (1 ≤ n ∧ n ≤ 1099511627776) = false from decide_eq_false h1] at HI
    clear h1
    go_enter Tryz.func96, Tryz.ntmps96
    go_wp2_with (go_at_call 117; refine HI.out.mono ?_; rintro e w5 ⟨rfl, rfl⟩)
    go_ret2
    exact ⟨rfl, Below.refl _ _⟩

/-! What these say together. -/
theorem num_phys {n : Int} (h1 : 1 ≤ n) (h2 : n ≤ 1099511627776) : numL (physS n) = (n, true) := by
  have h : (physS n).data.toList = 112 :: Nu.txt n := by unfold physS; simp
  unfold numL
  rw [h]
  have hd : (112 :: Nu.txt n).drop 1 = Nu.txt n := rfl
  rw [hd, Nu.read_text n (fit_phys h1 h2), if_pos ⟨by simp [Lib.hasPrefix], rfl, h1, h2⟩]
theorem num_form {s : ByteArray} {n : Int} (h : numL s = (n, true)) : s = physS n ∧ 1 ≤ n ∧ Nu.fitB n = true := by
  unfold numL at h
  split at h
  · rename_i hc
    obtain ⟨h1, h2, h3⟩ := hc
    have e : (Nu.readL (s.data.toList.drop 1)).1 = n := (Prod.mk.injEq _ _ _ _ ▸ h).1
    have hr : Nu.readL (s.data.toList.drop 1) = (n, 0) := by rw [← e, ← h2]
    obtain ⟨hf, ht⟩ := Nu.text_read _ _ hr
    refine ⟨?_, by omega, hf⟩
    unfold physS
    rw [ht]
    have : s.data.toList = 112 :: s.data.toList.drop 1 := by
      unfold Lib.hasPrefix at h1
      cases hl : s.data.toList with
      | nil => rw [hl] at h1; cases h1
      | cons a t =>
        rw [hl] at h1
        simp at h1
        rw [← h1]; rfl
    rw [← this]
  · cases h
end Go.Proofs.YtkigeegahepnaaaGreatDoor

namespace Go.Proofs.YtkigeegahepnaaaGreatDoor
open Go.RowKit

set_option maxHeartbeats 1000000 in
theorem wr1_any (g : G) (v : Value) (w : World) (h : isG w g v) : Calls Tryz.prog 116 #[v] w fun e w' => e = .returned (.bool g.unk) ∧ Below w.heap.size w w' := by
  obtain ⟨k, b, n, s, o, m, c, o2, m2, c2, rfl, hv⟩ := isG_eight h
  have HB0 : Hid (KB w (w.alloc (.cells #[.string g.nm, .bool g.unk, .int .i8 k, .bool b, .int .i64 n, .string s, .slice o m c, .slice o2 m2 c2] 99))) := Lib.hid kbA
  clear h hv
  go_enter Tryz.func116, Tryz.ntmps116
  go_wp2_with fail
  go_ret
  exact ⟨rfl, HB0.out⟩

set_option maxRecDepth 100000 in
set_option maxHeartbeats 4000000 in
/-- find, of the properties: is one unknown? -/
theorem findG_any (L : List G) (v : Value) (w : World) (hl : L.length ≤ 1000000) (h : isGs w L v) :
    Calls Tryz.prog 115 #[v, .func (.func 116) #[] #[]] w fun e w' => (∃ i : Int, e = .returned (.tuple #[.int .i64 i, .bool (L.any (·.unk))])) ∧ Below w.heap.size w w' := by
  obtain ⟨a, cap, ⟨o, rfl, hc1, hc2, ho⟩, hgs⟩ := h
  unfold maxLen at hc2
  have HK := Lib.hid hgs
  obtain ⟨r, hr⟩ : ∃ r, L.any (·.unk) = r := ⟨_, rfl⟩
  rw [hr]
  have HR := Lib.hid hr
  have ef : ∀ args w, (callFunc 116 args).run Tryz.prog w = .ok (.enter 116 args) w := enters_of Tryz.func116 (by kernel_rfl) rfl
  clear hgs hr
  go_enter Tryz.func115, Tryz.ntmps115
  go_wp2_with fail
  go_loopw [10] (fun i wr => ∃ (j : Nat), j ≤ L.length ∧ i = .int .i64 j ∧ Hid ((L.take j).any (·.unk) = false) ∧ Hid (Below w.heap.size w wr)) (fun i _ => L.length - (intOf i).toNat)
  case atStart => exact ⟨0, by omega, rfl, Lib.hid rfl, Lib.hid (Below.refl _ _)⟩
  case round =>
    obtain ⟨j, hj, rfl, hA, hB⟩ := hrel
    by_cases hlt : j < L.length
    · obtain rfl := ho (by omega)
      obtain ⟨k, b1, n, s, o1, m, c, o2, m2, c2, q0, q1, q2, q3, q4, q5, q6, q7, hg⟩ := isGat_eight (isGat_below hB.out (HK.out j hlt))
      have HN : Hid (∀ w1, KB wr w1 → Calls Tryz.prog 116 #[.agg #[.string L[j].nm, .bool L[j].unk, .int .i8 k, .bool b1, .int .i64 n, .string s, .slice o1 m c, .slice o2 m2 c2]] w1 fun e w' => e = .returned (.bool L[j].unk) ∧ KB wr w') := Lib.hid fun w1 hK => Calls.kb hK (wr1_any L[j] _ w1 (isG_below hK hg))
      have HA1 : Hid (KB wr (wr.alloc (.cells #[.string L[j].nm, .bool L[j].unk, .int .i8 k, .bool b1, .int .i64 n, .string s, .slice o1 m c, .slice o2 m2 c2] 99))) := Lib.hid kbA
      clear hg
      cases hv : L[j].unk with
      | true =>
        have hr2 : r = true := by
          rw [← HR.out, List.any_eq_true]
          exact ⟨L[j], List.getElem_mem hlt, hv⟩
        have HR2 := Lib.hid hr2
        rw [hv] at HN q1 HA1
        clear hr2 hv
        generalize L[j] = g at *
        go_wp2_with (go_at_fn 116; refine (HN.out _ HA1.out).mono ?_; rintro e w5 ⟨rfl, hb5⟩)
        go_ret2
        exact ⟨⟨(j : Int), by rw [HR2.out]; rfl⟩, hB.out.trans (hb5.mono hB.out.size)⟩
      | false =>
        have HA : Hid ((L.take (j + 1)).any (·.unk) = false) := Lib.hid (by rw [List.take_succ_eq_append_getElem hlt, List.any_append, hA.out]; simp [hv])
        rw [hv] at HN q1 HA1
        clear hv
        generalize L[j] = g at *
        go_wp2_with (go_at_fn 116; refine (HN.out _ HA1.out).mono ?_; rintro e w5 ⟨rfl, hb5⟩)
        go_roundw
        case rel => exact ⟨j + 1, by omega, by go_num, HA, Lib.hid (hB.out.trans (hb5.mono hB.out.size))⟩
        case measure => simp [intOf]; omega
    · obtain rfl : j = L.length := by omega
      have HRES : Hid (r = false) := Lib.hid (by
        have := hA.out
        rw [List.take_of_length_le (Nat.le_refl _)] at this
        rw [← HR.out, this])
      go_wp2_with fail
      go_ret2
      exact ⟨⟨0, by rw [HRES.out]; rfl⟩, hB.out⟩

/-- What wrong answers. -/
noncomputable def wrongL (K : ByteArray) (L : List G) : Int := if checkL K L = 0 then (if L.any (·.unk) then 91 else 0) else checkL K L
def fineG (L : List G) : Prop := L.length ≤ 1000000 ∧ ∀ g ∈ L, sizeV g.v ≤ 1000000 ∧ fineV g.v
set_option maxRecDepth 100000 in
set_option maxHeartbeats 2000000 in
theorem wrong10_any (K : ByteArray) (L : List G) (v : Value) (w : World) (hE : Env9 w) (hK : K.size ≤ 400) (hP : fineG L) (h : isGs w L v) :
    Calls Tryz.prog 95 #[.string K, v] w fun e w' => e = .returned (.int .i64 (wrongL K L)) ∧ Below w.heap.size w w' := by
  have HC := Lib.hid (Check_any K L v w hE hK hP.1 hP.2 h)
  have HF : Hid (∀ w1, KB w w1 → Calls Tryz.prog 115 #[v, .func (.func 116) #[] #[]] w1 fun e w' => (∃ i : Int, e = .returned (.tuple #[.int .i64 i, .bool (L.any (·.unk))])) ∧ KB w w') := Lib.hid fun w1 hK => (findG_any L v w1 hP.1 (isGs_below hK h)).mono fun e w' ⟨he, hb⟩ => ⟨he, hK.trans (hb.mono hK.size)⟩
  obtain ⟨a, cap, ⟨o, rfl, _⟩, _⟩ := h
  unfold wrongL
  generalize checkL K L = C at *
  generalize L.any (·.unk) = U at *
  clear hE hP
  by_cases hC : C = 0
  · subst hC
    rw [if_pos rfl]
    cases U with
    | true =>
      go_enter Tryz.func95, Tryz.ntmps95
      go_wp2_with (first
        | (go_at_call 50; refine HC.out.mono ?_; rintro e w5 ⟨rfl, hb5⟩)
        | (go_at_call 115; refine (HF.out _ hb5).mono ?_; rintro e w6 ⟨⟨i, rfl⟩, hb6⟩))
      go_ret
      exact ⟨rfl, hb6⟩
    | false =>
      go_enter Tryz.func95, Tryz.ntmps95
      go_wp2_with (first
        | (go_at_call 50; refine HC.out.mono ?_; rintro e w5 ⟨rfl, hb5⟩)
        | (go_at_call 115; refine (HF.out _ hb5).mono ?_; rintro e w6 ⟨⟨i, rfl⟩, hb6⟩))
      go_ret
      exact ⟨rfl, hb6⟩
  · rw [if_neg hC]
    have z1 : (C == 0) = false := beqI hC
    have z2 : (C != 0) = true := bne_iff_ne.2 hC
    clear hC
    go_enter Tryz.func95, Tryz.ntmps95
    go_wp2_with (go_at_call 50; refine HC.out.mono ?_; rintro e w5 ⟨rfl, hb5⟩)
    go_ret
    exact ⟨rfl, hb5⟩

/-! Where a thing stands. -/
theorem isTh_three {W : World} {t : Th} {v : Value} (h : isTh W t v) : ∃ (o : Option Addr) (cap : Nat), v = .agg #[.string t.ph, .string t.ty, .slice o t.ps.length cap] ∧ isGs W t.ps (.slice o t.ps.length cap) ∧ t.ph.size ≤ maxLen ∧ t.ty.size ≤ maxLen := by
  obtain ⟨pv, rfl, hg, h3, h4⟩ := h
  have hg' := hg
  obtain ⟨a, cap, ⟨o, rfl, _⟩, _⟩ := hg
  exact ⟨o, cap, rfl, hg', h3, h4⟩
theorem isTat_three {W : World} {t : Th} {a : Addr} (h : isTat W t a) : ∃ (o : Option Addr) (cap : Nat), W.cell? a = some (.string t.ph) ∧ W.cell? ⟨a.block, a.off + 1, none⟩ = some (.string t.ty) ∧ W.cell? ⟨a.block, a.off + 2, none⟩ = some (.slice o t.ps.length cap) ∧ isTh W t (.agg #[.string t.ph, .string t.ty, .slice o t.ps.length cap]) := by
  obtain ⟨pv, g0, g1, g2, hg, h3, h4⟩ := h
  have hg' := hg
  obtain ⟨a, cap, ⟨o, rfl, _⟩, _⟩ := hg
  exact ⟨o, cap, g0, g1, g2, ⟨_, rfl, hg', h3, h4⟩⟩
theorem beq_ba {s t : ByteArray} : (s.toList == t.toList) = decide (s = t) := by
  by_cases e : s = t
  · subst e; rw [decide_eq_true rfl]; exact beq_self_eq_true _
  · rw [decide_eq_false e]; exact beq_toList e
set_option maxHeartbeats 1000000 in
theorem pl1_any (t : Th) (p : ByteArray) (b : Nat) (v : Value) (w : World) (h : isTh w t v) (hb : w.cell? ⟨b, 0, none⟩ = some (.string p)) :
    Calls Tryz.prog 82 #[v, .pointer (some ⟨b, 0, none⟩)] w fun e w' => e = .returned (.bool (decide (t.ph = p))) ∧ Below w.heap.size w w' := by
  obtain ⟨o, cap, rfl, _, _, _⟩ := isTh_three h
  have HB0 : Hid (KB w (w.alloc (.cells #[.string t.ph, .string t.ty, .slice o t.ps.length cap] 44))) := Lib.hid kbA
  have hb1 := cell_below HB0.out _ _ hb
  rw [← beq_ba]
  clear h hb
  go_enter Tryz.func82, Tryz.ntmps82
  go_wp2_with fail
  go_ret
  exact ⟨rfl, HB0.out⟩

def idxT (L : List Th) (p : ByteArray) : Option Nat := L.findIdx? (fun t => decide (t.ph = p))
theorem idxT_some {L : List Th} {p : ByteArray} {j : Nat} (hj : j < L.length) (h1 : L[j].ph = p) (h2 : ∀ i (h : i < j), (L[i]'(by omega)).ph ≠ p) : idxT L p = some j := by
  unfold idxT
  rw [List.findIdx?_eq_some_iff_getElem]
  exact ⟨hj, decide_eq_true h1, fun i hi => by simpa using h2 i hi⟩
theorem idxT_none {L : List Th} {p : ByteArray} (h : ∀ i (h : i < L.length), L[i].ph ≠ p) : idxT L p = none := by
  unfold idxT
  rw [List.findIdx?_eq_none_iff]
  intro x hx
  obtain ⟨i, hi, rfl⟩ := List.getElem_of_mem hx
  exact decide_eq_false (h i hi)
theorem idxT_at {L : List Th} {p : ByteArray} {j : Nat} (h : idxT L p = some j) : ∃ hj : j < L.length, L[j].ph = p ∧ ∀ i (h : i < j), (L[i]'(by omega)).ph ≠ p := by
  unfold idxT at h
  rw [List.findIdx?_eq_some_iff_getElem] at h
  obtain ⟨hj, h1, h2⟩ := h
  exact ⟨hj, of_decide_eq_true h1, fun i hi => by simpa using h2 i hi⟩
theorem idxT_no {L : List Th} {p : ByteArray} (h : idxT L p = none) : ∀ t ∈ L, t.ph ≠ p := by
  unfold idxT at h
  rw [List.findIdx?_eq_none_iff] at h
  intro t ht
  exact of_decide_eq_false (h t ht)

set_option maxRecDepth 100000 in
set_option maxHeartbeats 4000000 in
theorem findT_any (L : List Th) (p : ByteArray) (b : Nat) (v : Value) (w : World) (hl : L.length ≤ 1000000) (h : isTs w L v) (hb : w.cell? ⟨b, 0, none⟩ = some (.string p)) :
    Calls Tryz.prog 81 #[v, .func (.func 82) #[] #[.pointer (some ⟨b, 0, none⟩)]] w fun e w' => e = .returned (.tuple #[.int .i64 ((idxT L p).getD 0 : Nat), .bool (idxT L p).isSome]) ∧ Below w.heap.size w w' := by
  obtain ⟨a, cap, ⟨o, rfl, hc1, hc2, ho⟩, hts⟩ := h
  unfold maxLen at hc2
  have HK := Lib.hid hts
  have HBX := Lib.hid hb
  obtain ⟨r, hr⟩ : ∃ r, idxT L p = r := ⟨_, rfl⟩
  rw [hr]
  have HR := Lib.hid hr
  have ef : ∀ args w, (callFunc 82 args).run Tryz.prog w = .ok (.enter 82 args) w := enters_of Tryz.func82 (by kernel_rfl) rfl
  clear hts hr hb
  go_enter Tryz.func81, Tryz.ntmps81
  go_wp2_with fail
  go_loopw [10] (fun i wr => ∃ (j : Nat), j ≤ L.length ∧ i = .int .i64 j ∧ Hid (∀ i (h : i < L.length), i < j → L[i].ph ≠ p) ∧ Hid (Below w.heap.size w wr)) (fun i _ => L.length - (intOf i).toNat)
  case atStart => exact ⟨0, by omega, rfl, Lib.hid (fun i _ h => absurd h (by omega)), Lib.hid (Below.refl _ _)⟩
  case round =>
    obtain ⟨j, hj, rfl, hA, hB⟩ := hrel
    by_cases hlt : j < L.length
    · obtain rfl := ho (by omega)
      obtain ⟨o1, c1, q0, q1, q2, ht⟩ := isTat_three (isTat_below hB.out (HK.out j hlt))
      have HN : Hid (∀ w1, KB wr w1 → Calls Tryz.prog 82 #[.agg #[.string L[j].ph, .string L[j].ty, .slice o1 L[j].ps.length c1], .pointer (some ⟨b, 0, none⟩)] w1 fun e w' => e = .returned (.bool (decide (L[j].ph = p))) ∧ KB wr w') := Lib.hid fun w1 hK => Calls.kb hK (pl1_any L[j] p b _ w1 (isTh_below hK ht) (cell_below (hB.out.trans (hK.mono hB.out.size)) _ _ HBX.out))
      have HA1 : Hid (KB wr (wr.alloc (.cells #[.string L[j].ph, .string L[j].ty, .slice o1 L[j].ps.length c1] 44))) := Lib.hid kbA
      clear ht
      by_cases hv : L[j].ph = p
      · have HR2 : Hid (r = some j) := Lib.hid (by rw [← HR.out]; exact idxT_some hlt hv (fun i hi => hA.out i (by omega) hi))
        rw [decide_eq_true hv] at HN
        clear hv
        generalize L[j] = t at *
        go_wp2_with (go_at_fn 82; refine (HN.out _ HA1.out).mono ?_; rintro e w5 ⟨rfl, hb5⟩)
        go_ret2
        exact ⟨by rw [HR2.out]; rfl, hB.out.trans (hb5.mono hB.out.size)⟩
      · have HA : Hid (∀ i (h : i < L.length), i < j + 1 → L[i].ph ≠ p) := Lib.hid fun i h hi => by
          by_cases e : i = j
          · subst e; exact hv
          · exact hA.out i h (by omega)
        rw [decide_eq_false hv] at HN
        clear hv
        generalize L[j] = t at *
        go_wp2_with (go_at_fn 82; refine (HN.out _ HA1.out).mono ?_; rintro e w5 ⟨rfl, hb5⟩)
        go_roundw
        case rel => exact ⟨j + 1, by omega, by go_num, HA, Lib.hid (hB.out.trans (hb5.mono hB.out.size))⟩
        case measure => simp [intOf]; omega
    · obtain rfl : j = L.length := by omega
      have HRES : Hid (r = none) := Lib.hid (by rw [← HR.out]; exact idxT_none (fun i h => hA.out i h h))
      go_wp2_with fail
      go_ret2
      exact ⟨by rw [HRES.out]; rfl, hB.out⟩

theorem isS_two {W : World} {s : St} {v : Value} (h : isS W s v) : ∃ (o : Option Addr) (cap : Nat), v = .agg #[.slice o s.l.length cap, .int .i64 s.made] ∧ isTs W s.l (.slice o s.l.length cap) ∧ (-9223372036854775808 ≤ s.made ∧ s.made ≤ 9223372036854775807) := by
  obtain ⟨lv, rfl, hl, hm⟩ := h
  have hl' := hl
  obtain ⟨a, cap, ⟨o, rfl, _⟩, _⟩ := hl
  exact ⟨o, cap, rfl, hl', hm⟩
set_option maxRecDepth 100000 in
set_option maxHeartbeats 2000000 in
theorem place_any (s : St) (p : ByteArray) (v : Value) (w : World) (hl : s.l.length ≤ 1000000) (h : isS w s v) :
    Calls Tryz.prog 58 #[v, .string p] w fun e w' => e = .returned (.tuple #[.int .i64 ((idxT s.l p).getD 0 : Nat), .bool (idxT s.l p).isSome]) ∧ Below w.heap.size w w' := by
  obtain ⟨o, cap, rfl, hts, _⟩ := isS_two h
  have HB0 : Hid (KB w ((w.alloc (.cells #[.slice o s.l.length cap, .int .i64 s.made] 69)).alloc (.cells #[.string p] 9))) := Lib.hid (by unfold KB; go_grown)
  have HF := Lib.hid (findT_any s.l p (w.heap.size + 1) _ ((w.alloc (.cells #[.slice o s.l.length cap, .int .i64 s.made] 69)).alloc (.cells #[.string p] 9)) hl (isTs_below HB0.out hts) (by simp))
  clear h hts
  go_enter Tryz.func58, Tryz.ntmps58
  go_wp2_with (go_at_call 81; refine HF.out.mono ?_; rintro e w5 ⟨rfl, hb5⟩)
  go_ret2
  exact ⟨rfl, HB0.out.trans (hb5.mono HB0.out.size)⟩
end Go.Proofs.YtkigeegahepnaaaGreatDoor

namespace Go.Proofs.YtkigeegahepnaaaGreatDoor
open Go.RowKit Go.Maps

theorem infoG10 : (Tryz.prog.info? 99).map (fun i => (i.zero, i.size, i.bytes)) = some (some (.agg #[.string ⟨#[]⟩, .bool false, .int .i8 0, .bool false, .int .i64 0, .string ⟨#[]⟩, .slice none 0 0, .slice none 0 0]), 8, 104) := by kernel_rfl
theorem infoT10 : (Tryz.prog.info? 44).map (fun i => (i.zero, i.size, i.bytes)) = some (some (.agg #[.string ⟨#[]⟩, .string ⟨#[]⟩, .slice none 0 0]), 3, 56) := by kernel_rfl

set_option maxRecDepth 100000 in
set_option maxHeartbeats 2000000 in
/-- slices.Clone of so many properties: their cells, in a row of the call's own. -/
theorem cloneG_any (o : Option Addr) (a : Addr) (n cap : Nat) (ho : 0 < n → o = some a) (hn : n ≤ 1000000) (news : List Value) (w : World) (hl : news.length = n * 8) (hc : ∀ j u, news[j]? = some u → w.cell? (a.add j) = some u) (h1 : ∀ u ∈ news, u.oneCell' = true) :
    Calls Tryz.prog 70 #[.slice o n cap] w fun e w' => ∃ v', e = .returned v' ∧ w'.ownsRow w.heap.size 99 8 v' n news ∧ Below w.heap.size w w' := by
  obtain ⟨i0, hi0, hz0, hz1, hz2⟩ := info_parts infoG10
  have hq : ∀ (w : World) (a : Option Addr) (n c n' c' : Nat), (binOp .eql 30 (.slice a n c) (.slice none n' c')).run Tryz.prog w = .ok (.bool a.isNone) w := fun w a n c n' c' => Lib.run_eql_slice_nil w _ _ a n c n' c' Tryz.underlying30
  cases o with
  | none =>
    obtain rfl : n = 0 := by
      rcases Nat.eq_zero_or_pos n with h | h
      · exact h
      · cases ho h
    go_enter Tryz.func70, Tryz.ntmps70
    go_wp2
    go_ret
    exact ⟨_, rfl, ⟨hl, .inl ⟨rfl, rfl⟩⟩, Below.refl _ _⟩
  | some b =>
    have hc2 : ∀ j u, news[j]? = some u → w.cell? (b.add j) = some u := fun j u h => by
      have hj := (List.getElem?_eq_some_iff.1 h).1
      cases ho (by omega)
      exact hc j u h
    have HC := Lib.hid hc2
    have H1 := Lib.hid h1
    clear hc hc2 h1 ho
    go_enter Tryz.func70, Tryz.ntmps70
    go_wp2_with (at_builtin; refine wpList_append_own _ rfl _ _ 30 rfl w.heap.size 99 i0 _ 8 104 Tryz.underlying30 hi0 hz0 hz1 hz2 rfl (by decide) _ 0 [] rfl (World.ownsRow_lit w #[] 0 (Nat.le_refl _) (by unfold maxLen; omega) rfl) b n cap news rfl hl ?d1 H1.out ?d3 ?d4 ?d5 ?_)
    case d1 => intro j u h; exact cell_below ((Below.refl _ w).alloc (Nat.le_refl _) _) _ _ (HC.out j u h)
    case d3 => unfold maxLen; omega
    case d4 => omega
    case d5 => simp
    intro v' w1 hown' hgrow _
    have hO : w1.ownsRow w.heap.size 99 8 v' n news := by simpa using hown'
    have HO := Lib.hid hO
    have HB : Hid (Below w.heap.size w w1) := Lib.hid (((Below.refl _ w).alloc (Nat.le_refl _) _).grown hgrow (by simp) (fun r e => by cases e; exact Nat.le_refl _))
    clear hown' hgrow hO
    go_wp2_with fail
    go_ret
    exact ⟨v', rfl, HO.out, HB.out⟩
set_option maxRecDepth 100000 in
set_option maxHeartbeats 2000000 in
/-- slices.Clone of so many things: their cells, in a row of the call's own. -/
theorem cloneT_any (o : Option Addr) (a : Addr) (n cap : Nat) (ho : 0 < n → o = some a) (hn : n ≤ 1000000) (news : List Value) (w : World) (hl : news.length = n * 3) (hc : ∀ j u, news[j]? = some u → w.cell? (a.add j) = some u) (h1 : ∀ u ∈ news, u.oneCell' = true) :
    Calls Tryz.prog 62 #[.slice o n cap] w fun e w' => ∃ v', e = .returned v' ∧ w'.ownsRow w.heap.size 44 3 v' n news ∧ Below w.heap.size w w' := by
  obtain ⟨i0, hi0, hz0, hz1, hz2⟩ := info_parts infoT10
  have hq : ∀ (w : World) (a : Option Addr) (n c n' c' : Nat), (binOp .eql 48 (.slice a n c) (.slice none n' c')).run Tryz.prog w = .ok (.bool a.isNone) w := fun w a n c n' c' => Lib.run_eql_slice_nil w _ _ a n c n' c' Tryz.underlying48
  cases o with
  | none =>
    obtain rfl : n = 0 := by
      rcases Nat.eq_zero_or_pos n with h | h
      · exact h
      · cases ho h
    go_enter Tryz.func62, Tryz.ntmps62
    go_wp2
    go_ret
    exact ⟨_, rfl, ⟨hl, .inl ⟨rfl, rfl⟩⟩, Below.refl _ _⟩
  | some b =>
    have hc2 : ∀ j u, news[j]? = some u → w.cell? (b.add j) = some u := fun j u h => by
      have hj := (List.getElem?_eq_some_iff.1 h).1
      cases ho (by omega)
      exact hc j u h
    have HC := Lib.hid hc2
    have H1 := Lib.hid h1
    clear hc hc2 h1 ho
    go_enter Tryz.func62, Tryz.ntmps62
    go_wp2_with (at_builtin; refine wpList_append_own _ rfl _ _ 48 rfl w.heap.size 44 i0 _ 3 56 Tryz.underlying48 hi0 hz0 hz1 hz2 rfl (by decide) _ 0 [] rfl (World.ownsRow_lit w #[] 0 (Nat.le_refl _) (by unfold maxLen; omega) rfl) b n cap news rfl hl ?d1 H1.out ?d3 ?d4 ?d5 ?_)
    case d1 => intro j u h; exact cell_below ((Below.refl _ w).alloc (Nat.le_refl _) _) _ _ (HC.out j u h)
    case d3 => unfold maxLen; omega
    case d4 => omega
    case d5 => simp
    intro v' w1 hown' hgrow _
    have hO : w1.ownsRow w.heap.size 44 3 v' n news := by simpa using hown'
    have HO := Lib.hid hO
    have HB : Hid (Below w.heap.size w w1) := Lib.hid (((Below.refl _ w).alloc (Nat.le_refl _) _).grown hgrow (by simp) (fun r e => by cases e; exact Nat.le_refl _))
    clear hown' hgrow hO
    go_wp2_with fail
    go_ret
    exact ⟨v', rfl, HO.out, HB.out⟩

/-- Cells that hold such things, one behind another. -/
def isTL (W : World) : List Th → List Value → Prop
  | [], xs => xs = []
  | t :: r, xs => ∃ pv rest, xs = .string t.ph :: .string t.ty :: pv :: rest ∧ isGs W t.ps pv ∧ t.ph.size ≤ maxLen ∧ t.ty.size ≤ maxLen ∧ isTL W r rest
theorem isTL_app {W : World} : ∀ (l m : List Th) (xs ys : List Value), isTL W l xs → isTL W m ys → isTL W (l ++ m) (xs ++ ys)
  | [], m, xs, ys, h, h' => by
    unfold isTL at h
    subst h
    exact h'
  | x :: t, m, xs, ys, h, h' => by
    unfold isTL at h
    obtain ⟨pv, rest, rfl, hx, hn, hm, ht⟩ := h
    rw [List.cons_append]
    unfold isTL
    exact ⟨pv, rest ++ ys, rfl, hx, hn, hm, isTL_app t m rest ys ht h'⟩
theorem isTL_len {W : World} : ∀ (l : List Th) (xs : List Value), isTL W l xs → xs.length = l.length * 3
  | [], xs, h => by unfold isTL at h; subst h; rfl
  | x :: t, xs, h => by
    unfold isTL at h
    obtain ⟨pv, rest, rfl, hx, hn, hm, ht⟩ := h
    have := isTL_len t rest ht
    simp only [List.length_cons]; omega
theorem isTL_one {W : World} : ∀ (l : List Th) (xs : List Value), isTL W l xs → ∀ u ∈ xs, u.oneCell' = true
  | [], xs, h, u, hu => by unfold isTL at h; subst h; cases hu
  | x :: t, xs, h, u, hu => by
    unfold isTL at h
    obtain ⟨pv, rest, rfl, ⟨a, cap, ⟨o, rfl, _⟩, _⟩, hn, hm, ht⟩ := h
    rcases List.mem_cons.1 hu with rfl | hu
    · rfl
    rcases List.mem_cons.1 hu with rfl | hu
    · rfl
    rcases List.mem_cons.1 hu with rfl | hu
    · rfl
    · exact isTL_one t rest ht u hu
theorem isTL_below {W W' : World} (hb : Below W.heap.size W W') : ∀ (l : List Th) (xs : List Value), isTL W l xs → isTL W' l xs
  | [], xs, h => by unfold isTL at h ⊢; exact h
  | x :: t, xs, h => by
    unfold isTL at h ⊢
    obtain ⟨pv, rest, e, hx, hn, hm, ht⟩ := h
    exact ⟨pv, rest, e, isGs_below hb hx, hn, hm, isTL_below hb t rest ht⟩
theorem isTL_cut {W : World} : ∀ (l : List Th) (xs : List Value) (k : Nat), isTL W l xs → isTL W (l.take k) (xs.take (k * 3)) ∧ isTL W (l.drop k) (xs.drop (k * 3))
  | l, xs, 0, h => by
    rw [Nat.zero_mul, List.take_zero, List.take_zero, List.drop_zero, List.drop_zero]
    exact ⟨rfl, h⟩
  | [], xs, k + 1, h => by
    unfold isTL at h
    subst h
    simp only [List.take_nil, List.drop_nil]
    exact ⟨rfl, rfl⟩
  | x :: t, xs, k + 1, h => by
    unfold isTL at h
    obtain ⟨pv, rest, rfl, hx, hn, hm, ht⟩ := h
    obtain ⟨h1, h2⟩ := isTL_cut t rest k ht
    rw [show (k + 1) * 3 = k * 3 + 3 by omega]
    simp only [List.take_succ_cons, List.drop_succ_cons]
    refine ⟨?_, h2⟩
    unfold isTL
    exact ⟨pv, _, rfl, hx, hn, hm, h1⟩
theorem isTL_of {W : World} : ∀ (l : List Th) (a : Addr), (∀ i (h : i < l.length), isTat W l[i] (a.add (i * 3))) → ∃ xs, isTL W l xs ∧ ∀ j u, xs[j]? = some u → W.cell? (a.add j) = some u
  | [], a, _ => ⟨[], by unfold isTL; rfl, fun j u h => by simp at h⟩
  | g :: t, a, h => by
    obtain ⟨xs, h1, h2⟩ := isTL_of t (a.add 3) (fun i hi => by
      have := h (i + 1) (by simpa using hi)
      rw [show (i + 1) * 3 = 3 + i * 3 by omega, ← add_add] at this
      simpa using this)
    obtain ⟨pv, g0, g1, g2, h3, h4, h5⟩ := h 0 (by simp)
    simp only [List.getElem_cons_zero] at g0 g1 h3 h4 h5
    have hs : a.spot = none := cell_spot g0
    simp only [at_add hs, Nat.zero_mul, Nat.zero_add] at g0 g1 g2
    refine ⟨.string g.ph :: .string g.ty :: pv :: xs, by unfold isTL; exact ⟨pv, xs, rfl, h3, h4, h5, h1⟩, fun j u hj => ?_⟩
    match j, hj with
    | 0, hj => obtain rfl := Option.some.inj hj; exact g0
    | 1, hj => obtain rfl := Option.some.inj hj; exact g1
    | 2, hj => obtain rfl := Option.some.inj hj; exact g2
    | j + 3, hj =>
      have := h2 j u (by simpa using hj)
      rwa [add_add, Nat.add_comm 3 j] at this
theorem isTL_at {W : World} : ∀ (l : List Th) (xs : List Value) (a : Addr), a.spot = none → isTL W l xs → (∀ j u, xs[j]? = some u → W.cell? (a.add j) = some u) → ∀ i (h : i < l.length), isTat W l[i] (a.add (i * 3))
  | [], xs, a, hs, h, hc, i, hi => absurd hi (by simp)
  | g :: t, xs, a, hs, h, hc, i, hi => by
    unfold isTL at h
    obtain ⟨pv, rest, rfl, hx, hn, hm, ht⟩ := h
    match i, hi with
    | 0, hi =>
      refine ⟨pv, ?_, ?_, ?_, hx, hn, hm⟩
      · exact hc 0 _ rfl
      all_goals (rw [at_add hs]; apply hc; rfl)
    | i + 1, hi =>
      have := isTL_at t rest (a.add 3) (by simp [Addr.add]) ht (fun j u hj => by
        rw [add_add, Nat.add_comm 3 j]
        exact hc (j + 3) u (by simpa using hj)) i (by simpa using hi)
      rw [add_add, show 3 + i * 3 = (i + 1) * 3 by omega] at this
      simpa using this

/-- Cells that hold such properties, in given blocks, one behind another. -/
def isGLa (W : World) (B : Nat → Prop) : List G → List Value → Prop
  | [], xs => xs = []
  | g :: t, xs => ∃ c0 c1 c2 c3 c4 c5 rest, xs = .string g.nm :: .bool g.unk :: c0 :: c1 :: c2 :: c3 :: c4 :: c5 :: rest ∧ isVa W B g.v (.agg #[c0, c1, c2, c3, c4, c5]) ∧ g.nm.size ≤ maxLen ∧ isGLa W B t rest
theorem isGLa_len {W : World} {B : Nat → Prop} : ∀ (l : List G) (xs : List Value), isGLa W B l xs → xs.length = l.length * 8
  | [], xs, h => by unfold isGLa at h; subst h; rfl
  | x :: t, xs, h => by
    unfold isGLa at h
    obtain ⟨c0, c1, c2, c3, c4, c5, rest, rfl, hx, hn, ht⟩ := h
    have := isGLa_len t rest ht
    simp only [List.length_cons]; omega
theorem isGLa_one {W : World} {B : Nat → Prop} : ∀ (l : List G) (xs : List Value), isGLa W B l xs → ∀ u ∈ xs, u.oneCell' = true
  | [], xs, h, u, hu => by unfold isGLa at h; subst h; cases hu
  | x :: t, xs, h, u, hu => by
    unfold isGLa at h
    obtain ⟨c0, c1, c2, c3, c4, c5, rest, rfl, hx, hn, ht⟩ := h
    rcases List.mem_cons.1 hu with rfl | hu
    · rfl
    rcases List.mem_cons.1 hu with rfl | hu
    · rfl
    rw [show c0 :: c1 :: c2 :: c3 :: c4 :: c5 :: rest = [c0, c1, c2, c3, c4, c5] ++ rest from rfl] at hu
    rcases List.mem_append.1 hu with hu | hu
    · exact isV_one (isV_of_a _ _ hx) u hu
    · exact isGLa_one t rest ht u hu
theorem isGLa_of {W : World} {B : Nat → Prop} : ∀ (l : List G) (a : Addr), (∀ i (h : i < l.length), isGata W B l[i] (a.add (i * 8))) → ∃ xs, isGLa W B l xs ∧ ∀ j u, xs[j]? = some u → W.cell? (a.add j) = some u
  | [], a, _ => ⟨[], by unfold isGLa; rfl, fun j u h => by simp at h⟩
  | g :: t, a, h => by
    obtain ⟨xs, h1, h2⟩ := isGLa_of t (a.add 8) (fun i hi => by
      have := h (i + 1) (by simpa using hi)
      rw [show (i + 1) * 8 = 8 + i * 8 by omega, ← add_add] at this
      simpa using this)
    obtain ⟨c0, c1, c2, c3, c4, c5, g0, g1, g2, g3, g4, g5, g6, g7, h3, h4⟩ := h 0 (by simp)
    simp only [List.getElem_cons_zero] at g0 g1 h3 h4
    have hs : a.spot = none := cell_spot g0
    simp only [at_add hs, Nat.zero_mul, Nat.zero_add] at g0 g1 g2 g3 g4 g5 g6 g7
    refine ⟨.string g.nm :: .bool g.unk :: c0 :: c1 :: c2 :: c3 :: c4 :: c5 :: xs, by unfold isGLa; exact ⟨c0, c1, c2, c3, c4, c5, xs, rfl, h3, h4, h1⟩, fun j u hj => ?_⟩
    match j, hj with
    | 0, hj => obtain rfl := Option.some.inj hj; exact g0
    | 1, hj => obtain rfl := Option.some.inj hj; exact g1
    | 2, hj => obtain rfl := Option.some.inj hj; exact g2
    | 3, hj => obtain rfl := Option.some.inj hj; exact g3
    | 4, hj => obtain rfl := Option.some.inj hj; exact g4
    | 5, hj => obtain rfl := Option.some.inj hj; exact g5
    | 6, hj => obtain rfl := Option.some.inj hj; exact g6
    | 7, hj => obtain rfl := Option.some.inj hj; exact g7
    | j + 8, hj =>
      have := h2 j u (by simpa using hj)
      rwa [add_add, Nat.add_comm 8 j] at this
/-- The cells of a property in a row of the call's own. -/
def Gfa (W : World) (B : Nat → Prop) (g : G) (f : Nat → Value) (p : Nat) : Prop := f p = .string g.nm ∧ f (p + 1) = .bool g.unk ∧ isVa W B g.v (.agg #[f (p + 2), f (p + 3), f (p + 4), f (p + 5), f (p + 6), f (p + 7)]) ∧ g.nm.size ≤ maxLen
theorem isGLa_get {W : World} {B : Nat → Prop} : ∀ (L : List G) (xs : List Value) (f : Nat → Value), isGLa W B L xs → (∀ j u, xs[j]? = some u → f j = u) → ∀ i (h : i < L.length), Gfa W B L[i] f (i * 8)
  | g :: t, xs, f, h, hf, i, hi => by
    unfold isGLa at h
    obtain ⟨c0, c1, c2, c3, c4, c5, rest, rfl, hx, hn, ht⟩ := h
    match i, hi with
    | 0, hi =>
      have e0 := hf 0 _ rfl
      have e1 := hf 1 _ rfl
      have e2 := hf 2 _ rfl
      have e3 := hf 3 _ rfl
      have e4 := hf 4 _ rfl
      have e5 := hf 5 _ rfl
      have e6 := hf 6 _ rfl
      have e7 := hf 7 _ rfl
      refine ⟨e0, e1, ?_, hn⟩
      show isVa W B g.v (.agg #[f 2, f 3, f 4, f 5, f 6, f 7])
      rw [e2, e3, e4, e5, e6, e7]
      exact hx
    | i + 1, hi =>
      obtain ⟨h1, h2, h3, h4⟩ := isGLa_get t rest (fun j => f (j + 8)) ht (fun j u hj => hf (j + 8) u (by simpa using hj)) i (by simpa using hi)
      have e : (i + 1) * 8 = i * 8 + 8 := by omega
      rw [e]
      refine ⟨h1, ?_, ?_, h4⟩
      · rw [show i * 8 + 8 + 1 = i * 8 + 1 + 8 by omega]; exact h2
      · rw [show i * 8 + 8 + 2 = i * 8 + 2 + 8 by omega, show i * 8 + 8 + 3 = i * 8 + 3 + 8 by omega, show i * 8 + 8 + 4 = i * 8 + 4 + 8 by omega, show i * 8 + 8 + 5 = i * 8 + 5 + 8 by omega, show i * 8 + 8 + 6 = i * 8 + 6 + 8 by omega, show i * 8 + 8 + 7 = i * 8 + 7 + 8 by omega]
        exact h3
/-! Things in given blocks. -/
def isTata (W : World) (B : Nat → Prop) (t : Th) (a : Addr) : Prop := ∃ pv, W.cell? a = some (.string t.ph) ∧ W.cell? ⟨a.block, a.off + 1, none⟩ = some (.string t.ty) ∧ W.cell? ⟨a.block, a.off + 2, none⟩ = some pv ∧ isGsa W B t.ps pv ∧ t.ph.size ≤ maxLen ∧ t.ty.size ≤ maxLen
def isTLa (W : World) (B : Nat → Prop) : List Th → List Value → Prop
  | [], xs => xs = []
  | t :: r, xs => ∃ pv rest, xs = .string t.ph :: .string t.ty :: pv :: rest ∧ isGsa W B t.ps pv ∧ t.ph.size ≤ maxLen ∧ t.ty.size ≤ maxLen ∧ isTLa W B r rest
theorem isTLa_of_TL {W : World} : ∀ (l : List Th) (xs : List Value), isTL W l xs → isTLa W (fun q => q < W.heap.size) l xs
  | [], xs, h => by unfold isTL at h; unfold isTLa; exact h
  | x :: t, xs, h => by
    unfold isTL at h
    obtain ⟨pv, rest, e, hx, hn, hm, ht⟩ := h
    unfold isTLa
    exact ⟨pv, rest, e, isGsa_of hx, hn, hm, isTLa_of_TL t rest ht⟩
/-- The cells of a thing in a row of the call's own. -/
def Tfa (W : World) (B : Nat → Prop) (t : Th) (f : Nat → Value) (p : Nat) : Prop := f p = .string t.ph ∧ f (p + 1) = .string t.ty ∧ isGsa W B t.ps (f (p + 2)) ∧ t.ph.size ≤ maxLen ∧ t.ty.size ≤ maxLen
theorem isTLa_get {W : World} {B : Nat → Prop} : ∀ (L : List Th) (xs : List Value) (f : Nat → Value), isTLa W B L xs → (∀ j u, xs[j]? = some u → f j = u) → ∀ i (h : i < L.length), Tfa W B L[i] f (i * 3)
  | g :: t, xs, f, h, hf, i, hi => by
    unfold isTLa at h
    obtain ⟨pv, rest, rfl, hx, hn, hm, ht⟩ := h
    match i, hi with
    | 0, hi =>
      have e0 := hf 0 _ rfl
      have e1 := hf 1 _ rfl
      have e2 := hf 2 _ rfl
      refine ⟨e0, e1, ?_, hn, hm⟩
      show isGsa W B g.ps (f 2)
      rw [e2]
      exact hx
    | i + 1, hi =>
      obtain ⟨h1, h2, h3, h4, h5⟩ := isTLa_get t rest (fun j => f (j + 3)) ht (fun j u hj => hf (j + 3) u (by simpa using hj)) i (by simpa using hi)
      have e : (i + 1) * 3 = i * 3 + 3 := by omega
      rw [e]
      refine ⟨h1, ?_, ?_, h4, h5⟩
      · rw [show i * 3 + 3 + 1 = i * 3 + 1 + 3 by omega]; exact h2
      · rw [show i * 3 + 3 + 2 = i * 3 + 2 + 3 by omega]; exact h3
end Go.Proofs.YtkigeegahepnaaaGreatDoor

namespace Go.Proofs.YtkigeegahepnaaaGreatDoor
open Go.RowKit

def zTh : Th := ⟨⟨#[]⟩, ⟨#[]⟩, []⟩
def lastN (L : List Th) : Nat → Int
  | 0 => 0
  | j + 1 => (numL (L.getD j zTh).ph).1
noncomputable def stepT (made : Int) (L : List Th) (i : Nat) : Bool :=
  (numL (L.getD i zTh).ph).2 && (decide (lastN L i < (numL (L.getD i zTh).ph).1) && (decide ((numL (L.getD i zTh).ph).1 ≤ made) && decide (wrongL (L.getD i zTh).ty (L.getD i zTh).ps = 0)))
noncomputable def checkS (s : St) : Int := if s.made < 0 then 2 else if 1099511627776 < s.made then 2 else if (List.range s.l.length).all (stepT s.made s.l) then 0 else 2
def fineS (s : St) : Prop := s.l.length ≤ 1000 ∧ ∀ t ∈ s.l, t.ty.size ≤ 400 ∧ fineG t.ps
theorem getD_t {L : List Th} {i : Nat} (h : i < L.length) : L.getD i zTh = L[i] := by
  rw [List.getD_eq_getElem?_getD, List.getElem?_eq_getElem h]; rfl
theorem checkS_ok {s : St} : checkS s = 0 ↔ 0 ≤ s.made ∧ s.made ≤ 1099511627776 ∧ ∀ i, i < s.l.length → stepT s.made s.l i = true := by
  unfold checkS
  by_cases h1 : s.made < 0
  · rw [if_pos h1]; constructor
    · intro h; omega
    · intro h; omega
  · rw [if_neg h1]
    by_cases h2 : 1099511627776 < s.made
    · rw [if_pos h2]; constructor
      · intro h; omega
      · intro h; omega
    · rw [if_neg h2]
      have key : (List.range s.l.length).all (stepT s.made s.l) = true ↔ ∀ i, i < s.l.length → stepT s.made s.l i = true := by
        rw [List.all_eq_true]
        exact ⟨fun h i hi => h i (List.mem_range.2 hi), fun h i hi => h i (List.mem_range.1 hi)⟩
      by_cases h3 : (List.range s.l.length).all (stepT s.made s.l) = true
      · rw [if_pos h3]
        exact ⟨fun _ => ⟨by omega, by omega, key.1 h3⟩, fun _ => rfl⟩
      · rw [if_neg h3]
        constructor
        · intro h; omega
        · rintro ⟨_, _, h⟩; exact absurd (key.2 h) h3
theorem checkS_two (s : St) : checkS s = 0 ∨ checkS s = 2 := by
  unfold checkS
  split
  · exact .inr rfl
  · split
    · exact .inr rfl
    · split
      · exact .inl rfl
      · exact .inr rfl
theorem checkS_no {s : St} {i : Nat} (hi : i < s.l.length) (h : stepT s.made s.l i = false) : checkS s = 2 := by
  rcases checkS_two s with h0 | h2
  · rw [(checkS_ok.1 h0).2.2 i hi] at h; cases h
  · exact h2

set_option maxRecDepth 100000 in
set_option maxHeartbeats 8000000 in
theorem Check10_any (s : St) (v : Value) (w : World) (hE : Env9 w) (hF : fineS s) (h : isS w s v) :
    Calls Tryz.prog 94 #[v] w fun e w' => e = .returned (.int .i64 (checkS s)) ∧ Below w.heap.size w w' := by
  obtain ⟨o, cap, rfl, ⟨a, cap', ⟨o', e', hc1, hc2, ho⟩, hts⟩, hm⟩ := isS_two h
  simp only [Value.slice.injEq, true_and] at e'
  obtain ⟨rfl, rfl⟩ := e'
  unfold maxLen at hc2
  have HK := Lib.hid hts
  have HE := Lib.hid hE
  have HF := Lib.hid hF.2
  have HB0 : Hid (KB w (w.alloc (.cells #[.slice o s.l.length cap, .int .i64 s.made] 69))) := Lib.hid kbA
  have hl := hF.1
  obtain ⟨r, hr⟩ : ∃ r, checkS s = r := ⟨_, rfl⟩
  rw [hr]
  have HR := Lib.hid hr
  clear hts hE hF hr h
  by_cases hm1 : s.made < 0
  · have HR2 : Hid (r = 2) := Lib.hid (by rw [← HR.out]; unfold checkS; rw [if_pos hm1])
    have z1 : decide (s.made < 0) = true := decide_eq_true hm1
    clear HK HF HR hm1
    generalize s.l.length = n at *
    generalize s.made = md at *
    go_enter Tryz.func94, Tryz.ntmps94
    go_wp2_with fail
    go_ret
    exact ⟨by rw [HR2.out]; rfl, HB0.out⟩
  · have z1 : decide (s.made < 0) = false := decide_eq_false hm1
    by_cases hm2 : 1099511627776 < s.made
    · have HR2 : Hid (r = 2) := Lib.hid (by rw [← HR.out]; unfold checkS; rw [if_neg hm1, if_pos hm2])
      have z2 : decide (1099511627776 < s.made) = true := decide_eq_true hm2
      clear HK HF HR hm1 hm2
      generalize s.l.length = n at *
      generalize s.made = md at *
      go_enter Tryz.func94, Tryz.ntmps94
      go_wp2_with fail
      go_ret
      exact ⟨by rw [HR2.out]; rfl, HB0.out⟩
    · have z2 : decide (1099511627776 < s.made) = false := decide_eq_false hm2
      have HM := Lib.hid (And.intro hm1 hm2)
      clear hm1 hm2
      go_enter Tryz.func94, Tryz.ntmps94
      go_wp2_with fail
      go_loopw [3, 19] (fun lv i wr => ∃ (j : Nat), j ≤ s.l.length ∧ lv = .int .i64 (lastN s.l j) ∧ i = .int .i64 j ∧ Hid (∀ i, i < j → stepT s.made s.l i = true) ∧ Hid (Below (w.alloc (.cells #[.slice o s.l.length cap, .int .i64 s.made] 69)).heap.size (w.alloc (.cells #[.slice o s.l.length cap, .int .i64 s.made] 69)) wr)) (fun _ i _ => s.l.length - (intOf i).toNat)
      case atStart => exact ⟨0, by omega, rfl, rfl, Lib.hid (fun i hi => absurd hi (by omega)), Lib.hid (Below.refl _ _)⟩
      case round =>
        obtain ⟨j, hj, rfl, rfl, hA, hB⟩ := hrel
        have hBw : Below w.heap.size w wr := HB0.out.trans (hB.out.mono HB0.out.size)
        have hbx := (hB.out.block w.heap.size (by simp)).trans (World.alloc_heap_new w (.cells #[.slice o s.l.length cap, .int .i64 s.made] 69))
        have b1 : wr.cell? ⟨w.heap.size, 1, none⟩ = some (.int .i64 s.made) := cell_below hB.out _ _ (by simp)
        by_cases hlt : j < s.l.length
        · obtain rfl := ho (by omega)
          obtain ⟨o1, c1, q0, q1, q2, ht⟩ := isTat_three (isTat_below hBw (HK.out j hlt))
          have hth := HF.out _ (List.getElem_mem hlt)
          obtain ⟨_, _, _, hgs, hp1, hp2⟩ := isTh_three ht
          have HN : Hid (∀ w1, Calls Tryz.prog 114 #[.string s.l[j].ph] w1 fun e w' => e = .returned (.tuple #[.int .i64 (numL s.l[j].ph).1, .bool (numL s.l[j].ph).2]) ∧ w1 = w') := Lib.hid fun w1 => Number_any _ hp1 w1
          have hstep : stepT s.made s.l j = ((numL s.l[j].ph).2 && (decide (lastN s.l j < (numL s.l[j].ph).1) && (decide ((numL s.l[j].ph).1 ≤ s.made) && decide (wrongL s.l[j].ty s.l[j].ps = 0)))) := by unfold stepT; rw [getD_t hlt]
          have hlast : lastN s.l (j + 1) = (numL s.l[j].ph).1 := by show (numL (s.l.getD j zTh).ph).1 = _; rw [getD_t hlt]
          have HA1 : Hid (KB wr (wr.alloc (.cells #[.string s.l[j].ph, .string s.l[j].ty, .slice o1 s.l[j].ps.length c1] 44))) := Lib.hid kbA
          have HW : Hid (∀ w1, KB wr w1 → Calls Tryz.prog 95 #[.string s.l[j].ty, .slice o1 s.l[j].ps.length c1] w1 fun e w' => e = .returned (.int .i64 (wrongL s.l[j].ty s.l[j].ps)) ∧ KB wr w') := Lib.hid fun w1 hK => Calls.kb hK (wrong10_any _ _ _ w1 ((HE.out.kb hBw).kb hK) hth.1 hth.2 (isGs_below hK (by
            obtain ⟨pv, e, hg, _⟩ := ht
            simp only [Value.agg.injEq, Array.mk.injEq, List.cons.injEq, true_and, and_true] at e
            rw [e]; exact hg)))
          have b1 := cell_below HA1.out _ _ b1
          obtain ⟨N, hN⟩ : ∃ N, (numL s.l[j].ph).1 = N := ⟨_, rfl⟩
          obtain ⟨K, hK⟩ : ∃ K, (numL s.l[j].ph).2 = K := ⟨_, rfl⟩
          obtain ⟨X, hX⟩ : ∃ X, wrongL s.l[j].ty s.l[j].ps = X := ⟨_, rfl⟩
          rw [hN, hK, hX] at hstep
          rw [hN] at hlast
          rw [hN, hK] at HN
          rw [hX] at HW
          have HBW := Lib.hid hBw
          clear hN hK hX hth hgs hp1 hp2 ht hbx hBw
          have fin : stepT s.made s.l j = false → r = 2 := fun h => by rw [← HR.out]; exact checkS_no hlt h
          cases K with
          | false =>
            have HR2 : Hid (r = 2) := Lib.hid (fin (by rw [hstep]; rfl))
            clear fin hstep hlast hA
            generalize s.l[j] = t at *
            generalize lastN s.l j = la at *
            go_wp2_with (go_at_call 114; refine (HN.out _).mono ?_; rintro e w5 ⟨rfl, rfl⟩)
            go_ret
            exact ⟨by rw [HR2.out]; rfl, HBW.out.trans (HA1.out.mono HBW.out.size)⟩
          | true =>
            by_cases h1 : lastN s.l j < N
            · by_cases h2 : N ≤ s.made
              · have y1 : decide (N ≤ lastN s.l j) = false := decide_eq_false (by omega)
                have y2 : decide (s.made < N) = false := decide_eq_false (by omega)
                by_cases h3 : X = 0
                · have HST : Hid (∀ i, i < j + 1 → stepT s.made s.l i = true) := Lib.hid fun i hi => by
                    by_cases e : i = j
                    · subst e; rw [hstep, decide_eq_true h1, decide_eq_true h2, decide_eq_true h3]; rfl
                    · exact hA.out i (by omega)
                  subst h3
                  have HLA := Lib.hid hlast
                  clear fin hstep hlast hA h1 h2
                  generalize s.l[j] = t at *
                  generalize lastN s.l j = la at *
                  go_wp2_with (first
                    | (go_at_call 114; refine (HN.out _).mono ?_; rintro e w5 ⟨rfl, rfl⟩)
                    | (go_at_call 95; refine (HW.out _ HA1.out).mono ?_; rintro e w6 ⟨rfl, hb6⟩))
                  go_roundw
                  case rel => exact ⟨j + 1, by omega, by rw [HLA.out], by go_num, HST, Lib.hid (hB.out.trans (hb6.mono hB.out.size))⟩
                  case measure => simp [intOf]; omega
                · have HR2 : Hid (r = 2) := Lib.hid (fin (by rw [hstep, decide_eq_false h3]; simp))
                  have y3 : (X == 0) = false := beqI h3
                  have y4 : (X != 0) = true := bne_iff_ne.2 h3
                  clear fin hstep hlast hA h1 h2 h3
                  generalize s.l[j] = t at *
                  generalize lastN s.l j = la at *
                  go_wp2_with (first
                    | (go_at_call 114; refine (HN.out _).mono ?_; rintro e w5 ⟨rfl, rfl⟩)
                    | (go_at_call 95; refine (HW.out _ HA1.out).mono ?_; rintro e w6 ⟨rfl, hb6⟩))
                  go_ret
                  exact ⟨by rw [HR2.out]; rfl, HBW.out.trans (hb6.mono HBW.out.size)⟩
              · have HR2 : Hid (r = 2) := Lib.hid (fin (by rw [hstep, decide_eq_false h2]; simp))
                have y1 : decide (N ≤ lastN s.l j) = false := decide_eq_false (by omega)
                have y2 : decide (s.made < N) = true := decide_eq_true (by omega)
                clear fin hstep hlast hA h1 h2
                generalize s.l[j] = t at *
                generalize lastN s.l j = la at *
                go_wp2_with (go_at_call 114; refine (HN.out _).mono ?_; rintro e w5 ⟨rfl, rfl⟩)
                go_ret
                exact ⟨by rw [HR2.out]; rfl, HBW.out.trans (HA1.out.mono HBW.out.size)⟩
            · have HR2 : Hid (r = 2) := Lib.hid (fin (by rw [hstep, decide_eq_false h1]; simp))
              have y1 : decide (N ≤ lastN s.l j) = true := decide_eq_true (by omega)
              clear fin hstep hlast hA h1
              generalize s.l[j] = t at *
              generalize lastN s.l j = la at *
              go_wp2_with (go_at_call 114; refine (HN.out _).mono ?_; rintro e w5 ⟨rfl, rfl⟩)
              go_ret
              exact ⟨by rw [HR2.out]; rfl, HBW.out.trans (HA1.out.mono HBW.out.size)⟩
        · obtain rfl : j = s.l.length := by omega
          have HRES : Hid (r = 0) := Lib.hid (by rw [← HR.out, checkS_ok]; exact ⟨by have := HM.out.1; omega, by have := HM.out.2; omega, hA.out⟩)
          clear hbx
          go_wp2_with fail
          go_ret
          exact ⟨by rw [HRES.out]; rfl, hBw⟩
end Go.Proofs.YtkigeegahepnaaaGreatDoor

namespace Go.Proofs.YtkigeegahepnaaaGreatDoor
open Go.RowKit Go.Shelf

def Gro (W : World) (B : Nat → Prop) (L : List G) (g cap : Nat) : Prop := ∃ f, W.rowIs g 99 (cap * 8) f ∧ ∀ i (h : i < L.length), Gfa W B L[i] f (i * 8)
theorem add0g (g j : Nat) : (⟨g, 0, none⟩ : Addr).add j = ⟨g, j, none⟩ := by
  unfold Addr.add
  by_cases h : j = 0
  · subst h; rfl
  · simp [h]
theorem Gro.gs {W : World} {B : Nat → Prop} {L : List G} {g cap : Nat} (h : Gro W B L g cap) (h1 : L.length ≤ cap) (h2 : cap ≤ maxLen) (hB : B g) : isGsa W B L (.slice (some ⟨g, 0, none⟩) L.length cap) := by
  obtain ⟨f, hr, hf⟩ := h
  refine ⟨⟨g, 0, none⟩, cap, ⟨_, rfl, h1, h2, fun _ => rfl⟩, fun _ => hB, fun i hi => ?_⟩
  obtain ⟨e0, e1, hv, hn⟩ := hf i hi
  rw [add0g]
  have c := fun k (hk : k < 8) => hr.cell (show i * 8 + k < cap * 8 by omega)
  have c0 := c 0 (by omega)
  have c1 := c 1 (by omega)
  rw [Nat.add_zero, e0] at c0
  rw [e1] at c1
  exact ⟨_, _, _, _, _, _, c0, c1, c 2 (by omega), c 3 (by omega), c 4 (by omega), c 5 (by omega), c 6 (by omega), c 7 (by omega), hv, hn⟩
theorem isGsa_nil (W : World) (B : Nat → Prop) (o : Option Addr) (cap : Nat) (h : cap ≤ maxLen) : isGsa W B [] (.slice o 0 cap) := ⟨⟨0, 0, none⟩, cap, ⟨o, rfl, Nat.zero_le _, h, fun h => absurd h (by simp)⟩, fun h => absurd h (by simp), fun i hi => absurd hi (by simp)⟩
theorem Gfa.keep {W W' : World} {B : Nat → Prop} {g : G} {f f' : Nat → Value} {p : Nat} (h : Gfa W B g f p) (hc : ∀ a c, B a.block → W.cell? a = some c → W'.cell? a = some c) (hf : ∀ k, k < 8 → f' (p + k) = f (p + k)) : Gfa W' B g f' p := by
  obtain ⟨h1, h2, h3, h4⟩ := h
  have e0 := hf 0 (by omega)
  rw [Nat.add_zero] at e0
  refine ⟨e0.trans h1, (hf 1 (by omega)).trans h2, ?_, h4⟩
  rw [hf 2 (by omega), hf 3 (by omega), hf 4 (by omega), hf 5 (by omega), hf 6 (by omega), hf 7 (by omega)]
  exact isVa_keep hc _ _ h3
/-- Six cells of a row are set; all others stay. -/
theorem store_six3 {w : World} {b n : Nat} {t : TypeId} {f : Nat → Value} (h : w.rowIs b t n f) (p : Nat) (hp : p + 5 < n) (c0 c1 c2 c3 c4 c5 : Value) :
    ∃ w1 w2 w3 w4 w5 w6 f', ((∃ u, w.cell? ⟨b, p, none⟩ = some u) ∧ w.frozen? ⟨b, p, none⟩ = false ∧ w.setCell ⟨b, p, none⟩ c0 = w1) ∧ ((∃ u, w1.cell? ⟨b, p + 1, none⟩ = some u) ∧ w1.frozen? ⟨b, p + 1, none⟩ = false ∧ w1.setCell ⟨b, p + 1, none⟩ c1 = w2) ∧ ((∃ u, w2.cell? ⟨b, p + 2, none⟩ = some u) ∧ w2.frozen? ⟨b, p + 2, none⟩ = false ∧ w2.setCell ⟨b, p + 2, none⟩ c2 = w3) ∧ ((∃ u, w3.cell? ⟨b, p + 3, none⟩ = some u) ∧ w3.frozen? ⟨b, p + 3, none⟩ = false ∧ w3.setCell ⟨b, p + 3, none⟩ c3 = w4) ∧ ((∃ u, w4.cell? ⟨b, p + 4, none⟩ = some u) ∧ w4.frozen? ⟨b, p + 4, none⟩ = false ∧ w4.setCell ⟨b, p + 4, none⟩ c4 = w5) ∧ ((∃ u, w5.cell? ⟨b, p + 5, none⟩ = some u) ∧ w5.frozen? ⟨b, p + 5, none⟩ = false ∧ w5.setCell ⟨b, p + 5, none⟩ c5 = w6) ∧
      w6.rowIs b t n f' ∧ w.grownBy w6 (some b) ∧ f' p = c0 ∧ f' (p + 1) = c1 ∧ f' (p + 2) = c2 ∧ f' (p + 3) = c3 ∧ f' (p + 4) = c4 ∧ f' (p + 5) = c5 ∧ ∀ i, i < p ∨ p + 5 < i → f' i = f i := by
  have h1 := h.set p c0
  have h2 := h1.set (p + 1) c1
  have h3 := h2.set (p + 2) c2
  have h4 := h3.set (p + 3) c3
  have h5 := h4.set (p + 4) c4
  have h6 := h5.set (p + 5) c5
  refine ⟨_, _, _, _, _, _, _, ⟨⟨_, h.cell (show p < n by omega)⟩, h.frozen _, rfl⟩, ⟨⟨_, h1.cell (show p + 1 < n by omega)⟩, h1.frozen _, rfl⟩, ⟨⟨_, h2.cell (show p + 2 < n by omega)⟩, h2.frozen _, rfl⟩, ⟨⟨_, h3.cell (show p + 3 < n by omega)⟩, h3.frozen _, rfl⟩, ⟨⟨_, h4.cell (show p + 4 < n by omega)⟩, h4.frozen _, rfl⟩, ⟨⟨_, h5.cell (show p + 5 < n by omega)⟩, h5.frozen _, rfl⟩, h6, ?_, ?_, ?_, ?_, ?_, ?_, ?_, ?_⟩
  · exact grown_trans (grown_trans (grown_trans (grown_trans (grown_trans (grown_set _ _ _ _) (grown_set _ _ _ _)) (grown_set _ _ _ _)) (grown_set _ _ _ _)) (grown_set _ _ _ _)) (grown_set _ _ _ _)
  all_goals try (simp; done)
  intro i hi
  rw [if_neg (by omega), if_neg (by omega), if_neg (by omega), if_neg (by omega), if_neg (by omega), if_neg (by omega)]

set_option maxRecDepth 100000 in
set_option maxHeartbeats 8000000 in
theorem copiedG_any (L : List G) (v : Value) (w : World) (P : Nat → Prop) (hL : fineG L) (hP : ∀ q, w.heap.size ≤ q → P q) (h : isGsa w (fun q => P q ∧ q < w.heap.size) L v) :
    Calls Tryz.prog 83 #[v] w fun e w' => ∃ v', e = .returned v' ∧ isGsa w' P L v' ∧ Below w.heap.size w w' := by
  obtain ⟨hL1, hL2⟩ := hL
  obtain ⟨a, cap, ⟨o, rfl, hc1, hc2, ho⟩, hBa, hga⟩ := h
  obtain ⟨news, hn1, hn2⟩ := isGLa_of L a hga
  have hnl := isGLa_len _ _ hn1
  have CL := Lib.hid (cloneG_any o a L.length cap ho hL1 news w hnl hn2 (isGLa_one _ _ hn1))
  have HN := Lib.hid hn1
  have HL2 := Lib.hid hL2
  have HPP := Lib.hid hP
  clear hga hn1 hn2 hnl hL2 hP hBa ho
  go_enter Tryz.func83, Tryz.ntmps83
  go_wp2_with (go_at_call 70; refine CL.out.mono ?_; rintro e w3 ⟨v3, rfl, hol, hb3⟩; obtain ⟨ol, g, capL, rfl, cl1, cl2, hrow⟩ := clone_row hol)
  have HB3 := Lib.hid hb3
  have HM : Hid (capL ≤ maxLen) := Lib.hid cl2
  unfold maxLen at cl2
  have hs3 := hb3.size
  have hstart : 0 < L.length → ol = some ⟨g, 0, none⟩ ∧ w.heap.size ≤ g ∧ g < w3.heap.size ∧ Gro w3 (fun q => P q ∧ q ≠ g) L g capL := fun h0 => by
    obtain ⟨h1, h2, h3, f, h4, h5⟩ := hrow h0
    refine ⟨h1, h2, h3, f, h4, fun i hi => ?_⟩
    obtain ⟨q1, q2, q3, q4⟩ := isGLa_get L news f HN.out h5 i hi
    exact ⟨q1, q2, isVa_mono (fun q hq => ⟨hq.1, by have := hq.2; omega⟩) _ _ (isVa_keep (fun a c _ hc => cell_below hb3 _ _ hc) _ _ q3), q4⟩
  have HST := Lib.hid hstart
  clear hstart hrow hol hb3 CL
  go_loopw [9] (fun i wr => ∃ j : Nat, j ≤ L.length ∧ i = .int .i64 j ∧ Hid (Below w.heap.size w wr ∧ w3.heap.size ≤ wr.heap.size) ∧ Hid (0 < L.length → Gro wr (fun q => P q ∧ q ≠ g) L g capL)) (fun i _ => L.length - (intOf i).toNat)
  case atStart => exact ⟨0, by omega, rfl, Lib.hid ⟨HB3.out, Nat.le_refl _⟩, Lib.hid (fun h0 => (HST.out h0).2.2.2)⟩
  case round =>
    obtain ⟨j, hj, rfl, hB, hG⟩ := hrel
    by_cases hlt : j < L.length
    · obtain ⟨rfl, hg1, hg2, _⟩ := HST.out (by omega)
      obtain ⟨f, hf1, hf2⟩ := hG.out (by omega)
      obtain ⟨h0, h1, hv, hn⟩ := hf2 j hlt
      have e0 := hf1.cell (show j * 8 < capL * 8 by omega)
      have e1 := hf1.cell (show j * 8 + 1 < capL * 8 by omega)
      have e2 := hf1.cell (show j * 8 + 2 < capL * 8 by omega)
      have e3 := hf1.cell (show j * 8 + 3 < capL * 8 by omega)
      have e4 := hf1.cell (show j * 8 + 4 < capL * 8 by omega)
      have e5 := hf1.cell (show j * 8 + 5 < capL * 8 by omega)
      have e6 := hf1.cell (show j * 8 + 6 < capL * 8 by omega)
      have e7 := hf1.cell (show j * 8 + 7 < capL * 8 by omega)
      obtain ⟨k', b', n', s', o1, m1, p1, o3, m3, p3, hag⟩ := isV_six (isV_of_a _ _ hv)
      rw [hag] at hv
      simp only [Value.agg.injEq, Array.mk.injEq, List.cons.injEq, and_true] at hag
      obtain ⟨a0, a1, a2, a3, a4, a5⟩ := hag
      rw [h0] at e0
      rw [h1] at e1
      rw [a0] at e2
      rw [a1] at e3
      rw [a2] at e4
      rw [a3] at e5
      rw [a4] at e6
      rw [a5] at e7
      have hlg := HL2.out _ (List.getElem_mem hlt)
      have CV : Hid (∀ w1, KB wr w1 → Calls Tryz.prog 103 #[.agg #[.int .i8 k', .bool b', .int .i64 n', .string s', .slice o1 m1 p1, .slice o3 m3 p3]] w1 fun e w' => ∃ v', e = .returned v' ∧ isVa w' (fun q => P q ∧ q ≠ g) L[j].v v' ∧ KB wr w') := Lib.hid fun w1 hK => (copiedV_any L[j].v _ w1 (fun q => P q ∧ q ≠ g) hlg.1 hlg.2 (fun q hq => ⟨HPP.out q (by have := hB.out.1.size; have := hK.size; omega), by have := hB.out.2; have := hK.size; omega⟩) (isVa_mono (fun q hq => ⟨hq.1, by have := hq.2; have := hK.size; omega⟩) _ _ (isVa_keep (fun a c _ hc => cell_below hK _ _ hc) _ _ (isVa_lt _ _ hv)))).mono fun e w' ⟨v', he, hv', hb'⟩ => ⟨v', he, hv', hK.trans (hb'.mono hK.size)⟩
      have HA1 : Hid (KB wr (wr.alloc (.cells #[.string L[j].nm, .bool L[j].unk, .int .i8 k', .bool b', .int .i64 n', .string s', .slice o1 m1 p1, .slice o3 m3 p3] 99))) := Lib.hid kbA
      have HF1 := Lib.hid hf1
      have HF2 := Lib.hid hf2
      have HNM := Lib.hid hn
      clear hf1 hf2 h0 h1 hv hn a0 a1 a2 a3 a4 a5 hG hlg
      generalize hGj : L[j] = G0 at *
      have HGJ := Lib.hid hGj
      clear hGj
      go_wp2_with (go_at_call 103; refine (CV.out _ HA1.out).mono ?_; rintro e w6 ⟨v6, rfl, hva, hb6⟩; obtain ⟨k6, b6, n6, s6, o6, m6, p6, o7, m7, p7, rfl⟩ := isV_six (isV_of_a _ _ hva); obtain ⟨x1, x2, x3, x4, x5, x6, f', ⟨⟨_, q1⟩, q1', q1''⟩, ⟨⟨_, q2⟩, q2', q2''⟩, ⟨⟨_, q3⟩, q3', q3''⟩, ⟨⟨_, q4⟩, q4', q4''⟩, ⟨⟨_, q5⟩, q5', q5''⟩, ⟨⟨_, q6⟩, q6', q6''⟩, hf7, hg7, u0, u1, u2, u3, u4, u5, hold⟩ := store_six3 (rowIs_grown HF1.out (grown_bel hb6) (by simp)) (j * 8 + 2) (by omega) (.int .i8 k6) (.bool b6) (.int .i64 n6) (.string s6) (.slice o6 m6 p6) (.slice o7 m7 p7))
      have HX6 := Lib.hid (And.intro hf7 (And.intro hg7 (And.intro u0 (And.intro u1 (And.intro u2 (And.intro u3 (And.intro u4 (And.intro u5 hold))))))))
      have HVA := Lib.hid hva
      have HB6 := Lib.hid hb6
      clear hf7 hg7 u0 u1 u2 u3 u4 u5 hold hva hb6
      go_roundw
      case rel =>
        obtain ⟨hf7, hg7, u0, u1, u2, u3, u4, u5, hold⟩ := HX6.out
        refine ⟨j + 1, by omega, by go_num, Lib.hid ⟨(hB.out.1.trans (HB6.out.mono hB.out.1.size)).grown hg7 (by have := hB.out.1.size; have := HB6.out.size; omega) (fun r e => by cases e; exact hg1), by have := hB.out.2; have := HB6.out.size; have := hg7.size; omega⟩, Lib.hid (fun _ => ⟨f', hf7, fun i hi => ?_⟩)⟩
        by_cases e : i = j
        · subst e
          obtain ⟨h0, h1, _, hn⟩ := HF2.out i hi
          refine ⟨(hold _ (.inl (by omega))).trans h0, (hold _ (.inl (by omega))).trans h1, ?_, hn⟩
          show isVa x6 _ L[i].v (.agg #[f' (i * 8 + 2), f' (i * 8 + 2 + 1), f' (i * 8 + 2 + 2), f' (i * 8 + 2 + 3), f' (i * 8 + 2 + 4), f' (i * 8 + 2 + 5)])
          rw [u0, u1, u2, u3, u4, u5, HGJ.out]
          exact isVa_keep (fun a c hq hc => hg7.cell hc (fun e => hq.2 (Option.some.inj e))) _ _ HVA.out
        · refine (HF2.out i hi).keep (fun a c hq hc => hg7.cell (cell_below HB6.out _ _ hc) (fun e => hq.2 (Option.some.inj e))) (fun k hk => hold _ ?_)
          by_cases e2 : i < j
          · exact .inl (by omega)
          · exact .inr (by omega)
      case measure => simp [intOf]; omega
    · obtain rfl : j = L.length := by omega
      go_wp2_with fail
      go_ret
      refine ⟨_, rfl, ?_, hB.out.1⟩
      rcases Nat.eq_zero_or_pos L.length with h0 | h0
      · obtain rfl := List.eq_nil_of_length_eq_zero h0
        exact isGsa_nil _ _ _ _ HM.out
      · obtain ⟨rfl, hg1, hg2, _⟩ := HST.out h0
        obtain ⟨f, hf1, hf2⟩ := hG.out h0
        exact Gro.gs ⟨f, hf1, fun i hi => by
          obtain ⟨r1, r2, r3, r4⟩ := hf2 i hi
          exact ⟨r1, r2, isVa_mono (fun q hq => hq.1) _ _ r3, r4⟩⟩ cl1 HM.out (HPP.out _ hg1)

/-- A thing with its properties in given blocks. -/
def isTha (W : World) (B : Nat → Prop) (t : Th) (v : Value) : Prop := ∃ pv, v = .agg #[.string t.ph, .string t.ty, pv] ∧ isGsa W B t.ps pv ∧ t.ph.size ≤ maxLen ∧ t.ty.size ≤ maxLen
theorem three_cells {W : World} {B : Nat} {c0 c1 c2 : Value} {t : TypeId} (h : W.heap[B]? = some (.cells #[c0, c1, c2] t (0, 0))) : W.cell? ⟨B, 0, none⟩ = some c0 ∧ W.cell? ⟨B, 1, none⟩ = some c1 ∧ W.cell? ⟨B, 2, none⟩ = some c2 := by
  simp [World.cell?, h]
theorem rowIs_three {w : World} {b : Nat} {c0 c1 c2 : Value} {t : TypeId} (h : w.heap[b]? = some (.cells #[c0, c1, c2] t (0, 0))) : w.rowIs b t 3 (fun i => (#[c0, c1, c2][i]?).getD undef) :=
  ⟨_, h, rfl, fun i hi => by
    match i, hi with
    | 0, _ => rfl
    | 1, _ => rfl
    | 2, _ => rfl⟩
theorem isGsa_form {W : World} {B : Nat → Prop} {L : List G} {v : Value} (h : isGsa W B L v) : ∃ o cap, v = .slice o L.length cap := by
  obtain ⟨a, cap, ⟨o, rfl, _⟩, _⟩ := h
  exact ⟨o, cap, rfl⟩
/-- Three cells of a row are set. -/
theorem store_three {w : World} {b n : Nat} {t : TypeId} {f : Nat → Value} (h : w.rowIs b t n f) (p : Nat) (hp : p + 2 < n) (c0 c1 c2 : Value) :
    ∃ w1 w2 w3 f', ((∃ u, w.cell? ⟨b, p, none⟩ = some u) ∧ w.frozen? ⟨b, p, none⟩ = false ∧ w.setCell ⟨b, p, none⟩ c0 = w1) ∧ ((∃ u, w1.cell? ⟨b, p + 1, none⟩ = some u) ∧ w1.frozen? ⟨b, p + 1, none⟩ = false ∧ w1.setCell ⟨b, p + 1, none⟩ c1 = w2) ∧ ((∃ u, w2.cell? ⟨b, p + 2, none⟩ = some u) ∧ w2.frozen? ⟨b, p + 2, none⟩ = false ∧ w2.setCell ⟨b, p + 2, none⟩ c2 = w3) ∧
      w3.rowIs b t n f' ∧ w.grownBy w3 (some b) ∧ f' p = c0 ∧ f' (p + 1) = c1 ∧ f' (p + 2) = c2 ∧ ∀ i, i < p ∨ p + 2 < i → f' i = f i := by
  have h1 := h.set p c0
  have h2 := h1.set (p + 1) c1
  have h3 := h2.set (p + 2) c2
  refine ⟨_, _, _, _, ⟨⟨_, h.cell (show p < n by omega)⟩, h.frozen _, rfl⟩, ⟨⟨_, h1.cell (show p + 1 < n by omega)⟩, h1.frozen _, rfl⟩, ⟨⟨_, h2.cell (show p + 2 < n by omega)⟩, h2.frozen _, rfl⟩, h3, ?_, ?_, ?_, ?_, ?_⟩
  · exact grown_trans (grown_trans (grown_set _ _ _ _) (grown_set _ _ _ _)) (grown_set _ _ _ _)
  all_goals try (simp; done)
  intro i hi
  rw [if_neg (by omega), if_neg (by omega), if_neg (by omega)]

theorem box_three {w : World} {b : Nat} {c0 c1 c2 : Value} {t : TypeId} (u : Value) (h : w.heap[b]? = some (.cells #[c0, c1, c2] t (0, 0))) :
    ∃ y, ((∃ u, w.cell? ⟨b, 2, none⟩ = some u) ∧ w.frozen? ⟨b, 2, none⟩ = false ∧ w.setCell ⟨b, 2, none⟩ u = y) ∧ y.heap[b]? = some (.cells #[c0, c1, u] t (0, 0)) ∧ w.grownBy y (some b) := by
  have h1 : (w.setCell ⟨b, 2, none⟩ u).heap[b]? = some (.cells #[c0, c1, u] t (0, 0)) := by simp [World.setCell, Array.getElem?_modify, h]
  have g1 := rowIs_three h
  exact ⟨_, ⟨⟨_, g1.cell (show 2 < 3 by decide)⟩, g1.frozen _, rfl⟩, h1, grown_set _ _ _ _⟩

set_option maxRecDepth 100000 in
set_option maxHeartbeats 4000000 in
theorem copiedT_any (t : Th) (v : Value) (w : World) (P : Nat → Prop) (hL : fineG t.ps) (hP : ∀ q, w.heap.size ≤ q → P q) (h : isTha w (fun q => P q ∧ q < w.heap.size) t v) :
    Calls Tryz.prog 59 #[v] w fun e w' => ∃ v', e = .returned v' ∧ isTha w' P t v' ∧ Below w.heap.size w w' := by
  obtain ⟨pv, rfl, hg, hp1, hp2⟩ := h
  obtain ⟨o, cap, rfl⟩ := isGsa_form hg
  have HB2 : Hid (KB w ((w.alloc (.cells #[.string t.ph, .string t.ty, .slice o t.ps.length cap] 44)).alloc (.cells #[.string ⟨#[]⟩, .string ⟨#[]⟩, .slice none 0 0] 44))) := Lib.hid (by unfold KB; go_grown)
  have n1 := (Below.heap_alloc (w.alloc (.cells #[.string t.ph, .string t.ty, .slice o t.ps.length cap] 44)) (.cells #[.string ⟨#[]⟩, .string ⟨#[]⟩, .slice none 0 0] 44) w.heap.size (by simp)).trans (World.alloc_heap_new w _)
  have n2 := World.alloc_heap_new (w.alloc (.cells #[.string t.ph, .string t.ty, .slice o t.ps.length cap] 44)) (.cells #[.string ⟨#[]⟩, .string ⟨#[]⟩, .slice none 0 0] 44)
  rw [World.size_alloc] at n2
  have CP := Lib.hid (copiedG_any t.ps _ ((w.alloc (.cells #[.string t.ph, .string t.ty, .slice o t.ps.length cap] 44)).alloc (.cells #[.string ⟨#[]⟩, .string ⟨#[]⟩, .slice none 0 0] 44)) (fun q => P q ∧ q ≠ w.heap.size ∧ q ≠ w.heap.size + 1) hL (fun q hq => ⟨hP q (by have := HB2.out.size; omega), by simp at hq; omega, by simp at hq; omega⟩) (isGsa_mono (fun q hq => ⟨⟨hq.1, by have := hq.2; omega, by have := hq.2; omega⟩, by have := hq.2; simp; omega⟩) (isGsa_keep (fun a c _ hc => cell_below HB2.out _ _ hc) hg)))
  have HN1 := Lib.hid n1
  have HN2 := Lib.hid n2
  have HPS := Lib.hid (And.intro hp1 hp2)
  clear n1 n2 hg hL hp1 hp2
  go_enter Tryz.func59, Tryz.ntmps59
  go_wp2_with (go_at_call 83; refine CP.out.mono ?_; rintro e w6 ⟨v6, rfl, hg6, hb6⟩; obtain ⟨o6, cap6, rfl⟩ := isGsa_form hg6; have hm1 := (hb6.block w.heap.size (by simp; omega)).trans HN1.out; have hm2 := (hb6.block (w.heap.size + 1) (by simp)).trans HN2.out; obtain ⟨y0, ⟨⟨_, s1⟩, s1', s1''⟩, hy0, hgy0⟩ := box_three (.slice o6 t.ps.length cap6) hm1; obtain ⟨m0, m1, m2⟩ := three_cells hy0; have hm2y := (hgy0.block (w.heap.size + 1) (Array.getElem?_eq_some_iff.1 hm2).1 (fun e => by have := Option.some.inj e; omega)).trans hm2; obtain ⟨x1, x2, x3, f', ⟨⟨_, q1⟩, q1', q1''⟩, ⟨⟨_, q2⟩, q2', q2''⟩, ⟨⟨_, q3⟩, q3', q3''⟩, hf7, hg7, u0, u1, u2, -⟩ := store_three (rowIs_three hm2y) 0 (by decide) (.string t.ph) (.string t.ty) (.slice o6 t.ps.length cap6); simp only [Nat.zero_add] at q2 q2' q2'' q3 q3' q3'' u1 u2)
  have d0 := hf7.cell (show 0 < 3 by decide)
  have d1 := hf7.cell (show 1 < 3 by decide)
  have d2 := hf7.cell (show 2 < 3 by decide)
  rw [u0] at d0
  rw [u1] at d1
  rw [u2] at d2
  refine bodyPost_ret (v := .agg #[.string t.ph, .string t.ty, .slice o6 t.ps.length cap6]) (by simp [results, Tryz.results59, go_sem, d0, d1, d2]) rfl ?_
  have hb7 : Below w.heap.size w x3 := ((HB2.out.trans (hb6.mono HB2.out.size)).grown hgy0 (by have := HB2.out.size; have := hb6.size; omega) (fun r e => by cases e; omega)).grown hg7 (by have := HB2.out.size; have := hb6.size; have := hgy0.size; omega) (fun r e => by cases e; omega)
  refine ⟨_, rfl, ⟨_, rfl, isGsa_mono (fun q hq => hq.1) (isGsa_keep (fun a c hq hc => hg7.cell (hgy0.cell hc (fun e => hq.2.1 (Option.some.inj e))) (fun e => hq.2.2 (Option.some.inj e))) hg6), HPS.out.1, HPS.out.2⟩, hb7⟩

/-- Things in given blocks. -/
def isTsa (W : World) (B : Nat → Prop) (L : List Th) (v : Value) : Prop := ∃ a cap, slv v L.length a cap ∧ (0 < L.length → B a.block) ∧ ∀ i (h : i < L.length), isTata W B L[i] (a.add (i * 3))
theorem isTLa_of {W : World} {B : Nat → Prop} : ∀ (l : List Th) (a : Addr), (∀ i (h : i < l.length), isTata W B l[i] (a.add (i * 3))) → ∃ xs, isTLa W B l xs ∧ ∀ j u, xs[j]? = some u → W.cell? (a.add j) = some u
  | [], a, _ => ⟨[], by unfold isTLa; rfl, fun j u h => by simp at h⟩
  | g :: t, a, h => by
    obtain ⟨xs, h1, h2⟩ := isTLa_of t (a.add 3) (fun i hi => by
      have := h (i + 1) (by simpa using hi)
      rw [show (i + 1) * 3 = 3 + i * 3 by omega, ← add_add] at this
      simpa using this)
    obtain ⟨pv, g0, g1, g2, h3, h4, h5⟩ := h 0 (by simp)
    simp only [List.getElem_cons_zero] at g0 g1 h3 h4 h5
    have hs : a.spot = none := cell_spot g0
    simp only [at_add hs, Nat.zero_mul, Nat.zero_add] at g0 g1 g2
    refine ⟨.string g.ph :: .string g.ty :: pv :: xs, by unfold isTLa; exact ⟨pv, xs, rfl, h3, h4, h5, h1⟩, fun j u hj => ?_⟩
    match j, hj with
    | 0, hj => obtain rfl := Option.some.inj hj; exact g0
    | 1, hj => obtain rfl := Option.some.inj hj; exact g1
    | 2, hj => obtain rfl := Option.some.inj hj; exact g2
    | j + 3, hj =>
      have := h2 j u (by simpa using hj)
      rwa [add_add, Nat.add_comm 3 j] at this
theorem isTLa_at {W : World} {B : Nat → Prop} : ∀ (l : List Th) (xs : List Value) (a : Addr), a.spot = none → isTLa W B l xs → (∀ j u, xs[j]? = some u → W.cell? (a.add j) = some u) → ∀ i (h : i < l.length), isTata W B l[i] (a.add (i * 3))
  | [], xs, a, hs, h, hc, i, hi => absurd hi (by simp)
  | g :: t, xs, a, hs, h, hc, i, hi => by
    unfold isTLa at h
    obtain ⟨pv, rest, rfl, hx, hn, hm, ht⟩ := h
    match i, hi with
    | 0, hi =>
      refine ⟨pv, ?_, ?_, ?_, hx, hn, hm⟩
      · exact hc 0 _ rfl
      all_goals (rw [at_add hs]; apply hc; rfl)
    | i + 1, hi =>
      have := isTLa_at t rest (a.add 3) (by simp [Addr.add]) ht (fun j u hj => by
        rw [add_add, Nat.add_comm 3 j]
        exact hc (j + 3) u (by simpa using hj)) i (by simpa using hi)
      rw [add_add, show 3 + i * 3 = (i + 1) * 3 by omega] at this
      simpa using this
theorem isTata_keep {W W' : World} {B : Nat → Prop} (hc : ∀ a c, B a.block → W.cell? a = some c → W'.cell? a = some c) {t : Th} {a : Addr} (hb : B a.block) (h : isTata W B t a) : isTata W' B t a := by
  obtain ⟨pv, g0, g1, g2, h3, h4, h5⟩ := h
  exact ⟨pv, hc _ _ hb g0, hc _ _ hb g1, hc _ _ hb g2, isGsa_keep hc h3, h4, h5⟩
theorem isTsa_keep {W W' : World} {B : Nat → Prop} (hc : ∀ a c, B a.block → W.cell? a = some c → W'.cell? a = some c) {L : List Th} {v : Value} (h : isTsa W B L v) : isTsa W' B L v := by
  obtain ⟨a, cap, h1, h2, h3⟩ := h
  exact ⟨a, cap, h1, h2, fun i hi => isTata_keep hc (by rw [add_block]; exact h2 (by omega)) (h3 i hi)⟩
theorem isTsa_mono {W : World} {B B' : Nat → Prop} (hb : ∀ q, B q → B' q) {L : List Th} {v : Value} (h : isTsa W B L v) : isTsa W B' L v := by
  obtain ⟨a, cap, h1, h2, h3⟩ := h
  refine ⟨a, cap, h1, fun h0 => hb _ (h2 h0), fun i hi => ?_⟩
  obtain ⟨pv, g0, g1, g2, h4, h5, h6⟩ := h3 i hi
  exact ⟨pv, g0, g1, g2, isGsa_mono hb h4, h5, h6⟩
theorem isTLa_len {W : World} {B : Nat → Prop} : ∀ (l : List Th) (xs : List Value), isTLa W B l xs → xs.length = l.length * 3
  | [], xs, h => by unfold isTLa at h; subst h; rfl
  | x :: t, xs, h => by
    unfold isTLa at h
    obtain ⟨pv, rest, rfl, hx, hn, hm, ht⟩ := h
    have := isTLa_len t rest ht
    simp only [List.length_cons]; omega
theorem isTLa_one {W : World} {B : Nat → Prop} : ∀ (l : List Th) (xs : List Value), isTLa W B l xs → ∀ u ∈ xs, u.oneCell' = true
  | [], xs, h, u, hu => by unfold isTLa at h; subst h; cases hu
  | x :: t, xs, h, u, hu => by
    unfold isTLa at h
    obtain ⟨pv, rest, rfl, hx, hn, hm, ht⟩ := h
    obtain ⟨o, cap, rfl⟩ := isGsa_form hx
    rcases List.mem_cons.1 hu with rfl | hu
    · rfl
    rcases List.mem_cons.1 hu with rfl | hu
    · rfl
    rcases List.mem_cons.1 hu with rfl | hu
    · rfl
    · exact isTLa_one t rest ht u hu
theorem isTs_of_a {W : World} {B : Nat → Prop} {L : List Th} {v : Value} (h : isTsa W B L v) : isTs W L v := by
  obtain ⟨a, cap, h1, _, h2⟩ := h
  refine ⟨a, cap, h1, fun i hi => ?_⟩
  obtain ⟨pv, g0, g1, g2, h3, h4, h5⟩ := h2 i hi
  exact ⟨pv, g0, g1, g2, isGs_of_a h3, h4, h5⟩
theorem isTsa_of {W : World} {L : List Th} {v : Value} (h : isTs W L v) : isTsa W (fun q => q < W.heap.size) L v := by
  obtain ⟨a, cap, h1, h2⟩ := h
  refine ⟨a, cap, h1, fun h0 => ?_, fun i hi => ?_⟩
  · obtain ⟨_, g0, _⟩ := h2 0 h0
    have := World.block_lt_of_cell? W _ g0
    rwa [add_block] at this
  · obtain ⟨pv, g0, g1, g2, h3, h4, h5⟩ := h2 i hi
    exact ⟨pv, g0, g1, g2, isGsa_of h3, h4, h5⟩
def Tro (W : World) (B : Nat → Prop) (L : List Th) (g cap : Nat) : Prop := ∃ f, W.rowIs g 44 (cap * 3) f ∧ ∀ i (h : i < L.length), Tfa W B L[i] f (i * 3)
theorem Tro.ts {W : World} {B : Nat → Prop} {L : List Th} {g cap : Nat} (h : Tro W B L g cap) (h1 : L.length ≤ cap) (h2 : cap ≤ maxLen) : isTs W L (.slice (some ⟨g, 0, none⟩) L.length cap) := by
  obtain ⟨f, hr, hf⟩ := h
  refine ⟨⟨g, 0, none⟩, cap, ⟨_, rfl, h1, h2, fun _ => rfl⟩, fun i hi => ?_⟩
  obtain ⟨e0, e1, hv, hn, hm⟩ := hf i hi
  rw [add0g]
  have c := fun k (hk : k < 3) => hr.cell (show i * 3 + k < cap * 3 by omega)
  have c0 := c 0 (by omega)
  have c1 := c 1 (by omega)
  rw [Nat.add_zero, e0] at c0
  rw [e1] at c1
  exact ⟨_, c0, c1, c 2 (by omega), isGs_of_a hv, hn, hm⟩
/-- A row of things of the call's own. -/
def Trow (w0 W : World) (P : Nat → Prop) (L : List Th) (v : Value) : Prop := ∃ ol g cap, v = .slice ol L.length cap ∧ L.length ≤ cap ∧ cap ≤ maxLen ∧ (0 < L.length → ol = some ⟨g, 0, none⟩ ∧ w0.heap.size ≤ g ∧ g < W.heap.size ∧ Tro W (fun q => P q ∧ q ≠ g) L g cap)
theorem Trow.ts {w0 W : World} {P : Nat → Prop} {L : List Th} {v : Value} (h : Trow w0 W P L v) : isTs W L v := by
  obtain ⟨ol, g, cap, rfl, h1, h2, h3⟩ := h
  rcases Nat.eq_zero_or_pos L.length with h0 | h0
  · obtain rfl := List.eq_nil_of_length_eq_zero h0
    exact ⟨⟨0, 0, none⟩, cap, ⟨ol, rfl, Nat.zero_le _, h2, fun h => absurd h (by simp)⟩, fun i hi => absurd hi (by simp)⟩
  · obtain ⟨rfl, _, _, h4⟩ := h3 h0
    exact h4.ts h1 h2
theorem Tfa.keep {W W' : World} {B : Nat → Prop} {t : Th} {f f' : Nat → Value} {p : Nat} (h : Tfa W B t f p) (hc : ∀ a c, B a.block → W.cell? a = some c → W'.cell? a = some c) (hf : ∀ k, k < 3 → f' (p + k) = f (p + k)) : Tfa W' B t f' p := by
  obtain ⟨h1, h2, h3, h4, h5⟩ := h
  have e0 := hf 0 (by omega)
  rw [Nat.add_zero] at e0
  refine ⟨e0.trans h1, (hf 1 (by omega)).trans h2, ?_, h4, h5⟩
  rw [hf 2 (by omega)]
  exact isGsa_keep hc h3
theorem Tro.keep {W W' : World} {B : Nat → Prop} {L : List Th} {g cap : Nat} (h : Tro W B L g cap) (hc : ∀ a c, B a.block → W.cell? a = some c → W'.cell? a = some c) (hg : W'.heap[g]? = W.heap[g]?) : Tro W' B L g cap := by
  obtain ⟨f, h1, h2⟩ := h
  exact ⟨f, h1.of_block hg, fun i hi => (h2 i hi).keep hc (fun _ _ => rfl)⟩
/-- A write elsewhere. -/
theorem Trow.grown {w0 W y : World} {P : Nat → Prop} {L : List Th} {v : Value} {r : Nat} (h : Trow w0 W P L v) (hg : W.grownBy y (some r)) (hP : ∀ q, P q → q ≠ r) (hr : r < w0.heap.size) : Trow w0 y P L v := by
  obtain ⟨ol, g, cap, e, h1, h2, h3⟩ := h
  refine ⟨ol, g, cap, e, h1, h2, fun h0 => ?_⟩
  obtain ⟨k1, k2, k3, k4⟩ := h3 h0
  exact ⟨k1, k2, Nat.lt_of_lt_of_le k3 hg.size, k4.keep (fun a c hq hc => hg.cell hc (fun e => hP _ hq.1 (Option.some.inj e))) (hg.block g k3 (fun e => by have := Option.some.inj e; omega))⟩
theorem Trow.below {w0 W y : World} {P : Nat → Prop} {L : List Th} {v : Value} (h : Trow w0 W P L v) (hb : Below W.heap.size W y) : Trow w0 y P L v := by
  obtain ⟨ol, g, cap, e, h1, h2, h3⟩ := h
  refine ⟨ol, g, cap, e, h1, h2, fun h0 => ?_⟩
  obtain ⟨k1, k2, k3, k4⟩ := h3 h0
  exact ⟨k1, k2, Nat.lt_of_lt_of_le k3 hb.size, k4.keep (fun a c hq hc => cell_below hb _ _ hc) (hb.block g k3)⟩
theorem isGsa_lt {W : World} {B : Nat → Prop} {L : List G} {v : Value} (h : isGsa W B L v) : isGsa W (fun q => B q ∧ q < W.heap.size) L v := by
  obtain ⟨a, cap, h1, h2, h3⟩ := h
  refine ⟨a, cap, h1, fun h0 => ⟨h2 h0, ?_⟩, fun i hi => ?_⟩
  · obtain ⟨_, _, _, _, _, _, g0, _⟩ := h3 0 h0
    have := World.block_lt_of_cell? W _ g0
    rwa [add_block] at this
  · obtain ⟨c0, c1, c2, c3, c4, c5, g0, g1, g2, g3, g4, g5, g6, g7, hv, hn⟩ := h3 i hi
    exact ⟨c0, c1, c2, c3, c4, c5, g0, g1, g2, g3, g4, g5, g6, g7, isVa_lt _ _ hv, hn⟩

set_option maxRecDepth 100000 in
set_option maxHeartbeats 8000000 in
theorem copiedTs_any (L : List Th) (v : Value) (w : World) (P : Nat → Prop) (hl : L.length ≤ 1000000) (hL : ∀ t ∈ L, fineG t.ps) (hP : ∀ q, w.heap.size ≤ q → P q) (h : isTsa w (fun q => P q ∧ q < w.heap.size) L v) :
    Calls Tryz.prog 97 #[v] w fun e w' => ∃ v', e = .returned v' ∧ Trow w w' P L v' ∧ Below w.heap.size w w' := by
  obtain ⟨a, cap, ⟨o, rfl, hc1, hc2, ho⟩, hBa, hat⟩ := h
  obtain ⟨news, hn1, hn2⟩ := isTLa_of L a hat
  have HPP := Lib.hid hP
  have hnl := isTLa_len _ _ hn1
  have CL := Lib.hid (cloneT_any o a L.length cap ho hl news w hnl hn2 (isTLa_one _ _ hn1))
  have HN := Lib.hid hn1
  have HL := Lib.hid hL
  clear hn1 hn2 hnl hL hBa ho hat hP
  go_enter Tryz.func97, Tryz.ntmps97
  go_wp2_with (go_at_call 62; refine CL.out.mono ?_; rintro e w3 ⟨v3, rfl, hol, hb3⟩; obtain ⟨ol, g, capL, rfl, cl1, cl2, hrow⟩ := clone_row hol)
  have HB3 := Lib.hid hb3
  have HM : Hid (capL ≤ maxLen) := Lib.hid cl2
  unfold maxLen at cl2
  have hs3 := hb3.size
  have hstart : 0 < L.length → ol = some ⟨g, 0, none⟩ ∧ w.heap.size ≤ g ∧ g < w3.heap.size ∧ Tro w3 (fun q => P q ∧ q ≠ g) L g capL := fun h0 => by
    obtain ⟨h1, h2, h3, f, h4, h5⟩ := hrow h0
    refine ⟨h1, h2, h3, f, h4, fun i hi => ?_⟩
    obtain ⟨q1, q2, q3, q4, q5⟩ := isTLa_get L news f HN.out h5 i hi
    exact ⟨q1, q2, isGsa_mono (fun q hq => ⟨hq.1, by have := hq.2; omega⟩) (isGsa_keep (fun a c _ hc => cell_below hb3 _ _ hc) q3), q4, q5⟩
  have HST := Lib.hid hstart
  clear hstart hrow hol hb3 CL
  go_loopw [9] (fun i wr => ∃ j : Nat, j ≤ L.length ∧ i = .int .i64 j ∧ Hid (Below w.heap.size w wr ∧ w3.heap.size ≤ wr.heap.size) ∧ Hid (0 < L.length → Tro wr (fun q => P q ∧ q ≠ g) L g capL)) (fun i _ => L.length - (intOf i).toNat)
  case atStart => exact ⟨0, by omega, rfl, Lib.hid ⟨HB3.out, Nat.le_refl _⟩, Lib.hid (fun h0 => (HST.out h0).2.2.2)⟩
  case round =>
    obtain ⟨j, hj, rfl, hB, hG⟩ := hrel
    by_cases hlt : j < L.length
    · obtain ⟨rfl, hg1, hg2, _⟩ := HST.out (by omega)
      obtain ⟨f, hf1, hf2⟩ := hG.out (by omega)
      obtain ⟨h0, h1, hv, hn, hm⟩ := hf2 j hlt
      have e0 := hf1.cell (show j * 3 < capL * 3 by omega)
      have e1 := hf1.cell (show j * 3 + 1 < capL * 3 by omega)
      have e2 := hf1.cell (show j * 3 + 2 < capL * 3 by omega)
      obtain ⟨o1, p1, hag⟩ := isGsa_form hv
      rw [hag] at hv
      rw [h0] at e0
      rw [h1] at e1
      rw [hag] at e2
      have hlg := HL.out _ (List.getElem_mem hlt)
      have CV : Hid (∀ w1, KB wr w1 → Calls Tryz.prog 59 #[.agg #[.string L[j].ph, .string L[j].ty, .slice o1 L[j].ps.length p1]] w1 fun e w' => ∃ v', e = .returned v' ∧ isTha w' (fun q => P q ∧ q ≠ g) L[j] v' ∧ KB wr w') := Lib.hid fun w1 hK => (copiedT_any L[j] _ w1 (fun q => P q ∧ q ≠ g) hlg (fun q hq => ⟨HPP.out q (by have := hB.out.1.size; have := hK.size; omega), by have := hB.out.2; have := hK.size; omega⟩) ⟨_, rfl, isGsa_mono (fun q hq => ⟨hq.1, by have := hq.2; have := hK.size; omega⟩) (isGsa_keep (fun a c _ hc => cell_below hK _ _ hc) (isGsa_lt hv)), hn, hm⟩).mono fun e w' ⟨v', he, hv', hb'⟩ => ⟨v', he, hv', hK.trans (hb'.mono hK.size)⟩
      have HA1 : Hid (KB wr (wr.alloc (.cells #[.string L[j].ph, .string L[j].ty, .slice o1 L[j].ps.length p1] 44))) := Lib.hid kbA
      have HF1 := Lib.hid hf1
      have HF2 := Lib.hid hf2
      clear hf1 hf2 h0 h1 hv hn hm hag hG hlg
      generalize hGj : L[j] = T0 at *
      have HGJ := Lib.hid hGj
      clear hGj
      go_wp2_with (go_at_call 59; refine (CV.out _ HA1.out).mono ?_; rintro e w6 ⟨v6, rfl, ⟨pv6, rfl, hva, hva1, hva2⟩, hb6⟩; obtain ⟨o6, cap6, rfl⟩ := isGsa_form hva; obtain ⟨x1, x2, x3, f', ⟨⟨_, q1⟩, q1', q1''⟩, ⟨⟨_, q2⟩, q2', q2''⟩, ⟨⟨_, q3⟩, q3', q3''⟩, hf7, hg7, u0, u1, u2, hold⟩ := store_three (rowIs_grown HF1.out (grown_bel hb6) (by simp)) (j * 3) (by omega) (.string T0.ph) (.string T0.ty) (.slice o6 T0.ps.length cap6))
      have HX6 := Lib.hid (And.intro hf7 (And.intro hg7 (And.intro u0 (And.intro u1 (And.intro u2 hold)))))
      have HVA := Lib.hid (And.intro hva (And.intro hva1 hva2))
      have HB6 := Lib.hid hb6
      clear hf7 hg7 u0 u1 u2 hold hva hva1 hva2 hb6
      go_roundw
      case rel =>
        obtain ⟨hf7, hg7, u0, u1, u2, hold⟩ := HX6.out
        refine ⟨j + 1, by omega, by go_num, Lib.hid ⟨(hB.out.1.trans (HB6.out.mono hB.out.1.size)).grown hg7 (by have := hB.out.1.size; have := HB6.out.size; omega) (fun r e => by cases e; exact hg1), by have := hB.out.2; have := HB6.out.size; have := hg7.size; omega⟩, Lib.hid (fun _ => ⟨f', hf7, fun i hi => ?_⟩)⟩
        by_cases e : i = j
        · subst e
          rw [HGJ.out]
          refine ⟨u0, u1, ?_, HVA.out.2.1, HVA.out.2.2⟩
          rw [u2]
          exact isGsa_keep (fun a c hq hc => hg7.cell hc (fun e => hq.2 (Option.some.inj e))) HVA.out.1
        · refine (HF2.out i hi).keep (fun a c hq hc => hg7.cell (cell_below HB6.out _ _ hc) (fun e => hq.2 (Option.some.inj e))) (fun k hk => hold _ ?_)
          by_cases e2 : i < j
          · exact .inl (by omega)
          · exact .inr (by omega)
      case measure => simp [intOf]; omega
    · obtain rfl : j = L.length := by omega
      go_wp2_with fail
      go_ret
      exact ⟨_, rfl, ⟨ol, g, capL, rfl, cl1, HM.out, fun h0 => by
        obtain ⟨h1, h2, h3, _⟩ := HST.out h0
        exact ⟨h1, h2, by have := hB.out.2; omega, hG.out h0⟩⟩, hB.out.1⟩
end Go.Proofs.YtkigeegahepnaaaGreatDoor

namespace Go.Proofs.YtkigeegahepnaaaGreatDoor
open Go.RowKit

noncomputable def namedL (s : St) (p : ByteArray) : Int × Int := if checkS s = 0 then (match idxT s.l p with | some j => ((j : Int), 0) | none => (0, 4)) else (0, checkS s)
set_option maxRecDepth 100000 in
set_option maxHeartbeats 4000000 in
theorem named_any (s : St) (p : ByteArray) (v : Value) (w : World) (hE : Env9 w) (hF : fineS s) (h : isS w s v) :
    Calls Tryz.prog 98 #[v, .string p] w fun e w' => e = .returned (.tuple #[.int .i64 (namedL s p).1, .int .i64 (namedL s p).2]) ∧ Below w.heap.size w w' := by
  obtain ⟨o, cap, rfl, hts, hm⟩ := isS_two h
  have HB0 : Hid (KB w (w.alloc (.cells #[.slice o s.l.length cap, .int .i64 s.made] 69))) := Lib.hid kbA
  have HC := Lib.hid (Check10_any s _ _ (hE.kb HB0.out) hF (isS_below HB0.out h))
  have HP : Hid (∀ w1, KB w w1 → Calls Tryz.prog 58 #[.agg #[.slice o s.l.length cap, .int .i64 s.made], .string p] w1 fun e w' => e = .returned (.tuple #[.int .i64 ((idxT s.l p).getD 0 : Nat), .bool (idxT s.l p).isSome]) ∧ KB w w') := Lib.hid fun w1 hK => Calls.kb hK (place_any s p _ w1 (by have := hF.1; omega) (isS_below hK h))
  unfold namedL
  generalize checkS s = C at *
  generalize idxT s.l p = I at *
  clear h hts hE hF hm
  generalize s.l.length = n at *
  generalize s.made = md at *
  have hbx := World.alloc_heap_new w (.cells #[.slice o n cap, .int .i64 md] 69)
  by_cases hC : C = 0
  · subst hC
    rw [if_pos rfl]
    cases I with
    | none =>
      go_enter Tryz.func98, Tryz.ntmps98
      go_wp2_with (first
        | (go_at_call 94; refine HC.out.mono ?_; rintro e w5 ⟨rfl, hb5⟩; have b0 : w5.cell? ⟨w.heap.size, 0, none⟩ = some (.slice o n cap) := cell_below hb5 _ _ (by simp); have b1 : w5.cell? ⟨w.heap.size, 1, none⟩ = some (.int .i64 md) := cell_below hb5 _ _ (by simp))
        | (go_at_call 58; refine (HP.out _ (HB0.out.trans (hb5.mono HB0.out.size))).mono ?_; rintro e w6 ⟨rfl, hb6⟩))
      go_ret2
      exact ⟨rfl, hb6⟩
    | some j =>
      go_enter Tryz.func98, Tryz.ntmps98
      go_wp2_with (first
        | (go_at_call 94; refine HC.out.mono ?_; rintro e w5 ⟨rfl, hb5⟩; have b0 : w5.cell? ⟨w.heap.size, 0, none⟩ = some (.slice o n cap) := cell_below hb5 _ _ (by simp); have b1 : w5.cell? ⟨w.heap.size, 1, none⟩ = some (.int .i64 md) := cell_below hb5 _ _ (by simp))
        | (go_at_call 58; refine (HP.out _ (HB0.out.trans (hb5.mono HB0.out.size))).mono ?_; rintro e w6 ⟨rfl, hb6⟩))
      go_ret2
      exact ⟨rfl, hb6⟩
  · rw [if_neg hC]
    have z1 : (C == 0) = false := beqI hC
    have z2 : (C != 0) = true := bne_iff_ne.2 hC
    clear hC
    go_enter Tryz.func98, Tryz.ntmps98
    go_wp2_with (go_at_call 94; refine HC.out.mono ?_; rintro e w5 ⟨rfl, hb5⟩)
    go_ret2
    exact ⟨rfl, HB0.out.trans (hb5.mono HB0.out.size)⟩

def getT (s : St) (p : ByteArray) : Th × Bool := match idxT s.l p with | some j => (s.l.getD j zTh, true) | none => (zTh, false)
theorem isTh_zero (W : World) : isTh W zTh (.agg #[.string ⟨#[]⟩, .string ⟨#[]⟩, .slice none 0 0]) :=
  ⟨_, rfl, ⟨⟨0, 0, none⟩, 0, ⟨none, rfl, Nat.le_refl _, by unfold maxLen; omega, fun h => absurd h (by decide)⟩, fun i h => absurd h (by simp [zTh])⟩, by show 0 ≤ maxLen; omega, by show 0 ≤ maxLen; omega⟩
set_option maxRecDepth 100000 in
set_option maxHeartbeats 4000000 in
theorem Get10_any (s : St) (p : ByteArray) (v : Value) (w : World) (hF : fineS s) (h : isS w s v) :
    Calls Tryz.prog 43 #[v, .string p] w fun e w' => (∃ v', e = .returned (.tuple #[v', .bool (getT s p).2]) ∧ isTh w' (getT s p).1 v') ∧ Below w.heap.size w w' := by
  obtain ⟨o, cap, rfl, hts, hm⟩ := isS_two h
  have HB0 : Hid (KB w ((w.alloc (.cells #[.slice o s.l.length cap, .int .i64 s.made] 69)).alloc (.cells #[.string ⟨#[]⟩, .string ⟨#[]⟩, .slice none 0 0] 44))) := Lib.hid (by unfold KB; go_grown)
  have n1 := (Below.heap_alloc (w.alloc (.cells #[.slice o s.l.length cap, .int .i64 s.made] 69)) (.cells #[.string ⟨#[]⟩, .string ⟨#[]⟩, .slice none 0 0] 44) w.heap.size (by simp)).trans (World.alloc_heap_new w _)
  have n2 := World.alloc_heap_new (w.alloc (.cells #[.slice o s.l.length cap, .int .i64 s.made] 69)) (.cells #[.string ⟨#[]⟩, .string ⟨#[]⟩, .slice none 0 0] 44)
  rw [World.size_alloc] at n2
  have HP : Hid (∀ w1, KB w w1 → Calls Tryz.prog 58 #[.agg #[.slice o s.l.length cap, .int .i64 s.made], .string p] w1 fun e w' => e = .returned (.tuple #[.int .i64 ((idxT s.l p).getD 0 : Nat), .bool (idxT s.l p).isSome]) ∧ Below w1.heap.size w1 w') := Lib.hid fun w1 hK => place_any s p _ w1 (by have := hF.1; omega) (isS_below hK h)
  have HTS := Lib.hid hts
  have HF := Lib.hid hF
  have HN1 := Lib.hid n1
  have HN2 := Lib.hid n2
  clear h hts hF hm n1 n2
  unfold getT
  cases hI : idxT s.l p with
  | none =>
    rw [hI] at HP
    clear hI
    generalize s.l.length = n at *
    generalize s.made = md at *
    go_enter Tryz.func43, Tryz.ntmps43
    go_wp2_with (go_at_call 58; refine (HP.out _ HB0.out).mono ?_; rintro e w6 ⟨rfl, hb6⟩; have hm2 := (hb6.block (w.heap.size + 1) (by simp)).trans HN2.out; obtain ⟨x1, x2, x3, f', ⟨⟨_, q1⟩, q1', q1''⟩, ⟨⟨_, q2⟩, q2', q2''⟩, ⟨⟨_, q3⟩, q3', q3''⟩, hf7, hg7, u0, u1, u2, -⟩ := store_three (rowIs_three hm2) 0 (by decide) (.string ⟨#[]⟩) (.string ⟨#[]⟩) (.slice none 0 0); simp only [Nat.zero_add] at q2 q2' q2'' q3 q3' q3'' u1 u2)
    have d0 := hf7.cell (show 0 < 3 by decide)
    have d1 := hf7.cell (show 1 < 3 by decide)
    have d2 := hf7.cell (show 2 < 3 by decide)
    rw [u0] at d0
    rw [u1] at d1
    rw [u2] at d2
    refine bodyPost_ret (v := .tuple #[.agg #[.string ⟨#[]⟩, .string ⟨#[]⟩, .slice none 0 0], .bool false]) (by simp [results, Tryz.results43, go_sem, d0, d1, d2]) rfl ?_
    exact ⟨⟨_, rfl, isTh_zero _⟩, (HB0.out.trans (hb6.mono HB0.out.size)).grown hg7 (by have := HB0.out.size; have := hb6.size; omega) (fun r e => by cases e; omega)⟩
  | some j =>
    obtain ⟨hj, -⟩ := idxT_at hI
    rw [hI] at HP
    obtain ⟨a, cap', ⟨o', e', hc1, hc2, ho⟩, hat⟩ := HTS.out
    simp only [Value.slice.injEq, true_and] at e'
    obtain ⟨rfl, rfl⟩ := e'
    obtain rfl := ho (by omega)
    unfold maxLen at hc2
    have hl1000 := HF.out.1
    obtain ⟨o1, c1, q0, q1, q2, ht⟩ := isTat_three (hat j hj)
    have hfg := (HF.out.2 _ (List.getElem_mem hj)).2
    have CT : Hid (∀ w1, KB w w1 → w.heap.size + 1 < w1.heap.size → Calls Tryz.prog 59 #[.agg #[.string s.l[j].ph, .string s.l[j].ty, .slice o1 s.l[j].ps.length c1]] w1 fun e w' => ∃ v', e = .returned v' ∧ isTha w' (fun q => q ≠ w.heap.size + 1) s.l[j] v' ∧ Below w1.heap.size w1 w') := Lib.hid fun w1 hK hlt => by
      obtain ⟨pv, e, hg, hp1, hp2⟩ := ht
      simp only [Value.agg.injEq, Array.mk.injEq, List.cons.injEq, true_and, and_true] at e
      subst e
      exact copiedT_any _ _ w1 _ hfg (fun q hq => by omega) ⟨_, rfl, isGsa_mono (fun q (hq : q < w.heap.size) => ⟨by omega, by have := hK.size; omega⟩) (isGsa_keep (fun a c _ hc => cell_below hK _ _ hc) (isGsa_of hg)), hp1, hp2⟩
    have hgd : s.l.getD j zTh = s.l[j] := getD_t hj
    have HGD := Lib.hid hgd
    have hsl : s.l.length ≤ 1000 := hl1000
    have HQ := Lib.hid (And.intro q0 (And.intro q1 q2))
    clear hI ht hat ho hfg hgd q0 q1 q2 HTS HF hl1000
    generalize hT : s.l[j] = T at *
    clear hT
    generalize hnn : s.l.length = n at *
    generalize s.made = md at *
    go_enter Tryz.func43, Tryz.ntmps43
    go_wp2_with (first
      | (go_at_call 58; refine (HP.out _ HB0.out).mono ?_; rintro e w6 ⟨rfl, hb6⟩; obtain ⟨r0, r1⟩ := two_cells ((hb6.block w.heap.size (by simp; omega)).trans HN1.out); have q0 := cell_below (HB0.out.trans (hb6.mono HB0.out.size)) _ _ HQ.out.1; have q1 := cell_below (HB0.out.trans (hb6.mono HB0.out.size)) _ _ HQ.out.2.1; have q2 := cell_below (HB0.out.trans (hb6.mono HB0.out.size)) _ _ HQ.out.2.2)
      | (go_at_call 59; refine (CT.out _ (HB0.out.trans (hb6.mono HB0.out.size)) (by have := hb6.size; simp at this; omega)).mono ?_; rintro e w7 ⟨v7, rfl, ⟨pv7, rfl, hg7, hp1, hp2⟩, hb7⟩; obtain ⟨o7, c7, rfl⟩ := isGsa_form hg7; have hm2 := (hb7.block (w.heap.size + 1) (by have := hb6.size; simp at this; omega)).trans ((hb6.block (w.heap.size + 1) (by simp)).trans HN2.out); obtain ⟨x1, x2, x3, f', ⟨⟨_, s1⟩, s1', s1''⟩, ⟨⟨_, s2⟩, s2', s2''⟩, ⟨⟨_, s3⟩, s3', s3''⟩, hf8, hg8, u0, u1, u2, -⟩ := store_three (rowIs_three hm2) 0 (by decide) (.string T.ph) (.string T.ty) (.slice o7 T.ps.length c7); simp only [Nat.zero_add] at s2 s2' s2'' s3 s3' s3'' u1 u2))
    have d0 := hf8.cell (show 0 < 3 by decide)
    have d1 := hf8.cell (show 1 < 3 by decide)
    have d2 := hf8.cell (show 2 < 3 by decide)
    rw [u0] at d0
    rw [u1] at d1
    rw [u2] at d2
    refine bodyPost_ret (v := .tuple #[.agg #[.string T.ph, .string T.ty, .slice o7 T.ps.length c7], .bool true]) (by simp [results, Tryz.results43, go_sem, d0, d1, d2]) rfl ?_
    have hbb := HB0.out.trans ((hb6.trans (hb7.mono hb6.size)).mono HB0.out.size)
    refine ⟨⟨_, rfl, ?_⟩, hbb.grown hg8 hbb.size (fun r e => by cases e; omega)⟩
    show isTh x3 (s.l.getD j zTh) _
    rw [HGD.out]
    exact ⟨_, rfl, isGs_of_a (isGsa_keep (fun a c hq hc => hg8.cell hc (fun e => hq (Option.some.inj e))) hg7), hp1, hp2⟩
end Go.Proofs.YtkigeegahepnaaaGreatDoor
