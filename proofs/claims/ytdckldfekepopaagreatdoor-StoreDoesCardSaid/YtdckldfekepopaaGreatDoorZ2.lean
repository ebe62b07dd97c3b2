/-
  Contracts of misplaced and worth, of package number. · The contract of worth, of package number. · The contracts of Scan and Read, of package number. · What follows, in plain mathematics: a number's text is read as it, wherever it stands; what is read has just that text; the texts' order.
-/
import Derived.Test.YtdckldfekepopaaGreatDoorZ1
import Derived.Test.YtdckldfekepopaaGreatDoorShelf
set_option linter.unusedVariables false
set_option linter.unusedSimpArgs false
namespace Go.Proofs.YtdckldfekepopaaGreatDoor.Nu
open Go.RowKit

theorem toList_length (s : ByteArray) : s.data.toList.length = s.size := by rw [Array.length_toList]; rfl
theorem toList_getElem (s : ByteArray) (k : Nat) (h : k < s.size) : s.data.toList[k]? = some s[k] := by
  rw [List.getElem?_eq_getElem (by rw [toList_length]; exact h)]; rfl
theorem toList_getD (s : ByteArray) (k : Nat) (h : k < s.size) : s.data.toList.getD k 0 = s[k] := by
  rw [List.getD, toList_getElem s k h]; rfl
theorem toList_getD_end (s : ByteArray) (k : Nat) (h : s.size ≤ k) : s.data.toList.getD k 0 = 0 := by
  rw [List.getD, List.getElem?_eq_none (by rw [toList_length]; exact h)]; rfl
theorem take_snoc (s : ByteArray) (k : Nat) (h : k < s.size) : s.data.toList.take (k + 1) = s.data.toList.take k ++ [s[k]] := by
  rw [List.take_succ_eq_append_getElem (by simpa using h)]; rfl
theorem u8back (c : UInt8) : ((c.toNat : Int)).toNat.toUInt8 = c := by simp
def dotE : ByteArray := ⟨#[46, 101, 69]⟩
theorem idx_yes (c : UInt8) (h : stopB c = true) (w : World) : Calls Tryz.prog 100 #[.string ⟨#[46, 101, 69]⟩, .int .u8 c.toNat] w fun e w' => (∃ i : Int, 0 ≤ i ∧ e = .returned (.int .i64 i)) ∧ w = w' := by
  refine (Tryz.strings_IndexByte ⟨#[46, 101, 69]⟩ c.toNat w).mono ?_
  rintro e w' ⟨rfl, rfl⟩
  refine ⟨⟨_, ?_, rfl⟩, rfl⟩
  rw [u8back]
  have h' : c = 46 ∨ c = 101 ∨ c = 69 := by simpa [stopB, or_assoc] using h
  rcases h' with rfl | rfl | rfl <;> decide
theorem idx_no (c : UInt8) (h : stopB c = false) (w : World) : Calls Tryz.prog 100 #[.string ⟨#[46, 101, 69]⟩, .int .u8 c.toNat] w fun e w' => e = .returned (.int .i64 (-1)) ∧ w = w' := by
  refine (Tryz.strings_IndexByte ⟨#[46, 101, 69]⟩ c.toNat w).mono ?_
  rintro e w' ⟨rfl, rfl⟩
  refine ⟨?_, rfl⟩
  rw [u8back]
  have h' : c ≠ 46 ∧ c ≠ 101 ∧ c ≠ 69 := by simpa [stopB, and_assoc] using h
  obtain ⟨h1, h2, h3⟩ := h'
  have : Lib.indexByte [46, 101, 69] c = -1 := by
    simp [Lib.indexByte, Ne.symm h1, Ne.symm h2, Ne.symm h3]
  show Ending.returned (.int .i64 (Lib.indexByte [46, 101, 69] c)) = _
  rw [this]

def misV (p : Int × Bool) : Value := .tuple #[.int .i64 p.1, .bool p.2]
set_option maxRecDepth 100000 in
set_option maxHeartbeats 2000000 in
theorem mis_any (s : ByteArray) (f d : Nat) (hfd : f + d ≤ s.size) (hs : s.size ≤ maxLen) (w : World) :
    Calls Tryz.prog 88 #[.string s, .int .i64 f, .int .i64 ((f + d : Nat) : Int)] w fun e w' => e = .returned (misV (misL s.data.toList f d)) ∧ w = w' := by
  unfold maxLen at hs
  by_cases d0 : d = 0
  · have HM : Hid (misL s.data.toList f d = ((f : Int), true)) := Lib.hid (by unfold misL; rw [if_pos d0])
    have hq : ((f : Int) == ((f + d : Nat) : Int)) = true := by rw [beq_iff_eq]; omega
    clear d0
    go_enter Tryz.func88, Tryz.ntmps88
    go_wp2_with fail
    go_ret2
    exact ⟨by rw [HM.out]; rfl, rfl⟩
  have hf : f < s.size := by omega
  have hg := toList_getD s f hf
  obtain ⟨e, he⟩ : ∃ e : Nat, e = f + d := ⟨_, rfl⟩
  have HE := Lib.hid he
  rw [← he]
  have hq : ((f : Int) == (e : Int)) = false := by rw [beq_eq_false_iff_ne]; omega
  have hse : e ≤ s.size := by omega
  have hfe : f < e := by omega
  by_cases h1 : s[f] = 48 ∧ 1 < d
  · have HM : Hid (misL s.data.toList f d = ((f : Int) + 1, true)) := Lib.hid (by unfold misL; rw [if_neg d0, hg, if_pos h1])
    have h48 : ((s[f].toNat : Int) == 48) = true := by rw [h1.1]; rfl
    have hgt : 1 < (e : Int) - f := by omega
    clear d0 hg he h1 hfd
    go_enter Tryz.func88, Tryz.ntmps88
    go_wp2_with fail
    go_ret2
    exact ⟨by rw [HM.out]; rfl, rfl⟩
  have rest : ∀ (b : Bool) (hb : ((s[f].toNat : Int) == 48) = b) (g : b = true → ¬ (1 : Int) < (e : Int) - f), Calls Tryz.prog 88 #[.string s, .int .i64 f, .int .i64 e] w fun e w' => e = .returned (misV (misL s.data.toList f d)) ∧ w = w' := by
    intro b hb g
    by_cases hlt : e < s.size
    · have hge := toList_getD s e hlt
      have HI1 := Lib.hid (idx_yes s[e])
      have HI2 := Lib.hid (idx_no s[e])
      cases hst : stopB s[e] with
      | true =>
        have HM : Hid (misL s.data.toList f d = ((e : Int), true)) := Lib.hid (by unfold misL; rw [if_neg d0, hg, if_neg h1, ← he, hge, hst, if_pos rfl, he, Int.natCast_add])
        have HS := Lib.hid hst
        clear d0 hg he h1 hfd hge hst
        cases b with
        | true =>
          have g' := g rfl
          clear g
          go_enter Tryz.func88, Tryz.ntmps88
          go_wp2_with (go_at_call 100; refine (HI1.out HS.out _).mono ?_; rintro e w' ⟨⟨i, hi, rfl⟩, rfl⟩)
          go_ret2
          exact ⟨by rw [HM.out]; rfl, rfl⟩
        | false =>
          clear g
          go_enter Tryz.func88, Tryz.ntmps88
          go_wp2_with (go_at_call 100; refine (HI1.out HS.out _).mono ?_; rintro e w' ⟨⟨i, hi, rfl⟩, rfl⟩)
          go_ret2
          exact ⟨by rw [HM.out]; rfl, rfl⟩
      | false =>
        have HM : Hid (misL s.data.toList f d = (0, false)) := Lib.hid (by unfold misL; rw [if_neg d0, hg, if_neg h1, ← he, hge, hst, if_neg (by simp)])
        have HS := Lib.hid hst
        clear d0 hg he h1 hfd hge hst
        cases b with
        | true =>
          have g' := g rfl
          clear g
          go_enter Tryz.func88, Tryz.ntmps88
          go_wp2_with (go_at_call 100; refine (HI2.out HS.out _).mono ?_; rintro e w' ⟨rfl, rfl⟩)
          go_ret2
          exact ⟨by rw [HM.out]; rfl, rfl⟩
        | false =>
          clear g
          go_enter Tryz.func88, Tryz.ntmps88
          go_wp2_with (go_at_call 100; refine (HI2.out HS.out _).mono ?_; rintro e w' ⟨rfl, rfl⟩)
          go_ret2
          exact ⟨by rw [HM.out]; rfl, rfl⟩
    · have hge := toList_getD_end s e (by omega)
      have HM : Hid (misL s.data.toList f d = (0, false)) := Lib.hid (by unfold misL; rw [if_neg d0, hg, if_neg h1, ← he, hge, if_neg (by decide)])
      clear d0 hg he h1 hfd hge
      cases b with
      | true =>
        have g' := g rfl
        clear g
        go_enter Tryz.func88, Tryz.ntmps88
        go_wp2_with fail
        go_ret2
        exact ⟨by rw [HM.out]; rfl, rfl⟩
      | false =>
        clear g
        go_enter Tryz.func88, Tryz.ntmps88
        go_wp2_with fail
        go_ret2
        exact ⟨by rw [HM.out]; rfl, rfl⟩
  by_cases hx : s[f] = 48
  · exact rest true (by rw [hx]; rfl) (fun _ => by have : ¬ 1 < d := fun e => h1 ⟨hx, e⟩; omega)
  · exact rest false (by rw [beq_eq_false_iff_ne]; intro e; exact hx (UInt8.toNat_inj.1 (by have : (48 : UInt8).toNat = 48 := rfl; omega))) (fun h => by cases h)
end Go.Proofs.YtdckldfekepopaaGreatDoor.Nu

namespace Go.Proofs.YtdckldfekepopaaGreatDoor.Nu
open Go.RowKit

theorem val_snoc_at (s : ByteArray) (k : Nat) (h : k < s.size) : val (s.data.toList.take (k + 1)) = val (s.data.toList.take k) * 10 + (s[k].toNat - 48) := by
  rw [take_snoc s k h, val_snoc]
theorem all_at (s : ByteArray) (ha : s.data.toList.all isD = true) (k : Nat) (h : k < s.size) : 48 ≤ s[k].toNat ∧ s[k].toNat ≤ 57 := by
  have := List.all_eq_true.1 ha s[k] (by
    have e := toList_getElem s k h
    exact List.mem_of_getElem? e)
  exact isD_iff.1 this

set_option maxRecDepth 100000 in
set_option maxHeartbeats 2000000 in
theorem worth_any (s : ByteArray) (hs : s.size ≤ maxLen) (ha : s.data.toList.all isD = true) (w : World) :
    Calls Tryz.prog 89 #[.string s] w fun e w' => e = .returned (misV (wL s.data.toList)) ∧ w = w' := by
  unfold maxLen at hs
  have HA := Lib.hid (all_at s ha)
  have HV := Lib.hid (val_snoc_at s)
  have HT := Lib.hid (val_take_le s.data.toList)
  have hall : s.data.toList.take s.size = s.data.toList := List.take_of_length_le (by rw [toList_length]; omega)
  have HF := Lib.hid hall
  clear ha hall
  go_enter Tryz.func89, Tryz.ntmps89
  go_wp2
  go_loop [2, 8] (fun n i => ∃ k v : Nat, k ≤ s.size ∧ i = .int .i64 k ∧ n = .int .i64 v ∧ v ≤ 9007199254740992 ∧ Hid (val (s.data.toList.take k) = v)) (fun _ i => s.size - (intOf i).toNat)
  case atStart => exact ⟨0, 0, by omega, rfl, rfl, by omega, Lib.hid rfl⟩
  case round =>
    obtain ⟨k, v, hk, rfl, rfl, hv, hval⟩ := hrel
    by_cases hlt : k < s.size
    · obtain ⟨c0, c1⟩ := HA.out k hlt
      have hsn := HV.out k hlt
      rw [hval.out] at hsn
      obtain ⟨d, hd⟩ : ∃ d : Nat, d = s[k].toNat - 48 := ⟨_, rfl⟩
      rw [← hd] at hsn
      have hdi : (s[k].toNat : Int) - 48 = (d : Int) := by omega
      have d9 : d ≤ 9 := by omega
      obtain ⟨q, hq⟩ : ∃ q : Nat, q = (9007199254740992 - d) / 10 := ⟨_, rfl⟩
      have hqi : (9007199254740992 - (d : Int)) / 10 = (q : Int) := by omega
      by_cases ho : q < v
      · have hgt : (q : Int) < v := by omega
        have hbig : 9007199254740992 < val (s.data.toList.take (k + 1)) := by rw [hsn]; omega
        have HW : Hid (wL s.data.toList = (0, false)) := Lib.hid (by unfold wL; rw [if_neg (by have := HT.out (k + 1); omega)])
        clear hbig hsn hd hq hval
        go_wp2
        go_ret2
        exact ⟨by rw [HW.out]; rfl, rfl⟩
      · have hgt : ¬ (q : Int) < v := by omega
        have hle : v * 10 + d ≤ 9007199254740992 := by omega
        have HN : Hid (val (s.data.toList.take (k + 1)) = v * 10 + d) := Lib.hid hsn
        clear hsn hd hq hval
        go_wp2
        go_round
        case rel => exact ⟨k + 1, v * 10 + d, by omega, by go_num, by go_num, by omega, HN⟩
        case measure => simp [intOf]; omega
    · have HW : Hid (wL s.data.toList = ((v : Int), true)) := Lib.hid (by
        have e : k = s.size := by omega
        have h2 := hval.out
        rw [e, HF.out] at h2
        unfold wL
        rw [h2, if_pos hv])
      clear hval
      go_wp2
      go_ret2
      exact ⟨by rw [HW.out]; rfl, rfl⟩
end Go.Proofs.YtdckldfekepopaaGreatDoor.Nu

namespace Go.Proofs.YtdckldfekepopaaGreatDoor.Nu
open Go.RowKit

def scanV (r : Int × Int × Int) : Value := .tuple #[.int .i64 r.1, .int .i64 r.2.1, .int .i64 r.2.2]
set_option maxRecDepth 100000 in
set_option maxHeartbeats 2000000 in
theorem scan_low (s : ByteArray) (at_ : Int) (h : at_ < 0) (w : World) :
    Calls Tryz.prog 68 #[.string s, .int .i64 at_] w fun e w' => e = .returned (scanV (scanL s.data.toList at_)) ∧ w = w' := by
  have HS : Hid (scanL s.data.toList at_ = (0, 0, 2)) := Lib.hid (by unfold scanL; rw [if_pos (.inl h)])
  go_enter Tryz.func68, Tryz.ntmps68
  go_wp2_with fail
  go_ret3
  exact ⟨by rw [HS.out]; rfl, rfl⟩
set_option maxRecDepth 100000 in
set_option maxHeartbeats 2000000 in
theorem scan_high (s : ByteArray) (hs : s.size ≤ maxLen) (at_ : Int) (h0 : 0 ≤ at_) (h : (s.size : Int) < at_) (w : World) :
    Calls Tryz.prog 68 #[.string s, .int .i64 at_] w fun e w' => e = .returned (scanV (scanL s.data.toList at_)) ∧ w = w' := by
  unfold maxLen at hs
  have HS : Hid (scanL s.data.toList at_ = (0, 0, 2)) := Lib.hid (by unfold scanL; rw [if_pos (.inr (by rw [toList_length]; exact h))])
  have h0' : ¬ at_ < 0 := by omega
  go_enter Tryz.func68, Tryz.ntmps68
  go_wp2_with fail
  go_ret3
  exact ⟨by rw [HS.out]; rfl, rfl⟩
theorem dig_facts (s : ByteArray) (f : Nat) : (∀ j, j < (dig s.data.toList f).length → ∃ h : f + j < s.size, isD (s[f + j]'h) = true) ∧ (∀ h : f + (dig s.data.toList f).length < s.size, isD (s[f + (dig s.data.toList f).length]'h) = false) := by
  refine ⟨fun j hj => ?_, fun h => ?_⟩
  · have hl := dig_le s.data.toList f
    rw [toList_length] at hl
    have h : f + j < s.size := by omega
    refine ⟨h, ?_⟩
    rw [← toList_getD s _ h]
    exact dig_at _ _ _ hj
  · rw [← toList_getD s _ h]
    exact dig_end _ _ (by rw [toList_length]; exact h)
theorem ext_drop (s : ByteArray) (k : Nat) : (s.extract k s.size).data.toList = s.data.toList.drop k := by
  rw [Lib.extract_data, List.take_of_length_le]
  rw [List.length_drop, toList_length]; omega
theorem ext_dig (s : ByteArray) (f d : Nat) (hd : d = (dig s.data.toList f).length) : (s.extract f (f + d)).data.toList = dig s.data.toList f := by
  rw [Lib.extract_data, show f + d - f = d by omega, hd]
  exact (dig_take _ _).symm
theorem pre_any (s : ByteArray) (k : Nat) (w : World) :
    Calls Tryz.prog 86 #[.string (s.extract k s.size), .string ⟨#[45]⟩] w fun e w' => e = .returned (.bool (decide (s.data.toList.getD k 0 = 45))) ∧ w = w' := by
  refine (Tryz.strings_HasPrefix (s.extract k s.size) ⟨#[45]⟩ w).mono ?_
  rintro e w' ⟨rfl, rfl⟩
  refine ⟨?_, rfl⟩
  have h : Lib.hasPrefix (s.extract k s.size).data.toList [45] = decide (s.data.toList.getD k 0 = 45) := by
    rw [ext_drop, ← Nat.add_zero k, ← getD_drop, Nat.add_zero]
    match s.data.toList.drop k with
    | [] => rfl
    | c :: t =>
      unfold Lib.hasPrefix
      simp only [List.isPrefixOf, Bool.and_true, List.getD_cons_zero]
      by_cases hc : c = 45
      · subst hc; rfl
      · rw [decide_eq_false hc, beq_eq_false_iff_ne]; exact fun e => hc e.symm
  show Ending.returned (.bool (Lib.hasPrefix (s.extract k s.size).data.toList [45])) = _
  rw [h]
theorem scanB_bad {l : List UInt8} {k f d : Nat} {m : Bool} {p : Int} (hd : d = (dig l f).length) (h : misL l f d = (p, true)) : scanB l k m f = (0, p, 20) := by
  unfold scanB; rw [← hd, h]; rfl
theorem scanB_big {l : List UInt8} {k f d : Nat} {m : Bool} {p x : Int} (hd : d = (dig l f).length) (h : misL l f d = (p, false)) (hw : wL (dig l f) = (x, false)) : scanB l k m f = (0, (k : Int), 20) := by
  unfold scanB; rw [← hd, h]
  have : 9007199254740992 < val (dig l f) := by
    unfold wL at hw
    split at hw
    · cases hw
    · omega
  simp [this]
theorem scanB_zero {l : List UInt8} {k f d : Nat} {p : Int} (hd : d = (dig l f).length) (h : misL l f d = (p, false)) (hw : wL (dig l f) = (0, true)) : scanB l k true f = (0, (k : Int), 20) := by
  unfold scanB; rw [← hd, h]
  have : val (dig l f) = 0 := by
    unfold wL at hw
    split at hw
    · have := congrArg Prod.fst hw; simp at this; omega
    · cases hw
  simp [this]
theorem scanB_neg {l : List UInt8} {k f d : Nat} {p x : Int} (hd : d = (dig l f).length) (h : misL l f d = (p, false)) (hw : wL (dig l f) = (x, true)) (h0 : x ≠ 0) : scanB l k true f = (-x, ((f + d : Nat) : Int), 0) ∧ 0 ≤ x ∧ x ≤ 9007199254740992 := by
  unfold scanB; rw [← hd, h]
  unfold wL at hw
  split at hw
  · rename_i hv
    have hx : (val (dig l f) : Int) = x := congrArg Prod.fst hw
    rw [if_neg (by simp), if_neg (by omega), hx]
    exact ⟨by simp, by omega, by omega⟩
  · cases hw
theorem scanB_pos {l : List UInt8} {k f d : Nat} {p x : Int} (hd : d = (dig l f).length) (h : misL l f d = (p, false)) (hw : wL (dig l f) = (x, true)) : scanB l k false f = (x, ((f + d : Nat) : Int), 0) := by
  unfold scanB; rw [← hd, h]
  unfold wL at hw
  split at hw
  · rename_i hv
    have hx : (val (dig l f) : Int) = x := congrArg Prod.fst hw
    rw [if_neg (by simp), if_neg (by simp; omega), hx]
    simp
  · cases hw

set_option maxRecDepth 100000 in
set_option maxHeartbeats 4000000 in
theorem scan_false (s : ByteArray) (hs : s.size ≤ maxLen) (k : Nat) (hk : k ≤ s.size) (hm : s.data.toList.getD k 0 ≠ 45) (w : World) :
    Calls Tryz.prog 68 #[.string s, .int .i64 k] w fun e w' => e = .returned (scanV (scanB s.data.toList k false k)) ∧ w = w' := by
  obtain ⟨f, hf⟩ : ∃ f, k = f := ⟨_, rfl⟩
  subst hf
  have hfs : k ≤ s.size := hk
  have HP := Lib.hid (pre_any s k w)
  rw [decide_eq_false hm] at HP
  have hM9 := Lib.hid hs
  unfold maxLen at hs
  obtain ⟨d, hd⟩ : ∃ d, d = (dig s.data.toList k).length := ⟨_, rfl⟩
  have hdl := dig_le s.data.toList k
  rw [← hd, toList_length] at hdl
  have hfd : k + d ≤ s.size := by omega
  obtain ⟨hF1, hF2⟩ := dig_facts s k
  rw [← hd] at hF1
  have HF1 := Lib.hid hF1
  have HF2 : Hid (∀ h : k + d < s.size, isD (s[k + d]'h) = false) := Lib.hid (by subst hd; exact hF2)
  obtain ⟨en, hen⟩ : ∃ en : Nat, en = k + d := ⟨_, rfl⟩
  have HM := Lib.hid (mis_any s k d hfd hM9.out w)
  rw [← hen] at HM
  have hX := ext_dig s k d hd
  rw [← hen] at hX
  have HW := Lib.hid (worth_any (s.extract k en) (by rw [ByteArray.size_extract]; have := hM9.out; omega) (by rw [hX]; exact dig_all _ _) w)
  rw [hX] at HW
  have hen1 : en ≤ s.size := by omega
  have hen2 : k ≤ en := by omega
  have HD := Lib.hid hd
  have HE := Lib.hid hen
  have hk1 : ¬ (s.size : Int) < k := by omega
  have hk0 : ¬ (k : Int) < 0 := by omega
  clear hm hF1 hF2 hd hdl hfd hen hX
  go_enter Tryz.func68, Tryz.ntmps68
  go_wp2_with (go_at_call 86; refine HP.out.mono ?_; rintro e w' ⟨rfl, rfl⟩)
  go_loop [5] (fun v => ∃ q : Nat, k ≤ q ∧ q ≤ en ∧ v = .int .i64 q) (fun v => en - (intOf v).toNat)
  case atStart => exact ⟨k, by omega, by omega, rfl⟩
  case round =>
    obtain ⟨q, hq1, hq2, rfl⟩ := hrel
    by_cases hlt : q < en
    · obtain ⟨hqs, hdq⟩ : ∃ h : q < s.size, isD (s[q]'h) = true := by
        obtain ⟨h, h2⟩ := HF1.out (q - k) (by have := HE.out; omega)
        have e : k + (q - k) = q := by omega
        simp only [e] at h h2
        exact ⟨h, h2⟩
      have HDQ := Lib.hid hdq
      clear hdq
      go_wp2_with (go_at_call 87; refine (digit_yes _ HDQ.out _).mono ?_; rintro e w' ⟨rfl, rfl⟩)
      go_round
      case rel => exact ⟨q + 1, by omega, by omega, by go_num⟩
      case measure => simp [intOf]; omega
    · obtain rfl : q = en := by omega
      obtain ⟨p, b, hmis⟩ : ∃ p b, misL s.data.toList k d = (p, b) := ⟨_, _, rfl⟩
      obtain ⟨x, y, hwl⟩ : ∃ x y, wL (dig s.data.toList k) = (x, y) := ⟨_, _, rfl⟩
      have HMis := Lib.hid hmis
      have HWl := Lib.hid hwl
      rw [hmis] at HM
      rw [hwl] at HW
      unfold misV at HM HW
      have hnd : ∀ h : q < s.size, isD (s[q]'h) = false := by
        have e := HE.out
        subst e
        exact HF2.out
      clear hmis hwl
      cases b with
      | true =>
        have HS := Lib.hid (scanB_bad (k := k) (m := false) HD.out HMis.out)
        by_cases hqs : q < s.size
        · have HDQ := Lib.hid (hnd hqs)
          clear hnd
          go_wp2_with (first | (go_at_call 87; refine (digit_no _ HDQ.out _).mono ?_; rintro e w' ⟨rfl, rfl⟩) | (go_at_call 88; (with_reducible refine HM.out.mono ?_); rintro e w' ⟨rfl, rfl⟩))
          go_ret3
          exact ⟨by rw [HS.out]; rfl, rfl⟩
        · clear hnd
          go_wp2_with (first | (go_at_call 88; (with_reducible refine HM.out.mono ?_); rintro e w' ⟨rfl, rfl⟩))
          go_ret3
          exact ⟨by rw [HS.out]; rfl, rfl⟩
      | false =>
        cases y with
        | false =>
          have HS := Lib.hid (scanB_big (k := k) (m := false) HD.out HMis.out HWl.out)
          by_cases hqs : q < s.size
          · have HDQ := Lib.hid (hnd hqs)
            clear hnd
            go_wp2_with (first | (go_at_call 87; refine (digit_no _ HDQ.out _).mono ?_; rintro e w' ⟨rfl, rfl⟩) | (go_at_call 88; (with_reducible refine HM.out.mono ?_); rintro e w' ⟨rfl, rfl⟩) | (go_at_call 89; (with_reducible refine HW.out.mono ?_); rintro e w' ⟨rfl, rfl⟩))
            go_ret3
            exact ⟨by rw [HS.out]; rfl, rfl⟩
          · clear hnd
            go_wp2_with (first | (go_at_call 88; (with_reducible refine HM.out.mono ?_); rintro e w' ⟨rfl, rfl⟩) | (go_at_call 89; (with_reducible refine HW.out.mono ?_); rintro e w' ⟨rfl, rfl⟩))
            go_ret3
            exact ⟨by rw [HS.out]; rfl, rfl⟩
        | true =>
          have HS := Lib.hid (scanB_pos (k := k) HD.out HMis.out HWl.out)
          rw [← HE.out] at HS
          by_cases hqs : q < s.size
          · have HDQ := Lib.hid (hnd hqs)
            clear hnd
            go_wp2_with (first | (go_at_call 87; refine (digit_no _ HDQ.out _).mono ?_; rintro e w' ⟨rfl, rfl⟩) | (go_at_call 88; (with_reducible refine HM.out.mono ?_); rintro e w' ⟨rfl, rfl⟩) | (go_at_call 89; (with_reducible refine HW.out.mono ?_); rintro e w' ⟨rfl, rfl⟩))
            go_ret3
            exact ⟨by rw [HS.out]; rfl, rfl⟩
          · clear hnd
            go_wp2_with (first | (go_at_call 88; (with_reducible refine HM.out.mono ?_); rintro e w' ⟨rfl, rfl⟩) | (go_at_call 89; (with_reducible refine HW.out.mono ?_); rintro e w' ⟨rfl, rfl⟩))
            go_ret3
            exact ⟨by rw [HS.out]; rfl, rfl⟩

set_option maxRecDepth 100000 in
set_option maxHeartbeats 4000000 in
theorem scan_true (s : ByteArray) (hs : s.size ≤ maxLen) (k : Nat) (hk : k ≤ s.size) (hm : s.data.toList.getD k 0 = 45) (w : World) :
    Calls Tryz.prog 68 #[.string s, .int .i64 k] w fun e w' => e = .returned (scanV (scanB s.data.toList k true (k + 1))) ∧ w = w' := by
  have hk2 : k < s.size := by
    rcases Nat.lt_or_ge k s.size with h | h
    · exact h
    · rw [toList_getD_end s k h] at hm; exact absurd hm (by decide)
  obtain ⟨f, hf⟩ : ∃ f, f = k + 1 := ⟨_, rfl⟩
  rw [← hf]
  have hfi : (k : Int) + 1 = (f : Int) := by omega
  have hfs : f ≤ s.size := by omega
  have HP := Lib.hid (pre_any s k w)
  rw [decide_eq_true hm] at HP
  have hM9 := Lib.hid hs
  unfold maxLen at hs
  obtain ⟨d, hd⟩ : ∃ d, d = (dig s.data.toList f).length := ⟨_, rfl⟩
  have hdl := dig_le s.data.toList f
  rw [← hd, toList_length] at hdl
  have hfd : f + d ≤ s.size := by omega
  obtain ⟨hF1, hF2⟩ := dig_facts s f
  rw [← hd] at hF1
  have HF1 := Lib.hid hF1
  have HF2 : Hid (∀ h : f + d < s.size, isD (s[f + d]'h) = false) := Lib.hid (by subst hd; exact hF2)
  obtain ⟨en, hen⟩ : ∃ en : Nat, en = f + d := ⟨_, rfl⟩
  have HM := Lib.hid (mis_any s f d hfd hM9.out w)
  rw [← hen] at HM
  have hX := ext_dig s f d hd
  rw [← hen] at hX
  have HW := Lib.hid (worth_any (s.extract f en) (by rw [ByteArray.size_extract]; have := hM9.out; omega) (by rw [hX]; exact dig_all _ _) w)
  rw [hX] at HW
  have hen1 : en ≤ s.size := by omega
  have hen2 : f ≤ en := by omega
  have HD := Lib.hid hd
  have HE := Lib.hid hen
  have hk1 : ¬ (s.size : Int) < k := by omega
  have hk0 : ¬ (k : Int) < 0 := by omega
  clear hm hF1 hF2 hd hdl hfd hen hX hf
  go_enter Tryz.func68, Tryz.ntmps68
  go_wp2_with (go_at_call 86; refine HP.out.mono ?_; rintro e w' ⟨rfl, rfl⟩)
  go_loop [5] (fun v => ∃ q : Nat, f ≤ q ∧ q ≤ en ∧ v = .int .i64 q) (fun v => en - (intOf v).toNat)
  case atStart => exact ⟨f, by omega, by omega, rfl⟩
  case round =>
    obtain ⟨q, hq1, hq2, rfl⟩ := hrel
    by_cases hlt : q < en
    · obtain ⟨hqs, hdq⟩ : ∃ h : q < s.size, isD (s[q]'h) = true := by
        obtain ⟨h, h2⟩ := HF1.out (q - f) (by have := HE.out; omega)
        have e : f + (q - f) = q := by omega
        simp only [e] at h h2
        exact ⟨h, h2⟩
      have HDQ := Lib.hid hdq
      clear hdq
      go_wp2_with (go_at_call 87; refine (digit_yes _ HDQ.out _).mono ?_; rintro e w' ⟨rfl, rfl⟩)
      go_round
      case rel => exact ⟨q + 1, by omega, by omega, by go_num⟩
      case measure => simp [intOf]; omega
    · obtain rfl : q = en := by omega
      obtain ⟨p, b, hmis⟩ : ∃ p b, misL s.data.toList f d = (p, b) := ⟨_, _, rfl⟩
      obtain ⟨x, y, hwl⟩ : ∃ x y, wL (dig s.data.toList f) = (x, y) := ⟨_, _, rfl⟩
      have HMis := Lib.hid hmis
      have HWl := Lib.hid hwl
      rw [hmis] at HM
      rw [hwl] at HW
      unfold misV at HM HW
      have hnd : ∀ h : q < s.size, isD (s[q]'h) = false := by
        have e := HE.out
        subst e
        exact HF2.out
      clear hmis hwl
      cases b with
      | true =>
        have HS := Lib.hid (scanB_bad (k := k) (m := true) HD.out HMis.out)
        by_cases hqs : q < s.size
        · have HDQ := Lib.hid (hnd hqs)
          clear hnd
          go_wp2_with (first | (go_at_call 87; refine (digit_no _ HDQ.out _).mono ?_; rintro e w' ⟨rfl, rfl⟩) | (go_at_call 88; (with_reducible refine HM.out.mono ?_); rintro e w' ⟨rfl, rfl⟩))
          go_ret3
          exact ⟨by rw [HS.out]; rfl, rfl⟩
        · clear hnd
          go_wp2_with (first | (go_at_call 88; (with_reducible refine HM.out.mono ?_); rintro e w' ⟨rfl, rfl⟩))
          go_ret3
          exact ⟨by rw [HS.out]; rfl, rfl⟩
      | false =>
        cases y with
        | false =>
          have HS := Lib.hid (scanB_big (k := k) (m := true) HD.out HMis.out HWl.out)
          by_cases hqs : q < s.size
          · have HDQ := Lib.hid (hnd hqs)
            clear hnd
            go_wp2_with (first | (go_at_call 87; refine (digit_no _ HDQ.out _).mono ?_; rintro e w' ⟨rfl, rfl⟩) | (go_at_call 88; (with_reducible refine HM.out.mono ?_); rintro e w' ⟨rfl, rfl⟩) | (go_at_call 89; (with_reducible refine HW.out.mono ?_); rintro e w' ⟨rfl, rfl⟩))
            go_ret3
            exact ⟨by rw [HS.out]; rfl, rfl⟩
          · clear hnd
            go_wp2_with (first | (go_at_call 88; (with_reducible refine HM.out.mono ?_); rintro e w' ⟨rfl, rfl⟩) | (go_at_call 89; (with_reducible refine HW.out.mono ?_); rintro e w' ⟨rfl, rfl⟩))
            go_ret3
            exact ⟨by rw [HS.out]; rfl, rfl⟩
        | true =>
          by_cases hx0 : x = 0
          · subst hx0
            have HS := Lib.hid (scanB_zero (k := k) HD.out HMis.out HWl.out)
            by_cases hqs : q < s.size
            · have HDQ := Lib.hid (hnd hqs)
              clear hnd
              go_wp2_with (first | (go_at_call 87; refine (digit_no _ HDQ.out _).mono ?_; rintro e w' ⟨rfl, rfl⟩) | (go_at_call 88; (with_reducible refine HM.out.mono ?_); rintro e w' ⟨rfl, rfl⟩) | (go_at_call 89; (with_reducible refine HW.out.mono ?_); rintro e w' ⟨rfl, rfl⟩))
              go_ret3
              exact ⟨by rw [HS.out]; rfl, rfl⟩
            · clear hnd
              go_wp2_with (first | (go_at_call 88; (with_reducible refine HM.out.mono ?_); rintro e w' ⟨rfl, rfl⟩) | (go_at_call 89; (with_reducible refine HW.out.mono ?_); rintro e w' ⟨rfl, rfl⟩))
              go_ret3
              exact ⟨by rw [HS.out]; rfl, rfl⟩
          · obtain ⟨hs1, hx1, hx2⟩ := scanB_neg (k := k) HD.out HMis.out HWl.out hx0
            have HS := Lib.hid hs1
            rw [← HE.out] at HS
            have hxb : (x == 0) = false := by rw [beq_eq_false_iff_ne]; exact hx0
            clear hs1
            by_cases hqs : q < s.size
            · have HDQ := Lib.hid (hnd hqs)
              clear hnd
              go_wp2_with (first | (go_at_call 87; refine (digit_no _ HDQ.out _).mono ?_; rintro e w' ⟨rfl, rfl⟩) | (go_at_call 88; (with_reducible refine HM.out.mono ?_); rintro e w' ⟨rfl, rfl⟩) | (go_at_call 89; (with_reducible refine HW.out.mono ?_); rintro e w' ⟨rfl, rfl⟩))
              go_ret3
              exact ⟨by rw [HS.out]; rfl, rfl⟩
            · clear hnd
              go_wp2_with (first | (go_at_call 88; (with_reducible refine HM.out.mono ?_); rintro e w' ⟨rfl, rfl⟩) | (go_at_call 89; (with_reducible refine HW.out.mono ?_); rintro e w' ⟨rfl, rfl⟩))
              go_ret3
              exact ⟨by rw [HS.out]; rfl, rfl⟩

theorem scan_any (s : ByteArray) (hs : s.size ≤ maxLen) (at_ : Int) (w : World) :
    Calls Tryz.prog 68 #[.string s, .int .i64 at_] w fun e w' => e = .returned (scanV (scanL s.data.toList at_)) ∧ w = w' := by
  by_cases h0 : at_ < 0
  · exact scan_low s at_ h0 w
  by_cases h1 : (s.size : Int) < at_
  · exact scan_high s hs at_ (by omega) h1 w
  obtain ⟨k, rfl⟩ : ∃ k : Nat, at_ = (k : Int) := ⟨at_.toNat, by omega⟩
  have e : scanL s.data.toList (k : Int) = scanN s.data.toList k := by
    unfold scanL
    rw [if_neg (by rw [toList_length]; omega)]
    rfl
  rw [e]
  unfold scanN
  by_cases hm : s.data.toList.getD k 0 = 45
  · rw [if_pos hm]
    exact scan_true s hs k (by omega) hm w
  · rw [if_neg hm]
    exact scan_false s hs k (by omega) hm w
def readV (r : Int × Int) : Value := .tuple #[.int .i64 r.1, .int .i64 r.2]
theorem readL_bad {l : List UInt8} {n en e : Int} (h : scanL l 0 = (n, en, e)) (he : e ≠ 0) : readL l = (0, 20) := by
  unfold readL; rw [h, if_neg (fun x => he x.1)]
theorem readL_end {l : List UInt8} {n en e : Int} (h : scanL l 0 = (n, en, e)) (he : en ≠ l.length) : readL l = (0, 20) := by
  unfold readL; rw [h, if_neg (fun x => he x.2)]
theorem readL_ok {l : List UInt8} {n : Int} (h : scanL l 0 = (n, (l.length : Int), 0)) : readL l = (n, 0) := by
  unfold readL; rw [h, if_pos ⟨rfl, rfl⟩]
set_option maxRecDepth 100000 in
set_option maxHeartbeats 1000000 in
theorem read_any (s : ByteArray) (hs : s.size ≤ maxLen) (w : World) :
    Calls Tryz.prog 40 #[.string s] w fun e w' => e = .returned (readV (readL s.data.toList)) ∧ w = w' := by
  have hS := scan_any s hs 0 w
  unfold maxLen at hs
  obtain ⟨n, en, e, h⟩ : ∃ n en e, scanL s.data.toList 0 = (n, en, e) := ⟨_, _, _, rfl⟩
  rw [h] at hS
  unfold scanV at hS
  have HS := Lib.hid hS
  clear hS
  by_cases he : e = 0
  · subst he
    by_cases hen : en = s.size
    · subst hen
      have HR := Lib.hid (readL_ok (by rw [toList_length]; exact h))
      clear h
      go_enter Tryz.func40, Tryz.ntmps40
      go_wp2_with (go_at_call 68; refine HS.out.mono ?_; rintro e w' ⟨rfl, rfl⟩)
      go_ret2
      exact ⟨by rw [HR.out]; rfl, rfl⟩
    · have HR := Lib.hid (readL_end h (by rw [toList_length]; exact hen))
      have hq : (en == (s.size : Int)) = false := by rw [beq_eq_false_iff_ne]; exact hen
      clear h hen
      go_enter Tryz.func40, Tryz.ntmps40
      go_wp2_with (go_at_call 68; refine HS.out.mono ?_; rintro e w' ⟨rfl, rfl⟩)
      go_ret2
      exact ⟨by rw [HR.out]; rfl, rfl⟩
  · have HR := Lib.hid (readL_bad h he)
    have hq : (e == (0 : Int)) = false := by rw [beq_eq_false_iff_ne]; exact he
    clear h he
    go_enter Tryz.func40, Tryz.ntmps40
    go_wp2_with (go_at_call 68; refine HS.out.mono ?_; rintro e w' ⟨rfl, rfl⟩)
    go_ret2
    exact ⟨by rw [HR.out]; rfl, rfl⟩
end Go.Proofs.YtdckldfekepopaaGreatDoor.Nu

namespace Go.Proofs.YtdckldfekepopaaGreatDoor.Nu

theorem txt_head_pos {n : Int} (h : fitB n = true) (h0 : ¬ n < 0) : ∃ c t, txt n = c :: t ∧ isD c = true ∧ (c = 48 → t = []) := by
  rw [txt_pos h h0]
  have ha := digs_all n.natAbs
  by_cases hz : n.natAbs = 0
  · rw [hz, digs_lt (by omega)]
    exact ⟨_, [], rfl, isD_ofD (by omega), fun _ => rfl⟩
  · obtain ⟨c, t, e, hc⟩ := digs_head n.natAbs (by omega)
    rw [e] at ha ⊢
    rw [List.all_cons, Bool.and_eq_true] at ha
    exact ⟨c, t, rfl, ha.1, fun x => absurd x hc⟩
theorem isD_not45 {c : UInt8} (h : isD c = true) : c ≠ 45 := by
  rintro rfl
  exact absurd h (by decide)
theorem drop_pre (a b : List UInt8) : (a ++ b).drop a.length = b := by simp
theorem getD_pre (a b : List UInt8) (j : Nat) : (a ++ b).getD (a.length + j) 0 = b.getD j 0 := by
  rw [← getD_drop, drop_pre]
/-- Behind it a number's text may end. -/
def freeB (rest : List UInt8) : Bool := match rest with
  | [] => true
  | c :: _ => !isD c && !stopB c
theorem freeB_stop {rest : List UInt8} (h : freeB rest = true) : stopB (rest.getD 0 0) = false ∧ ∀ c t, rest = c :: t → isD c = false := by
  match rest, h with
  | [], _ => exact ⟨by decide, fun c t e => by cases e⟩
  | c :: t, h =>
    unfold freeB at h
    rw [Bool.and_eq_true, Bool.not_eq_true', Bool.not_eq_true'] at h
    exact ⟨h.2, fun c' t' e => by cases e; exact h.1⟩
/-- Digits of a number, with no needless 0, read behind a beginning. -/
theorem scanB_digs (pre ds rest : List UInt8) (k m : Nat) (minus : Bool) (hds : ds = digs m) (hm : m ≤ 9007199254740992) (hz : minus = true → m ≠ 0) (hr : freeB rest = true) :
    scanB (pre ++ ds ++ rest) k minus pre.length = (if minus then -(m : Int) else m, ((pre.length + ds.length : Nat) : Int), 0) := by
  obtain ⟨hst, hnd⟩ := freeB_stop hr
  have hd : dig (pre ++ ds ++ rest) pre.length = ds := by
    refine dig_of ds rest ?_ (by rw [hds]; exact digs_all m) hnd
    rw [List.append_assoc, drop_pre]
  have hpos : 1 ≤ ds.length := by rw [hds]; exact digs_pos m
  have hval : val ds = m := by rw [hds, val_digs]
  have hlead : ¬ ((pre ++ ds ++ rest).getD pre.length 0 = 48 ∧ 1 < ds.length) := by
    rintro ⟨h48, h1⟩
    rw [List.append_assoc, ← Nat.add_zero pre.length, getD_pre] at h48
    by_cases h0 : m = 0
    · rw [hds, h0, digs_lt (by omega)] at h1
      simp at h1
    · obtain ⟨c, t, e, hc⟩ := digs_head m (by omega)
      rw [hds, e] at h48
      exact hc (by simpa using h48)
  have hend : (pre ++ ds ++ rest).getD (pre.length + ds.length) 0 = rest.getD 0 0 := by
    have := getD_pre (pre ++ ds) rest 0
    rw [List.length_append, Nat.add_zero] at this
    exact this
  unfold scanB misL
  rw [hd, if_neg (by omega : ¬ ds.length = 0), if_neg hlead, hend, hst, hval]
  have hno : ¬ (9007199254740992 < m ∨ minus = true ∧ m = 0) := by
    rintro (h | ⟨h, h2⟩)
    · omega
    · exact hz h h2
  rw [if_neg (by simp), if_neg hno, Int.natCast_add]
theorem scan_text (n : Int) (h : fitB n = true) (ahead behind : List UInt8) (hr : freeB behind = true) :
    scanN (ahead ++ txt n ++ behind) ahead.length = (n, ((ahead.length + (txt n).length : Nat) : Int), 0) := by
  have hf := fitB_iff.1 h
  by_cases h0 : n < 0
  · have e : ahead ++ txt n ++ behind = (ahead ++ [45]) ++ digs n.natAbs ++ behind := by
      rw [txt_neg h h0]; simp
    have h45 : (ahead ++ txt n ++ behind).getD ahead.length 0 = 45 := by
      rw [txt_neg h h0, List.append_assoc, ← Nat.add_zero ahead.length, getD_pre]; simp
    unfold scanN
    rw [if_pos h45, e]
    have := scanB_digs (ahead ++ [45]) (digs n.natAbs) behind ahead.length n.natAbs true rfl (by omega) (fun _ => by omega) hr
    rw [List.length_append, List.length_singleton] at this
    rw [this, if_pos rfl, txt_neg h h0, List.length_cons, show -(n.natAbs : Int) = n by omega, show ahead.length + 1 + (digs n.natAbs).length = ahead.length + ((digs n.natAbs).length + 1) by omega]
  · obtain ⟨c, t, e, hc, _⟩ := txt_head_pos h h0
    have h45 : ¬ (ahead ++ txt n ++ behind).getD ahead.length 0 = 45 := by
      rw [e, List.append_assoc, ← Nat.add_zero ahead.length, getD_pre]
      simpa using isD_not45 hc
    unfold scanN
    rw [if_neg h45, txt_pos h h0]
    have := scanB_digs ahead (digs n.natAbs) behind ahead.length n.natAbs false rfl (by omega) (fun e => by cases e) hr
    rw [this, if_neg (by simp), show (n.natAbs : Int) = n by omega]
theorem scanL_nat (l : List UInt8) (k : Nat) (h : k ≤ l.length) : scanL l k = scanN l k := by
  unfold scanL
  rw [if_neg (by omega)]; rfl
theorem read_text (n : Int) (h : fitB n = true) : readL (txt n) = (n, 0) := by
  have h1 := scan_text n h [] [] rfl
  rw [List.nil_append, List.append_nil, List.length_nil, Nat.zero_add] at h1
  have h2 : scanL (txt n) 0 = (n, ((txt n).length : Int), 0) := by
    rw [show (0 : Int) = ((0 : Nat) : Int) from rfl, scanL_nat _ _ (Nat.zero_le _), h1]; rfl
  unfold readL
  rw [h2, if_pos ⟨rfl, rfl⟩]

theorem dig_full {l : List UInt8} {k : Nat} (h : k + (dig l k).length = l.length) : dig l k = l.drop k := by
  rw [dig_take, List.take_of_length_le]
  rw [List.length_drop]; omega
theorem scanB_ok {l : List UInt8} {k first : Nat} {minus : Bool} {n en : Int} (hs : scanB l k minus first = (n, en, 0)) :
    1 ≤ (dig l first).length ∧ (1 < (dig l first).length → l.getD first 0 ≠ 48) ∧ val (dig l first) ≤ 9007199254740992 ∧ (minus = true → val (dig l first) ≠ 0) ∧ n = (if minus then -(val (dig l first) : Int) else val (dig l first)) ∧ en = ((first + (dig l first).length : Nat) : Int) := by
  unfold scanB at hs
  by_cases h0 : (dig l first).length = 0
  · have e : misL l first (dig l first).length = ((first : Int), true) := by unfold misL; rw [if_pos h0]
    rw [e, if_pos rfl] at hs
    cases hs
  by_cases h1 : l.getD first 0 = 48 ∧ 1 < (dig l first).length
  · have e : misL l first (dig l first).length = ((first : Int) + 1, true) := by unfold misL; rw [if_neg h0, if_pos h1]
    rw [e, if_pos rfl] at hs
    cases hs
  by_cases h3 : (misL l first (dig l first).length).2 = true
  · rw [if_pos h3] at hs; cases hs
  rw [if_neg h3] at hs
  by_cases h2 : 9007199254740992 < val (dig l first) ∨ minus = true ∧ val (dig l first) = 0
  · rw [if_pos h2] at hs; cases hs
  rw [if_neg h2] at hs
  have a := congrArg (fun x : Int × Int × Int => x.1) hs
  have b := congrArg (fun x : Int × Int × Int => x.2.1) hs
  refine ⟨by omega, fun hx h48 => h1 ⟨h48, hx⟩, by omega, fun hm0 h => h2 (.inr ⟨hm0, h⟩), a.symm, ?_⟩
  exact b.symm.trans (by simp)
theorem text_read (l : List UInt8) (n : Int) (h : readL l = (n, 0)) : fitB n = true ∧ txt n = l := by
  unfold readL at h
  split at h
  · rename_i hc
    obtain ⟨h1, h2⟩ := hc
    have hn : (scanL l 0).1 = n := congrArg Prod.fst h
    have hs : scanN l 0 = (n, (l.length : Int), 0) := by
      rw [← scanL_nat l 0 (Nat.zero_le _)]
      exact Prod.ext hn (Prod.ext h2 h1)
    clear h h1 h2 hn
    unfold scanN at hs
    split at hs
    · rename_i h45
      obtain ⟨a, b, c, d, e, f⟩ := scanB_ok hs
      rw [if_pos rfl] at e
      have hl := dig_full (l := l) (k := 0 + 1) (by omega)
      have hv0 := d rfl
      have hfit : fitB n = true := fitB_iff.2 (by omega)
      refine ⟨hfit, ?_⟩
      have hlne : l ≠ [] := by
        rintro rfl
        exact absurd h45 (by decide)
      obtain ⟨x, t, rfl⟩ := List.exists_cons_of_ne_nil hlne
      have hx : x = 45 := by simpa using h45
      subst hx
      have hlt : dig (45 :: t) (0 + 1) = t := by rw [hl]; rfl
      rw [hlt] at a b c e hv0
      rw [txt_neg hfit (by omega), show n.natAbs = val t by omega]
      congr 1
      refine digs_val (by intro e0; rw [e0] at a; simp at a) (by rw [← hlt]; exact dig_all _ _) (fun h1 h2 => b h1 ?_)
      match t, h2 with
      | y :: t', h2 => simpa using h2
    · rename_i h45
      obtain ⟨a, b, c, d, e, f⟩ := scanB_ok hs
      rw [if_neg (by simp)] at e
      have hl := dig_full (l := l) (k := 0) (by omega)
      rw [List.drop_zero] at hl
      have hfit : fitB n = true := fitB_iff.2 (by omega)
      refine ⟨hfit, ?_⟩
      rw [hl] at a b c e
      rw [txt_pos hfit (by omega), show n.natAbs = val l by omega]
      refine digs_val (by intro e0; rw [e0] at a; simp at a) (by rw [← hl]; exact dig_all _ _) (fun h1 h2 => b h1 ?_)
      match l, h2 with
      | y :: t', h2 => simpa using h2
  · cases h
theorem txt_ne (n : Int) (h : fitB n = true) : txt n ≠ [] := by
  intro e
  by_cases h0 : n < 0
  · rw [txt_neg h h0] at e; cases e
  · rw [txt_pos h h0] at e
    have := digs_pos n.natAbs
    rw [e] at this; simp at this
theorem txt_inj {n m : Int} (hn : fitB n = true) (hm : fitB m = true) : (txt n = txt m) ↔ n = m := by
  constructor
  · intro e
    have h1 := read_text n hn
    rw [e, read_text m hm] at h1
    exact (congrArg Prod.fst h1).symm
  · rintro rfl; rfl
theorem txt_len_pos {n m : Int} (hn : fitB n = true) (hm : fitB m = true) (h0 : ¬ n < 0) (h1 : ¬ m < 0) (hl : (txt n).length ≠ (txt m).length) :
    (txt n).length < (txt m).length ↔ n < m := by
  rw [txt_pos hn h0, txt_pos hm h1] at *
  constructor
  · intro h
    refine Classical.byContradiction fun h2 => ?_
    have := digs_mono (n := m.natAbs) (m := n.natAbs) (by omega)
    omega
  · intro h
    have := digs_mono (n := n.natAbs) (m := m.natAbs) (by omega)
    omega
theorem txt_len_neg {n m : Int} (hn : fitB n = true) (hm : fitB m = true) (h0 : n < 0) (h1 : m < 0) (hl : (txt n).length ≠ (txt m).length) :
    (txt n).length < (txt m).length ↔ ¬ n < m := by
  rw [txt_neg hn h0, txt_neg hm h1] at *
  simp only [List.length_cons] at *
  constructor
  · intro h h2
    have := digs_mono (n := m.natAbs) (m := n.natAbs) (by omega)
    omega
  · intro h
    have := digs_mono (n := n.natAbs) (m := m.natAbs) (by omega)
    omega
theorem txt_lt_pos {n m : Int} (hn : fitB n = true) (hm : fitB m = true) (h0 : ¬ n < 0) (h1 : ¬ m < 0) (hl : (txt n).length = (txt m).length) : txt n < txt m ↔ n < m := by
  rw [txt_pos hn h0, txt_pos hm h1] at *
  rw [lex_val _ _ hl (digs_all _) (digs_all _), val_digs, val_digs]
  omega
theorem txt_lt_neg {n m : Int} (hn : fitB n = true) (hm : fitB m = true) (h0 : n < 0) (h1 : m < 0) (hl : (txt n).length = (txt m).length) : txt n < txt m ↔ m < n := by
  rw [txt_neg hn h0, txt_neg hm h1] at *
  rw [List.cons_lt_cons_iff]
  simp only [List.length_cons, Nat.add_right_cancel_iff] at hl
  rw [lex_val _ _ hl (digs_all _) (digs_all _), val_digs, val_digs]
  constructor
  · rintro (h | ⟨_, h⟩)
    · exact absurd h (UInt8.lt_irrefl _)
    · omega
  · intro h
    exact .inr ⟨rfl, by omega⟩
end Go.Proofs.YtdckldfekepopaaGreatDoor.Nu
