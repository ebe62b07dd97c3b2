/-
  SchemaAttrs: attributes hang on the type and the id alone.
-/
import Derived.Test.YtmgodamdpemmhaaGreatDoorHc
set_option linter.unusedVariables false
namespace Go.Proofs.YtmgodamdpemmhaaGreatDoor
open Go.RowKit Go.Maps Go.ChangeMaps Go.WideMaps

theorem cat_ne {K p q : ByteArray} (h : p ≠ q) : K ++ ⟨#[58]⟩ ++ p ≠ K ++ ⟨#[58]⟩ ++ q := by
  intro e
  apply h
  have e2 := congrArg (fun s : ByteArray => s.data.toList) e
  simp only [ByteArray.data_append, Array.toList_append] at e2
  exact ByteArray.ext (Array.toList_inj.1 (List.append_cancel_left e2))
theorem last_size (p : ByteArray) : ((p.extract (p.size - 1) p.size).size : Int) = min (p.size : Int) 1 := by
  rw [ByteArray.size_extract]
  omega

set_option maxRecDepth 100000 in
set_option maxHeartbeats 8000000 in
/-- The call, where all is short and the type is none. -/
theorem attrs_no (K p q nm : ByteArray) (w : World) (hE : Env9 w) (h1 : K.size ≤ 200) (h2 : p.size ≤ 200) (h3 : q.size ≤ 200) (h4 : nm.size ≤ 200) (hk : known K = false) :
    Calls Tryz.prog 4 #[.string K, .string p, .string q, .string nm] w fun e w' => e = .returned (.bool true) ∧ Below w.heap.size w w' := by
  have HA : Hid (∀ (ph at' : ByteArray) (w1 : World), ph.size ≤ 200 → KB w w1 → Calls Tryz.prog 14 #[.string K, .string ph, .string at'] w1 fun e w' => e = .returned (.tuple #[.string ⟨#[]⟩, .int .i64 90]) ∧ Below w1.heap.size w1 w') := Lib.hid fun ph at' w1 hp hb => by
    have h := Attr_any K ph at' w1 (hE.kb hb).2 (by have := (hE.kb hb).1.1; omega) h1 hp
    unfold attrV at h
    rw [hk, if_neg Bool.false_ne_true] at h
    exact h
  have HT : Hid (∀ w1, KB w w1 → Calls Tryz.prog 22 #[] w1 fun e w' => ∃ v ks, e = .returned v ∧ isK w' ks v ∧ ks.length = 4 ∧ (∀ s : ByteArray, s ∈ ks ↔ known s = true) ∧ Below w1.heap.size w1 w') := Lib.hid fun w1 hb => Types_any w1 (hE.kb hb).2 (by have := (hE.kb hb).1.1; omega)
  have HW : Hid (∀ w1, KB w w1 → Calls Tryz.prog 9 #[] w1 fun e w' => e = .returned (.bool true) ∧ Below w1.heap.size w1 w') := Lib.hid fun w1 hb => wakes9_any w1 (hE.kb hb)
  have y1 : decide ((200 : Int) < (K.size : Int)) = false := decide_eq_false (by omega)
  have y2 : decide ((200 : Int) < (p.size : Int)) = false := decide_eq_false (by omega)
  have y3 : decide ((200 : Int) < (q.size : Int)) = false := decide_eq_false (by omega)
  have y4 : decide ((200 : Int) < (nm.size : Int)) = false := decide_eq_false (by omega)
  clear hE
  go_enter Tryz.func4, Tryz.ntmps4
  go_wp2_with fail
  refine (HA.out _ _ _ h2 (Below.refl _ _)).mono ?_
  rintro e w1 ⟨rfl, hb1⟩
  go_wp2_with fail
  refine (HA.out _ _ _ h3 hb1).mono ?_
  rintro e w2 ⟨rfl, hb2⟩
  have hb2 := hb1.trans (hb2.mono hb1.size)
  clear hb1
  go_wp2_with fail
  refine (HA.out _ _ _ h2 hb2).mono ?_
  rintro e w3 ⟨rfl, hb3⟩
  have hb3 := hb2.trans (hb3.mono hb2.size)
  clear hb2
  go_wp2_with fail
  refine (HA.out _ _ _ h2 hb3).mono ?_
  rintro e w4 ⟨rfl, hb4⟩
  have hb4 := hb3.trans (hb4.mono hb3.size)
  clear hb3
  go_wp2_with fail
  refine (HT.out _ hb4).mono ?_
  rintro e w5 ⟨v, ks, rfl, ⟨a, cap, ⟨o, rfl, hc1, hc2, ho⟩, hks⟩, hlen, hmem, hb5⟩
  have HB5 := Lib.hid (hb4.trans (hb5.mono hb4.size))
  have HK := Lib.hid hks
  have hKn : ∀ i (h : i < ks.length), ks[i] ≠ K := fun i h e => by
    have := (hmem ks[i]).1 (List.getElem_mem h)
    rw [e, hk] at this
    cases this
  have HKN := Lib.hid hKn
  unfold maxLen at hc2
  clear hb4 hb5 hks hmem hKn hlen
  go_wp2_with fail
  go_loopw [17, 66] (fun kn i wr => kn = .bool false ∧ (∃ j : Nat, j ≤ ks.length ∧ i = .int .i64 j) ∧ wr = w5) (fun _ i _ => ks.length - (intOf i).toNat)
  case atStart => exact ⟨rfl, ⟨0, by omega, rfl⟩, rfl⟩
  case round =>
    obtain ⟨rfl, ⟨j, hj, rfl⟩, rfl⟩ := hrel
    by_cases hlt : j < ks.length
    · obtain rfl := ho (by omega)
      have hcell := (HK.out j hlt).1
      have z := beq_toList (HKN.out j hlt)
      generalize ks[j] = s at *
      go_wp2_with fail
      go_roundw
      case rel => exact ⟨rfl, ⟨j + 1, by omega, by go_num⟩, trivial⟩
      case measure => simp [intOf]; omega
    · obtain rfl : j = ks.length := by omega
      go_wp2_with (go_at_call 9; refine (HW.out _ HB5.out).mono ?_; rintro e w6 ⟨rfl, hb6⟩)
      go_ret
      exact ⟨rfl, HB5.out.trans (hb6.mono HB5.out.size)⟩
set_option maxRecDepth 100000 in
set_option maxHeartbeats 8000000 in
/-- The call, where all is short and the type is one. -/
theorem attrs_yes (K p q nm : ByteArray) (w : World) (hE : Env9 w) (h1 : K.size ≤ 200) (h2 : p.size ≤ 200) (h3 : q.size ≤ 200) (h4 : nm.size ≤ 200) (hk : known K = true) :
    Calls Tryz.prog 4 #[.string K, .string p, .string q, .string nm] w fun e w' => e = .returned (.bool true) ∧ Below w.heap.size w w' := by
  have HA : Hid (∀ (ph at' : ByteArray) (w1 : World), ph.size ≤ 200 → KB w w1 → Calls Tryz.prog 14 #[.string K, .string ph, .string at'] w1 fun e w' => e = .returned (.tuple #[.string (attrV K ph at').1, .int .i64 (attrV K ph at').2]) ∧ Below w1.heap.size w1 w') := Lib.hid fun ph at' w1 hp hb => Attr_any K ph at' w1 (hE.kb hb).2 (by have := (hE.kb hb).1.1; omega) h1 hp
  have E1 : ∀ ph, attrV K ph ⟨#[65, 114, 110]⟩ = (K ++ ⟨#[58]⟩ ++ ph, 0) := fun ph => by unfold attrV; rw [if_pos hk, if_pos rfl]
  have E2 : attrV K p ⟨#[90, 111, 110, 101]⟩ = (p.extract (p.size - 1) p.size, 0) := by unfold attrV; rw [if_pos hk, if_neg (by decide), if_pos rfl]
  have HA1 := Lib.hid fun w1 hb => HA.out p ⟨#[65, 114, 110]⟩ w1 h2 hb
  have HA2 := Lib.hid fun w1 hb => HA.out q ⟨#[65, 114, 110]⟩ w1 h3 hb
  have HA3 := Lib.hid fun w1 hb => HA.out p ⟨#[90, 111, 110, 101]⟩ w1 h2 hb
  have HA4 := Lib.hid fun w1 hb => HA.out p nm w1 h2 hb
  rw [E1] at HA1 HA2
  rw [E2] at HA3
  dsimp only at HA1 HA2 HA3
  have hz := last_size p
  generalize p.extract (p.size - 1) p.size = Z at *
  have hcat : ∀ u v : ByteArray, u ≠ v → K ++ ⟨#[58]⟩ ++ u ≠ K ++ ⟨#[58]⟩ ++ v := fun u v => cat_ne
  obtain ⟨f, hf⟩ : ∃ f : ByteArray → ByteArray, ∀ u, K ++ ⟨#[58]⟩ ++ u = f u := ⟨_, fun u => rfl⟩
  simp only [hf] at HA1 HA2 hcat
  have hT : ((nm.toList == [65, 114, 110]) = true ∧ nm = ⟨#[65, 114, 110]⟩) ∨ ((nm.toList == [65, 114, 110]) = false ∧ ((nm.toList == [90, 111, 110, 101]) = true ∧ nm = ⟨#[90, 111, 110, 101]⟩)) ∨ ((nm.toList == [65, 114, 110]) = false ∧ (nm.toList == [90, 111, 110, 101]) = false) := by
    by_cases e1 : nm = ⟨#[65, 114, 110]⟩
    · exact .inl ⟨by subst e1; rw [ByteArray.toList_eq]; rfl, e1⟩
    · by_cases e2 : nm = ⟨#[90, 111, 110, 101]⟩
      · exact .inr (.inl ⟨lit_no e1, by subst e2; rw [ByteArray.toList_eq]; rfl, e2⟩)
      · exact .inr (.inr ⟨lit_no e1, lit_no e2⟩)
  have hV : ((nm.toList == [65, 114, 110]) = true → (attrV K p nm).2 = 0) ∧ ((nm.toList == [90, 111, 110, 101]) = true → (attrV K p nm).2 = 0) ∧ ((nm.toList == [65, 114, 110]) = false → (nm.toList == [90, 111, 110, 101]) = false → (attrV K p nm).2 = 91) := by
    unfold attrV
    rw [if_pos hk]
    have nt : ∀ {b : Bool}, b = true → b = false → False := fun h1 h2 => by rw [h1] at h2; cases h2
    rcases hT with ⟨t1, e1⟩ | ⟨t1, t2, e2⟩ | ⟨t1, t2⟩
    · rw [if_pos e1]
      exact ⟨fun _ => rfl, fun _ => rfl, fun h => (nt t1 h).elim⟩
    · have e1 : nm ≠ ⟨#[65, 114, 110]⟩ := fun e => by rw [e2] at e; exact absurd e (by decide)
      rw [if_neg e1, if_pos e2]
      exact ⟨fun _ => rfl, fun _ => rfl, fun _ h => (nt t2 h).elim⟩
    · have e1 : nm ≠ ⟨#[65, 114, 110]⟩ := fun e => by rw [e, ByteArray.toList_eq] at t1; cases t1
      have e2 : nm ≠ ⟨#[90, 111, 110, 101]⟩ := fun e => by rw [e, ByteArray.toList_eq] at t2; cases t2
      rw [if_neg e1, if_neg e2]
      exact ⟨fun h => (nt h t1).elim, fun h => (nt h t2).elim, fun _ _ => rfl⟩
  generalize (attrV K p nm).1 = V1 at *
  generalize (attrV K p nm).2 = V2 at *
  have HT : Hid (∀ w1, KB w w1 → Calls Tryz.prog 22 #[] w1 fun e w' => ∃ v ks, e = .returned v ∧ isK w' ks v ∧ ks.length = 4 ∧ (∀ s : ByteArray, s ∈ ks ↔ known s = true) ∧ Below w1.heap.size w1 w') := Lib.hid fun w1 hb => Types_any w1 (hE.kb hb).2 (by have := (hE.kb hb).1.1; omega)
  have HW : Hid (∀ w1, KB w w1 → Calls Tryz.prog 9 #[] w1 fun e w' => e = .returned (.bool true) ∧ Below w1.heap.size w1 w') := Lib.hid fun w1 hb => wakes9_any w1 (hE.kb hb)
  have y1 : decide ((200 : Int) < (K.size : Int)) = false := decide_eq_false (by omega)
  have y2 : decide ((200 : Int) < (p.size : Int)) = false := decide_eq_false (by omega)
  have y3 : decide ((200 : Int) < (q.size : Int)) = false := decide_eq_false (by omega)
  have y4 : decide ((200 : Int) < (nm.size : Int)) = false := decide_eq_false (by omega)
  clear hE
  go_enter Tryz.func4, Tryz.ntmps4
  go_wp2_with fail
  refine (HA1.out _ (Below.refl _ _)).mono ?_
  rintro e w1 ⟨rfl, hb1⟩
  go_wp2_with fail
  refine (HA2.out _ hb1).mono ?_
  rintro e w2 ⟨rfl, hb2⟩
  have hb2 := hb1.trans (hb2.mono hb1.size)
  clear hb1
  go_wp2_with fail
  refine (HA3.out _ hb2).mono ?_
  rintro e w3 ⟨rfl, hb3⟩
  have hb3 := hb2.trans (hb3.mono hb2.size)
  clear hb2
  go_wp2_with fail
  refine (HA4.out _ hb3).mono ?_
  rintro e w4 ⟨rfl, hb4⟩
  have hb4 := hb3.trans (hb4.mono hb3.size)
  clear hb3
  go_wp2_with fail
  refine (HT.out _ hb4).mono ?_
  rintro e w5 ⟨v, ks, rfl, ⟨a, cap, ⟨o, rfl, hc1, hc2, ho⟩, hks⟩, hlen, hmem, hb5⟩
  have HB5 := Lib.hid (hb4.trans (hb5.mono hb4.size))
  have HK := Lib.hid hks
  have hin : K ∈ ks := (hmem K).2 hk
  have HIN := Lib.hid hin
  clear hin
  unfold maxLen at hc2
  clear hb4 hb5 hks hmem hlen HA E1 E2 hf
  go_wp2_with fail
  go_loopw [17, 66] (fun kn i wr => (∃ j : Nat, j ≤ ks.length ∧ i = .int .i64 j ∧ kn = .bool ((ks.take j).any (fun s => decide (s = K)))) ∧ wr = w5) (fun _ i _ => ks.length - (intOf i).toNat)
  case atStart => exact ⟨⟨0, by omega, rfl, by simp⟩, rfl⟩
  case round =>
    obtain ⟨⟨j, hj, rfl, rfl⟩, rfl⟩ := hrel
    by_cases hlt : j < ks.length
    · obtain rfl := ho (by omega)
      have hcell := (HK.out j hlt).1
      have hst : (ks.take (j + 1)).any (fun s => decide (s = K)) = ((ks.take j).any (fun s => decide (s = K)) || decide (ks[j] = K)) := by
        rw [List.take_succ_eq_append_getElem hlt, List.any_append]
        simp
      cases hm : (ks.take j).any (fun s => decide (s = K)) with
      | true =>
        rw [hm, Bool.true_or] at hst
        have HS := Lib.hid hst
        clear hst hm
        generalize ks[j] = s at *
        go_wp2_with fail
        go_roundw
        case rel => exact ⟨⟨j + 1, by omega, by go_num, by rw [HS.out]⟩, trivial⟩
        case measure => simp [intOf]; omega
      | false =>
        rw [hm, Bool.false_or] at hst
        by_cases he : ks[j] = K
        · rw [decide_eq_true he] at hst
          have HS := Lib.hid hst
          rw [he] at hcell
          have z : (K.toList == K.toList) = true := beq_self_eq_true _
          clear hst hm he
          go_wp2_with fail
          go_roundw
          case rel => exact ⟨⟨j + 1, by omega, by go_num, by rw [HS.out]⟩, trivial⟩
          case measure => simp [intOf]; omega
        · rw [decide_eq_false he] at hst
          have HS := Lib.hid hst
          have z := beq_toList he
          clear hst hm he
          generalize ks[j] = s at *
          go_wp2_with fail
          go_roundw
          case rel => exact ⟨⟨j + 1, by omega, by go_num, by rw [HS.out]⟩, trivial⟩
          case measure => simp [intOf]; omega
    · obtain rfl : j = ks.length := by omega
      have hd : (ks.take ks.length).any (fun s => decide (s = K)) = true := by rw [List.take_of_length_le (Nat.le_refl _), List.any_eq_true]; exact ⟨K, HIN.out, decide_eq_true rfl⟩
      rw [hd]
      clear hd
      have hz2 : ((Z.size : Int) == min (p.size : Int) 1) = true := by rw [hz]; exact beq_self_eq_true _
      obtain ⟨hv1, hv2, hv3⟩ := hV
      have hpq : ∃ b : Bool, ((f p).toList == (f q).toList) = b ∧ (p.toList == q.toList) = b := by
        by_cases e : p = q
        · subst e; exact ⟨true, beq_self_eq_true _, beq_self_eq_true _⟩
        · exact ⟨false, beq_toList (hcat p q e), beq_toList e⟩
      obtain ⟨b, hb1, hb2⟩ := hpq
      clear hcat
      rcases hT with ⟨t1, _⟩ | ⟨t1, t2, _⟩ | ⟨t1, t2⟩
      · obtain rfl := hv1 t1
        clear hv1 hv2 hv3
        go_wp2_with (go_at_call 9; refine (HW.out _ HB5.out).mono ?_; rintro e w6 ⟨rfl, hb6⟩)
        go_ret
        exact ⟨rfl, HB5.out.trans (hb6.mono HB5.out.size)⟩
      · obtain rfl := hv2 t2
        clear hv1 hv2 hv3
        go_wp2_with (go_at_call 9; refine (HW.out _ HB5.out).mono ?_; rintro e w6 ⟨rfl, hb6⟩)
        go_ret
        exact ⟨rfl, HB5.out.trans (hb6.mono HB5.out.size)⟩
      · obtain rfl := hv3 t1 t2
        clear hv1 hv2 hv3
        go_wp2_with (go_at_call 9; refine (HW.out _ HB5.out).mono ?_; rintro e w6 ⟨rfl, hb6⟩)
        go_ret
        exact ⟨rfl, HB5.out.trans (hb6.mono HB5.out.size)⟩

set_option maxRecDepth 100000 in
set_option maxHeartbeats 8000000 in
/-- **SchemaAttrs.** -/
theorem attrs_walk (K p q nm : ByteArray) (w : World) (hE : Env9 w) (z1 : K.size ≤ maxLen) (z2 : p.size ≤ maxLen) (z3 : q.size ≤ maxLen) (z4 : nm.size ≤ maxLen) :
    Calls Tryz.prog 4 #[.string K, .string p, .string q, .string nm] w fun e w' => e = .returned (.bool true) ∧ Below w.heap.size w w' := by
  unfold maxLen at z1 z2 z3 z4
  have HW := Lib.hid (wakes9_any w hE)
  by_cases h1 : K.size ≤ 200
  · by_cases h2 : p.size ≤ 200
    · by_cases h3 : q.size ≤ 200
      · by_cases h4 : nm.size ≤ 200
        · cases hk : known K with
          | true => exact attrs_yes K p q nm w hE h1 h2 h3 h4 hk
          | false => exact attrs_no K p q nm w hE h1 h2 h3 h4 hk
        · have y1 : decide ((200 : Int) < (K.size : Int)) = false := decide_eq_false (by omega)
          have y2 : decide ((200 : Int) < (p.size : Int)) = false := decide_eq_false (by omega)
          have y3 : decide ((200 : Int) < (q.size : Int)) = false := decide_eq_false (by omega)
          have y4 : decide ((200 : Int) < (nm.size : Int)) = true := decide_eq_true (by omega)
          clear hE h4
          go_enter Tryz.func4, Tryz.ntmps4
          go_wp2_with (go_at_call 9; refine HW.out.mono ?_; rintro e w6 ⟨rfl, hb6⟩)
          go_ret
          exact ⟨rfl, hb6⟩
      · have y1 : decide ((200 : Int) < (K.size : Int)) = false := decide_eq_false (by omega)
        have y2 : decide ((200 : Int) < (p.size : Int)) = false := decide_eq_false (by omega)
        have y3 : decide ((200 : Int) < (q.size : Int)) = true := decide_eq_true (by omega)
        clear hE h3
        go_enter Tryz.func4, Tryz.ntmps4
        go_wp2_with (go_at_call 9; refine HW.out.mono ?_; rintro e w6 ⟨rfl, hb6⟩)
        go_ret
        exact ⟨rfl, hb6⟩
    · have y1 : decide ((200 : Int) < (K.size : Int)) = false := decide_eq_false (by omega)
      have y2 : decide ((200 : Int) < (p.size : Int)) = true := decide_eq_true (by omega)
      clear hE h2
      go_enter Tryz.func4, Tryz.ntmps4
      go_wp2_with (go_at_call 9; refine HW.out.mono ?_; rintro e w6 ⟨rfl, hb6⟩)
      go_ret
      exact ⟨rfl, hb6⟩
  · have y1 : decide ((200 : Int) < (K.size : Int)) = true := decide_eq_true (by omega)
    clear hE h1
    go_enter Tryz.func4, Tryz.ntmps4
    go_wp2_with (go_at_call 9; refine HW.out.mono ?_; rintro e w6 ⟨rfl, hb6⟩)
    go_ret
    exact ⟨rfl, hb6⟩
end Go.Proofs.YtmgodamdpemmhaaGreatDoor
