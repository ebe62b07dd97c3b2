/-
  Parse's walk: numbers and texts at a value's beginning.
-/
import Derived.Test.YtgbagdfcdljleaaGreatDoorHv
set_option linter.unusedVariables false
set_option linter.unusedSimpArgs false
namespace Go.Proofs.YtgbagdfcdljleaaGreatDoor
open Go.RowKit Go.Maps

section
variable {W0 W W' : World} {b : Nat} {s : ByteArray} {d : Int} {k : Nat} {op : List Fm} {ov : Value} {ys : List Value} {B : Nat → Prop}
set_option maxRecDepth 100000 in
set_option maxHeartbeats 4000000 in
theorem begin_m (h : PW W0 b s d k op ov ys B W) (hk : k < s.size) (hdp : d + (op.length : Int) ≤ 24) (hc : s[k] = 45) (hd1 : -9223372036854775808 ≤ d) (hd2 : d + (op.length : Int) ≤ 9223372036854775807) (hs : s.size ≤ 200000) :
    Calls Tryz.prog 26 #[.pointer (some ⟨b, 0, none⟩)] W fun e W' => StepR W0 b s d ov B W (numM s.data.toList k op) e W' := by
  obtain ⟨m0, hm⟩ : ∃ m0, op.length = m0 := ⟨_, rfl⟩
  obtain ⟨o, ad, c, hov, -, -, -, -, -⟩ := Ow.own_form h.own
  subst hov
  rw [hm] at h hd2 hdp ⊢
  have h1 := h.alloc (.cells #[.int .i8 0, .bool false, .int .i64 0, .string ⟨#[]⟩, .slice none 0 0, .slice none 0 0] 28)
  have c0 := h1.c0
  have c1 := h1.c1
  have c2 := h1.c2
  have c3 := h1.c3
  have H1 := Lib.hid h1
  have HH := Lib.hid h
  have OF := Lib.hid (h.off W.heap.size (Nat.le_refl _))
  have BX := Lib.hid (Bx.new W #[.int .i8 0, .bool false, .int .i64 0, .string ⟨#[]⟩, .slice none 0 0, .slice none 0 0] 28)
  have g0 : decide ((k : Int) < 0) = false := decide_eq_false (by omega)
  have HD := Lib.hid hm
  have g1 : decide ((s.size : Int) ≤ (k : Int)) = false := decide_eq_false (by omega)
  have g2 : decide (s.size ≤ k) = false := decide_eq_false (by omega)
  have hw : IntKind.i64.wrap (d + (m0 : Int)) = d + (m0 : Int) := wrap_id (by omega) hd2
  have g3 : decide ((24 : Int) < d + (m0 : Int)) = false := decide_eq_false (by omega)
  have i1 : (k : Int) < (s.size : Int) := by omega
  have t110 : ((((s[k]'hk).toNat : Nat) : Int) == 110) = false := (beqU _ 110).trans (decide_eq_false (by rw [hc]; decide))
  have t102 : ((((s[k]'hk).toNat : Nat) : Int) == 102) = false := (beqU _ 102).trans (decide_eq_false (by rw [hc]; decide))
  have t116 : ((((s[k]'hk).toNat : Nat) : Int) == 116) = false := (beqU _ 116).trans (decide_eq_false (by rw [hc]; decide))
  have t45 : ((((s[k]'hk).toNat : Nat) : Int) == 45) = true := (beqU _ 45).trans (decide_eq_true hc)
  have HKS := Lib.hid hk
  clear h h1 hm
  go_enter Tryz.func26, Tryz.ntmps26
  go_wp2_with fail
  go_quiet (fail)
  go_wp2_with fail
  go_quiet (fail)
  go_wp2_with fail
  go_quiet (fail)
  go_wp2_with fail
  refine (number_any (H1.out.below (below_dN (Below.refl _ _) _)) HKS.out (by omega)).mono ?_
  intro e W2 h2
  unfold NumR at h2
  obtain ⟨nn, E, Xx, hsc, r1, r2, r3⟩ := scan_sign (s := s.data.toList) (k := k) (by rw [toList_length]; exact HKS.out)
  rw [hsc] at h2
  simp only at h2
  obtain ⟨r, hr⟩ : ∃ r, numM s.data.toList k op = r := ⟨_, rfl⟩
  have HR := Lib.hid hr
  unfold numM at hr
  rw [hsc] at hr
  simp only at hr
  by_cases h0 : (Xx : Int) = 0
  · rw [if_pos h0, Int.toNat_natCast] at h2 hr
    obtain ⟨rfl, h3, hk2⟩ := h2
    have H3 := Lib.hid h3
    have HK2 := Lib.hid hk2
    have HR := Lib.hid (HR.out.trans hr.symm)
    have R12 := Lib.hid (And.intro r1 r2)
    clear h3 hk2 hr h0 hsc r1 r2 r3
    go_wp2_with fail
    refine (Num_any _ _).mono ?_
    rintro e W3 ⟨rfl, hb3⟩
    have bx2 : Bx W2 W.heap.size _ _ := BX.out.kp (HK2.out.2 W.heap.size (by simp) OF.out.2.1)
    have bx := bx2.below hb3
    have q0 : W3.cell? ⟨W.heap.size, 0, none⟩ = some (.int .i8 0) := bx.cell 0
    have q1 : W3.cell? ⟨W.heap.size, 1, none⟩ = some (.bool false) := bx.cell 1
    have q2 : W3.cell? ⟨W.heap.size, 2, none⟩ = some (.int .i64 0) := bx.cell 2
    have q3 : W3.cell? ⟨W.heap.size, 3, none⟩ = some (.string ⟨#[]⟩) := bx.cell 3
    have q4 : W3.cell? ⟨W.heap.size, 4, none⟩ = some (.slice none 0 0) := bx.cell 4
    have q5 : W3.cell? ⟨W.heap.size, 5, none⟩ = some (.slice none 0 0) := bx.cell 5
    have z0 := bx.frozen 0
    have z1 := bx.frozen 1
    have z2 := bx.frozen 2
    have z3 := bx.frozen 3
    have z4 := bx.frozen 4
    have z5 := bx.frozen 5
    have H3 := Lib.hid (H3.out.below hb3)
    have HF := Lib.hid (Frm.of_kb (W0 := W0) (ov := .slice o m0 c) (B := B) (((((Kb.refl b W).alloc (.cells #[.int .i8 0, .bool false, .int .i64 0, .string ⟨#[]⟩, .slice none 0 0, .slice none 0 0] 28)).drewN _).trans HK2.out).trans (Kb.of_below hb3)))
    clear bx bx2 hb3
    go_wp2_with fail
    refine bodyPost_ret (v := .tuple #[.agg #[.int .i8 2, .bool false, .int .i64 nn, .string ⟨#[]⟩, .slice none 0 0, .slice none 0 0], .bool true]) (by simp [results, Tryz.results26, go_sem, q0, q1, q2, q3, q4, q5]) rfl ?_
    rw [HR.out]
    exact StepR.leaf H3.out OF.out (isVa_leaf 2 false nn ⟨#[]⟩ (by decide) (by have := R12.out; omega) (by decide)) HF.out (Nat.le_refl _)
  · rw [if_neg h0] at h2 hr
    obtain ⟨rfl, hb2⟩ := h2
    have HR := Lib.hid (HR.out.trans hr.symm)
    have HB2 := Lib.hid hb2
    clear hr h0 hsc r1 r2 r3 hb2
    exact ⟨rfl, HR.out ▸ StepR.err rfl HB2.out⟩
set_option maxRecDepth 100000 in
set_option maxHeartbeats 4000000 in
theorem begin_d (h : PW W0 b s d k op ov ys B W) (hk : k < s.size) (hdp : d + (op.length : Int) ≤ 24) (hnd : Nu.isD s[k] = true) (hd1 : -9223372036854775808 ≤ d) (hd2 : d + (op.length : Int) ≤ 9223372036854775807) (hs : s.size ≤ 200000) :
    Calls Tryz.prog 26 #[.pointer (some ⟨b, 0, none⟩)] W fun e W' => StepR W0 b s d ov B W (numM s.data.toList k op) e W' := by
  obtain ⟨m0, hm⟩ : ∃ m0, op.length = m0 := ⟨_, rfl⟩
  obtain ⟨o, ad, c, hov, -, -, -, -, -⟩ := Ow.own_form h.own
  subst hov
  rw [hm] at h hd2 hdp ⊢
  have h1 := h.alloc (.cells #[.int .i8 0, .bool false, .int .i64 0, .string ⟨#[]⟩, .slice none 0 0, .slice none 0 0] 28)
  have c0 := h1.c0
  have c1 := h1.c1
  have c2 := h1.c2
  have c3 := h1.c3
  have H1 := Lib.hid h1
  have HH := Lib.hid h
  have OF := Lib.hid (h.off W.heap.size (Nat.le_refl _))
  have BX := Lib.hid (Bx.new W #[.int .i8 0, .bool false, .int .i64 0, .string ⟨#[]⟩, .slice none 0 0, .slice none 0 0] 28)
  have g0 : decide ((k : Int) < 0) = false := decide_eq_false (by omega)
  have HD := Lib.hid hm
  have g1 : decide ((s.size : Int) ≤ (k : Int)) = false := decide_eq_false (by omega)
  have g2 : decide (s.size ≤ k) = false := decide_eq_false (by omega)
  have hw : IntKind.i64.wrap (d + (m0 : Int)) = d + (m0 : Int) := wrap_id (by omega) hd2
  have g3 : decide ((24 : Int) < d + (m0 : Int)) = false := decide_eq_false (by omega)
  have i1 : (k : Int) < (s.size : Int) := by omega
  have t110 : ((((s[k]'hk).toNat : Nat) : Int) == 110) = false := (beqU _ 110).trans (decide_eq_false (by intro e; rw [e] at hnd; revert hnd; decide))
  have t102 : ((((s[k]'hk).toNat : Nat) : Int) == 102) = false := (beqU _ 102).trans (decide_eq_false (by intro e; rw [e] at hnd; revert hnd; decide))
  have t116 : ((((s[k]'hk).toNat : Nat) : Int) == 116) = false := (beqU _ 116).trans (decide_eq_false (by intro e; rw [e] at hnd; revert hnd; decide))
  have t45 : ((((s[k]'hk).toNat : Nat) : Int) == 45) = false := (beqU _ 45).trans (decide_eq_false (by intro e; rw [e] at hnd; revert hnd; decide))
  have HKS := Lib.hid hk
  have HDG := Lib.hid (show ∀ w, Calls Tryz.prog 35 #[.int .u8 (s[k]'hk).toNat] w fun e w' => e = .returned (.bool true) ∧ w' = w from fun w => by have := Digit_any (s[k]'hk) w; rw [hnd] at this; exact this)
  clear hnd
  clear h h1 hm
  go_enter Tryz.func26, Tryz.ntmps26
  go_wp2_with fail
  go_quiet (fail)
  go_wp2_with fail
  go_quiet (fail)
  go_wp2_with fail
  go_quiet (fail)
  go_wp2_with fail
  refine (HDG.out _).mono ?_
  rintro e wD ⟨rfl, rfl⟩
  go_wp2_with fail
  refine (number_any (H1.out.below (below_dN (Below.refl _ _) _)) HKS.out (by omega)).mono ?_
  intro e W2 h2
  unfold NumR at h2
  obtain ⟨nn, E, Xx, hsc, r1, r2, r3⟩ := scan_sign (s := s.data.toList) (k := k) (by rw [toList_length]; exact HKS.out)
  rw [hsc] at h2
  simp only at h2
  obtain ⟨r, hr⟩ : ∃ r, numM s.data.toList k op = r := ⟨_, rfl⟩
  have HR := Lib.hid hr
  unfold numM at hr
  rw [hsc] at hr
  simp only at hr
  by_cases h0 : (Xx : Int) = 0
  · rw [if_pos h0, Int.toNat_natCast] at h2 hr
    obtain ⟨rfl, h3, hk2⟩ := h2
    have H3 := Lib.hid h3
    have HK2 := Lib.hid hk2
    have HR := Lib.hid (HR.out.trans hr.symm)
    have R12 := Lib.hid (And.intro r1 r2)
    clear h3 hk2 hr h0 hsc r1 r2 r3
    go_wp2_with fail
    refine (Num_any _ _).mono ?_
    rintro e W3 ⟨rfl, hb3⟩
    have bx2 : Bx W2 W.heap.size _ _ := BX.out.kp (HK2.out.2 W.heap.size (by simp) OF.out.2.1)
    have bx := bx2.below hb3
    have q0 : W3.cell? ⟨W.heap.size, 0, none⟩ = some (.int .i8 0) := bx.cell 0
    have q1 : W3.cell? ⟨W.heap.size, 1, none⟩ = some (.bool false) := bx.cell 1
    have q2 : W3.cell? ⟨W.heap.size, 2, none⟩ = some (.int .i64 0) := bx.cell 2
    have q3 : W3.cell? ⟨W.heap.size, 3, none⟩ = some (.string ⟨#[]⟩) := bx.cell 3
    have q4 : W3.cell? ⟨W.heap.size, 4, none⟩ = some (.slice none 0 0) := bx.cell 4
    have q5 : W3.cell? ⟨W.heap.size, 5, none⟩ = some (.slice none 0 0) := bx.cell 5
    have z0 := bx.frozen 0
    have z1 := bx.frozen 1
    have z2 := bx.frozen 2
    have z3 := bx.frozen 3
    have z4 := bx.frozen 4
    have z5 := bx.frozen 5
    have H3 := Lib.hid (H3.out.below hb3)
    have HF := Lib.hid (Frm.of_kb (W0 := W0) (ov := .slice o m0 c) (B := B) (((((Kb.refl b W).alloc (.cells #[.int .i8 0, .bool false, .int .i64 0, .string ⟨#[]⟩, .slice none 0 0, .slice none 0 0] 28)).drewN _).trans HK2.out).trans (Kb.of_below hb3)))
    clear bx bx2 hb3
    go_wp2_with fail
    refine bodyPost_ret (v := .tuple #[.agg #[.int .i8 2, .bool false, .int .i64 nn, .string ⟨#[]⟩, .slice none 0 0, .slice none 0 0], .bool true]) (by simp [results, Tryz.results26, go_sem, q0, q1, q2, q3, q4, q5]) rfl ?_
    rw [HR.out]
    exact StepR.leaf H3.out OF.out (isVa_leaf 2 false nn ⟨#[]⟩ (by decide) (by have := R12.out; omega) (by decide)) HF.out (Nat.le_refl _)
  · rw [if_neg h0] at h2 hr
    obtain ⟨rfl, hb2⟩ := h2
    have HR := Lib.hid (HR.out.trans hr.symm)
    have HB2 := Lib.hid hb2
    clear hr h0 hsc r1 r2 r3 hb2
    exact ⟨rfl, HR.out ▸ StepR.err rfl HB2.out⟩
set_option maxRecDepth 100000 in
set_option maxHeartbeats 4000000 in
theorem begin_q (h : PW W0 b s d k op ov ys B W) (hk : k < s.size) (hdp : d + (op.length : Int) ≤ 24) (hE : Ru.Env W0) (hc : s[k] = 34) (hd1 : -9223372036854775808 ≤ d) (hd2 : d + (op.length : Int) ≤ 9223372036854775807) (hs : s.size ≤ 200000) :
    Calls Tryz.prog 26 #[.pointer (some ⟨b, 0, none⟩)] W fun e W' => StepR W0 b s d ov B W (texM s.data.toList k op) e W' := by
  obtain ⟨m0, hm⟩ : ∃ m0, op.length = m0 := ⟨_, rfl⟩
  obtain ⟨o, ad, c, hov, -, -, -, -, -⟩ := Ow.own_form h.own
  subst hov
  rw [hm] at h hd2 hdp ⊢
  have h1 := h.alloc (.cells #[.int .i8 0, .bool false, .int .i64 0, .string ⟨#[]⟩, .slice none 0 0, .slice none 0 0] 28)
  have c0 := h1.c0
  have c1 := h1.c1
  have c2 := h1.c2
  have c3 := h1.c3
  have H1 := Lib.hid h1
  have HH := Lib.hid h
  have OF := Lib.hid (h.off W.heap.size (Nat.le_refl _))
  have BX := Lib.hid (Bx.new W #[.int .i8 0, .bool false, .int .i64 0, .string ⟨#[]⟩, .slice none 0 0, .slice none 0 0] 28)
  have g0 : decide ((k : Int) < 0) = false := decide_eq_false (by omega)
  have HD := Lib.hid hm
  have g1 : decide ((s.size : Int) ≤ (k : Int)) = false := decide_eq_false (by omega)
  have g2 : decide (s.size ≤ k) = false := decide_eq_false (by omega)
  have hw : IntKind.i64.wrap (d + (m0 : Int)) = d + (m0 : Int) := wrap_id (by omega) hd2
  have g3 : decide ((24 : Int) < d + (m0 : Int)) = false := decide_eq_false (by omega)
  have i1 : (k : Int) < (s.size : Int) := by omega
  have t110 : ((((s[k]'hk).toNat : Nat) : Int) == 110) = false := (beqU _ 110).trans (decide_eq_false (by rw [hc]; decide))
  have t102 : ((((s[k]'hk).toNat : Nat) : Int) == 102) = false := (beqU _ 102).trans (decide_eq_false (by rw [hc]; decide))
  have t116 : ((((s[k]'hk).toNat : Nat) : Int) == 116) = false := (beqU _ 116).trans (decide_eq_false (by rw [hc]; decide))
  have t45 : ((((s[k]'hk).toNat : Nat) : Int) == 45) = false := (beqU _ 45).trans (decide_eq_false (by rw [hc]; decide))
  have t34 : ((((s[k]'hk).toNat : Nat) : Int) == 34) = true := (beqU _ 34).trans (decide_eq_true hc)
  have HKS := Lib.hid hk
  have hnd : Nu.isD (s[k]'hk) = false := by rw [hc]; decide
  have HDG := Lib.hid (show ∀ w, Calls Tryz.prog 35 #[.int .u8 (s[k]'hk).toNat] w fun e w' => e = .returned (.bool false) ∧ w' = w from fun w => by have := Digit_any (s[k]'hk) w; rw [hnd] at this; exact this)
  have HQ := Lib.hid (show s.data.toList[k]? = some 34 from by rw [toList_getElem s k hk, hc])
  clear hnd hc
  clear h h1 hm
  go_enter Tryz.func26, Tryz.ntmps26
  go_wp2_with fail
  go_quiet (fail)
  go_wp2_with fail
  go_quiet (fail)
  go_wp2_with fail
  go_quiet (fail)
  go_wp2_with fail
  refine (HDG.out _).mono ?_
  rintro e wD ⟨rfl, rfl⟩
  go_wp2_with fail
  refine (text_any (H1.out.below (below_dN (Below.refl _ _) _)) hE HQ.out (by omega)).mono ?_
  intro e W2 h2
  unfold TexR at h2
  obtain ⟨r, hr⟩ : ∃ r, texM s.data.toList k op = r := ⟨_, rfl⟩
  have HR := Lib.hid hr
  unfold texM at hr
  obtain ⟨K, hK⟩ : ∃ K : ByteArray, K = ⟨(Ru.unqL s.data.toList k).1.toArray⟩ := ⟨_, rfl⟩
  by_cases h0 : (Ru.unqL s.data.toList k).2.2 = 0
  · rw [if_pos h0] at h2 hr
    unfold texV at hr
    rw [← hK] at h2 hr
    obtain ⟨rfl, h3, hk2⟩ := h2
    have H3 := Lib.hid h3
    have HK2 := Lib.hid hk2
    have HR := Lib.hid (HR.out.trans hr.symm)
    have hKz : K.size ≤ maxLen := by
      have h8 := unqL_len s.data.toList k
      rw [toList_length] at h8
      rw [← toList_length, hK]
      show (Ru.unqL s.data.toList k).1.length ≤ maxLen
      unfold maxLen
      omega
    have HKZ := Lib.hid hKz
    clear h3 hk2 hr h0 hK hKz
    go_wp2_with fail
    refine (Text_any _ _).mono ?_
    rintro e W3 ⟨rfl, hb3⟩
    have bx2 : Bx W2 W.heap.size _ _ := BX.out.kp (HK2.out.2 W.heap.size (by simp) OF.out.2.1)
    have bx := bx2.below hb3
    have q0 : W3.cell? ⟨W.heap.size, 0, none⟩ = some (.int .i8 0) := bx.cell 0
    have q1 : W3.cell? ⟨W.heap.size, 1, none⟩ = some (.bool false) := bx.cell 1
    have q2 : W3.cell? ⟨W.heap.size, 2, none⟩ = some (.int .i64 0) := bx.cell 2
    have q3 : W3.cell? ⟨W.heap.size, 3, none⟩ = some (.string ⟨#[]⟩) := bx.cell 3
    have q4 : W3.cell? ⟨W.heap.size, 4, none⟩ = some (.slice none 0 0) := bx.cell 4
    have q5 : W3.cell? ⟨W.heap.size, 5, none⟩ = some (.slice none 0 0) := bx.cell 5
    have z0 := bx.frozen 0
    have z1 := bx.frozen 1
    have z2 := bx.frozen 2
    have z3 := bx.frozen 3
    have z4 := bx.frozen 4
    have z5 := bx.frozen 5
    have H3 := Lib.hid (H3.out.below hb3)
    have HF := Lib.hid (Frm.of_kb (W0 := W0) (ov := .slice o m0 c) (B := B) (((((Kb.refl b W).alloc (.cells #[.int .i8 0, .bool false, .int .i64 0, .string ⟨#[]⟩, .slice none 0 0, .slice none 0 0] 28)).drewN _).trans HK2.out).trans (Kb.of_below hb3)))
    clear bx bx2 hb3
    go_wp2_with fail
    refine bodyPost_ret (v := .tuple #[.agg #[.int .i8 3, .bool false, .int .i64 0, .string K, .slice none 0 0, .slice none 0 0], .bool true]) (by simp [results, Tryz.results26, go_sem, q0, q1, q2, q3, q4, q5]) rfl ?_
    rw [HR.out]
    exact StepR.leaf H3.out OF.out (isVa_leaf 3 false 0 K (by decide) (by decide) HKZ.out) HF.out (Nat.le_refl _)
  · rw [if_neg h0] at h2 hr
    obtain ⟨rfl, hb2⟩ := h2
    have HR := Lib.hid (HR.out.trans hr.symm)
    have HB2 := Lib.hid hb2
    clear hr h0 hb2 hK
    exact ⟨rfl, HR.out ▸ StepR.err rfl HB2.out⟩
end
end Go.Proofs.YtgbagdfcdljleaaGreatDoor
