/-
  Parse's walk: words, numbers, texts at a value's beginning.
-/
import Derived.Test.YtgbagdfcdljleaaGreatDoorHu
set_option linter.unusedVariables false
set_option linter.unusedSimpArgs false
namespace Go.Proofs.YtgbagdfcdljleaaGreatDoor
open Go.RowKit Go.Maps

section
variable {W0 W W' : World} {b : Nat} {s : ByteArray} {d : Int} {k : Nat} {op : List Fm} {ov : Value} {ys : List Value} {B : Nat → Prop}
theorem beqU (c v : UInt8) : ((c.toNat : Int) == (v.toNat : Int)) = decide (c = v) := by
  rw [Bool.eq_iff_iff, beq_iff_eq, decide_eq_true_iff]
  constructor
  · intro h
    exact UInt8.toNat_inj.1 (by omega)
  · intro h; rw [h]
set_option maxRecDepth 100000 in
set_option maxHeartbeats 4000000 in
theorem begin_n (h : PW W0 b s d k op ov ys B W) (hk : k < s.size) (hdp : d + (op.length : Int) ≤ 24) (hc : s[k] = 110) (hd1 : -9223372036854775808 ≤ d) (hd2 : d + (op.length : Int) ≤ 9223372036854775807) (hs : s.size ≤ 200000) :
    Calls Tryz.prog 26 #[.pointer (some ⟨b, 0, none⟩)] W fun e W' => StepR W0 b s d ov B W (wordM s.data.toList k op [110, 117, 108, 108] (nulV)) e W' := by
  obtain ⟨m0, hm⟩ : ∃ m0, op.length = m0 := ⟨_, rfl⟩
  obtain ⟨o, ad, c, hov, -, -, -, -, -⟩ := Ow.own_form h.own
  subst hov
  rw [hm] at h hd2 hdp ⊢
  have h1 := h.alloc (.cells #[.int .i8 0, .bool false, .int .i64 0, .string ⟨#[]⟩, .slice none 0 0, .slice none 0 0] 28)
  have c0 := h1.c0
  have c1 := h1.c1
  have c2 := h1.c2
  have c3 := h1.c3
  have H1 := Lib.hid h1
  have HH := Lib.hid h
  have OF := Lib.hid (h.off W.heap.size (Nat.le_refl _))
  have BX := Lib.hid (Bx.new W #[.int .i8 0, .bool false, .int .i64 0, .string ⟨#[]⟩, .slice none 0 0, .slice none 0 0] 28)
  have g0 : decide ((k : Int) < 0) = false := decide_eq_false (by omega)
  have HD := Lib.hid hm
  have g1 : decide ((s.size : Int) ≤ (k : Int)) = false := decide_eq_false (by omega)
  have g2 : decide (s.size ≤ k) = false := decide_eq_false (by omega)
  have hw : IntKind.i64.wrap (d + (m0 : Int)) = d + (m0 : Int) := wrap_id (by omega) hd2
  have g3 : decide ((24 : Int) < d + (m0 : Int)) = false := decide_eq_false (by omega)
  have i1 : (k : Int) < (s.size : Int) := by omega
  have t110 : ((((s[k]'hk).toNat : Nat) : Int) == 110) = true := (beqU _ 110).trans (decide_eq_true hc)
  have HKS := Lib.hid hk
  clear h h1 hm
  go_enter Tryz.func26, Tryz.ntmps26
  go_wp2_with fail
  go_quiet (fail)
  go_wp2_with fail
  go_quiet (fail)
  go_wp2_with fail
  go_quiet (fail)
  go_wp2_with fail
  refine (word_any (H1.out.below (below_dN (Below.refl _ _) _)) (Nat.le_of_lt HKS.out) (by omega) ⟨#[110, 117, 108, 108]⟩ (by decide) 0 false).mono ?_
  intro e W2 h2
  unfold WordR at h2
  replace h2 : (if (s.data.toList.drop k).take ([110, 117, 108, 108] : List UInt8).length = [110, 117, 108, 108] then e = .returned (.agg #[.int .i8 0, .bool false, .int .i64 0, .string ⟨#[]⟩, .slice none 0 0, .slice none 0 0]) ∧ PW W0 b s d (k + ([110, 117, 108, 108] : List UInt8).length) op (.slice o m0 c) ys B W2 ∧ Kb b _ W2 else e = faulted k 40 ∧ Below W0.heap.size W0 W2) := h2
  obtain ⟨r, hr⟩ : ∃ r, wordM s.data.toList k op [110, 117, 108, 108] (nulV) = r := ⟨_, rfl⟩
  have HR := Lib.hid hr
  unfold wordM at hr
  by_cases hp : (s.data.toList.drop k).take ([110, 117, 108, 108] : List UInt8).length = [110, 117, 108, 108]
  · rw [if_pos hp] at h2 hr
    obtain ⟨rfl, h3, hk2⟩ := h2
    have bx : Bx W2 W.heap.size _ _ := BX.out.kp (hk2.2 W.heap.size (by simp) OF.out.2.1)
    have q0 : W2.cell? ⟨W.heap.size, 0, none⟩ = some (.int .i8 0) := bx.cell 0
    have q1 : W2.cell? ⟨W.heap.size, 1, none⟩ = some (.bool false) := bx.cell 1
    have q2 : W2.cell? ⟨W.heap.size, 2, none⟩ = some (.int .i64 0) := bx.cell 2
    have q3 : W2.cell? ⟨W.heap.size, 3, none⟩ = some (.string ⟨#[]⟩) := bx.cell 3
    have q4 : W2.cell? ⟨W.heap.size, 4, none⟩ = some (.slice none 0 0) := bx.cell 4
    have q5 : W2.cell? ⟨W.heap.size, 5, none⟩ = some (.slice none 0 0) := bx.cell 5
    have z0 := bx.frozen 0
    have z1 := bx.frozen 1
    have z2 := bx.frozen 2
    have z3 := bx.frozen 3
    have z4 := bx.frozen 4
    have z5 := bx.frozen 5
    have H3 := Lib.hid h3
    have HF := Lib.hid (Frm.of_kb (W0 := W0) (ov := .slice o m0 c) (B := B) ((((Kb.refl b W).alloc (.cells #[.int .i8 0, .bool false, .int .i64 0, .string ⟨#[]⟩, .slice none 0 0, .slice none 0 0] 28)).drewN _).trans hk2))
    have HR := Lib.hid (HR.out.trans hr.symm)
    clear h3 hk2 bx hr hp
    go_wp2_with fail
    refine bodyPost_ret (v := .tuple #[.agg #[.int .i8 0, .bool false, .int .i64 0, .string ⟨#[]⟩, .slice none 0 0, .slice none 0 0], .bool true]) (by simp [results, Tryz.results26, go_sem, q0, q1, q2, q3, q4, q5]) rfl ?_
    rw [HR.out]
    exact StepR.leaf H3.out OF.out (isVa_leaf 0 false 0 ⟨#[]⟩ (by decide) (by decide) (by decide)) HF.out (Nat.le_refl _)
  · rw [if_neg hp] at h2 hr
    obtain ⟨rfl, hb2⟩ := h2
    have HR := Lib.hid (HR.out.trans hr.symm)
    have HB2 := Lib.hid hb2
    clear hr hp hb2
    exact ⟨rfl, HR.out ▸ StepR.err rfl HB2.out⟩
set_option maxRecDepth 100000 in
set_option maxHeartbeats 4000000 in
theorem begin_f (h : PW W0 b s d k op ov ys B W) (hk : k < s.size) (hdp : d + (op.length : Int) ≤ 24) (hc : s[k] = 102) (hd1 : -9223372036854775808 ≤ d) (hd2 : d + (op.length : Int) ≤ 9223372036854775807) (hs : s.size ≤ 200000) :
    Calls Tryz.prog 26 #[.pointer (some ⟨b, 0, none⟩)] W fun e W' => StepR W0 b s d ov B W (wordM s.data.toList k op [102, 97, 108, 115, 101] (booV false)) e W' := by
  obtain ⟨m0, hm⟩ : ∃ m0, op.length = m0 := ⟨_, rfl⟩
  obtain ⟨o, ad, c, hov, -, -, -, -, -⟩ := Ow.own_form h.own
  subst hov
  rw [hm] at h hd2 hdp ⊢
  have h1 := h.alloc (.cells #[.int .i8 0, .bool false, .int .i64 0, .string ⟨#[]⟩, .slice none 0 0, .slice none 0 0] 28)
  have c0 := h1.c0
  have c1 := h1.c1
  have c2 := h1.c2
  have c3 := h1.c3
  have H1 := Lib.hid h1
  have HH := Lib.hid h
  have OF := Lib.hid (h.off W.heap.size (Nat.le_refl _))
  have BX := Lib.hid (Bx.new W #[.int .i8 0, .bool false, .int .i64 0, .string ⟨#[]⟩, .slice none 0 0, .slice none 0 0] 28)
  have g0 : decide ((k : Int) < 0) = false := decide_eq_false (by omega)
  have HD := Lib.hid hm
  have g1 : decide ((s.size : Int) ≤ (k : Int)) = false := decide_eq_false (by omega)
  have g2 : decide (s.size ≤ k) = false := decide_eq_false (by omega)
  have hw : IntKind.i64.wrap (d + (m0 : Int)) = d + (m0 : Int) := wrap_id (by omega) hd2
  have g3 : decide ((24 : Int) < d + (m0 : Int)) = false := decide_eq_false (by omega)
  have i1 : (k : Int) < (s.size : Int) := by omega
  have t110 : ((((s[k]'hk).toNat : Nat) : Int) == 110) = false := (beqU _ 110).trans (decide_eq_false (by rw [hc]; decide))
  have t102 : ((((s[k]'hk).toNat : Nat) : Int) == 102) = true := (beqU _ 102).trans (decide_eq_true hc)
  have HKS := Lib.hid hk
  clear h h1 hm
  go_enter Tryz.func26, Tryz.ntmps26
  go_wp2_with fail
  go_quiet (fail)
  go_wp2_with fail
  go_quiet (fail)
  go_wp2_with fail
  go_quiet (fail)
  go_wp2_with fail
  refine (word_any (H1.out.below (below_dN (Below.refl _ _) _)) (Nat.le_of_lt HKS.out) (by omega) ⟨#[102, 97, 108, 115, 101]⟩ (by decide) 1 false).mono ?_
  intro e W2 h2
  unfold WordR at h2
  replace h2 : (if (s.data.toList.drop k).take ([102, 97, 108, 115, 101] : List UInt8).length = [102, 97, 108, 115, 101] then e = .returned (.agg #[.int .i8 1, .bool false, .int .i64 0, .string ⟨#[]⟩, .slice none 0 0, .slice none 0 0]) ∧ PW W0 b s d (k + ([102, 97, 108, 115, 101] : List UInt8).length) op (.slice o m0 c) ys B W2 ∧ Kb b _ W2 else e = faulted k 40 ∧ Below W0.heap.size W0 W2) := h2
  obtain ⟨r, hr⟩ : ∃ r, wordM s.data.toList k op [102, 97, 108, 115, 101] (booV false) = r := ⟨_, rfl⟩
  have HR := Lib.hid hr
  unfold wordM at hr
  by_cases hp : (s.data.toList.drop k).take ([102, 97, 108, 115, 101] : List UInt8).length = [102, 97, 108, 115, 101]
  · rw [if_pos hp] at h2 hr
    obtain ⟨rfl, h3, hk2⟩ := h2
    have bx : Bx W2 W.heap.size _ _ := BX.out.kp (hk2.2 W.heap.size (by simp) OF.out.2.1)
    have q0 : W2.cell? ⟨W.heap.size, 0, none⟩ = some (.int .i8 0) := bx.cell 0
    have q1 : W2.cell? ⟨W.heap.size, 1, none⟩ = some (.bool false) := bx.cell 1
    have q2 : W2.cell? ⟨W.heap.size, 2, none⟩ = some (.int .i64 0) := bx.cell 2
    have q3 : W2.cell? ⟨W.heap.size, 3, none⟩ = some (.string ⟨#[]⟩) := bx.cell 3
    have q4 : W2.cell? ⟨W.heap.size, 4, none⟩ = some (.slice none 0 0) := bx.cell 4
    have q5 : W2.cell? ⟨W.heap.size, 5, none⟩ = some (.slice none 0 0) := bx.cell 5
    have z0 := bx.frozen 0
    have z1 := bx.frozen 1
    have z2 := bx.frozen 2
    have z3 := bx.frozen 3
    have z4 := bx.frozen 4
    have z5 := bx.frozen 5
    have H3 := Lib.hid h3
    have HF := Lib.hid (Frm.of_kb (W0 := W0) (ov := .slice o m0 c) (B := B) ((((Kb.refl b W).alloc (.cells #[.int .i8 0, .bool false, .int .i64 0, .string ⟨#[]⟩, .slice none 0 0, .slice none 0 0] 28)).drewN _).trans hk2))
    have HR := Lib.hid (HR.out.trans hr.symm)
    clear h3 hk2 bx hr hp
    go_wp2_with fail
    refine bodyPost_ret (v := .tuple #[.agg #[.int .i8 1, .bool false, .int .i64 0, .string ⟨#[]⟩, .slice none 0 0, .slice none 0 0], .bool true]) (by simp [results, Tryz.results26, go_sem, q0, q1, q2, q3, q4, q5]) rfl ?_
    rw [HR.out]
    exact StepR.leaf H3.out OF.out (isVa_leaf 1 false 0 ⟨#[]⟩ (by decide) (by decide) (by decide)) HF.out (Nat.le_refl _)
  · rw [if_neg hp] at h2 hr
    obtain ⟨rfl, hb2⟩ := h2
    have HR := Lib.hid (HR.out.trans hr.symm)
    have HB2 := Lib.hid hb2
    clear hr hp hb2
    exact ⟨rfl, HR.out ▸ StepR.err rfl HB2.out⟩
set_option maxRecDepth 100000 in
set_option maxHeartbeats 4000000 in
theorem begin_t (h : PW W0 b s d k op ov ys B W) (hk : k < s.size) (hdp : d + (op.length : Int) ≤ 24) (hc : s[k] = 116) (hd1 : -9223372036854775808 ≤ d) (hd2 : d + (op.length : Int) ≤ 9223372036854775807) (hs : s.size ≤ 200000) :
    Calls Tryz.prog 26 #[.pointer (some ⟨b, 0, none⟩)] W fun e W' => StepR W0 b s d ov B W (wordM s.data.toList k op [116, 114, 117, 101] (booV true)) e W' := by
  obtain ⟨m0, hm⟩ : ∃ m0, op.length = m0 := ⟨_, rfl⟩
  obtain ⟨o, ad, c, hov, -, -, -, -, -⟩ := Ow.own_form h.own
  subst hov
  rw [hm] at h hd2 hdp ⊢
  have h1 := h.alloc (.cells #[.int .i8 0, .bool false, .int .i64 0, .string ⟨#[]⟩, .slice none 0 0, .slice none 0 0] 28)
  have c0 := h1.c0
  have c1 := h1.c1
  have c2 := h1.c2
  have c3 := h1.c3
  have H1 := Lib.hid h1
  have HH := Lib.hid h
  have OF := Lib.hid (h.off W.heap.size (Nat.le_refl _))
  have BX := Lib.hid (Bx.new W #[.int .i8 0, .bool false, .int .i64 0, .string ⟨#[]⟩, .slice none 0 0, .slice none 0 0] 28)
  have g0 : decide ((k : Int) < 0) = false := decide_eq_false (by omega)
  have HD := Lib.hid hm
  have g1 : decide ((s.size : Int) ≤ (k : Int)) = false := decide_eq_false (by omega)
  have g2 : decide (s.size ≤ k) = false := decide_eq_false (by omega)
  have hw : IntKind.i64.wrap (d + (m0 : Int)) = d + (m0 : Int) := wrap_id (by omega) hd2
  have g3 : decide ((24 : Int) < d + (m0 : Int)) = false := decide_eq_false (by omega)
  have i1 : (k : Int) < (s.size : Int) := by omega
  have t110 : ((((s[k]'hk).toNat : Nat) : Int) == 110) = false := (beqU _ 110).trans (decide_eq_false (by rw [hc]; decide))
  have t102 : ((((s[k]'hk).toNat : Nat) : Int) == 102) = false := (beqU _ 102).trans (decide_eq_false (by rw [hc]; decide))
  have t116 : ((((s[k]'hk).toNat : Nat) : Int) == 116) = true := (beqU _ 116).trans (decide_eq_true hc)
  have HKS := Lib.hid hk
  clear h h1 hm
  go_enter Tryz.func26, Tryz.ntmps26
  go_wp2_with fail
  go_quiet (fail)
  go_wp2_with fail
  go_quiet (fail)
  go_wp2_with fail
  go_quiet (fail)
  go_wp2_with fail
  refine (word_any (H1.out.below (below_dN (Below.refl _ _) _)) (Nat.le_of_lt HKS.out) (by omega) ⟨#[116, 114, 117, 101]⟩ (by decide) 1 true).mono ?_
  intro e W2 h2
  unfold WordR at h2
  replace h2 : (if (s.data.toList.drop k).take ([116, 114, 117, 101] : List UInt8).length = [116, 114, 117, 101] then e = .returned (.agg #[.int .i8 1, .bool true, .int .i64 0, .string ⟨#[]⟩, .slice none 0 0, .slice none 0 0]) ∧ PW W0 b s d (k + ([116, 114, 117, 101] : List UInt8).length) op (.slice o m0 c) ys B W2 ∧ Kb b _ W2 else e = faulted k 40 ∧ Below W0.heap.size W0 W2) := h2
  obtain ⟨r, hr⟩ : ∃ r, wordM s.data.toList k op [116, 114, 117, 101] (booV true) = r := ⟨_, rfl⟩
  have HR := Lib.hid hr
  unfold wordM at hr
  by_cases hp : (s.data.toList.drop k).take ([116, 114, 117, 101] : List UInt8).length = [116, 114, 117, 101]
  · rw [if_pos hp] at h2 hr
    obtain ⟨rfl, h3, hk2⟩ := h2
    have bx : Bx W2 W.heap.size _ _ := BX.out.kp (hk2.2 W.heap.size (by simp) OF.out.2.1)
    have q0 : W2.cell? ⟨W.heap.size, 0, none⟩ = some (.int .i8 0) := bx.cell 0
    have q1 : W2.cell? ⟨W.heap.size, 1, none⟩ = some (.bool false) := bx.cell 1
    have q2 : W2.cell? ⟨W.heap.size, 2, none⟩ = some (.int .i64 0) := bx.cell 2
    have q3 : W2.cell? ⟨W.heap.size, 3, none⟩ = some (.string ⟨#[]⟩) := bx.cell 3
    have q4 : W2.cell? ⟨W.heap.size, 4, none⟩ = some (.slice none 0 0) := bx.cell 4
    have q5 : W2.cell? ⟨W.heap.size, 5, none⟩ = some (.slice none 0 0) := bx.cell 5
    have z0 := bx.frozen 0
    have z1 := bx.frozen 1
    have z2 := bx.frozen 2
    have z3 := bx.frozen 3
    have z4 := bx.frozen 4
    have z5 := bx.frozen 5
    have H3 := Lib.hid h3
    have HF := Lib.hid (Frm.of_kb (W0 := W0) (ov := .slice o m0 c) (B := B) ((((Kb.refl b W).alloc (.cells #[.int .i8 0, .bool false, .int .i64 0, .string ⟨#[]⟩, .slice none 0 0, .slice none 0 0] 28)).drewN _).trans hk2))
    have HR := Lib.hid (HR.out.trans hr.symm)
    clear h3 hk2 bx hr hp
    go_wp2_with fail
    refine bodyPost_ret (v := .tuple #[.agg #[.int .i8 1, .bool true, .int .i64 0, .string ⟨#[]⟩, .slice none 0 0, .slice none 0 0], .bool true]) (by simp [results, Tryz.results26, go_sem, q0, q1, q2, q3, q4, q5]) rfl ?_
    rw [HR.out]
    exact StepR.leaf H3.out OF.out (isVa_leaf 1 true 0 ⟨#[]⟩ (by decide) (by decide) (by decide)) HF.out (Nat.le_refl _)
  · rw [if_neg hp] at h2 hr
    obtain ⟨rfl, hb2⟩ := h2
    have HR := Lib.hid (HR.out.trans hr.symm)
    have HB2 := Lib.hid hb2
    clear hr hp hb2
    exact ⟨rfl, HR.out ▸ StepR.err rfl HB2.out⟩
end
end Go.Proofs.YtgbagdfcdljleaaGreatDoor
