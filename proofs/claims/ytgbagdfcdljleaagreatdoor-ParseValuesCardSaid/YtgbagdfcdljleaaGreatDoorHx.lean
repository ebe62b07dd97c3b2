/-
  Parse's walk: lists and objects at a value's beginning; what begins nothing.
-/
import Derived.Test.YtgbagdfcdljleaaGreatDoorHw
set_option linter.unusedVariables false
set_option linter.unusedSimpArgs false
namespace Go.Proofs.YtgbagdfcdljleaaGreatDoor
open Go.RowKit Go.Maps

section
variable {W0 W W' : World} {b : Nat} {s : ByteArray} {d : Int} {k : Nat} {op : List Fm} {ov : Value} {ys : List Value} {B : Nat → Prop}
set_option maxRecDepth 100000 in
set_option maxHeartbeats 4000000 in
theorem begin_l (h : PW W0 b s d k op ov ys B W) (hk : k < s.size) (hdp : d + (op.length : Int) ≤ 24) (hE : Ru.Env W0) (hop : op.length < 100000) (hc : s[k] = 91) (hd1 : -9223372036854775808 ≤ d) (hd2 : d + (op.length : Int) ≤ 9223372036854775807) (hs : s.size ≤ 200000) :
    Calls Tryz.prog 26 #[.pointer (some ⟨b, 0, none⟩)] W fun e W' => StepR W0 b s d ov B W (enterM s.data.toList k op ⟨false, [], []⟩) e W' := by
  obtain ⟨m0, hm⟩ : ∃ m0, op.length = m0 := ⟨_, rfl⟩
  obtain ⟨o, ad, c, hov, -, -, -, -, -⟩ := Ow.own_form h.own
  subst hov
  rw [hm] at h hd2 hdp hop ⊢
  have h1 := h.alloc (.cells #[.int .i8 0, .bool false, .int .i64 0, .string ⟨#[]⟩, .slice none 0 0, .slice none 0 0] 28)
  have c0 := h1.c0
  have c1 := h1.c1
  have c2 := h1.c2
  have c3 := h1.c3
  have H1 := Lib.hid h1
  have HH := Lib.hid h
  have OF := Lib.hid (h.off W.heap.size (Nat.le_refl _))
  have BX := Lib.hid (Bx.new W #[.int .i8 0, .bool false, .int .i64 0, .string ⟨#[]⟩, .slice none 0 0, .slice none 0 0] 28)
  have g0 : decide ((k : Int) < 0) = false := decide_eq_false (by omega)
  have HD := Lib.hid hm
  have g1 : decide ((s.size : Int) ≤ (k : Int)) = false := decide_eq_false (by omega)
  have g2 : decide (s.size ≤ k) = false := decide_eq_false (by omega)
  have hw : IntKind.i64.wrap (d + (m0 : Int)) = d + (m0 : Int) := wrap_id (by omega) hd2
  have g3 : decide ((24 : Int) < d + (m0 : Int)) = false := decide_eq_false (by omega)
  have i1 : (k : Int) < (s.size : Int) := by omega
  have t110 : ((((s[k]'hk).toNat : Nat) : Int) == 110) = false := (beqU _ 110).trans (decide_eq_false (by rw [hc]; decide))
  have t102 : ((((s[k]'hk).toNat : Nat) : Int) == 102) = false := (beqU _ 102).trans (decide_eq_false (by rw [hc]; decide))
  have t116 : ((((s[k]'hk).toNat : Nat) : Int) == 116) = false := (beqU _ 116).trans (decide_eq_false (by rw [hc]; decide))
  have t45 : ((((s[k]'hk).toNat : Nat) : Int) == 45) = false := (beqU _ 45).trans (decide_eq_false (by rw [hc]; decide))
  have t34 : ((((s[k]'hk).toNat : Nat) : Int) == 34) = false := (beqU _ 34).trans (decide_eq_false (by rw [hc]; decide))
  have t91 : ((((s[k]'hk).toNat : Nat) : Int) == 91) = true := (beqU _ 91).trans (decide_eq_true hc)
  have HKS := Lib.hid hk
  have hnd : Nu.isD (s[k]'hk) = false := by rw [hc]; decide
  have HDG := Lib.hid (show ∀ w, Calls Tryz.prog 35 #[.int .u8 (s[k]'hk).toNat] w fun e w' => e = .returned (.bool false) ∧ w' = w from fun w => by have := Digit_any (s[k]'hk) w; rw [hnd] at this; exact this)
  clear hnd hc
  clear h h1 hm
  go_enter Tryz.func26, Tryz.ntmps26
  go_wp2_with fail
  go_quiet (fail)
  go_wp2_with fail
  go_quiet (fail)
  go_wp2_with fail
  go_quiet (fail)
  go_wp2_with fail
  refine (HDG.out _).mono ?_
  rintro e wD ⟨rfl, rfl⟩
  go_wp2_with fail
  refine (enter_any (f := ⟨false, [], []⟩) (H1.out.below (below_dN (Below.refl _ _) _)) hE rfl rfl (by rw [HD.out]; exact hop) HKS.out hs (Below.refl _ _) (fun e => absurd e (by decide)) (fun _ => rfl) 4 rfl).mono ?_
  intro e W2 h2
  obtain ⟨r, hr⟩ : ∃ r, enterM s.data.toList k op ⟨false, [], []⟩ = r := ⟨_, rfl⟩
  rw [hr] at h2
  have HR := Lib.hid hr
  clear hr
  cases r with
  | error er =>
    obtain ⟨rfl, hb2⟩ := h2
    have HB2 := Lib.hid hb2
    clear hb2
    exact ⟨rfl, HR.out ▸ StepR.err rfl HB2.out⟩
  | ok st =>
    cases st with
    | got v k' op' =>
      obtain ⟨val, S, ov5, ys5, B5, rfl, h7, hva, hS, hF⟩ := h2
      obtain ⟨kd', bo', nu', te', o1', n1', m1', o2', n2', m2', rfl⟩ := isVa_form hva
      have hb2 := hF.2 W.heap.size (by simp) OF.out
      have bx : Bx W2 W.heap.size _ _ := BX.out.kp hb2.1
      have q0 : W2.cell? ⟨W.heap.size, 0, none⟩ = some (.int .i8 0) := bx.cell 0
      have q1 : W2.cell? ⟨W.heap.size, 1, none⟩ = some (.bool false) := bx.cell 1
      have q2 : W2.cell? ⟨W.heap.size, 2, none⟩ = some (.int .i64 0) := bx.cell 2
      have q3 : W2.cell? ⟨W.heap.size, 3, none⟩ = some (.string ⟨#[]⟩) := bx.cell 3
      have q4 : W2.cell? ⟨W.heap.size, 4, none⟩ = some (.slice none 0 0) := bx.cell 4
      have q5 : W2.cell? ⟨W.heap.size, 5, none⟩ = some (.slice none 0 0) := bx.cell 5
      have z0 := bx.frozen 0
      have z1 := bx.frozen 1
      have z2 := bx.frozen 2
      have z3 := bx.frozen 3
      have z4 := bx.frozen 4
      have z5 := bx.frozen 5
      have H7 := Lib.hid h7
      have HVA := Lib.hid hva
      have HS := Lib.hid hS
      have HB2 := Lib.hid hb2
      have HF7 := Lib.hid ((Frm.of_kb (W0 := W0) (ov := .slice o m0 c) (B := B) (((Kb.refl b W).alloc (.cells #[.int .i8 0, .bool false, .int .i64 0, .string ⟨#[]⟩, .slice none 0 0, .slice none 0 0] 28)).drewN _)).trans hF)
      clear h7 hva hS hb2 hF bx
      go_wp2_with fail
      refine bodyPost_ret (v := .tuple #[.agg #[.int .i8 kd', .bool bo', .int .i64 nu', .string te', .slice o1' n1' m1', .slice o2' n2' m2'], .bool true]) (by simp [results, Tryz.results26, go_sem, q0, q1, q2, q3, q4, q5]) rfl ?_
      rw [HR.out]
      refine StepR.got6 H7.out HB2.out.2 HVA.out (fun q e => ⟨(HS.out q e).1, (HS.out q e).2.1, (HS.out q e).2.2.imp id (fun e => ?_)⟩) (fun q e e' => ?_) HF7.out (Nat.le_refl _)
      · have e9 : (W.alloc (.cells #[.int .i8 0, .bool false, .int .i64 0, .string ⟨#[]⟩, .slice none 0 0, .slice none 0 0] 28)).heap.size ≤ q := e
        simp at e9
        omega
      · rcases (HS.out q e).2.2 with e1 | e1
        · exact OF.out.2.2.1 (e' ▸ e1)
        · have e9 : (W.alloc (.cells #[.int .i8 0, .bool false, .int .i64 0, .string ⟨#[]⟩, .slice none 0 0, .slice none 0 0] 28)).heap.size ≤ q := e1
          simp at e9
          omega
    | rd k' op' =>
      obtain ⟨ov5, ys5, B5, he, h7, hF⟩ := h2
      unfold zeroV at he
      subst he
      have hb2 := hF.2 W.heap.size (by simp) OF.out
      have bx : Bx W2 W.heap.size _ _ := BX.out.kp hb2.1
      have q0 : W2.cell? ⟨W.heap.size, 0, none⟩ = some (.int .i8 0) := bx.cell 0
      have q1 : W2.cell? ⟨W.heap.size, 1, none⟩ = some (.bool false) := bx.cell 1
      have q2 : W2.cell? ⟨W.heap.size, 2, none⟩ = some (.int .i64 0) := bx.cell 2
      have q3 : W2.cell? ⟨W.heap.size, 3, none⟩ = some (.string ⟨#[]⟩) := bx.cell 3
      have q4 : W2.cell? ⟨W.heap.size, 4, none⟩ = some (.slice none 0 0) := bx.cell 4
      have q5 : W2.cell? ⟨W.heap.size, 5, none⟩ = some (.slice none 0 0) := bx.cell 5
      have z0 := bx.frozen 0
      have z1 := bx.frozen 1
      have z2 := bx.frozen 2
      have z3 := bx.frozen 3
      have z4 := bx.frozen 4
      have z5 := bx.frozen 5
      have H7 := Lib.hid h7
      have HB2 := Lib.hid hb2
      have HF7 := Lib.hid ((Frm.of_kb (W0 := W0) (ov := .slice o m0 c) (B := B) (((Kb.refl b W).alloc (.cells #[.int .i8 0, .bool false, .int .i64 0, .string ⟨#[]⟩, .slice none 0 0, .slice none 0 0] 28)).drewN _)).trans hF)
      clear h7 hb2 hF bx
      go_wp2_with fail
      refine bodyPost_ret (v := .tuple #[zeroV, .bool false]) (by simp [results, Tryz.results26, go_sem, q0, q1, q2, q3, q4, q5, zeroV]) rfl ?_
      rw [HR.out]
      exact StepR.rd6 H7.out HB2.out.2 HF7.out (Nat.le_refl _)
set_option maxRecDepth 100000 in
set_option maxHeartbeats 4000000 in
theorem begin_o (h : PW W0 b s d k op ov ys B W) (hk : k < s.size) (hdp : d + (op.length : Int) ≤ 24) (hE : Ru.Env W0) (hop : op.length < 100000) (hc : s[k] = 123) (hd1 : -9223372036854775808 ≤ d) (hd2 : d + (op.length : Int) ≤ 9223372036854775807) (hs : s.size ≤ 200000) :
    Calls Tryz.prog 26 #[.pointer (some ⟨b, 0, none⟩)] W fun e W' => StepR W0 b s d ov B W (enterM s.data.toList k op ⟨true, [], []⟩) e W' := by
  obtain ⟨m0, hm⟩ : ∃ m0, op.length = m0 := ⟨_, rfl⟩
  obtain ⟨o, ad, c, hov, -, -, -, -, -⟩ := Ow.own_form h.own
  subst hov
  rw [hm] at h hd2 hdp hop ⊢
  have h1 := h.alloc (.cells #[.int .i8 0, .bool false, .int .i64 0, .string ⟨#[]⟩, .slice none 0 0, .slice none 0 0] 28)
  have c0 := h1.c0
  have c1 := h1.c1
  have c2 := h1.c2
  have c3 := h1.c3
  have H1 := Lib.hid h1
  have HH := Lib.hid h
  have OF := Lib.hid (h.off W.heap.size (Nat.le_refl _))
  have BX := Lib.hid (Bx.new W #[.int .i8 0, .bool false, .int .i64 0, .string ⟨#[]⟩, .slice none 0 0, .slice none 0 0] 28)
  have g0 : decide ((k : Int) < 0) = false := decide_eq_false (by omega)
  have HD := Lib.hid hm
  have g1 : decide ((s.size : Int) ≤ (k : Int)) = false := decide_eq_false (by omega)
  have g2 : decide (s.size ≤ k) = false := decide_eq_false (by omega)
  have hw : IntKind.i64.wrap (d + (m0 : Int)) = d + (m0 : Int) := wrap_id (by omega) hd2
  have g3 : decide ((24 : Int) < d + (m0 : Int)) = false := decide_eq_false (by omega)
  have i1 : (k : Int) < (s.size : Int) := by omega
  have t110 : ((((s[k]'hk).toNat : Nat) : Int) == 110) = false := (beqU _ 110).trans (decide_eq_false (by rw [hc]; decide))
  have t102 : ((((s[k]'hk).toNat : Nat) : Int) == 102) = false := (beqU _ 102).trans (decide_eq_false (by rw [hc]; decide))
  have t116 : ((((s[k]'hk).toNat : Nat) : Int) == 116) = false := (beqU _ 116).trans (decide_eq_false (by rw [hc]; decide))
  have t45 : ((((s[k]'hk).toNat : Nat) : Int) == 45) = false := (beqU _ 45).trans (decide_eq_false (by rw [hc]; decide))
  have t34 : ((((s[k]'hk).toNat : Nat) : Int) == 34) = false := (beqU _ 34).trans (decide_eq_false (by rw [hc]; decide))
  have t91 : ((((s[k]'hk).toNat : Nat) : Int) == 91) = false := (beqU _ 91).trans (decide_eq_false (by rw [hc]; decide))
  have t123 : ((((s[k]'hk).toNat : Nat) : Int) == 123) = true := (beqU _ 123).trans (decide_eq_true hc)
  have HKS := Lib.hid hk
  have hnd : Nu.isD (s[k]'hk) = false := by rw [hc]; decide
  have HDG := Lib.hid (show ∀ w, Calls Tryz.prog 35 #[.int .u8 (s[k]'hk).toNat] w fun e w' => e = .returned (.bool false) ∧ w' = w from fun w => by have := Digit_any (s[k]'hk) w; rw [hnd] at this; exact this)
  clear hnd hc
  have hmm := @run_makeMap Tryz.prog
  clear h h1 hm
  go_enter Tryz.func26, Tryz.ntmps26
  go_wp2_with fail
  go_quiet (fail)
  go_wp2_with fail
  go_quiet (fail)
  go_wp2_with fail
  go_quiet (fail)
  go_wp2_with fail
  refine (HDG.out _).mono ?_
  rintro e wD ⟨rfl, rfl⟩
  go_wp2_with fail
  have PO := Lib.hid (show ∀ n, PW W0 b s d k op (.slice o m0 c) ys B (((W.alloc (.cells #[.int .i8 0, .bool false, .int .i64 0, .string ⟨#[]⟩, .slice none 0 0, .slice none 0 0] 28)).drewN n).alloc (.map #[] 0)) from fun n => (H1.out.below (below_dN (Below.refl _ _) n)).alloc (.map #[] 0))
  have WO := Lib.hid (show ∀ n, Below (W.alloc (.cells #[.int .i8 0, .bool false, .int .i64 0, .string ⟨#[]⟩, .slice none 0 0, .slice none 0 0] 28)).heap.size (W.alloc (.cells #[.int .i8 0, .bool false, .int .i64 0, .string ⟨#[]⟩, .slice none 0 0, .slice none 0 0] 28)) (((W.alloc (.cells #[.int .i8 0, .bool false, .int .i64 0, .string ⟨#[]⟩, .slice none 0 0, .slice none 0 0] 28)).drewN n).alloc (.map #[] 0)) from fun n => (below_dN (Below.refl (W.alloc (.cells #[.int .i8 0, .bool false, .int .i64 0, .string ⟨#[]⟩, .slice none 0 0, .slice none 0 0] 28)).heap.size (W.alloc (.cells #[.int .i8 0, .bool false, .int .i64 0, .string ⟨#[]⟩, .slice none 0 0, .slice none 0 0] 28))) n).alloc (Nat.le_refl (W.alloc (.cells #[.int .i8 0, .bool false, .int .i64 0, .string ⟨#[]⟩, .slice none 0 0, .slice none 0 0] 28)).heap.size) _)
  have sx : (W.alloc (.cells #[.int .i8 0, .bool false, .int .i64 0, .string ⟨#[]⟩, .slice none 0 0, .slice none 0 0] 28)).heap.size = W.heap.size + 1 := by simp
  have MO := Lib.hid (show ∀ n, (true = true → ∃ mb, some (W.heap.size + 1) = some mb ∧ (W.alloc (.cells #[.int .i8 0, .bool false, .int .i64 0, .string ⟨#[]⟩, .slice none 0 0, .slice none 0 0] 28)).heap.size ≤ mb ∧ MapIs Tryz.prog 9 (((W.alloc (.cells #[.int .i8 0, .bool false, .int .i64 0, .string ⟨#[]⟩, .slice none 0 0, .slice none 0 0] 28)).drewN n).alloc (.map #[] 0)) mb 0 (unitF []) ∧ Off W0 b (.slice o m0 c) B mb) from fun n _ => ⟨W.heap.size + 1, rfl, by rw [sx]; exact Nat.le_refl _, by
      have := MapIs.made Tryz.prog 9 ((W.alloc (.cells #[.int .i8 0, .bool false, .int .i64 0, .string ⟨#[]⟩, .slice none 0 0, .slice none 0 0] 28)).drewN n)
      rw [show ((W.alloc (.cells #[.int .i8 0, .bool false, .int .i64 0, .string ⟨#[]⟩, .slice none 0 0, .slice none 0 0] 28)).drewN n).heap.size = W.heap.size + 1 from sx] at this
      exact this, H1.out.off _ (by rw [sx]; exact Nat.le_refl _)⟩)
  clear sx
  refine (enter_any (f := ⟨true, [], []⟩) (PO.out _) hE rfl rfl (by rw [HD.out]; exact hop) HKS.out hs (WO.out _) (MO.out _) (fun e => absurd e (by decide)) 5 rfl).mono ?_
  intro e W2 h2
  obtain ⟨r, hr⟩ : ∃ r, enterM s.data.toList k op ⟨true, [], []⟩ = r := ⟨_, rfl⟩
  rw [hr] at h2
  have HR := Lib.hid hr
  clear hr
  cases r with
  | error er =>
    obtain ⟨rfl, hb2⟩ := h2
    have HB2 := Lib.hid hb2
    clear hb2
    exact ⟨rfl, HR.out ▸ StepR.err rfl HB2.out⟩
  | ok st =>
    cases st with
    | got v k' op' =>
      obtain ⟨val, S, ov5, ys5, B5, rfl, h7, hva, hS, hF⟩ := h2
      obtain ⟨kd', bo', nu', te', o1', n1', m1', o2', n2', m2', rfl⟩ := isVa_form hva
      have hb2 := hF.2 W.heap.size (by simp) OF.out
      have bx : Bx W2 W.heap.size _ _ := BX.out.kp hb2.1
      have q0 : W2.cell? ⟨W.heap.size, 0, none⟩ = some (.int .i8 0) := bx.cell 0
      have q1 : W2.cell? ⟨W.heap.size, 1, none⟩ = some (.bool false) := bx.cell 1
      have q2 : W2.cell? ⟨W.heap.size, 2, none⟩ = some (.int .i64 0) := bx.cell 2
      have q3 : W2.cell? ⟨W.heap.size, 3, none⟩ = some (.string ⟨#[]⟩) := bx.cell 3
      have q4 : W2.cell? ⟨W.heap.size, 4, none⟩ = some (.slice none 0 0) := bx.cell 4
      have q5 : W2.cell? ⟨W.heap.size, 5, none⟩ = some (.slice none 0 0) := bx.cell 5
      have z0 := bx.frozen 0
      have z1 := bx.frozen 1
      have z2 := bx.frozen 2
      have z3 := bx.frozen 3
      have z4 := bx.frozen 4
      have z5 := bx.frozen 5
      have H7 := Lib.hid h7
      have HVA := Lib.hid hva
      have HS := Lib.hid hS
      have HB2 := Lib.hid hb2
      have HF7 := Lib.hid ((Frm.of_kb (W0 := W0) (ov := .slice o m0 c) (B := B) (((Kb.refl b W).alloc (.cells #[.int .i8 0, .bool false, .int .i64 0, .string ⟨#[]⟩, .slice none 0 0, .slice none 0 0] 28)))).trans hF)
      clear h7 hva hS hb2 hF bx
      go_wp2_with fail
      refine bodyPost_ret (v := .tuple #[.agg #[.int .i8 kd', .bool bo', .int .i64 nu', .string te', .slice o1' n1' m1', .slice o2' n2' m2'], .bool true]) (by simp [results, Tryz.results26, go_sem, q0, q1, q2, q3, q4, q5]) rfl ?_
      rw [HR.out]
      refine StepR.got6 H7.out HB2.out.2 HVA.out (fun q e => ⟨(HS.out q e).1, (HS.out q e).2.1, (HS.out q e).2.2.imp id (fun e => ?_)⟩) (fun q e e' => ?_) HF7.out (Nat.le_refl _)
      · have e9 : (W.alloc (.cells #[.int .i8 0, .bool false, .int .i64 0, .string ⟨#[]⟩, .slice none 0 0, .slice none 0 0] 28)).heap.size ≤ q := e
        simp at e9
        omega
      · rcases (HS.out q e).2.2 with e1 | e1
        · exact OF.out.2.2.1 (e' ▸ e1)
        · have e9 : (W.alloc (.cells #[.int .i8 0, .bool false, .int .i64 0, .string ⟨#[]⟩, .slice none 0 0, .slice none 0 0] 28)).heap.size ≤ q := e1
          simp at e9
          omega
    | rd k' op' =>
      obtain ⟨ov5, ys5, B5, he, h7, hF⟩ := h2
      unfold zeroV at he
      subst he
      have hb2 := hF.2 W.heap.size (by simp) OF.out
      have bx : Bx W2 W.heap.size _ _ := BX.out.kp hb2.1
      have q0 : W2.cell? ⟨W.heap.size, 0, none⟩ = some (.int .i8 0) := bx.cell 0
      have q1 : W2.cell? ⟨W.heap.size, 1, none⟩ = some (.bool false) := bx.cell 1
      have q2 : W2.cell? ⟨W.heap.size, 2, none⟩ = some (.int .i64 0) := bx.cell 2
      have q3 : W2.cell? ⟨W.heap.size, 3, none⟩ = some (.string ⟨#[]⟩) := bx.cell 3
      have q4 : W2.cell? ⟨W.heap.size, 4, none⟩ = some (.slice none 0 0) := bx.cell 4
      have q5 : W2.cell? ⟨W.heap.size, 5, none⟩ = some (.slice none 0 0) := bx.cell 5
      have z0 := bx.frozen 0
      have z1 := bx.frozen 1
      have z2 := bx.frozen 2
      have z3 := bx.frozen 3
      have z4 := bx.frozen 4
      have z5 := bx.frozen 5
      have H7 := Lib.hid h7
      have HB2 := Lib.hid hb2
      have HF7 := Lib.hid ((Frm.of_kb (W0 := W0) (ov := .slice o m0 c) (B := B) (((Kb.refl b W).alloc (.cells #[.int .i8 0, .bool false, .int .i64 0, .string ⟨#[]⟩, .slice none 0 0, .slice none 0 0] 28)))).trans hF)
      clear h7 hb2 hF bx
      go_wp2_with fail
      refine bodyPost_ret (v := .tuple #[zeroV, .bool false]) (by simp [results, Tryz.results26, go_sem, q0, q1, q2, q3, q4, q5, zeroV]) rfl ?_
      rw [HR.out]
      exact StepR.rd6 H7.out HB2.out.2 HF7.out (Nat.le_refl _)
set_option maxRecDepth 100000 in
set_option maxHeartbeats 4000000 in
theorem begin_x (h : PW W0 b s d k op ov ys B W) (hk : k < s.size) (hdp : d + (op.length : Int) ≤ 24) (hnd : Nu.isD s[k] = false) (x110 : s[k] ≠ 110) (x102 : s[k] ≠ 102) (x116 : s[k] ≠ 116) (x45 : s[k] ≠ 45) (x34 : s[k] ≠ 34) (x91 : s[k] ≠ 91) (x123 : s[k] ≠ 123) (hd1 : -9223372036854775808 ≤ d) (hd2 : d + (op.length : Int) ≤ 9223372036854775807) (hs : s.size ≤ 200000) :
    Calls Tryz.prog 26 #[.pointer (some ⟨b, 0, none⟩)] W fun e W' => StepR W0 b s d ov B W (.error (k, 40)) e W' := by
  obtain ⟨m0, hm⟩ : ∃ m0, op.length = m0 := ⟨_, rfl⟩
  obtain ⟨o, ad, c, hov, -, -, -, -, -⟩ := Ow.own_form h.own
  subst hov
  rw [hm] at h hd2 hdp ⊢
  have h1 := h.alloc (.cells #[.int .i8 0, .bool false, .int .i64 0, .string ⟨#[]⟩, .slice none 0 0, .slice none 0 0] 28)
  have c0 := h1.c0
  have c1 := h1.c1
  have c2 := h1.c2
  have c3 := h1.c3
  have H1 := Lib.hid h1
  have HH := Lib.hid h
  have OF := Lib.hid (h.off W.heap.size (Nat.le_refl _))
  have BX := Lib.hid (Bx.new W #[.int .i8 0, .bool false, .int .i64 0, .string ⟨#[]⟩, .slice none 0 0, .slice none 0 0] 28)
  have g0 : decide ((k : Int) < 0) = false := decide_eq_false (by omega)
  have HD := Lib.hid hm
  have g1 : decide ((s.size : Int) ≤ (k : Int)) = false := decide_eq_false (by omega)
  have g2 : decide (s.size ≤ k) = false := decide_eq_false (by omega)
  have hw : IntKind.i64.wrap (d + (m0 : Int)) = d + (m0 : Int) := wrap_id (by omega) hd2
  have g3 : decide ((24 : Int) < d + (m0 : Int)) = false := decide_eq_false (by omega)
  have i1 : (k : Int) < (s.size : Int) := by omega
  have t110 : ((((s[k]'hk).toNat : Nat) : Int) == 110) = false := (beqU _ 110).trans (decide_eq_false x110)
  have t102 : ((((s[k]'hk).toNat : Nat) : Int) == 102) = false := (beqU _ 102).trans (decide_eq_false x102)
  have t116 : ((((s[k]'hk).toNat : Nat) : Int) == 116) = false := (beqU _ 116).trans (decide_eq_false x116)
  have t45 : ((((s[k]'hk).toNat : Nat) : Int) == 45) = false := (beqU _ 45).trans (decide_eq_false x45)
  have t34 : ((((s[k]'hk).toNat : Nat) : Int) == 34) = false := (beqU _ 34).trans (decide_eq_false x34)
  have t91 : ((((s[k]'hk).toNat : Nat) : Int) == 91) = false := (beqU _ 91).trans (decide_eq_false x91)
  have t123 : ((((s[k]'hk).toNat : Nat) : Int) == 123) = false := (beqU _ 123).trans (decide_eq_false x123)
  have HKS := Lib.hid hk
  have HDG := Lib.hid (show ∀ w, Calls Tryz.prog 35 #[.int .u8 (s[k]'hk).toNat] w fun e w' => e = .returned (.bool false) ∧ w' = w from fun w => by have := Digit_any (s[k]'hk) w; rw [hnd] at this; exact this)
  clear hnd x110 x102 x116 x45 x34 x91 x123
  clear h h1 hm
  go_enter Tryz.func26, Tryz.ntmps26
  go_wp2_with fail
  go_quiet (fail)
  go_wp2_with fail
  go_quiet (fail)
  go_wp2_with fail
  go_quiet (fail)
  go_wp2_with fail
  refine (HDG.out _).mono ?_
  rintro e wD ⟨rfl, rfl⟩
  go_wp2_with fail
  exact ⟨rfl, StepR.err rfl (H1.out.below (below_dN (Below.refl _ _) _)).kb⟩
end
end Go.Proofs.YtgbagdfcdljleaaGreatDoor
