/-
  The reference's object. · The reference's Value.
-/
import Derived.Test.YtgbagdfcdljleaaGreatDoorJA
import Derived.Test.YtgbagdfcdljleaaGreatDoorRC
import Derived.Test.YtgbagdfcdljleaaGreatDoorRN
set_option linter.unusedVariables false
set_option linter.unusedSimpArgs false
namespace Go.Proofs.YtgbagdfcdljleaaGreatDoor
open Go.RowKit Go.Maps

theorem beq_toL {S T : ByteArray} (h : S ≠ T) : (S.toList == T.toList) = false := by
  rw [beq_eq_false_iff_ne]
  intro e
  apply h
  rw [Lib.toList_data, Lib.toList_data] at e
  exact ByteArray.ext (Array.toList_inj.1 e)
theorem hasK_yes {ks : List ByteArray} {K : ByteArray} {t : List UInt8} (hK : K = ⟨t.toArray⟩) {m : Nat} (hm : m < ks.length) (h : ks[m] = K) : hasK ks t = true := by
  unfold hasK
  rw [List.any_eq_true]
  exact ⟨ks[m], List.getElem_mem hm, by rw [h, hK]; simp⟩
theorem hasK_no {ks : List ByteArray} {K : ByteArray} {t : List UInt8} (hK : K = ⟨t.toArray⟩) (h : ∀ q (hq : q < ks.length), ks[q] ≠ K) : hasK ks t = false := by
  unfold hasK
  rw [List.any_eq_false]
  intro x hx e
  obtain ⟨q, hq, rfl⟩ := List.getElem_of_mem hx
  refine h q hq ?_
  rw [hK]
  rw [beq_iff_eq] at e
  exact ByteArray.ext (Array.toList_inj.1 (by rw [e]))
theorem ruq_any (s : ByteArray) (hs : s.size ≤ 20000) {j : Nat} (hq : s.data.toList[j]? = some 34) {t : List UInt8} {E X : Nat} (hu : Ru.unqL s.data.toList j = (t, E, X)) (w : World) :
    Calls Tryz.prog 19 #[.string s, .int .i64 (j : Nat)] w fun e w' => e = .returned (.tuple #[.string ⟨t.toArray⟩, .int .i64 E, .int .i64 X]) ∧ Below w.heap.size w w' := by
  have := Ru.runq_any s j hs w
  rw [unqI_L hq, hu] at this
  exact this
set_option maxRecDepth 100000 in
set_option maxHeartbeats 4000000 in
theorem robject_any (s : ByteArray) (k : Nat) (d : Int) (hk : k < s.size) (hs : s.size ≤ 20000) (hd1 : -9223372036854775808 ≤ d) (hd2 : d ≤ 24) (w : World)
    (IH : ∀ k', k < k' → k' ≤ s.size → ∀ w, Calls Tryz.prog 7 #[.string s, .int .i64 (k' : Nat), .int .i64 (d + 1)] w fun e w' => AnsR w (valM s.data.toList k' (d + 1)) e w')
    (R : Except Er (V × Nat)) (hR : GoS s.data.toList d R (enterM s.data.toList k [] ⟨true, [], []⟩)) :
    Calls Tryz.prog 21 #[.string s, .int .i64 k, .int .i64 d] w fun e w' => AnsR w R e w' := by
  obtain ⟨e1, e2⟩ := hR.enter
  obtain ⟨K, hK⟩ : ∃ K, bl s.data.toList (k + 1) = K := ⟨_, rfl⟩
  rw [hK] at e1 e2
  have hKs : K ≤ s.size := by
    have := bl_le s.data.toList (k + 1) (by rw [toList_length]; omega)
    rwa [hK, toList_length] at this
  have hkK : k < K := by
    have := bl_ge s.data.toList (k + 1)
    omega
  have HB : Hid (∀ w, Calls Tryz.prog 12 #[.string s, .int .i64 ((k : Int) + 1)] w fun e w' => e = .returned (.int .i64 (K : Nat)) ∧ w' = w) := Lib.hid (fun w => by
    have := rBlanks_in s (k := k + 1) (by omega) (by omega) w
    rw [hK] at this
    exact this)
  have HE1 := Lib.hid e1
  have HE2 := Lib.hid e2
  have HS := Lib.hid (LW.start w 5)
  unfold zeroC at HS
  have HI := Lib.hid IH
  clear hR hK IH e1 e2
  go_enter Tryz.func21, Tryz.ntmps21
  go_upto_region 2 with fail
  obtain ⟨X, hX⟩ : ∃ X, X = ((w.alloc (.cells #[.int .i8 0, .bool false, .int .i64 0, .string ⟨#[]⟩, .slice none 0 0, .slice none 0 0] 28)).alloc (.cells #[.int .i8 5, .bool false, .int .i64 0, .string ⟨#[]⟩, .slice none 0 0, .slice none 0 0] 28)) := ⟨_, rfl⟩
  rw [← hX] at HS ⊢
  clear hX
  go_wp2_with fail
  refine (HB.out X).mono ?_
  rintro e w0 ⟨rfl, h0⟩
  have h0 := h0.symm
  subst h0
  clear HB
  by_cases hc : s.data.toList[K]? = some 125
  · have hK2 : K < s.size := Nat.lt_of_not_le fun h => none_at s K (by omega) 125 hc
    have b1 : (((s[K]'hK2).toNat : Int) == 125) = true := sgn_yes s K hK2 125 hc
    obtain rfl := HE1.out hc
    have a1 : decide ((K : Int) < (s.size : Int)) = true := decide_eq_true (by omega)
    have a2 : decide (K < s.size) = true := decide_eq_true (by omega)
    have a3 : decide ((s.size : Int) ≤ (K : Int)) = false := decide_eq_false (by omega)
    have a4 : decide (s.size ≤ K) = false := decide_eq_false (by omega)
    clear hc HE1 HE2 HI
    have bxe := HS.out.z6
    unfold zeroC at bxe
    have q0 : X.cell? ⟨w.heap.size, 0, none⟩ = some (.int .i8 0) := bxe.cell 0
    have qf0 := bxe.frozen 0
    have q1 : X.cell? ⟨w.heap.size, 1, none⟩ = some (.bool false) := bxe.cell 1
    have qf1 := bxe.frozen 1
    have q2 : X.cell? ⟨w.heap.size, 2, none⟩ = some (.int .i64 0) := bxe.cell 2
    have qf2 := bxe.frozen 2
    have q3 : X.cell? ⟨w.heap.size, 3, none⟩ = some (.string ⟨#[]⟩) := bxe.cell 3
    have qf3 := bxe.frozen 3
    have q4 : X.cell? ⟨w.heap.size, 4, none⟩ = some (.slice none 0 0) := bxe.cell 4
    have qf4 := bxe.frozen 4
    have q5 : X.cell? ⟨w.heap.size, 5, none⟩ = some (.slice none 0 0) := bxe.cell 5
    have qf5 := bxe.frozen 5
    have bx9 := HS.out.z9
    have p0 : X.cell? ⟨w.heap.size + 1, 0, none⟩ = some (.int .i8 5) := bx9.cell 0
    have p1 : X.cell? ⟨w.heap.size + 1, 1, none⟩ = some (.bool false) := bx9.cell 1
    have p2 : X.cell? ⟨w.heap.size + 1, 2, none⟩ = some (.int .i64 0) := bx9.cell 2
    have p3 : X.cell? ⟨w.heap.size + 1, 3, none⟩ = some (.string ⟨#[]⟩) := bx9.cell 3
    have p4 : X.cell? ⟨w.heap.size + 1, 4, none⟩ = some (.slice none 0 0) := bx9.cell 4
    have p5 : X.cell? ⟨w.heap.size + 1, 5, none⟩ = some (.slice none 0 0) := bx9.cell 5
    clear bxe bx9
    have hans := HS.out.ans (by decide) (K + 1)
    rw [show ((K + 1 : Nat) : Int) = (K : Int) + 1 from rfl] at hans
    have HANS := Lib.hid hans
    clear hans
    go_wp2_with fail
    refine bodyPost_ret (v := .tuple #[.agg #[.int .i8 5, .bool false, .int .i64 0, .string ⟨#[]⟩, .slice none 0 0, .slice none 0 0], .int .i64 ((K : Int) + 1), .int .i64 0]) (by simp [results, Tryz.results21, go_sem, q0, q1, q2, q3, q4, q5]) rfl ?_
    exact HANS.out
  have HR0 := Lib.hid (HE2.out hc)
  obtain ⟨i0, hi, hz0, hz1, hz2⟩ := info_parts infoVal
  obtain ⟨i1, hj1, hy0, hy1, hy2⟩ := info_parts infoS
  by_cases hK2 : ¬ K < s.size
  · obtain rfl := (HE2.out hc).obj.1 (none_at s K hK2 34)
    have a1 : decide ((K : Int) < (s.size : Int)) = false := decide_eq_false (by omega)
    have a2 : decide (K < s.size) = false := decide_eq_false (by omega)
    have a3 : decide ((s.size : Int) ≤ (K : Int)) = true := decide_eq_true (by omega)
    have a4 : decide (s.size ≤ K) = true := decide_eq_true (by omega)
    clear hc HE1 HE2 HI hz0 hz1 hz2 hy0 hy1 hy2 hi hj1 HR0
    go_wp2_with fail
    go_loopw [10] (fun i wr => i = .int .i64 K ∧ wr = X) (fun _ _ => 0)
    case atStart => exact ⟨rfl, rfl⟩
    case round =>
      obtain ⟨rfl, hw⟩ := hrel
      subst hw
      have bxe := HS.out.z6
      unfold zeroC at bxe
      have q0 : wr.cell? ⟨w.heap.size, 0, none⟩ = some (.int .i8 0) := bxe.cell 0
      have qf0 := bxe.frozen 0
      have q1 : wr.cell? ⟨w.heap.size, 1, none⟩ = some (.bool false) := bxe.cell 1
      have qf1 := bxe.frozen 1
      have q2 : wr.cell? ⟨w.heap.size, 2, none⟩ = some (.int .i64 0) := bxe.cell 2
      have qf2 := bxe.frozen 2
      have q3 : wr.cell? ⟨w.heap.size, 3, none⟩ = some (.string ⟨#[]⟩) := bxe.cell 3
      have qf3 := bxe.frozen 3
      have q4 : wr.cell? ⟨w.heap.size, 4, none⟩ = some (.slice none 0 0) := bxe.cell 4
      have qf4 := bxe.frozen 4
      have q5 : wr.cell? ⟨w.heap.size, 5, none⟩ = some (.slice none 0 0) := bxe.cell 5
      have qf5 := bxe.frozen 5
      clear bxe
      go_wp2_with fail
      refine bodyPost_ret (v := .tuple #[zeroV, .int .i64 (K : Nat), .int .i64 (40 : Nat)]) (by simp [results, Tryz.results21, go_sem, zeroV, q0, q1, q2, q3, q4, q5]) rfl ?_
      exact HS.out.err _ _
  have hK2 : K < s.size := Decidable.not_not.1 hK2
  · have b1 : (((s[K]'hK2).toNat : Int) == 125) = false := sgn_no s K hK2 125 hc
    have a1 : decide ((K : Int) < (s.size : Int)) = true := decide_eq_true (by omega)
    have a2 : decide (K < s.size) = true := decide_eq_true (by omega)
    have a3 : decide ((s.size : Int) ≤ (K : Int)) = false := decide_eq_false (by omega)
    have a4 : decide (s.size ≤ K) = false := decide_eq_false (by omega)
    clear hc HE1 HE2
    go_wp2_with fail
    go_loopw [10] (fun i wr => ∃ (j : Nat) (vs : List V) (ks : List ByteArray) (lv kv : Value) (xs : List Value) (S : Nat → Prop), j ≤ s.size ∧ k < j ∧ i = .int .i64 j ∧ vs.length ≤ j ∧ ks.length ≤ j ∧ Hid (LW w 5 vs ks lv kv xs S wr) ∧ Hid (KeyS s.data.toList d R j ⟨true, vs, ks⟩)) (fun i _ => s.size - (intOf i).toNat)
    case atStart => exact ⟨K, [], [], _, _, [], _, hKs, hkK, rfl, Nat.zero_le _, Nat.zero_le _, HS, HR0⟩
    case round =>
      clear a1 a2 a3 a4 HS HR0 b1
      clear hKs hkK
      obtain ⟨j, vs, ks, lv, kv, xs, S, hj, hkj, rfl, hvl, hkl, HL, HR⟩ := hrel
      obtain ⟨t, E, X0, hu⟩ : ∃ t E X, Ru.unqL s.data.toList j = (t, E, X) := ⟨_, _, _, rfl⟩
      obtain ⟨r1, r2, r3, r4, r5⟩ := HR.out.obj
      rw [hu] at r2 r3 r4 r5
      simp only at r2 r3 r4 r5
      have R1 := Lib.hid r1
      have R2 := Lib.hid r2
      have R3 := Lib.hid r3
      have R4 := Lib.hid r4
      have R5 := Lib.hid r5
      clear r1 r2 r3 r4 r5 HR
      by_cases hq : s.data.toList[j]? ≠ some 34
      · obtain rfl := R1.out hq
        by_cases hlt : j < s.size
        · have b1 : (((s[j]'hlt).toNat : Int) == 34) = false := sgn_no s j hlt 34 hq
          have b3 : (((s[j]'hlt).toNat : Int) != 34) = true := sgn_no' s j hlt 34 hq
          have a1 : decide ((j : Int) < (s.size : Int)) = true := decide_eq_true (by omega)
          have a2 : decide (j < s.size) = true := decide_eq_true (by omega)
          have a3 : decide ((s.size : Int) ≤ (j : Int)) = false := decide_eq_false (by omega)
          have a4 : decide (s.size ≤ j) = false := decide_eq_false (by omega)
          clear hq R1 R2 R3 R4 R5 HI hu
          have bxe := HL.out.z6
          unfold zeroC at bxe
          have q0 : wr.cell? ⟨w.heap.size, 0, none⟩ = some (.int .i8 0) := bxe.cell 0
          have qf0 := bxe.frozen 0
          have q1 : wr.cell? ⟨w.heap.size, 1, none⟩ = some (.bool false) := bxe.cell 1
          have qf1 := bxe.frozen 1
          have q2 : wr.cell? ⟨w.heap.size, 2, none⟩ = some (.int .i64 0) := bxe.cell 2
          have qf2 := bxe.frozen 2
          have q3 : wr.cell? ⟨w.heap.size, 3, none⟩ = some (.string ⟨#[]⟩) := bxe.cell 3
          have qf3 := bxe.frozen 3
          have q4 : wr.cell? ⟨w.heap.size, 4, none⟩ = some (.slice none 0 0) := bxe.cell 4
          have qf4 := bxe.frozen 4
          have q5 : wr.cell? ⟨w.heap.size, 5, none⟩ = some (.slice none 0 0) := bxe.cell 5
          have qf5 := bxe.frozen 5
          clear bxe
          go_wp2_with fail
          refine bodyPost_ret (v := .tuple #[zeroV, .int .i64 (j : Nat), .int .i64 (40 : Nat)]) (by simp [results, Tryz.results21, go_sem, zeroV, q0, q1, q2, q3, q4, q5]) rfl ?_
          exact HL.out.err _ _
        · clear hq R1 R2 R3 R4 R5 HI hu
          have a1 : decide ((j : Int) < (s.size : Int)) = false := decide_eq_false (by omega)
          have a2 : decide (j < s.size) = false := decide_eq_false (by omega)
          have a3 : decide ((s.size : Int) ≤ (j : Int)) = true := decide_eq_true (by omega)
          have a4 : decide (s.size ≤ j) = true := decide_eq_true (by omega)
          have bxe := HL.out.z6
          unfold zeroC at bxe
          have q0 : wr.cell? ⟨w.heap.size, 0, none⟩ = some (.int .i8 0) := bxe.cell 0
          have qf0 := bxe.frozen 0
          have q1 : wr.cell? ⟨w.heap.size, 1, none⟩ = some (.bool false) := bxe.cell 1
          have qf1 := bxe.frozen 1
          have q2 : wr.cell? ⟨w.heap.size, 2, none⟩ = some (.int .i64 0) := bxe.cell 2
          have qf2 := bxe.frozen 2
          have q3 : wr.cell? ⟨w.heap.size, 3, none⟩ = some (.string ⟨#[]⟩) := bxe.cell 3
          have qf3 := bxe.frozen 3
          have q4 : wr.cell? ⟨w.heap.size, 4, none⟩ = some (.slice none 0 0) := bxe.cell 4
          have qf4 := bxe.frozen 4
          have q5 : wr.cell? ⟨w.heap.size, 5, none⟩ = some (.slice none 0 0) := bxe.cell 5
          have qf5 := bxe.frozen 5
          clear bxe
          go_wp2_with fail
          refine bodyPost_ret (v := .tuple #[zeroV, .int .i64 (j : Nat), .int .i64 (40 : Nat)]) (by simp [results, Tryz.results21, go_sem, zeroV, q0, q1, q2, q3, q4, q5]) rfl ?_
          exact HL.out.err _ _
      have hq : s.data.toList[j]? = some 34 := Decidable.not_not.1 hq
      have hlt : j < s.size := Nat.lt_of_not_le fun h => none_at s j (by omega) 34 hq
      have b1 : (((s[j]'hlt).toNat : Int) == 34) = true := sgn_yes s j hlt 34 hq
      have b3 : (((s[j]'hlt).toNat : Int) != 34) = false := sgn_yes' s j hlt 34 hq
      have a1 : decide ((j : Int) < (s.size : Int)) = true := decide_eq_true (by omega)
      have a2 : decide (j < s.size) = true := decide_eq_true (by omega)
      have a3 : decide ((s.size : Int) ≤ (j : Int)) = false := decide_eq_false (by omega)
      have a4 : decide (s.size ≤ j) = false := decide_eq_false (by omega)
      have HU := Lib.hid (fun w => ruq_any s hs hq hu w)
      by_cases hX : X0 ≠ 0
      · obtain rfl := R2.out hq hX
        have t1 : ((X0 : Int) == 0) = false := by rw [beq_eq_false_iff_ne]; omega
        have t2 : ((X0 : Int) != 0) = true := by rw [bne_iff_ne]; omega
        clear hq R1 R2 R3 R4 R5 HI hX hu
        go_wp2_with fail
        refine (HU.out wr).mono ?_
        rintro e w5 ⟨rfl, hb5⟩
        have HL5 := Lib.hid (HL.out.below hb5)
        clear hb5 HL HU
        have bxe := HL5.out.z6
        unfold zeroC at bxe
        have q0 : w5.cell? ⟨w.heap.size, 0, none⟩ = some (.int .i8 0) := bxe.cell 0
        have qf0 := bxe.frozen 0
        have q1 : w5.cell? ⟨w.heap.size, 1, none⟩ = some (.bool false) := bxe.cell 1
        have qf1 := bxe.frozen 1
        have q2 : w5.cell? ⟨w.heap.size, 2, none⟩ = some (.int .i64 0) := bxe.cell 2
        have qf2 := bxe.frozen 2
        have q3 : w5.cell? ⟨w.heap.size, 3, none⟩ = some (.string ⟨#[]⟩) := bxe.cell 3
        have qf3 := bxe.frozen 3
        have q4 : w5.cell? ⟨w.heap.size, 4, none⟩ = some (.slice none 0 0) := bxe.cell 4
        have qf4 := bxe.frozen 4
        have q5 : w5.cell? ⟨w.heap.size, 5, none⟩ = some (.slice none 0 0) := bxe.cell 5
        have qf5 := bxe.frozen 5
        clear bxe
        go_wp2_with fail
        refine bodyPost_ret (v := .tuple #[zeroV, .int .i64 (E : Nat), .int .i64 (X0 : Nat)]) (by simp [results, Tryz.results21, go_sem, zeroV, q0, q1, q2, q3, q4, q5]) rfl ?_
        exact HL5.out.err _ _
      obtain rfl : X0 = 0 := Decidable.not_not.1 hX
      have hE := unqL_end (by rw [toList_length]; exact hlt) hu
      rw [toList_length] at hE
      obtain ⟨Kk, hKk⟩ : ∃ K : ByteArray, K = ⟨t.toArray⟩ := ⟨_, rfl⟩
      have hKsz : Kk.size ≤ 100000 := by
        have h1 := unqL_len s.data.toList j
        rw [hu, toList_length] at h1
        rw [hKk, show (⟨t.toArray⟩ : ByteArray).size = t.length from by simp [ByteArray.size]]
        simp only at h1
        omega
      rw [← hKk] at HU R5
      have R3' : Hid (∀ m (hm : m < ks.length), ks[m] = Kk → R = .error (j, 41)) := Lib.hid (fun m hm he => R3.out hq rfl (hasK_yes hKk hm he))
      have R4' : Hid ((∀ q (h : q < ks.length), ks[q] ≠ Kk) → s.data.toList[bl s.data.toList E]? ≠ some 58 → R = .error (bl s.data.toList E, 40)) := Lib.hid (fun h h' => R4.out hq rfl (hasK_no hKk h) h')
      have R5' : Hid ((∀ q (h : q < ks.length), ks[q] ≠ Kk) → s.data.toList[bl s.data.toList E]? = some 58 → RunS s.data.toList d R (.rd (bl s.data.toList (bl s.data.toList E + 1)) [⟨true, vs, ks ++ [Kk]⟩])) := Lib.hid (fun h h' => R5.out hq rfl (hasK_no hKk h) h')
      have HKsz := Lib.hid hKsz
      clear R1 R2 R3 R4 R5 hX hu hKk hq hKsz
      go_wp2_with fail
      refine (HU.out wr).mono ?_
      rintro e w5 ⟨rfl, hb5⟩
      have HL5 := Lib.hid (HL.out.below hb5)
      clear hb5 HL HU a1 a2 a3 a4 b1 b3
      obtain ⟨oK, aK, cK, rfl, hK1, hKc, hK3, -, hK5⟩ := Ow.own_form HL5.out.ko
      obtain ⟨nk, hnk⟩ : ∃ nk, nk = ks.length := ⟨_, rfl⟩
      have HNK := Lib.hid hnk
      have HK5 := Lib.hid hK5
      have HK3 := Lib.hid hK3
      rw [← hnk] at hK1 HL5
      have p5 : w5.cell? ⟨w.heap.size + 1, 5, none⟩ = some (.slice oK nk cK) := HL5.out.z9.cell 5
      clear hnk hK5 hK3
      have hKc' : cK ≤ 9223372036854775807 := hKc
      clear hKc
      go_wp2_with fail
      go_loop [14] (fun i => ∃ m : Nat, m ≤ nk ∧ i = .int .i64 m ∧ Hid (∀ q (h : q < ks.length), q < m → ks[q] ≠ Kk)) (fun i => nk - (intOf i).toNat)
      case atStart => exact ⟨0, Nat.zero_le _, rfl, Lib.hid (fun q h h' => absurd h' (Nat.not_lt_zero _))⟩
      case round =>
        obtain ⟨m, hm, rfl, HM⟩ := hrel
        by_cases hmn : m < nk
        · have hmk : m < ks.length := by have := HNK.out; omega
          obtain rfl := HK3.out (by omega)
          have gm : w5.cell? (aK.add m) = some (.string ks[m]) := HK5.out m _ (by rw [List.getElem?_map, List.getElem?_eq_getElem hmk]; rfl)
          by_cases he : ks[m] = Kk
          · have f1 : (ks[m].toList == Kk.toList) = true := by rw [he]; exact beq_self_eq_true _
            obtain rfl := R3'.out m hmk he
            obtain ⟨km, hkm⟩ : ∃ x, x = ks[m] := ⟨_, rfl⟩
            rw [← hkm] at f1 gm
            clear hkm he R3' R4' R5' HI HM HK5 HK3
            have bxe := HL5.out.z6
            unfold zeroC at bxe
            have q0 : w5.cell? ⟨w.heap.size, 0, none⟩ = some (.int .i8 0) := bxe.cell 0
            have qf0 := bxe.frozen 0
            have q1 : w5.cell? ⟨w.heap.size, 1, none⟩ = some (.bool false) := bxe.cell 1
            have qf1 := bxe.frozen 1
            have q2 : w5.cell? ⟨w.heap.size, 2, none⟩ = some (.int .i64 0) := bxe.cell 2
            have qf2 := bxe.frozen 2
            have q3 : w5.cell? ⟨w.heap.size, 3, none⟩ = some (.string ⟨#[]⟩) := bxe.cell 3
            have qf3 := bxe.frozen 3
            have q4 : w5.cell? ⟨w.heap.size, 4, none⟩ = some (.slice none 0 0) := bxe.cell 4
            have qf4 := bxe.frozen 4
            have q5 : w5.cell? ⟨w.heap.size, 5, none⟩ = some (.slice none 0 0) := bxe.cell 5
            have qf5 := bxe.frozen 5
            clear bxe
            go_wp2_with fail
            refine bodyPost_ret (v := .tuple #[zeroV, .int .i64 (j : Nat), .int .i64 (41 : Nat)]) (by simp [results, Tryz.results21, go_sem, zeroV, q0, q1, q2, q3, q4, q5]) rfl ?_
            exact HL5.out.err _ _
          · have f1 : (ks[m].toList == Kk.toList) = false := beq_toL he
            have HE := Lib.hid he
            obtain ⟨km, hkm⟩ : ∃ x, x = ks[m] := ⟨_, rfl⟩
            rw [← hkm] at f1 gm
            clear hkm he
            go_wp2_with fail
            go_round
            case rel => exact ⟨m + 1, by omega, by go_num, Lib.hid (fun q h h' => by
              by_cases e : q = m
              · subst e; exact HE.out
              · exact HM.out q h (by omega))⟩
            case measure => simp [intOf]; omega
        have hno : ∀ q (h : q < ks.length), ks[q] ≠ Kk := fun q h => HM.out q h (by have := HNK.out; omega)
        have HNO := Lib.hid hno
        clear hno HM HK5 HK3 R3'
        obtain ⟨K2, hK2⟩ : ∃ K2, bl s.data.toList E = K2 := ⟨_, rfl⟩
        have hK2s : K2 ≤ s.size := by
          have := bl_le s.data.toList E (by rw [toList_length]; exact hE.2)
          rwa [hK2, toList_length] at this
        have hEK : E ≤ K2 := hK2 ▸ bl_ge s.data.toList E
        have HB2 : Hid (∀ w, Calls Tryz.prog 12 #[.string s, .int .i64 ((E : Nat))] w fun e w' => e = .returned (.int .i64 (K2 : Nat)) ∧ w' = w) := Lib.hid (fun w => by
          have := rBlanks_in s (k := E) (by omega) (by omega) w
          rw [hK2] at this
          exact this)
        rw [hK2] at R4' R5'
        have R4 := Lib.hid (R4'.out HNO.out)
        have R5 := Lib.hid (R5'.out HNO.out)
        have hjK : j < K2 := by omega
        clear R4' R5' HNO hK2 hE hEK
        go_wp2_with fail
        refine (HB2.out w5).mono ?_
        rintro e w0 ⟨rfl, h0⟩
        have h0 := h0.symm
        subst h0
        clear HB2
        by_cases h58 : s.data.toList[K2]? ≠ some 58
        · obtain rfl := R4.out h58
          by_cases hl2 : K2 < s.size
          · have b1 : (((s[K2]'hl2).toNat : Int) == 58) = false := sgn_no s K2 hl2 58 h58
            have b3 : (((s[K2]'hl2).toNat : Int) != 58) = true := sgn_no' s K2 hl2 58 h58
            have a1 : decide ((K2 : Int) < (s.size : Int)) = true := decide_eq_true (by omega)
            have a2 : decide (K2 < s.size) = true := decide_eq_true (by omega)
            have a3 : decide ((s.size : Int) ≤ (K2 : Int)) = false := decide_eq_false (by omega)
            have a4 : decide (s.size ≤ K2) = false := decide_eq_false (by omega)
            clear h58 R4 R5 HI
            have bxe := HL5.out.z6
            unfold zeroC at bxe
            have q0 : w5.cell? ⟨w.heap.size, 0, none⟩ = some (.int .i8 0) := bxe.cell 0
            have qf0 := bxe.frozen 0
            have q1 : w5.cell? ⟨w.heap.size, 1, none⟩ = some (.bool false) := bxe.cell 1
            have qf1 := bxe.frozen 1
            have q2 : w5.cell? ⟨w.heap.size, 2, none⟩ = some (.int .i64 0) := bxe.cell 2
            have qf2 := bxe.frozen 2
            have q3 : w5.cell? ⟨w.heap.size, 3, none⟩ = some (.string ⟨#[]⟩) := bxe.cell 3
            have qf3 := bxe.frozen 3
            have q4 : w5.cell? ⟨w.heap.size, 4, none⟩ = some (.slice none 0 0) := bxe.cell 4
            have qf4 := bxe.frozen 4
            have q5 : w5.cell? ⟨w.heap.size, 5, none⟩ = some (.slice none 0 0) := bxe.cell 5
            have qf5 := bxe.frozen 5
            clear bxe
            go_wp2_with fail
            refine bodyPost_ret (v := .tuple #[zeroV, .int .i64 (K2 : Nat), .int .i64 (40 : Nat)]) (by simp [results, Tryz.results21, go_sem, zeroV, q0, q1, q2, q3, q4, q5]) rfl ?_
            exact HL5.out.err _ _
          · clear h58 R4 R5 HI
            have a1 : decide ((K2 : Int) < (s.size : Int)) = false := decide_eq_false (by omega)
            have a2 : decide (K2 < s.size) = false := decide_eq_false (by omega)
            have a3 : decide ((s.size : Int) ≤ (K2 : Int)) = true := decide_eq_true (by omega)
            have a4 : decide (s.size ≤ K2) = true := decide_eq_true (by omega)
            have bxe := HL5.out.z6
            unfold zeroC at bxe
            have q0 : w5.cell? ⟨w.heap.size, 0, none⟩ = some (.int .i8 0) := bxe.cell 0
            have qf0 := bxe.frozen 0
            have q1 : w5.cell? ⟨w.heap.size, 1, none⟩ = some (.bool false) := bxe.cell 1
            have qf1 := bxe.frozen 1
            have q2 : w5.cell? ⟨w.heap.size, 2, none⟩ = some (.int .i64 0) := bxe.cell 2
            have qf2 := bxe.frozen 2
            have q3 : w5.cell? ⟨w.heap.size, 3, none⟩ = some (.string ⟨#[]⟩) := bxe.cell 3
            have qf3 := bxe.frozen 3
            have q4 : w5.cell? ⟨w.heap.size, 4, none⟩ = some (.slice none 0 0) := bxe.cell 4
            have qf4 := bxe.frozen 4
            have q5 : w5.cell? ⟨w.heap.size, 5, none⟩ = some (.slice none 0 0) := bxe.cell 5
            have qf5 := bxe.frozen 5
            clear bxe
            go_wp2_with fail
            refine bodyPost_ret (v := .tuple #[zeroV, .int .i64 (K2 : Nat), .int .i64 (40 : Nat)]) (by simp [results, Tryz.results21, go_sem, zeroV, q0, q1, q2, q3, q4, q5]) rfl ?_
            exact HL5.out.err _ _
        have h58 : s.data.toList[K2]? = some 58 := Decidable.not_not.1 h58
        have hl2 : K2 < s.size := Nat.lt_of_not_le fun h => none_at s K2 (by omega) 58 h58
        have b1 : (((s[K2]'hl2).toNat : Int) == 58) = true := sgn_yes s K2 hl2 58 h58
        have b3 : (((s[K2]'hl2).toNat : Int) != 58) = false := sgn_yes' s K2 hl2 58 h58
        have a1 : decide ((K2 : Int) < (s.size : Int)) = true := decide_eq_true (by omega)
        have a2 : decide (K2 < s.size) = true := decide_eq_true (by omega)
        have a3 : decide ((s.size : Int) ≤ (K2 : Int)) = false := decide_eq_false (by omega)
        have a4 : decide (s.size ≤ K2) = false := decide_eq_false (by omega)
        have hrun0 := R5.out h58
        obtain ⟨K3, hK3⟩ : ∃ K3, bl s.data.toList (K2 + 1) = K3 := ⟨_, rfl⟩
        have hK3s : K3 ≤ s.size := by
          have := bl_le s.data.toList (K2 + 1) (by rw [toList_length]; omega)
          rwa [hK3, toList_length] at this
        have hKK : K2 + 1 ≤ K3 := hK3 ▸ bl_ge s.data.toList (K2 + 1)
        have HB3 : Hid (∀ w, Calls Tryz.prog 12 #[.string s, .int .i64 (((K2 : Int) + 1))] w fun e w' => e = .returned (.int .i64 (K3 : Nat)) ∧ w' = w) := Lib.hid (fun w => by
          have := rBlanks_in s (k := K2 + 1) (by omega) (by omega) w
          rw [hK3] at this
          exact this)
        rw [hK3] at hrun0
        obtain ⟨r, hr⟩ : ∃ r, valM s.data.toList K3 (d + 1) = r := ⟨_, rfl⟩
        have hpart := hrun0.part (by rw [toList_length]; exact hK3s) hr
        have HV := Lib.hid (HI.out K3 (by omega) hK3s w5)
        rw [hr] at HV
        clear R4 R5 h58 hK3 hrun0
        cases r with
        | error q =>
          obtain ⟨a, c⟩ := q
          have hne : c ≠ 0 := valM_err (by rw [toList_length]; exact hK3s) hr
          have hRe : R = .error (a, c) := hpart
          subst hRe
          have t1 : ((c : Int) == 0) = false := by rw [beq_eq_false_iff_ne]; omega
          have t2 : ((c : Int) != 0) = true := by rw [bne_iff_ne]; omega
          clear hr hpart hne HI
          go_wp2_with fail
          refine (HB3.out w5).mono ?_
          rintro e w0 ⟨rfl, h0⟩
          have h0 := h0.symm
          subst h0
          clear HB3
          go_wp2_with fail
          refine HV.out.mono ?_
          rintro e w6 ⟨rfl, hb6⟩
          unfold zeroV
          go_upto_region 19 with fail
          obtain ⟨Y, hY⟩ : ∃ Y, Y = w6.alloc (.cells #[.int .i8 0, .bool false, .int .i64 0, .string ⟨#[]⟩, .slice none 0 0, .slice none 0 0] 28) := ⟨_, rfl⟩
          have hl : LW w 5 vs ks lv (.slice oK nk cK) xs S Y := by rw [hY]; exact (HL5.out.below hb6).alloc _
          rw [← hY]
          have HF := Lib.hid hl
          clear hY hl hb6 HL5 HV
          have bxe := HF.out.z6
          unfold zeroC at bxe
          have q0 : Y.cell? ⟨w.heap.size, 0, none⟩ = some (.int .i8 0) := bxe.cell 0
          have qf0 := bxe.frozen 0
          have q1 : Y.cell? ⟨w.heap.size, 1, none⟩ = some (.bool false) := bxe.cell 1
          have qf1 := bxe.frozen 1
          have q2 : Y.cell? ⟨w.heap.size, 2, none⟩ = some (.int .i64 0) := bxe.cell 2
          have qf2 := bxe.frozen 2
          have q3 : Y.cell? ⟨w.heap.size, 3, none⟩ = some (.string ⟨#[]⟩) := bxe.cell 3
          have qf3 := bxe.frozen 3
          have q4 : Y.cell? ⟨w.heap.size, 4, none⟩ = some (.slice none 0 0) := bxe.cell 4
          have qf4 := bxe.frozen 4
          have q5 : Y.cell? ⟨w.heap.size, 5, none⟩ = some (.slice none 0 0) := bxe.cell 5
          have qf5 := bxe.frozen 5
          clear bxe
          go_wp2_with fail
          refine bodyPost_ret (v := .tuple #[zeroV, .int .i64 (a : Nat), .int .i64 (c : Nat)]) (by simp [results, Tryz.results21, go_sem, zeroV, q0, q1, q2, q3, q4, q5]) rfl ?_
          exact HF.out.err _ _
        | ok p =>
          obtain ⟨x, E2⟩ := p
          have hrun : RunS s.data.toList d R (.got x E2 [⟨true, vs, ks ++ [Kk]⟩]) := hpart
          obtain ⟨f1, f2, f3⟩ := hrun.putS
          have hE2 := valM_place (by rw [toList_length]; exact hK3s) hr
          rw [toList_length] at hE2
          obtain ⟨K4, hK4⟩ : ∃ K4, bl s.data.toList E2 = K4 := ⟨_, rfl⟩
          have hK4s : K4 ≤ s.size := by
            have := bl_le s.data.toList E2 (by rw [toList_length]; exact hE2.2)
            rwa [hK4, toList_length] at this
          have hEK : E2 ≤ K4 := hK4 ▸ bl_ge s.data.toList E2
          have HB4 : Hid (∀ w, Calls Tryz.prog 12 #[.string s, .int .i64 ((E2 : Nat))] w fun e w' => e = .returned (.int .i64 (K4 : Nat)) ∧ w' = w) := Lib.hid (fun w => by
            have := rBlanks_in s (k := E2) (by omega) (by omega) w
            rw [hK4] at this
            exact this)
          rw [hK4] at f1 f2 f3
          have F1 := Lib.hid f1
          have F2 := Lib.hid f2
          have F3 := Lib.hid f3
          have hjK4 : j < K4 := by omega
          clear hr hpart hrun f1 f2 f3 hK4 hEK
          go_wp2_with fail
          refine (HB3.out w5).mono ?_
          rintro e w0 ⟨rfl, h0⟩
          have h0 := h0.symm
          subst h0
          clear HB3
          go_wp2_with fail
          refine HV.out.mono ?_
          rintro e w6 ⟨val, Sv, rfl, hva, hSv, hb6⟩
          obtain ⟨kd, bo, nu, te, o1, n1, m1, o2, n2, m2, rfl⟩ := isVa_form hva
          obtain ⟨oL, aL, cL, rfl, hL1, hL2, -, -, -⟩ := Ow.own_form HL5.out.lo
          obtain ⟨nv, hnv⟩ : ∃ nv, nv = vs.length := ⟨_, rfl⟩
          have HNV := Lib.hid hnv
          rw [← hnv] at hL1 HL5
          clear hnv
          have HVA := Lib.hid (Ow.isVa_lt _ _ hva)
          have HSv : Hid (∀ q, Sv q → w5.heap.size ≤ q) := Lib.hid hSv
          have HB6 := Lib.hid hb6
          clear hva hSv HV hE2 hb6 p5 a1 a2 a3 a4 b1 b3
          go_upto_region 21 with fail
          obtain ⟨X5, hX5⟩ : ∃ X, X = (w6.alloc (.cells #[.int .i8 kd, .bool bo, .int .i64 nu, .string te, .slice o1 n1 m1, .slice o2 n2 m2] 28)) := ⟨_, rfl⟩
          have k5 : Below w6.heap.size w6 X5 := by rw [hX5]; exact (Below.refl _ _).alloc (Nat.le_refl _) _
          have b11 : Bx X5 w6.heap.size #[.int .i8 kd, .bool bo, .int .i64 nu, .string te, .slice o1 n1 m1, .slice o2 n2 m2] 28 := by rw [hX5]; exact Bx.new _ _ _
          rw [← hX5]
          have hl5 := (HL5.out.below HB6.out).below k5
          have hv5 := isVa_kp (W' := X5) HVA.out fun q e => k5.block q e.2
          have hs5 : ∀ q, (Sv q ∧ q < w6.heap.size) → w.heap.size + 2 ≤ q ∧ q < X5.heap.size ∧ (Value.slice oL nv cL).ownBlock ≠ some q ∧ (Value.slice oK nk cK).ownBlock ≠ some q := fun q e => by
            have h1 := HSv.out q e.1
            have h2 := HL5.out.z9.lt
            have h3 := k5.size
            refine ⟨by omega, by omega, fun e' => ?_, fun e' => ?_⟩
            · have := (HL5.out.lo.lt q e').2; omega
            · have := (HL5.out.ko.lt q e').2; omega
          have hkb : (Value.slice oK nk cK).ownBlock ≠ some w6.heap.size := fun e' => by
            have := (HL5.out.ko.lt _ e').2
            have := HB6.out.size
            omega
          have hlb : (Value.slice oL nv cL).ownBlock ≠ some w6.heap.size := fun e' => by
            have := (HL5.out.lo.lt _ e').2
            have := HB6.out.size
            omega
          have hb6s : w.heap.size + 2 ≤ w6.heap.size := by
            have := HL5.out.z9.lt
            have := HB6.out.size
            omega
          have HL7 := Lib.hid (hl5.alloc (.cells #[.string Kk] 9))
          have HB11 := Lib.hid b11
          have HX5 := Lib.hid (And.intro hv5 (And.intro hs5 (And.intro hkb (And.intro hlb hb6s))))
          have p5 : X5.cell? ⟨w.heap.size + 1, 5, none⟩ = some (.slice oK nk cK) := hl5.z9.cell 5
          have HKO : Hid ((X5.alloc (.cells #[.string Kk] 9)).ownsRow (w.heap.size + 2) 9 1 (.slice oK nk cK) nk (ks.map .string)) := Lib.hid (by have := HL7.out.ko; rw [← HNK.out] at this; exact this)
          have HZ7 : Hid (w.heap.size + 2 ≤ (X5.alloc (.cells #[.string Kk] 9)).heap.size) := Lib.hid (by have := HL7.out.z9.lt; omega)
          have hnkl : nk ≤ 20000 := by have := HNK.out; omega
          clear hX5 k5 b11 hl5 hv5 hs5 hkb hlb hb6s HB6 HSv HVA HL5
          go_wp2_with (at_builtin; refine Ow.wpList_append_row_at rfl _ _ 26 rfl (w.heap.size + 2) 9 i1 _ 1 16 Tryz.underlying26 hj1 hy0 hy1 hy2 rfl (by decide) _ _ _ rfl HKO.out _ ⟨X5.heap.size, 0, none⟩ 1 1 [.string Kk] rfl (fun _ => rfl) rfl ?c1 ?c2 ?c3 ?c4 ?c5 ?_)
          case c1 => exact news_at (Bx.new _ _ _)
          case c2 => intro u hu; simp only [List.mem_cons, List.not_mem_nil, or_false] at hu; subst hu; rfl
          case c3 => unfold maxLen; omega
          case c4 => omega
          case c5 => exact HZ7.out
          intro ok' ck' y1 own1 gr1 at1
          have h9 := HL7.out.z9.kp (gr1.block _ HL7.out.z9.lt (fun e => by have := (HL7.out.ko.lt _ e.symm).1; omega))
          have p5' : y1.cell? ⟨w.heap.size + 1, 5, none⟩ = some (.slice oK nk cK) := h9.cell 5
          have pf5 := h9.frozen 5
          have hn1 := LW.key (K := Kk) (kv' := .slice ok' (nk + 1) ck') HL7.out (by have := HKsz.out; omega) (by rw [← HNK.out]; exact own1) gr1 (by rw [World.size_alloc]; exact at1)
          obtain ⟨Z1, hZ1⟩ : ∃ Z, Z = y1.setCell ⟨w.heap.size + 1, 5, none⟩ (.slice ok' (nk + 1) ck') := ⟨_, rfl⟩
          rw [← hZ1] at hn1
          have hs1 : X5.heap.size + 1 ≤ Z1.heap.size := by
            have := gr1.size
            rw [hZ1]
            simp at this ⊢
            exact this
          have hk1 : ∀ q, q < X5.heap.size → (Value.slice oK nk cK).ownBlock ≠ some q → q ≠ w.heap.size + 1 → Z1.heap[q]? = X5.heap[q]? := fun q h1 h2 h3 => by
            rw [hZ1]
            exact (Below.heap_setCell _ _ _ _ h3).trans ((gr1.block q (by simp; omega) (fun e => h2 e.symm)).trans (Below.heap_alloc _ _ _ h1))
          have hv1 : isVa Z1 (fun q => Sv q ∧ q < w6.heap.size) x (.agg #[.int .i8 kd, .bool bo, .int .i64 nu, .string te, .slice o1 n1 m1, .slice o2 n2 m2]) := isVa_kp HX5.out.1 fun q e => hk1 q (HX5.out.2.1 q e).2.1 (HX5.out.2.1 q e).2.2.2 (by have := (HX5.out.2.1 q e).1; omega)
          have hb1 : Bx Z1 w6.heap.size #[.int .i8 kd, .bool bo, .int .i64 nu, .string te, .slice o1 n1 m1, .slice o2 n2 m2] 28 := HB11.out.kp (hk1 _ HB11.out.lt HX5.out.2.2.1 (by have := HX5.out.2.2.2.2; omega))
          have hko1 : ∀ q, (Value.slice ok' (nk + 1) ck').ownBlock = some q → (Value.slice oK nk cK).ownBlock = some q ∨ X5.heap.size ≤ q := fun q e => by
            rcases at1 with a | a
            · exact .inl (a ▸ e)
            · rw [a] at e
              have := Option.some.inj e
              exact .inr (by omega)
          have hs2 : ∀ q, (Sv q ∧ q < w6.heap.size) → w.heap.size + 2 ≤ q ∧ q < (Z1.alloc (.cells #[.int .i8 kd, .bool bo, .int .i64 nu, .string te, .slice o1 n1 m1, .slice o2 n2 m2] 28)).heap.size ∧ (Value.slice oL nv cL).ownBlock ≠ some q ∧ (Value.slice ok' (nk + 1) ck').ownBlock ≠ some q := fun q e => by
            have h1 := HX5.out.2.1 q e
            refine ⟨h1.1, by simp; omega, h1.2.2.1, fun e' => ?_⟩
            rcases hko1 q e' with a | a
            · exact h1.2.2.2 a
            · omega
          have HN1 := Lib.hid hn1
          have HL8 := Lib.hid (hn1.alloc (.cells #[.int .i8 kd, .bool bo, .int .i64 nu, .string te, .slice o1 n1 m1, .slice o2 n2 m2] 28))
          have hv8 := isVa_kp (W' := (Z1.alloc (.cells #[.int .i8 kd, .bool bo, .int .i64 nu, .string te, .slice o1 n1 m1, .slice o2 n2 m2] 28))) hv1 fun q e => Below.heap_alloc _ _ _ (by have := (HX5.out.2.1 q e).2.1; omega)
          have HV8 := Lib.hid hv8
          have HS8 := Lib.hid hs2
          have HB1 := Lib.hid hb1
          have HZ1 := Lib.hid hZ1
          clear own1 gr1 at1 h9 p5 HL7 HKO HZ7 HX5 HB11 hn1 hs1 hk1 hv1 hb1 hko1 hs2 hv8 hZ1
          go_upto_region 22 with fail
          rw [← HZ1.out]
          have p4 : Z1.cell? ⟨w.heap.size + 1, 4, none⟩ = some (.slice oL nv cL) := HN1.out.z9.cell 4
          have bz1 := HB1.out
          have g0 : Z1.cell? ⟨w6.heap.size, 0, none⟩ = some (.int .i8 kd) := bz1.cell 0
          have g1 : Z1.cell? ⟨w6.heap.size, 1, none⟩ = some (.bool bo) := bz1.cell 1
          have g2 : Z1.cell? ⟨w6.heap.size, 2, none⟩ = some (.int .i64 nu) := bz1.cell 2
          have g3 : Z1.cell? ⟨w6.heap.size, 3, none⟩ = some (.string te) := bz1.cell 3
          have g4 : Z1.cell? ⟨w6.heap.size, 4, none⟩ = some (.slice o1 n1 m1) := bz1.cell 4
          have g5 : Z1.cell? ⟨w6.heap.size, 5, none⟩ = some (.slice o2 n2 m2) := bz1.cell 5
          have hnvl : nv ≤ 20000 := by have := HNV.out; omega
          have HLO : Hid ((Z1.alloc (.cells #[.int .i8 kd, .bool bo, .int .i64 nu, .string te, .slice o1 n1 m1, .slice o2 n2 m2] 28)).ownsRow (w.heap.size + 2) 28 6 (.slice oL nv cL) nv xs) := Lib.hid (by have := HL8.out.lo; rw [← HNV.out] at this; exact this)
          have HZ8 : Hid (w.heap.size + 2 ≤ (Z1.alloc (.cells #[.int .i8 kd, .bool bo, .int .i64 nu, .string te, .slice o1 n1 m1, .slice o2 n2 m2] 28)).heap.size) := Lib.hid (by have := HL8.out.z9.lt; omega)
          clear p5' pf5 HZ1 bz1
          go_wp2_with (at_builtin; refine Ow.wpList_append_row_at rfl _ _ 25 rfl (w.heap.size + 2) 28 i0 _ 6 80 Tryz.underlying25 hi hz0 hz1 hz2 rfl (by decide) _ _ _ rfl HLO.out _ ⟨Z1.heap.size, 0, none⟩ 1 1 [.int .i8 kd, .bool bo, .int .i64 nu, .string te, .slice o1 n1 m1, .slice o2 n2 m2] rfl (fun _ => rfl) rfl ?d1 ?d2 ?d3 ?d4 ?d5 ?_)
          case d1 => exact news_at (Bx.new _ _ _)
          case d2 => exact Ow.isV_one (isV_of_a _ _ HV8.out)
          case d3 => unfold maxLen; omega
          case d4 => omega
          case d5 => exact HZ8.out
          intro o' c' y own' gr at'
          have h9 := HL8.out.z9.kp (gr.block _ HL8.out.z9.lt (fun e => by have := (HL8.out.lo.lt _ e.symm).1; omega))
          have p4' : y.cell? ⟨w.heap.size + 1, 4, none⟩ = some (.slice oL nv cL) := h9.cell 4
          have pf4 := h9.frozen 4
          have HN := Lib.hid (LW.put (lv' := .slice o' (nv + 1) c') HL8.out HV8.out HS8.out (by rw [← HNV.out]; exact own') gr (by rw [World.size_alloc]; exact at'))
          clear own' gr at' h9 p4 HL8 HV8 HS8 HLO HZ8 HB1 HN1 g0 g1 g2 g3 g4 g5
          go_upto_region 23 with fail
          obtain ⟨Z, hZ⟩ : ∃ Z, Z = y.setCell ⟨w.heap.size + 1, 4, none⟩ (.slice o' (nv + 1) c') := ⟨_, rfl⟩
          rw [← hZ] at HN ⊢
          clear hZ p4' pf4
          go_wp2_with fail
          refine (HB4.out Z).mono ?_
          rintro e w0 ⟨rfl, h0⟩
          have h0 := h0.symm
          subst h0
          clear HB4
          by_cases hc : s.data.toList[K4]? = some 125
          · have hlt4 : K4 < s.size := Nat.lt_of_not_le fun h => none_at s K4 (by omega) 125 hc
            have b1 : (((s[K4]'hlt4).toNat : Int) == 125) = true := sgn_yes s K4 hlt4 125 hc
            obtain rfl := F1.out hc
            have a1 : decide ((K4 : Int) < (s.size : Int)) = true := decide_eq_true (by omega)
            have a2 : decide (K4 < s.size) = true := decide_eq_true (by omega)
            have a3 : decide ((s.size : Int) ≤ (K4 : Int)) = false := decide_eq_false (by omega)
            have a4 : decide (s.size ≤ K4) = false := decide_eq_false (by omega)
            clear hc F1 F2 F3 HI
            have bxe := HN.out.z6
            unfold zeroC at bxe
            have q0 : Z.cell? ⟨w.heap.size, 0, none⟩ = some (.int .i8 0) := bxe.cell 0
            have qf0 := bxe.frozen 0
            have q1 : Z.cell? ⟨w.heap.size, 1, none⟩ = some (.bool false) := bxe.cell 1
            have qf1 := bxe.frozen 1
            have q2 : Z.cell? ⟨w.heap.size, 2, none⟩ = some (.int .i64 0) := bxe.cell 2
            have qf2 := bxe.frozen 2
            have q3 : Z.cell? ⟨w.heap.size, 3, none⟩ = some (.string ⟨#[]⟩) := bxe.cell 3
            have qf3 := bxe.frozen 3
            have q4 : Z.cell? ⟨w.heap.size, 4, none⟩ = some (.slice none 0 0) := bxe.cell 4
            have qf4 := bxe.frozen 4
            have q5 : Z.cell? ⟨w.heap.size, 5, none⟩ = some (.slice none 0 0) := bxe.cell 5
            have qf5 := bxe.frozen 5
            have bx9 := HN.out.z9
            have p0 : Z.cell? ⟨w.heap.size + 1, 0, none⟩ = some (.int .i8 5) := bx9.cell 0
            have p1 : Z.cell? ⟨w.heap.size + 1, 1, none⟩ = some (.bool false) := bx9.cell 1
            have p2 : Z.cell? ⟨w.heap.size + 1, 2, none⟩ = some (.int .i64 0) := bx9.cell 2
            have p3 : Z.cell? ⟨w.heap.size + 1, 3, none⟩ = some (.string ⟨#[]⟩) := bx9.cell 3
            have p4 : Z.cell? ⟨w.heap.size + 1, 4, none⟩ = some (.slice o' (nv + 1) c') := bx9.cell 4
            have p5 : Z.cell? ⟨w.heap.size + 1, 5, none⟩ = some (.slice ok' (nk + 1) ck') := bx9.cell 5
            clear bxe bx9
            have hans := HN.out.ans (by decide) (K4 + 1)
            rw [show ((K4 + 1 : Nat) : Int) = (K4 : Int) + 1 from rfl] at hans
            have HANS := Lib.hid hans
            clear hans
            go_wp2_with fail
            refine bodyPost_ret (v := .tuple #[.agg #[.int .i8 5, .bool false, .int .i64 0, .string ⟨#[]⟩, .slice o' (nv + 1) c', .slice ok' (nk + 1) ck'], .int .i64 ((K4 : Int) + 1), .int .i64 0]) (by simp [results, Tryz.results21, go_sem, q0, q1, q2, q3, q4, q5]) rfl ?_
            exact HANS.out
          by_cases hlt4 : K4 < s.size
          · have b1 : (((s[K4]'hlt4).toNat : Int) == 125) = false := sgn_no s K4 hlt4 125 hc
            have a1 : decide ((K4 : Int) < (s.size : Int)) = true := decide_eq_true (by omega)
            have a2 : decide (K4 < s.size) = true := decide_eq_true (by omega)
            have a3 : decide ((s.size : Int) ≤ (K4 : Int)) = false := decide_eq_false (by omega)
            have a4 : decide (s.size ≤ K4) = false := decide_eq_false (by omega)
            by_cases h44 : s.data.toList[K4]? = some 44
            · have b2 : (((s[K4]'hlt4).toNat : Int) == 44) = true := sgn_yes s K4 hlt4 44 h44
              have b3 : (((s[K4]'hlt4).toNat : Int) != 44) = false := sgn_yes' s K4 hlt4 44 h44
              have HR3 := Lib.hid (F3.out hc h44)
              obtain ⟨K5, hK5⟩ : ∃ K5, bl s.data.toList (K4 + 1) = K5 := ⟨_, rfl⟩
              have hK5s : K5 ≤ s.size := by
                have := bl_le s.data.toList (K4 + 1) (by rw [toList_length]; omega)
                rwa [hK5, toList_length] at this
              have hKK5 : K4 + 1 ≤ K5 := hK5 ▸ bl_ge s.data.toList (K4 + 1)
              have HB5 : Hid (∀ w, Calls Tryz.prog 12 #[.string s, .int .i64 (((K4 : Int) + 1))] w fun e w' => e = .returned (.int .i64 (K5 : Nat)) ∧ w' = w) := Lib.hid (fun w => by
                have := rBlanks_in s (k := K4 + 1) (by omega) (by omega) w
                rw [hK5] at this
                exact this)
              rw [hK5] at HR3
              have hvl3 : (vs ++ [x]).length ≤ K5 := by rw [List.length_append]; simp only [List.length_cons, List.length_nil]; omega
              have hkl3 : (ks ++ [Kk]).length ≤ K5 := by rw [List.length_append]; simp only [List.length_cons, List.length_nil]; omega
              clear hc h44 F1 F2 F3 hK5
              go_wp2_with fail
              refine (HB5.out Z).mono ?_
              rintro e w0 ⟨rfl, h0⟩
              have h0 := h0.symm
              subst h0
              clear HB5
              go_wp2_with fail
              go_roundw
              case rel => exact ⟨K5, vs ++ [x], ks ++ [Kk], _, _, _, _, hK5s, by omega, by go_num, hvl3, hkl3, HN, HR3⟩
              case measure => simp [intOf]; omega
            · have b2 : (((s[K4]'hlt4).toNat : Int) == 44) = false := sgn_no s K4 hlt4 44 h44
              have b3 : (((s[K4]'hlt4).toNat : Int) != 44) = true := sgn_no' s K4 hlt4 44 h44
              obtain rfl := F2.out hc h44
              clear hc h44 F1 F2 F3 HI
              have bxe := HN.out.z6
              unfold zeroC at bxe
              have q0 : Z.cell? ⟨w.heap.size, 0, none⟩ = some (.int .i8 0) := bxe.cell 0
              have qf0 := bxe.frozen 0
              have q1 : Z.cell? ⟨w.heap.size, 1, none⟩ = some (.bool false) := bxe.cell 1
              have qf1 := bxe.frozen 1
              have q2 : Z.cell? ⟨w.heap.size, 2, none⟩ = some (.int .i64 0) := bxe.cell 2
              have qf2 := bxe.frozen 2
              have q3 : Z.cell? ⟨w.heap.size, 3, none⟩ = some (.string ⟨#[]⟩) := bxe.cell 3
              have qf3 := bxe.frozen 3
              have q4 : Z.cell? ⟨w.heap.size, 4, none⟩ = some (.slice none 0 0) := bxe.cell 4
              have qf4 := bxe.frozen 4
              have q5 : Z.cell? ⟨w.heap.size, 5, none⟩ = some (.slice none 0 0) := bxe.cell 5
              have qf5 := bxe.frozen 5
              clear bxe
              go_wp2_with fail
              refine bodyPost_ret (v := .tuple #[zeroV, .int .i64 (K4 : Nat), .int .i64 (40 : Nat)]) (by simp [results, Tryz.results21, go_sem, zeroV, q0, q1, q2, q3, q4, q5]) rfl ?_
              exact HN.out.err _ _
          · obtain rfl := F2.out hc (none_at s K4 hlt4 44)
            have a1 : decide ((K4 : Int) < (s.size : Int)) = false := decide_eq_false (by omega)
            have a2 : decide (K4 < s.size) = false := decide_eq_false (by omega)
            have a3 : decide ((s.size : Int) ≤ (K4 : Int)) = true := decide_eq_true (by omega)
            have a4 : decide (s.size ≤ K4) = true := decide_eq_true (by omega)
            clear hc hlt4 F1 F2 F3 HI
            have bxe := HN.out.z6
            unfold zeroC at bxe
            have q0 : Z.cell? ⟨w.heap.size, 0, none⟩ = some (.int .i8 0) := bxe.cell 0
            have qf0 := bxe.frozen 0
            have q1 : Z.cell? ⟨w.heap.size, 1, none⟩ = some (.bool false) := bxe.cell 1
            have qf1 := bxe.frozen 1
            have q2 : Z.cell? ⟨w.heap.size, 2, none⟩ = some (.int .i64 0) := bxe.cell 2
            have qf2 := bxe.frozen 2
            have q3 : Z.cell? ⟨w.heap.size, 3, none⟩ = some (.string ⟨#[]⟩) := bxe.cell 3
            have qf3 := bxe.frozen 3
            have q4 : Z.cell? ⟨w.heap.size, 4, none⟩ = some (.slice none 0 0) := bxe.cell 4
            have qf4 := bxe.frozen 4
            have q5 : Z.cell? ⟨w.heap.size, 5, none⟩ = some (.slice none 0 0) := bxe.cell 5
            have qf5 := bxe.frozen 5
            clear bxe
            go_wp2_with fail
            refine bodyPost_ret (v := .tuple #[zeroV, .int .i64 (K4 : Nat), .int .i64 (40 : Nat)]) (by simp [results, Tryz.results21, go_sem, zeroV, q0, q1, q2, q3, q4, q5]) rfl ?_
            exact HN.out.err _ _
end Go.Proofs.YtgbagdfcdljleaaGreatDoor

namespace Go.Proofs.YtgbagdfcdljleaaGreatDoor
open Go.RowKit Go.Maps

theorem LW.pass {w W : World} {kd : Int} {vs : List V} {ks : List ByteArray} {lv kv : Value} {xs : List Value} {S S' : Nat → Prop} {v : V} {c0 c1 c2 c3 c4 c5 : Value} (h : LW w kd vs ks lv kv xs S W) (hva : isVa W S' v (.agg #[c0, c1, c2, c3, c4, c5])) (hS : ∀ q, S' q → w.heap.size < q) (e : Nat) :
    AnsR w (.ok (v, e)) (.returned (.tuple #[.agg #[c0, c1, c2, c3, c4, c5], .int .i64 e, .int .i64 0])) ((((((W.setCell ⟨w.heap.size, 0, none⟩ c0).setCell ⟨w.heap.size, 1, none⟩ c1).setCell ⟨w.heap.size, 2, none⟩ c2).setCell ⟨w.heap.size, 3, none⟩ c3).setCell ⟨w.heap.size, 4, none⟩ c4).setCell ⟨w.heap.size, 5, none⟩ c5) :=
  ⟨_, S', rfl, isVa_kp hva fun q e => six_heap _ _ _ _ _ _ _ _ (by have := hS q e; omega), fun q e => Nat.le_of_lt (hS q e), six_below' h.kb (Nat.le_refl _) _ _ _ _ _ _⟩
theorem LW.leaf {w W : World} {kd : Int} {vs : List V} {ks : List ByteArray} {lv kv : Value} {xs : List Value} {S : Nat → Prop} (h : LW w kd vs ks lv kv xs S W) (kd' : Int) (bo : Bool) (nu : Int) (te : ByteArray) (h1 : -128 ≤ kd' ∧ kd' ≤ 127) (h2 : -9223372036854775808 ≤ nu ∧ nu ≤ 9223372036854775807) (h3 : te.size ≤ maxLen) (e : Nat) :
    AnsR w (.ok (.mk kd' bo nu te [] [], e)) (.returned (.tuple #[.agg #[.int .i8 kd', .bool bo, .int .i64 nu, .string te, .slice none 0 0, .slice none 0 0], .int .i64 e, .int .i64 0])) ((((((W.setCell ⟨w.heap.size, 0, none⟩ (.int .i8 kd')).setCell ⟨w.heap.size, 1, none⟩ (.bool bo)).setCell ⟨w.heap.size, 2, none⟩ (.int .i64 nu)).setCell ⟨w.heap.size, 3, none⟩ (.string te)).setCell ⟨w.heap.size, 4, none⟩ (.slice none 0 0)).setCell ⟨w.heap.size, 5, none⟩ (.slice none 0 0)) :=
  h.pass (isVa_leaf kd' bo nu te h1 h2 h3) (fun _ e => e.elim) e
theorem ne_b {c : UInt8} {n : Nat} (hn : n < 256) (h : c ≠ UInt8.ofNat n) : ((c.toNat : Int) == (n : Int)) = false := by
  rw [beq_eq_false_iff_ne]
  intro e
  exact h (UInt8.toNat_inj.1 (by simp; omega))
theorem begins_q (s p : ByteArray) (k : Nat) (hk : k ≤ s.size) (hs : s.size ≤ 20000) (hp : p.size ≤ 100) {q : Bool} (hq : decide ((s.data.toList.drop k).take p.data.toList.length = p.data.toList) = q) (w : World) :
    Calls Tryz.prog 16 #[.string s, .int .i64 k, .string p] w fun e w' => e = .returned (.bool q) ∧ w = w' := by
  have := begins_any s p k hk (by omega) hp w
  rw [hq] at this
  exact this.mono fun e w' h => ⟨h.1, h.2.symm⟩
set_option maxRecDepth 100000 in
set_option maxHeartbeats 4000000 in
theorem rValue_step (s : ByteArray) (k : Nat) (d : Int) (hk : k ≤ s.size) (hs : s.size ≤ 20000) (hd1 : -9223372036854775808 ≤ d) (hd2 : d ≤ 9223372036854775807) (w : World)
    (IH : d ≤ 24 → ∀ k', k < k' → k' ≤ s.size → ∀ w, Calls Tryz.prog 7 #[.string s, .int .i64 (k' : Nat), .int .i64 (d + 1)] w fun e w' => AnsR w (valM s.data.toList k' (d + 1)) e w') :
    Calls Tryz.prog 7 #[.string s, .int .i64 k, .int .i64 d] w fun e w' => AnsR w (valM s.data.toList k d) e w' := by
  obtain ⟨R, hR⟩ : ∃ R, valM s.data.toList k d = R := ⟨_, rfl⟩
  have hG := GoS.of (RunS.start (by rw [toList_length]; exact hk) hR)
  rw [hR]
  clear hR
  unfold begM at hG
  rw [toList_length] at hG
  have k0 : decide ((k : Int) < 0) = false := decide_eq_false (by omega)
  by_cases hlt : ¬ k < s.size
  · rw [if_pos (by omega)] at hG
    have hRe : R = .error (s.size, 40) := hG
    subst hRe
    have a1 : decide ((k : Int) < (s.size : Int)) = false := decide_eq_false (by omega)
    have a2 : decide (k < s.size) = false := decide_eq_false (by omega)
    have a3 : decide ((s.size : Int) ≤ (k : Int)) = true := decide_eq_true (by omega)
    have a4 : decide (s.size ≤ k) = true := decide_eq_true (by omega)
    clear hG IH hlt
    have HS := Lib.hid (LW.start w 0)
    unfold zeroC at HS
    go_enter Tryz.func7, Tryz.ntmps7
    go_upto_region 2 with fail
    obtain ⟨X, hX⟩ : ∃ X, X = ((w.alloc (.cells #[.int .i8 0, .bool false, .int .i64 0, .string ⟨#[]⟩, .slice none 0 0, .slice none 0 0] 28)).alloc (.cells #[.int .i8 0, .bool false, .int .i64 0, .string ⟨#[]⟩, .slice none 0 0, .slice none 0 0] 28)) := ⟨_, rfl⟩
    rw [← hX] at HS ⊢
    clear hX
    have bxe := HS.out.z6
    have bx9 := HS.out.z9
    unfold zeroC at bxe
    have q0 : X.cell? ⟨w.heap.size, 0, none⟩ = some (.int .i8 0) := bxe.cell 0
    have qf0 := bxe.frozen 0
    have q1 : X.cell? ⟨w.heap.size, 1, none⟩ = some (.bool false) := bxe.cell 1
    have qf1 := bxe.frozen 1
    have q2 : X.cell? ⟨w.heap.size, 2, none⟩ = some (.int .i64 0) := bxe.cell 2
    have qf2 := bxe.frozen 2
    have q3 : X.cell? ⟨w.heap.size, 3, none⟩ = some (.string ⟨#[]⟩) := bxe.cell 3
    have qf3 := bxe.frozen 3
    have q4 : X.cell? ⟨w.heap.size, 4, none⟩ = some (.slice none 0 0) := bxe.cell 4
    have qf4 := bxe.frozen 4
    have q5 : X.cell? ⟨w.heap.size, 5, none⟩ = some (.slice none 0 0) := bxe.cell 5
    have qf5 := bxe.frozen 5
    have p0 : X.cell? ⟨w.heap.size + 1, 0, none⟩ = some (.int .i8 0) := bx9.cell 0
    have p1 : X.cell? ⟨w.heap.size + 1, 1, none⟩ = some (.bool false) := bx9.cell 1
    have p2 : X.cell? ⟨w.heap.size + 1, 2, none⟩ = some (.int .i64 0) := bx9.cell 2
    have p3 : X.cell? ⟨w.heap.size + 1, 3, none⟩ = some (.string ⟨#[]⟩) := bx9.cell 3
    have p4 : X.cell? ⟨w.heap.size + 1, 4, none⟩ = some (.slice none 0 0) := bx9.cell 4
    have p5 : X.cell? ⟨w.heap.size + 1, 5, none⟩ = some (.slice none 0 0) := bx9.cell 5
    clear bxe bx9
    go_wp2_with fail
    refine bodyPost_ret (v := .tuple #[.agg #[.int .i8 0, .bool false, .int .i64 0, .string ⟨#[]⟩, .slice none 0 0, .slice none 0 0], .int .i64 (s.size : Nat), .int .i64 40]) (by simp [results, Tryz.results7, go_sem, q0, q1, q2, q3, q4, q5]) rfl ?_
    exact HS.out.err _ 40
  have hlt : k < s.size := Decidable.not_not.1 hlt
  rw [if_neg (by omega)] at hG
  have a1 : decide ((k : Int) < (s.size : Int)) = true := decide_eq_true (by omega)
  have a2 : decide (k < s.size) = true := decide_eq_true (by omega)
  have a3 : decide ((s.size : Int) ≤ (k : Int)) = false := decide_eq_false (by omega)
  have a4 : decide (s.size ≤ k) = false := decide_eq_false (by omega)
  by_cases hd : 24 < d
  · rw [if_pos (by simpa using hd)] at hG
    have hRe : R = .error (k, 30) := hG
    subst hRe
    have d1 : decide ((24 : Int) < d) = true := decide_eq_true hd
    clear hG IH hd
    have HS := Lib.hid (LW.start w 0)
    unfold zeroC at HS
    go_enter Tryz.func7, Tryz.ntmps7
    go_upto_region 2 with fail
    obtain ⟨X, hX⟩ : ∃ X, X = ((w.alloc (.cells #[.int .i8 0, .bool false, .int .i64 0, .string ⟨#[]⟩, .slice none 0 0, .slice none 0 0] 28)).alloc (.cells #[.int .i8 0, .bool false, .int .i64 0, .string ⟨#[]⟩, .slice none 0 0, .slice none 0 0] 28)) := ⟨_, rfl⟩
    rw [← hX] at HS ⊢
    clear hX
    have bxe := HS.out.z6
    have bx9 := HS.out.z9
    unfold zeroC at bxe
    have q0 : X.cell? ⟨w.heap.size, 0, none⟩ = some (.int .i8 0) := bxe.cell 0
    have qf0 := bxe.frozen 0
    have q1 : X.cell? ⟨w.heap.size, 1, none⟩ = some (.bool false) := bxe.cell 1
    have qf1 := bxe.frozen 1
    have q2 : X.cell? ⟨w.heap.size, 2, none⟩ = some (.int .i64 0) := bxe.cell 2
    have qf2 := bxe.frozen 2
    have q3 : X.cell? ⟨w.heap.size, 3, none⟩ = some (.string ⟨#[]⟩) := bxe.cell 3
    have qf3 := bxe.frozen 3
    have q4 : X.cell? ⟨w.heap.size, 4, none⟩ = some (.slice none 0 0) := bxe.cell 4
    have qf4 := bxe.frozen 4
    have q5 : X.cell? ⟨w.heap.size, 5, none⟩ = some (.slice none 0 0) := bxe.cell 5
    have qf5 := bxe.frozen 5
    have p0 : X.cell? ⟨w.heap.size + 1, 0, none⟩ = some (.int .i8 0) := bx9.cell 0
    have p1 : X.cell? ⟨w.heap.size + 1, 1, none⟩ = some (.bool false) := bx9.cell 1
    have p2 : X.cell? ⟨w.heap.size + 1, 2, none⟩ = some (.int .i64 0) := bx9.cell 2
    have p3 : X.cell? ⟨w.heap.size + 1, 3, none⟩ = some (.string ⟨#[]⟩) := bx9.cell 3
    have p4 : X.cell? ⟨w.heap.size + 1, 4, none⟩ = some (.slice none 0 0) := bx9.cell 4
    have p5 : X.cell? ⟨w.heap.size + 1, 5, none⟩ = some (.slice none 0 0) := bx9.cell 5
    clear bxe bx9
    go_wp2_with fail
    refine bodyPost_ret (v := .tuple #[.agg #[.int .i8 0, .bool false, .int .i64 0, .string ⟨#[]⟩, .slice none 0 0, .slice none 0 0], .int .i64 (k : Nat), .int .i64 30]) (by simp [results, Tryz.results7, go_sem, q0, q1, q2, q3, q4, q5]) rfl ?_
    exact HS.out.err _ 30
  rw [if_neg (by simpa using hd)] at hG
  have d1 : decide ((24 : Int) < d) = false := decide_eq_false hd
  have HI := Lib.hid (IH (by omega))
  have hd3 : d ≤ 24 := by omega
  have hgd : s.data.toList.getD k 0 = s[k]'hlt := by rw [List.getD, toList_getElem s k hlt]; rfl
  rw [hgd] at hG
  clear hd IH
  have HGD := Lib.hid hgd
  clear hgd
  by_cases hc : s[k]'hlt = 110
  · rw [if_pos hc] at hG
    unfold wordM at hG
    have HD : Hid (∀ w, Calls Tryz.prog 17 #[.int .u8 (s[k]'hlt).toNat] w fun e w' => e = .returned (.bool false) ∧ w = w') := Lib.hid (fun w => Nu.rdigit_no _ (by rw [hc]; rfl) w)
    have b110 : (((s[k]'hlt).toNat : Int) == 110) = true := by rw [hc]; rfl
    have b116 : (((s[k]'hlt).toNat : Int) == 116) = false := by rw [hc]; rfl
    have b102 : (((s[k]'hlt).toNat : Int) == 102) = false := by rw [hc]; rfl
    have b45 : (((s[k]'hlt).toNat : Int) == 45) = false := by rw [hc]; rfl
    have b34 : (((s[k]'hlt).toNat : Int) == 34) = false := by rw [hc]; rfl
    have b91 : (((s[k]'hlt).toNat : Int) == 91) = false := by rw [hc]; rfl
    have b123 : (((s[k]'hlt).toNat : Int) == 123) = false := by rw [hc]; rfl
    by_cases hw : (s.data.toList.drop k).take [(110 : UInt8), (117 : UInt8), (108 : UInt8), (108 : UInt8)].length = ([110, 117, 108, 108] : List UInt8)
    · have HW := Lib.hid (fun w => begins_q s ⟨#[110, 117, 108, 108]⟩ k hk hs (show (4 + 0 : Nat) ≤ 100 by decide) (decide_eq_true hw) w)
      rw [if_pos hw] at hG
      obtain rfl := RunS.fin hG
      clear hG hw hc HI HD HGD
      have HS := Lib.hid (LW.start w 0)
      unfold zeroC at HS
      go_enter Tryz.func7, Tryz.ntmps7
      go_upto_region 2 with fail
      obtain ⟨X, hX⟩ : ∃ X, X = ((w.alloc (.cells #[.int .i8 0, .bool false, .int .i64 0, .string ⟨#[]⟩, .slice none 0 0, .slice none 0 0] 28)).alloc (.cells #[.int .i8 0, .bool false, .int .i64 0, .string ⟨#[]⟩, .slice none 0 0, .slice none 0 0] 28)) := ⟨_, rfl⟩
      rw [← hX] at HS ⊢
      clear hX
      have bxe := HS.out.z6
      have bx9 := HS.out.z9
      unfold zeroC at bxe
      have q0 : X.cell? ⟨w.heap.size, 0, none⟩ = some (.int .i8 0) := bxe.cell 0
      have qf0 := bxe.frozen 0
      have q1 : X.cell? ⟨w.heap.size, 1, none⟩ = some (.bool false) := bxe.cell 1
      have qf1 := bxe.frozen 1
      have q2 : X.cell? ⟨w.heap.size, 2, none⟩ = some (.int .i64 0) := bxe.cell 2
      have qf2 := bxe.frozen 2
      have q3 : X.cell? ⟨w.heap.size, 3, none⟩ = some (.string ⟨#[]⟩) := bxe.cell 3
      have qf3 := bxe.frozen 3
      have q4 : X.cell? ⟨w.heap.size, 4, none⟩ = some (.slice none 0 0) := bxe.cell 4
      have qf4 := bxe.frozen 4
      have q5 : X.cell? ⟨w.heap.size, 5, none⟩ = some (.slice none 0 0) := bxe.cell 5
      have qf5 := bxe.frozen 5
      have p0 : X.cell? ⟨w.heap.size + 1, 0, none⟩ = some (.int .i8 0) := bx9.cell 0
      have p1 : X.cell? ⟨w.heap.size + 1, 1, none⟩ = some (.bool false) := bx9.cell 1
      have p2 : X.cell? ⟨w.heap.size + 1, 2, none⟩ = some (.int .i64 0) := bx9.cell 2
      have p3 : X.cell? ⟨w.heap.size + 1, 3, none⟩ = some (.string ⟨#[]⟩) := bx9.cell 3
      have p4 : X.cell? ⟨w.heap.size + 1, 4, none⟩ = some (.slice none 0 0) := bx9.cell 4
      have p5 : X.cell? ⟨w.heap.size + 1, 5, none⟩ = some (.slice none 0 0) := bx9.cell 5
      clear bxe bx9
      go_wp2_with (go_at_call 16; refine (HW.out _).mono ?_; rintro e w' ⟨rfl, h0⟩; have h0 := h0.symm; subst h0)
      have hans := HS.out.leaf 0 false 0 ⟨#[]⟩ (by decide) (by decide) (by decide) (k + 4)
      rw [show ((k + 4 : Nat) : Int) = (k : Int) + 4 from rfl] at hans
      refine bodyPost_ret (v := .tuple #[.agg #[.int .i8 0, .bool false, .int .i64 0, .string ⟨#[]⟩, .slice none 0 0, .slice none 0 0], .int .i64 ((k : Int) + 4), .int .i64 0]) (by simp [results, Tryz.results7, go_sem, q0, q1, q2, q3, q4, q5]) rfl ?_
      exact hans
    · have HW := Lib.hid (fun w => begins_q s ⟨#[110, 117, 108, 108]⟩ k hk hs (show (4 + 0 : Nat) ≤ 100 by decide) (decide_eq_false hw) w)
      rw [if_neg hw] at hG
      have hRe : R = .error (k, 40) := hG
      subst hRe
      clear hG hw hc HI HGD
      have HS := Lib.hid (LW.start w 0)
      unfold zeroC at HS
      go_enter Tryz.func7, Tryz.ntmps7
      go_upto_region 2 with fail
      obtain ⟨X, hX⟩ : ∃ X, X = ((w.alloc (.cells #[.int .i8 0, .bool false, .int .i64 0, .string ⟨#[]⟩, .slice none 0 0, .slice none 0 0] 28)).alloc (.cells #[.int .i8 0, .bool false, .int .i64 0, .string ⟨#[]⟩, .slice none 0 0, .slice none 0 0] 28)) := ⟨_, rfl⟩
      rw [← hX] at HS ⊢
      clear hX
      have bxe := HS.out.z6
      have bx9 := HS.out.z9
      unfold zeroC at bxe
      have q0 : X.cell? ⟨w.heap.size, 0, none⟩ = some (.int .i8 0) := bxe.cell 0
      have qf0 := bxe.frozen 0
      have q1 : X.cell? ⟨w.heap.size, 1, none⟩ = some (.bool false) := bxe.cell 1
      have qf1 := bxe.frozen 1
      have q2 : X.cell? ⟨w.heap.size, 2, none⟩ = some (.int .i64 0) := bxe.cell 2
      have qf2 := bxe.frozen 2
      have q3 : X.cell? ⟨w.heap.size, 3, none⟩ = some (.string ⟨#[]⟩) := bxe.cell 3
      have qf3 := bxe.frozen 3
      have q4 : X.cell? ⟨w.heap.size, 4, none⟩ = some (.slice none 0 0) := bxe.cell 4
      have qf4 := bxe.frozen 4
      have q5 : X.cell? ⟨w.heap.size, 5, none⟩ = some (.slice none 0 0) := bxe.cell 5
      have qf5 := bxe.frozen 5
      have p0 : X.cell? ⟨w.heap.size + 1, 0, none⟩ = some (.int .i8 0) := bx9.cell 0
      have p1 : X.cell? ⟨w.heap.size + 1, 1, none⟩ = some (.bool false) := bx9.cell 1
      have p2 : X.cell? ⟨w.heap.size + 1, 2, none⟩ = some (.int .i64 0) := bx9.cell 2
      have p3 : X.cell? ⟨w.heap.size + 1, 3, none⟩ = some (.string ⟨#[]⟩) := bx9.cell 3
      have p4 : X.cell? ⟨w.heap.size + 1, 4, none⟩ = some (.slice none 0 0) := bx9.cell 4
      have p5 : X.cell? ⟨w.heap.size + 1, 5, none⟩ = some (.slice none 0 0) := bx9.cell 5
      clear bxe bx9
      go_wp2_with first | (go_at_call 16; refine (HW.out _).mono ?_; rintro e w' ⟨rfl, h0⟩; have h0 := h0.symm; subst h0) | (go_at_call 17; refine (HD.out _).mono ?_; rintro e w' ⟨rfl, h0⟩; have h0 := h0.symm; subst h0)
      refine bodyPost_ret (v := .tuple #[.agg #[.int .i8 0, .bool false, .int .i64 0, .string ⟨#[]⟩, .slice none 0 0, .slice none 0 0], .int .i64 (k : Nat), .int .i64 40]) (by simp [results, Tryz.results7, go_sem, q0, q1, q2, q3, q4, q5]) rfl ?_
      exact HS.out.err _ 40
  have h110 := hc
  clear hc
  by_cases hc : s[k]'hlt = 102
  · rw [if_neg h110, if_pos hc] at hG
    unfold wordM at hG
    have HD : Hid (∀ w, Calls Tryz.prog 17 #[.int .u8 (s[k]'hlt).toNat] w fun e w' => e = .returned (.bool false) ∧ w = w') := Lib.hid (fun w => Nu.rdigit_no _ (by rw [hc]; rfl) w)
    have b110 : (((s[k]'hlt).toNat : Int) == 110) = false := by rw [hc]; rfl
    have b116 : (((s[k]'hlt).toNat : Int) == 116) = false := by rw [hc]; rfl
    have b102 : (((s[k]'hlt).toNat : Int) == 102) = true := by rw [hc]; rfl
    have b45 : (((s[k]'hlt).toNat : Int) == 45) = false := by rw [hc]; rfl
    have b34 : (((s[k]'hlt).toNat : Int) == 34) = false := by rw [hc]; rfl
    have b91 : (((s[k]'hlt).toNat : Int) == 91) = false := by rw [hc]; rfl
    have b123 : (((s[k]'hlt).toNat : Int) == 123) = false := by rw [hc]; rfl
    by_cases hw : (s.data.toList.drop k).take [(102 : UInt8), (97 : UInt8), (108 : UInt8), (115 : UInt8), (101 : UInt8)].length = ([102, 97, 108, 115, 101] : List UInt8)
    · have HW := Lib.hid (fun w => begins_q s ⟨#[102, 97, 108, 115, 101]⟩ k hk hs (show (4 + 1 : Nat) ≤ 100 by decide) (decide_eq_true hw) w)
      rw [if_pos hw] at hG
      obtain rfl := RunS.fin hG
      clear hG hw hc HI HD HGD
      have HS := Lib.hid (LW.start w 0)
      unfold zeroC at HS
      go_enter Tryz.func7, Tryz.ntmps7
      go_upto_region 2 with fail
      obtain ⟨X, hX⟩ : ∃ X, X = ((w.alloc (.cells #[.int .i8 0, .bool false, .int .i64 0, .string ⟨#[]⟩, .slice none 0 0, .slice none 0 0] 28)).alloc (.cells #[.int .i8 0, .bool false, .int .i64 0, .string ⟨#[]⟩, .slice none 0 0, .slice none 0 0] 28)) := ⟨_, rfl⟩
      rw [← hX] at HS ⊢
      clear hX
      have bxe := HS.out.z6
      have bx9 := HS.out.z9
      unfold zeroC at bxe
      have q0 : X.cell? ⟨w.heap.size, 0, none⟩ = some (.int .i8 0) := bxe.cell 0
      have qf0 := bxe.frozen 0
      have q1 : X.cell? ⟨w.heap.size, 1, none⟩ = some (.bool false) := bxe.cell 1
      have qf1 := bxe.frozen 1
      have q2 : X.cell? ⟨w.heap.size, 2, none⟩ = some (.int .i64 0) := bxe.cell 2
      have qf2 := bxe.frozen 2
      have q3 : X.cell? ⟨w.heap.size, 3, none⟩ = some (.string ⟨#[]⟩) := bxe.cell 3
      have qf3 := bxe.frozen 3
      have q4 : X.cell? ⟨w.heap.size, 4, none⟩ = some (.slice none 0 0) := bxe.cell 4
      have qf4 := bxe.frozen 4
      have q5 : X.cell? ⟨w.heap.size, 5, none⟩ = some (.slice none 0 0) := bxe.cell 5
      have qf5 := bxe.frozen 5
      have p0 : X.cell? ⟨w.heap.size + 1, 0, none⟩ = some (.int .i8 0) := bx9.cell 0
      have p1 : X.cell? ⟨w.heap.size + 1, 1, none⟩ = some (.bool false) := bx9.cell 1
      have p2 : X.cell? ⟨w.heap.size + 1, 2, none⟩ = some (.int .i64 0) := bx9.cell 2
      have p3 : X.cell? ⟨w.heap.size + 1, 3, none⟩ = some (.string ⟨#[]⟩) := bx9.cell 3
      have p4 : X.cell? ⟨w.heap.size + 1, 4, none⟩ = some (.slice none 0 0) := bx9.cell 4
      have p5 : X.cell? ⟨w.heap.size + 1, 5, none⟩ = some (.slice none 0 0) := bx9.cell 5
      clear bxe bx9
      go_wp2_with (go_at_call 16; refine (HW.out _).mono ?_; rintro e w' ⟨rfl, h0⟩; have h0 := h0.symm; subst h0)
      have hans := HS.out.leaf 1 false 0 ⟨#[]⟩ (by decide) (by decide) (by decide) (k + 5)
      rw [show ((k + 5 : Nat) : Int) = (k : Int) + 5 from rfl] at hans
      refine bodyPost_ret (v := .tuple #[.agg #[.int .i8 1, .bool false, .int .i64 0, .string ⟨#[]⟩, .slice none 0 0, .slice none 0 0], .int .i64 ((k : Int) + 5), .int .i64 0]) (by simp [results, Tryz.results7, go_sem, q0, q1, q2, q3, q4, q5]) rfl ?_
      exact hans
    · have HW := Lib.hid (fun w => begins_q s ⟨#[102, 97, 108, 115, 101]⟩ k hk hs (show (4 + 1 : Nat) ≤ 100 by decide) (decide_eq_false hw) w)
      rw [if_neg hw] at hG
      have hRe : R = .error (k, 40) := hG
      subst hRe
      clear hG hw hc HI HGD
      have HS := Lib.hid (LW.start w 0)
      unfold zeroC at HS
      go_enter Tryz.func7, Tryz.ntmps7
      go_upto_region 2 with fail
      obtain ⟨X, hX⟩ : ∃ X, X = ((w.alloc (.cells #[.int .i8 0, .bool false, .int .i64 0, .string ⟨#[]⟩, .slice none 0 0, .slice none 0 0] 28)).alloc (.cells #[.int .i8 0, .bool false, .int .i64 0, .string ⟨#[]⟩, .slice none 0 0, .slice none 0 0] 28)) := ⟨_, rfl⟩
      rw [← hX] at HS ⊢
      clear hX
      have bxe := HS.out.z6
      have bx9 := HS.out.z9
      unfold zeroC at bxe
      have q0 : X.cell? ⟨w.heap.size, 0, none⟩ = some (.int .i8 0) := bxe.cell 0
      have qf0 := bxe.frozen 0
      have q1 : X.cell? ⟨w.heap.size, 1, none⟩ = some (.bool false) := bxe.cell 1
      have qf1 := bxe.frozen 1
      have q2 : X.cell? ⟨w.heap.size, 2, none⟩ = some (.int .i64 0) := bxe.cell 2
      have qf2 := bxe.frozen 2
      have q3 : X.cell? ⟨w.heap.size, 3, none⟩ = some (.string ⟨#[]⟩) := bxe.cell 3
      have qf3 := bxe.frozen 3
      have q4 : X.cell? ⟨w.heap.size, 4, none⟩ = some (.slice none 0 0) := bxe.cell 4
      have qf4 := bxe.frozen 4
      have q5 : X.cell? ⟨w.heap.size, 5, none⟩ = some (.slice none 0 0) := bxe.cell 5
      have qf5 := bxe.frozen 5
      have p0 : X.cell? ⟨w.heap.size + 1, 0, none⟩ = some (.int .i8 0) := bx9.cell 0
      have p1 : X.cell? ⟨w.heap.size + 1, 1, none⟩ = some (.bool false) := bx9.cell 1
      have p2 : X.cell? ⟨w.heap.size + 1, 2, none⟩ = some (.int .i64 0) := bx9.cell 2
      have p3 : X.cell? ⟨w.heap.size + 1, 3, none⟩ = some (.string ⟨#[]⟩) := bx9.cell 3
      have p4 : X.cell? ⟨w.heap.size + 1, 4, none⟩ = some (.slice none 0 0) := bx9.cell 4
      have p5 : X.cell? ⟨w.heap.size + 1, 5, none⟩ = some (.slice none 0 0) := bx9.cell 5
      clear bxe bx9
      go_wp2_with first | (go_at_call 16; refine (HW.out _).mono ?_; rintro e w' ⟨rfl, h0⟩; have h0 := h0.symm; subst h0) | (go_at_call 17; refine (HD.out _).mono ?_; rintro e w' ⟨rfl, h0⟩; have h0 := h0.symm; subst h0)
      refine bodyPost_ret (v := .tuple #[.agg #[.int .i8 0, .bool false, .int .i64 0, .string ⟨#[]⟩, .slice none 0 0, .slice none 0 0], .int .i64 (k : Nat), .int .i64 40]) (by simp [results, Tryz.results7, go_sem, q0, q1, q2, q3, q4, q5]) rfl ?_
      exact HS.out.err _ 40
  have h102 := hc
  clear hc
  by_cases hc : s[k]'hlt = 116
  · rw [if_neg h110, if_neg h102, if_pos hc] at hG
    unfold wordM at hG
    have HD : Hid (∀ w, Calls Tryz.prog 17 #[.int .u8 (s[k]'hlt).toNat] w fun e w' => e = .returned (.bool false) ∧ w = w') := Lib.hid (fun w => Nu.rdigit_no _ (by rw [hc]; rfl) w)
    have b110 : (((s[k]'hlt).toNat : Int) == 110) = false := by rw [hc]; rfl
    have b116 : (((s[k]'hlt).toNat : Int) == 116) = true := by rw [hc]; rfl
    have b102 : (((s[k]'hlt).toNat : Int) == 102) = false := by rw [hc]; rfl
    have b45 : (((s[k]'hlt).toNat : Int) == 45) = false := by rw [hc]; rfl
    have b34 : (((s[k]'hlt).toNat : Int) == 34) = false := by rw [hc]; rfl
    have b91 : (((s[k]'hlt).toNat : Int) == 91) = false := by rw [hc]; rfl
    have b123 : (((s[k]'hlt).toNat : Int) == 123) = false := by rw [hc]; rfl
    by_cases hw : (s.data.toList.drop k).take [(116 : UInt8), (114 : UInt8), (117 : UInt8), (101 : UInt8)].length = ([116, 114, 117, 101] : List UInt8)
    · have HW := Lib.hid (fun w => begins_q s ⟨#[116, 114, 117, 101]⟩ k hk hs (show (4 + 0 : Nat) ≤ 100 by decide) (decide_eq_true hw) w)
      rw [if_pos hw] at hG
      obtain rfl := RunS.fin hG
      clear hG hw hc HI HD HGD
      have HS := Lib.hid (LW.start w 0)
      unfold zeroC at HS
      go_enter Tryz.func7, Tryz.ntmps7
      go_upto_region 2 with fail
      obtain ⟨X, hX⟩ : ∃ X, X = ((w.alloc (.cells #[.int .i8 0, .bool false, .int .i64 0, .string ⟨#[]⟩, .slice none 0 0, .slice none 0 0] 28)).alloc (.cells #[.int .i8 0, .bool false, .int .i64 0, .string ⟨#[]⟩, .slice none 0 0, .slice none 0 0] 28)) := ⟨_, rfl⟩
      rw [← hX] at HS ⊢
      clear hX
      have bxe := HS.out.z6
      have bx9 := HS.out.z9
      unfold zeroC at bxe
      have q0 : X.cell? ⟨w.heap.size, 0, none⟩ = some (.int .i8 0) := bxe.cell 0
      have qf0 := bxe.frozen 0
      have q1 : X.cell? ⟨w.heap.size, 1, none⟩ = some (.bool false) := bxe.cell 1
      have qf1 := bxe.frozen 1
      have q2 : X.cell? ⟨w.heap.size, 2, none⟩ = some (.int .i64 0) := bxe.cell 2
      have qf2 := bxe.frozen 2
      have q3 : X.cell? ⟨w.heap.size, 3, none⟩ = some (.string ⟨#[]⟩) := bxe.cell 3
      have qf3 := bxe.frozen 3
      have q4 : X.cell? ⟨w.heap.size, 4, none⟩ = some (.slice none 0 0) := bxe.cell 4
      have qf4 := bxe.frozen 4
      have q5 : X.cell? ⟨w.heap.size, 5, none⟩ = some (.slice none 0 0) := bxe.cell 5
      have qf5 := bxe.frozen 5
      have p0 : X.cell? ⟨w.heap.size + 1, 0, none⟩ = some (.int .i8 0) := bx9.cell 0
      have p1 : X.cell? ⟨w.heap.size + 1, 1, none⟩ = some (.bool false) := bx9.cell 1
      have p2 : X.cell? ⟨w.heap.size + 1, 2, none⟩ = some (.int .i64 0) := bx9.cell 2
      have p3 : X.cell? ⟨w.heap.size + 1, 3, none⟩ = some (.string ⟨#[]⟩) := bx9.cell 3
      have p4 : X.cell? ⟨w.heap.size + 1, 4, none⟩ = some (.slice none 0 0) := bx9.cell 4
      have p5 : X.cell? ⟨w.heap.size + 1, 5, none⟩ = some (.slice none 0 0) := bx9.cell 5
      clear bxe bx9
      go_wp2_with (go_at_call 16; refine (HW.out _).mono ?_; rintro e w' ⟨rfl, h0⟩; have h0 := h0.symm; subst h0)
      have hans := HS.out.leaf 1 true 0 ⟨#[]⟩ (by decide) (by decide) (by decide) (k + 4)
      rw [show ((k + 4 : Nat) : Int) = (k : Int) + 4 from rfl] at hans
      refine bodyPost_ret (v := .tuple #[.agg #[.int .i8 1, .bool true, .int .i64 0, .string ⟨#[]⟩, .slice none 0 0, .slice none 0 0], .int .i64 ((k : Int) + 4), .int .i64 0]) (by simp [results, Tryz.results7, go_sem, q0, q1, q2, q3, q4, q5]) rfl ?_
      exact hans
    · have HW := Lib.hid (fun w => begins_q s ⟨#[116, 114, 117, 101]⟩ k hk hs (show (4 + 0 : Nat) ≤ 100 by decide) (decide_eq_false hw) w)
      rw [if_neg hw] at hG
      have hRe : R = .error (k, 40) := hG
      subst hRe
      clear hG hw hc HI HGD
      have HS := Lib.hid (LW.start w 0)
      unfold zeroC at HS
      go_enter Tryz.func7, Tryz.ntmps7
      go_upto_region 2 with fail
      obtain ⟨X, hX⟩ : ∃ X, X = ((w.alloc (.cells #[.int .i8 0, .bool false, .int .i64 0, .string ⟨#[]⟩, .slice none 0 0, .slice none 0 0] 28)).alloc (.cells #[.int .i8 0, .bool false, .int .i64 0, .string ⟨#[]⟩, .slice none 0 0, .slice none 0 0] 28)) := ⟨_, rfl⟩
      rw [← hX] at HS ⊢
      clear hX
      have bxe := HS.out.z6
      have bx9 := HS.out.z9
      unfold zeroC at bxe
      have q0 : X.cell? ⟨w.heap.size, 0, none⟩ = some (.int .i8 0) := bxe.cell 0
      have qf0 := bxe.frozen 0
      have q1 : X.cell? ⟨w.heap.size, 1, none⟩ = some (.bool false) := bxe.cell 1
      have qf1 := bxe.frozen 1
      have q2 : X.cell? ⟨w.heap.size, 2, none⟩ = some (.int .i64 0) := bxe.cell 2
      have qf2 := bxe.frozen 2
      have q3 : X.cell? ⟨w.heap.size, 3, none⟩ = some (.string ⟨#[]⟩) := bxe.cell 3
      have qf3 := bxe.frozen 3
      have q4 : X.cell? ⟨w.heap.size, 4, none⟩ = some (.slice none 0 0) := bxe.cell 4
      have qf4 := bxe.frozen 4
      have q5 : X.cell? ⟨w.heap.size, 5, none⟩ = some (.slice none 0 0) := bxe.cell 5
      have qf5 := bxe.frozen 5
      have p0 : X.cell? ⟨w.heap.size + 1, 0, none⟩ = some (.int .i8 0) := bx9.cell 0
      have p1 : X.cell? ⟨w.heap.size + 1, 1, none⟩ = some (.bool false) := bx9.cell 1
      have p2 : X.cell? ⟨w.heap.size + 1, 2, none⟩ = some (.int .i64 0) := bx9.cell 2
      have p3 : X.cell? ⟨w.heap.size + 1, 3, none⟩ = some (.string ⟨#[]⟩) := bx9.cell 3
      have p4 : X.cell? ⟨w.heap.size + 1, 4, none⟩ = some (.slice none 0 0) := bx9.cell 4
      have p5 : X.cell? ⟨w.heap.size + 1, 5, none⟩ = some (.slice none 0 0) := bx9.cell 5
      clear bxe bx9
      go_wp2_with first | (go_at_call 16; refine (HW.out _).mono ?_; rintro e w' ⟨rfl, h0⟩; have h0 := h0.symm; subst h0) | (go_at_call 17; refine (HD.out _).mono ?_; rintro e w' ⟨rfl, h0⟩; have h0 := h0.symm; subst h0)
      refine bodyPost_ret (v := .tuple #[.agg #[.int .i8 0, .bool false, .int .i64 0, .string ⟨#[]⟩, .slice none 0 0, .slice none 0 0], .int .i64 (k : Nat), .int .i64 40]) (by simp [results, Tryz.results7, go_sem, q0, q1, q2, q3, q4, q5]) rfl ?_
      exact HS.out.err _ 40
  have h116 := hc
  clear hc
  rw [if_neg h110, if_neg h102, if_neg h116] at hG
  by_cases hc : s[k]'hlt = 45
  · rw [if_pos (by rw [hc]; rfl)] at hG
    have HD : Hid True := Lib.hid trivial
    have b110 : (((s[k]'hlt).toNat : Int) == 110) = false := by rw [hc]; rfl
    have b116 : (((s[k]'hlt).toNat : Int) == 116) = false := by rw [hc]; rfl
    have b102 : (((s[k]'hlt).toNat : Int) == 102) = false := by rw [hc]; rfl
    have b45 : (((s[k]'hlt).toNat : Int) == 45) = true := by rw [hc]; rfl
    have b34 : (((s[k]'hlt).toNat : Int) == 34) = false := by rw [hc]; rfl
    have b91 : (((s[k]'hlt).toNat : Int) == 91) = false := by rw [hc]; rfl
    have b123 : (((s[k]'hlt).toNat : Int) == 123) = false := by rw [hc]; rfl
    obtain ⟨nn, E, X0, hsc, hn1, hn2, hE⟩ := scan_sign (s := s.data.toList) (k := k) (by rw [toList_length]; exact hlt)
    unfold numM at hG
    rw [hsc] at hG
    simp only at hG
    have HC : Hid (∀ w, Calls Tryz.prog 18 #[.string s, .int .i64 k] w fun e w' => e = .returned (.tuple #[.int .i64 nn, .int .i64 (E : Nat), .int .i64 (X0 : Nat)]) ∧ w = w') := Lib.hid (fun w => by
      have := Nu.rscan_any s (by unfold maxLen; omega) k w
      rw [hsc] at this
      exact this)
    by_cases hX0 : X0 = 0
    · subst hX0
      rw [if_pos (by rfl)] at hG
      rw [Int.toNat_natCast] at hG
      obtain rfl := RunS.fin hG
      clear hG hsc HI HGD hc
      have HS := Lib.hid (LW.start w 0)
      unfold zeroC at HS
      go_enter Tryz.func7, Tryz.ntmps7
      go_upto_region 2 with fail
      obtain ⟨X, hX⟩ : ∃ X, X = ((w.alloc (.cells #[.int .i8 0, .bool false, .int .i64 0, .string ⟨#[]⟩, .slice none 0 0, .slice none 0 0] 28)).alloc (.cells #[.int .i8 0, .bool false, .int .i64 0, .string ⟨#[]⟩, .slice none 0 0, .slice none 0 0] 28)) := ⟨_, rfl⟩
      rw [← hX] at HS ⊢
      clear hX
      have bxe := HS.out.z6
      have bx9 := HS.out.z9
      unfold zeroC at bxe
      have q0 : X.cell? ⟨w.heap.size, 0, none⟩ = some (.int .i8 0) := bxe.cell 0
      have qf0 := bxe.frozen 0
      have q1 : X.cell? ⟨w.heap.size, 1, none⟩ = some (.bool false) := bxe.cell 1
      have qf1 := bxe.frozen 1
      have q2 : X.cell? ⟨w.heap.size, 2, none⟩ = some (.int .i64 0) := bxe.cell 2
      have qf2 := bxe.frozen 2
      have q3 : X.cell? ⟨w.heap.size, 3, none⟩ = some (.string ⟨#[]⟩) := bxe.cell 3
      have qf3 := bxe.frozen 3
      have q4 : X.cell? ⟨w.heap.size, 4, none⟩ = some (.slice none 0 0) := bxe.cell 4
      have qf4 := bxe.frozen 4
      have q5 : X.cell? ⟨w.heap.size, 5, none⟩ = some (.slice none 0 0) := bxe.cell 5
      have qf5 := bxe.frozen 5
      have p0 : X.cell? ⟨w.heap.size + 1, 0, none⟩ = some (.int .i8 0) := bx9.cell 0
      have p1 : X.cell? ⟨w.heap.size + 1, 1, none⟩ = some (.bool false) := bx9.cell 1
      have p2 : X.cell? ⟨w.heap.size + 1, 2, none⟩ = some (.int .i64 0) := bx9.cell 2
      have p3 : X.cell? ⟨w.heap.size + 1, 3, none⟩ = some (.string ⟨#[]⟩) := bx9.cell 3
      have p4 : X.cell? ⟨w.heap.size + 1, 4, none⟩ = some (.slice none 0 0) := bx9.cell 4
      have p5 : X.cell? ⟨w.heap.size + 1, 5, none⟩ = some (.slice none 0 0) := bx9.cell 5
      clear bxe bx9
      go_wp2_with first | (go_at_call 18; refine (HC.out _).mono ?_; rintro e w' ⟨rfl, h0⟩; have h0 := h0.symm; subst h0)
      have hans := HS.out.leaf 2 false nn ⟨#[]⟩ (by decide) (by omega) (by decide) E
      refine bodyPost_ret (v := .tuple #[.agg #[.int .i8 2, .bool false, .int .i64 nn, .string ⟨#[]⟩, .slice none 0 0, .slice none 0 0], .int .i64 (E : Nat), .int .i64 0]) (by simp [results, Tryz.results7, go_sem, q0, q1, q2, q3, q4, q5]) rfl ?_
      exact hans
    · rw [if_neg (by omega)] at hG
      rw [Int.toNat_natCast, Int.toNat_natCast] at hG
      have hRe : R = .error (E, X0) := hG
      subst hRe
      have t1 : ((X0 : Int) == 0) = false := by rw [beq_eq_false_iff_ne]; omega
      have t2 : ((X0 : Int) != 0) = true := by rw [bne_iff_ne]; omega
      clear hG hsc HI HGD hX0 hc
      have HS := Lib.hid (LW.start w 0)
      unfold zeroC at HS
      go_enter Tryz.func7, Tryz.ntmps7
      go_upto_region 2 with fail
      obtain ⟨X, hX⟩ : ∃ X, X = ((w.alloc (.cells #[.int .i8 0, .bool false, .int .i64 0, .string ⟨#[]⟩, .slice none 0 0, .slice none 0 0] 28)).alloc (.cells #[.int .i8 0, .bool false, .int .i64 0, .string ⟨#[]⟩, .slice none 0 0, .slice none 0 0] 28)) := ⟨_, rfl⟩
      rw [← hX] at HS ⊢
      clear hX
      have bxe := HS.out.z6
      have bx9 := HS.out.z9
      unfold zeroC at bxe
      have q0 : X.cell? ⟨w.heap.size, 0, none⟩ = some (.int .i8 0) := bxe.cell 0
      have qf0 := bxe.frozen 0
      have q1 : X.cell? ⟨w.heap.size, 1, none⟩ = some (.bool false) := bxe.cell 1
      have qf1 := bxe.frozen 1
      have q2 : X.cell? ⟨w.heap.size, 2, none⟩ = some (.int .i64 0) := bxe.cell 2
      have qf2 := bxe.frozen 2
      have q3 : X.cell? ⟨w.heap.size, 3, none⟩ = some (.string ⟨#[]⟩) := bxe.cell 3
      have qf3 := bxe.frozen 3
      have q4 : X.cell? ⟨w.heap.size, 4, none⟩ = some (.slice none 0 0) := bxe.cell 4
      have qf4 := bxe.frozen 4
      have q5 : X.cell? ⟨w.heap.size, 5, none⟩ = some (.slice none 0 0) := bxe.cell 5
      have qf5 := bxe.frozen 5
      have p0 : X.cell? ⟨w.heap.size + 1, 0, none⟩ = some (.int .i8 0) := bx9.cell 0
      have p1 : X.cell? ⟨w.heap.size + 1, 1, none⟩ = some (.bool false) := bx9.cell 1
      have p2 : X.cell? ⟨w.heap.size + 1, 2, none⟩ = some (.int .i64 0) := bx9.cell 2
      have p3 : X.cell? ⟨w.heap.size + 1, 3, none⟩ = some (.string ⟨#[]⟩) := bx9.cell 3
      have p4 : X.cell? ⟨w.heap.size + 1, 4, none⟩ = some (.slice none 0 0) := bx9.cell 4
      have p5 : X.cell? ⟨w.heap.size + 1, 5, none⟩ = some (.slice none 0 0) := bx9.cell 5
      clear bxe bx9
      go_wp2_with first | (go_at_call 18; refine (HC.out _).mono ?_; rintro e w' ⟨rfl, h0⟩; have h0 := h0.symm; subst h0)
      refine bodyPost_ret (v := .tuple #[.agg #[.int .i8 0, .bool false, .int .i64 0, .string ⟨#[]⟩, .slice none 0 0, .slice none 0 0], .int .i64 (E : Nat), .int .i64 (X0 : Nat)]) (by simp [results, Tryz.results7, go_sem, q0, q1, q2, q3, q4, q5]) rfl ?_
      exact HS.out.err _ _

  have h45 := hc
  clear hc
  by_cases hc : Nu.isD (s[k]'hlt) = true
  · rw [if_pos (by unfold numB; rw [hc, Bool.or_true])] at hG
    have HD : Hid (∀ w, Calls Tryz.prog 17 #[.int .u8 (s[k]'hlt).toNat] w fun e w' => e = .returned (.bool true) ∧ w = w') := Lib.hid (fun w => Nu.rdigit_yes _ hc w)
    have hdg : 48 ≤ (s[k]'hlt).toNat ∧ (s[k]'hlt).toNat ≤ 57 := by
      unfold Nu.isD at hc
      simpa using hc
    have b110 : (((s[k]'hlt).toNat : Int) == 110) = false := by rw [beq_eq_false_iff_ne]; omega
    have b116 : (((s[k]'hlt).toNat : Int) == 116) = false := by rw [beq_eq_false_iff_ne]; omega
    have b102 : (((s[k]'hlt).toNat : Int) == 102) = false := by rw [beq_eq_false_iff_ne]; omega
    have b45 : (((s[k]'hlt).toNat : Int) == 45) = false := by rw [beq_eq_false_iff_ne]; omega
    have b34 : (((s[k]'hlt).toNat : Int) == 34) = false := by rw [beq_eq_false_iff_ne]; omega
    have b91 : (((s[k]'hlt).toNat : Int) == 91) = false := by rw [beq_eq_false_iff_ne]; omega
    have b123 : (((s[k]'hlt).toNat : Int) == 123) = false := by rw [beq_eq_false_iff_ne]; omega
    clear hdg
    obtain ⟨nn, E, X0, hsc, hn1, hn2, hE⟩ := scan_sign (s := s.data.toList) (k := k) (by rw [toList_length]; exact hlt)
    unfold numM at hG
    rw [hsc] at hG
    simp only at hG
    have HC : Hid (∀ w, Calls Tryz.prog 18 #[.string s, .int .i64 k] w fun e w' => e = .returned (.tuple #[.int .i64 nn, .int .i64 (E : Nat), .int .i64 (X0 : Nat)]) ∧ w = w') := Lib.hid (fun w => by
      have := Nu.rscan_any s (by unfold maxLen; omega) k w
      rw [hsc] at this
      exact this)
    by_cases hX0 : X0 = 0
    · subst hX0
      rw [if_pos (by rfl)] at hG
      rw [Int.toNat_natCast] at hG
      obtain rfl := RunS.fin hG
      clear hG hsc HI HGD hc
      have HS := Lib.hid (LW.start w 0)
      unfold zeroC at HS
      go_enter Tryz.func7, Tryz.ntmps7
      go_upto_region 2 with fail
      obtain ⟨X, hX⟩ : ∃ X, X = ((w.alloc (.cells #[.int .i8 0, .bool false, .int .i64 0, .string ⟨#[]⟩, .slice none 0 0, .slice none 0 0] 28)).alloc (.cells #[.int .i8 0, .bool false, .int .i64 0, .string ⟨#[]⟩, .slice none 0 0, .slice none 0 0] 28)) := ⟨_, rfl⟩
      rw [← hX] at HS ⊢
      clear hX
      have bxe := HS.out.z6
      have bx9 := HS.out.z9
      unfold zeroC at bxe
      have q0 : X.cell? ⟨w.heap.size, 0, none⟩ = some (.int .i8 0) := bxe.cell 0
      have qf0 := bxe.frozen 0
      have q1 : X.cell? ⟨w.heap.size, 1, none⟩ = some (.bool false) := bxe.cell 1
      have qf1 := bxe.frozen 1
      have q2 : X.cell? ⟨w.heap.size, 2, none⟩ = some (.int .i64 0) := bxe.cell 2
      have qf2 := bxe.frozen 2
      have q3 : X.cell? ⟨w.heap.size, 3, none⟩ = some (.string ⟨#[]⟩) := bxe.cell 3
      have qf3 := bxe.frozen 3
      have q4 : X.cell? ⟨w.heap.size, 4, none⟩ = some (.slice none 0 0) := bxe.cell 4
      have qf4 := bxe.frozen 4
      have q5 : X.cell? ⟨w.heap.size, 5, none⟩ = some (.slice none 0 0) := bxe.cell 5
      have qf5 := bxe.frozen 5
      have p0 : X.cell? ⟨w.heap.size + 1, 0, none⟩ = some (.int .i8 0) := bx9.cell 0
      have p1 : X.cell? ⟨w.heap.size + 1, 1, none⟩ = some (.bool false) := bx9.cell 1
      have p2 : X.cell? ⟨w.heap.size + 1, 2, none⟩ = some (.int .i64 0) := bx9.cell 2
      have p3 : X.cell? ⟨w.heap.size + 1, 3, none⟩ = some (.string ⟨#[]⟩) := bx9.cell 3
      have p4 : X.cell? ⟨w.heap.size + 1, 4, none⟩ = some (.slice none 0 0) := bx9.cell 4
      have p5 : X.cell? ⟨w.heap.size + 1, 5, none⟩ = some (.slice none 0 0) := bx9.cell 5
      clear bxe bx9
      go_wp2_with first | (go_at_call 17; refine (HD.out _).mono ?_; rintro e w' ⟨rfl, h0⟩; have h0 := h0.symm; subst h0) | (go_at_call 18; refine (HC.out _).mono ?_; rintro e w' ⟨rfl, h0⟩; have h0 := h0.symm; subst h0)
      have hans := HS.out.leaf 2 false nn ⟨#[]⟩ (by decide) (by omega) (by decide) E
      refine bodyPost_ret (v := .tuple #[.agg #[.int .i8 2, .bool false, .int .i64 nn, .string ⟨#[]⟩, .slice none 0 0, .slice none 0 0], .int .i64 (E : Nat), .int .i64 0]) (by simp [results, Tryz.results7, go_sem, q0, q1, q2, q3, q4, q5]) rfl ?_
      exact hans
    · rw [if_neg (by omega)] at hG
      rw [Int.toNat_natCast, Int.toNat_natCast] at hG
      have hRe : R = .error (E, X0) := hG
      subst hRe
      have t1 : ((X0 : Int) == 0) = false := by rw [beq_eq_false_iff_ne]; omega
      have t2 : ((X0 : Int) != 0) = true := by rw [bne_iff_ne]; omega
      clear hG hsc HI HGD hX0 hc
      have HS := Lib.hid (LW.start w 0)
      unfold zeroC at HS
      go_enter Tryz.func7, Tryz.ntmps7
      go_upto_region 2 with fail
      obtain ⟨X, hX⟩ : ∃ X, X = ((w.alloc (.cells #[.int .i8 0, .bool false, .int .i64 0, .string ⟨#[]⟩, .slice none 0 0, .slice none 0 0] 28)).alloc (.cells #[.int .i8 0, .bool false, .int .i64 0, .string ⟨#[]⟩, .slice none 0 0, .slice none 0 0] 28)) := ⟨_, rfl⟩
      rw [← hX] at HS ⊢
      clear hX
      have bxe := HS.out.z6
      have bx9 := HS.out.z9
      unfold zeroC at bxe
      have q0 : X.cell? ⟨w.heap.size, 0, none⟩ = some (.int .i8 0) := bxe.cell 0
      have qf0 := bxe.frozen 0
      have q1 : X.cell? ⟨w.heap.size, 1, none⟩ = some (.bool false) := bxe.cell 1
      have qf1 := bxe.frozen 1
      have q2 : X.cell? ⟨w.heap.size, 2, none⟩ = some (.int .i64 0) := bxe.cell 2
      have qf2 := bxe.frozen 2
      have q3 : X.cell? ⟨w.heap.size, 3, none⟩ = some (.string ⟨#[]⟩) := bxe.cell 3
      have qf3 := bxe.frozen 3
      have q4 : X.cell? ⟨w.heap.size, 4, none⟩ = some (.slice none 0 0) := bxe.cell 4
      have qf4 := bxe.frozen 4
      have q5 : X.cell? ⟨w.heap.size, 5, none⟩ = some (.slice none 0 0) := bxe.cell 5
      have qf5 := bxe.frozen 5
      have p0 : X.cell? ⟨w.heap.size + 1, 0, none⟩ = some (.int .i8 0) := bx9.cell 0
      have p1 : X.cell? ⟨w.heap.size + 1, 1, none⟩ = some (.bool false) := bx9.cell 1
      have p2 : X.cell? ⟨w.heap.size + 1, 2, none⟩ = some (.int .i64 0) := bx9.cell 2
      have p3 : X.cell? ⟨w.heap.size + 1, 3, none⟩ = some (.string ⟨#[]⟩) := bx9.cell 3
      have p4 : X.cell? ⟨w.heap.size + 1, 4, none⟩ = some (.slice none 0 0) := bx9.cell 4
      have p5 : X.cell? ⟨w.heap.size + 1, 5, none⟩ = some (.slice none 0 0) := bx9.cell 5
      clear bxe bx9
      go_wp2_with first | (go_at_call 17; refine (HD.out _).mono ?_; rintro e w' ⟨rfl, h0⟩; have h0 := h0.symm; subst h0) | (go_at_call 18; refine (HC.out _).mono ?_; rintro e w' ⟨rfl, h0⟩; have h0 := h0.symm; subst h0)
      refine bodyPost_ret (v := .tuple #[.agg #[.int .i8 0, .bool false, .int .i64 0, .string ⟨#[]⟩, .slice none 0 0, .slice none 0 0], .int .i64 (E : Nat), .int .i64 (X0 : Nat)]) (by simp [results, Tryz.results7, go_sem, q0, q1, q2, q3, q4, q5]) rfl ?_
      exact HS.out.err _ _

  have hnd : Nu.isD (s[k]'hlt) = false := by simpa using hc
  clear hc
  have HD : Hid (∀ w, Calls Tryz.prog 17 #[.int .u8 (s[k]'hlt).toNat] w fun e w' => e = .returned (.bool false) ∧ w = w') := Lib.hid (fun w => Nu.rdigit_no _ hnd w)
  rw [if_neg (by unfold numB; rw [hnd, Bool.or_false]; simpa using h45)] at hG
  by_cases hc : s[k]'hlt = 34
  · rw [if_pos hc] at hG
    have b110 : (((s[k]'hlt).toNat : Int) == 110) = false := by rw [hc]; rfl
    have b116 : (((s[k]'hlt).toNat : Int) == 116) = false := by rw [hc]; rfl
    have b102 : (((s[k]'hlt).toNat : Int) == 102) = false := by rw [hc]; rfl
    have b45 : (((s[k]'hlt).toNat : Int) == 45) = false := by rw [hc]; rfl
    have b34 : (((s[k]'hlt).toNat : Int) == 34) = true := by rw [hc]; rfl
    have b91 : (((s[k]'hlt).toNat : Int) == 91) = false := by rw [hc]; rfl
    have b123 : (((s[k]'hlt).toNat : Int) == 123) = false := by rw [hc]; rfl
    have hq : s.data.toList[k]? = some 34 := by rw [toList_getElem s k hlt, hc]
    obtain ⟨tt, E, X0, hu⟩ : ∃ t E X, Ru.unqL s.data.toList k = (t, E, X) := ⟨_, _, _, rfl⟩
    unfold texM at hG
    rw [hu] at hG
    simp only at hG
    have HU := Lib.hid (fun w => ruq_any s hs hq hu w)
    have htt : (⟨tt.toArray⟩ : ByteArray).size ≤ 100000 := by
      have h1 := unqL_len s.data.toList k
      rw [hu, toList_length] at h1
      rw [show (⟨tt.toArray⟩ : ByteArray).size = tt.length from by simp [ByteArray.size]]
      simp only at h1
      omega
    obtain ⟨te, hte⟩ : ∃ te : ByteArray, te = ⟨tt.toArray⟩ := ⟨_, rfl⟩
    rw [← hte] at HU htt
    have HTT := Lib.hid htt
    clear htt
    by_cases hX0 : X0 = 0
    · subst hX0
      rw [if_pos rfl] at hG
      unfold texV at hG
      rw [← hte] at hG
      obtain rfl := RunS.fin hG
      clear hG hu HI HGD hc hq hte hnd
      have HS := Lib.hid (LW.start w 0)
      unfold zeroC at HS
      go_enter Tryz.func7, Tryz.ntmps7
      go_upto_region 2 with fail
      obtain ⟨X, hX⟩ : ∃ X, X = ((w.alloc (.cells #[.int .i8 0, .bool false, .int .i64 0, .string ⟨#[]⟩, .slice none 0 0, .slice none 0 0] 28)).alloc (.cells #[.int .i8 0, .bool false, .int .i64 0, .string ⟨#[]⟩, .slice none 0 0, .slice none 0 0] 28)) := ⟨_, rfl⟩
      rw [← hX] at HS ⊢
      clear hX
      go_wp2_with first | (go_at_call 17; refine (HD.out _).mono ?_; rintro e w' ⟨rfl, h0⟩; have h0 := h0.symm; subst h0) | (go_at_call 19; fail)
      refine (HU.out _).mono ?_
      rintro e w5 ⟨rfl, hb5⟩
      have HL5 := Lib.hid (HS.out.below hb5)
      clear hb5
      have bxe := HL5.out.z6
      have bx9 := HL5.out.z9
      unfold zeroC at bxe
      have q0 : w5.cell? ⟨w.heap.size, 0, none⟩ = some (.int .i8 0) := bxe.cell 0
      have qf0 := bxe.frozen 0
      have q1 : w5.cell? ⟨w.heap.size, 1, none⟩ = some (.bool false) := bxe.cell 1
      have qf1 := bxe.frozen 1
      have q2 : w5.cell? ⟨w.heap.size, 2, none⟩ = some (.int .i64 0) := bxe.cell 2
      have qf2 := bxe.frozen 2
      have q3 : w5.cell? ⟨w.heap.size, 3, none⟩ = some (.string ⟨#[]⟩) := bxe.cell 3
      have qf3 := bxe.frozen 3
      have q4 : w5.cell? ⟨w.heap.size, 4, none⟩ = some (.slice none 0 0) := bxe.cell 4
      have qf4 := bxe.frozen 4
      have q5 : w5.cell? ⟨w.heap.size, 5, none⟩ = some (.slice none 0 0) := bxe.cell 5
      have qf5 := bxe.frozen 5
      have p0 : w5.cell? ⟨w.heap.size + 1, 0, none⟩ = some (.int .i8 0) := bx9.cell 0
      have p1 : w5.cell? ⟨w.heap.size + 1, 1, none⟩ = some (.bool false) := bx9.cell 1
      have p2 : w5.cell? ⟨w.heap.size + 1, 2, none⟩ = some (.int .i64 0) := bx9.cell 2
      have p3 : w5.cell? ⟨w.heap.size + 1, 3, none⟩ = some (.string ⟨#[]⟩) := bx9.cell 3
      have p4 : w5.cell? ⟨w.heap.size + 1, 4, none⟩ = some (.slice none 0 0) := bx9.cell 4
      have p5 : w5.cell? ⟨w.heap.size + 1, 5, none⟩ = some (.slice none 0 0) := bx9.cell 5
      clear bxe bx9
      go_wp2_with fail
      have hans := HL5.out.leaf 3 false 0 te (by decide) (by decide) (by have := HTT.out; unfold maxLen; omega) E
      refine bodyPost_ret (v := .tuple #[.agg #[.int .i8 3, .bool false, .int .i64 0, .string te, .slice none 0 0, .slice none 0 0], .int .i64 (E : Nat), .int .i64 0]) (by simp [results, Tryz.results7, go_sem, q0, q1, q2, q3, q4, q5]) rfl ?_
      exact hans
    · rw [if_neg hX0] at hG
      have hRe : R = .error (E, X0) := hG
      subst hRe
      have t1 : ((X0 : Int) == 0) = false := by rw [beq_eq_false_iff_ne]; omega
      have t2 : ((X0 : Int) != 0) = true := by rw [bne_iff_ne]; omega
      clear hG hu HI HGD hc hq hte hnd hX0
      have HS := Lib.hid (LW.start w 0)
      unfold zeroC at HS
      go_enter Tryz.func7, Tryz.ntmps7
      go_upto_region 2 with fail
      obtain ⟨X, hX⟩ : ∃ X, X = ((w.alloc (.cells #[.int .i8 0, .bool false, .int .i64 0, .string ⟨#[]⟩, .slice none 0 0, .slice none 0 0] 28)).alloc (.cells #[.int .i8 0, .bool false, .int .i64 0, .string ⟨#[]⟩, .slice none 0 0, .slice none 0 0] 28)) := ⟨_, rfl⟩
      rw [← hX] at HS ⊢
      clear hX
      go_wp2_with first | (go_at_call 17; refine (HD.out _).mono ?_; rintro e w' ⟨rfl, h0⟩; have h0 := h0.symm; subst h0) | (go_at_call 19; fail)
      refine (HU.out _).mono ?_
      rintro e w5 ⟨rfl, hb5⟩
      have HL5 := Lib.hid (HS.out.below hb5)
      clear hb5
      have bxe := HL5.out.z6
      have bx9 := HL5.out.z9
      unfold zeroC at bxe
      have q0 : w5.cell? ⟨w.heap.size, 0, none⟩ = some (.int .i8 0) := bxe.cell 0
      have qf0 := bxe.frozen 0
      have q1 : w5.cell? ⟨w.heap.size, 1, none⟩ = some (.bool false) := bxe.cell 1
      have qf1 := bxe.frozen 1
      have q2 : w5.cell? ⟨w.heap.size, 2, none⟩ = some (.int .i64 0) := bxe.cell 2
      have qf2 := bxe.frozen 2
      have q3 : w5.cell? ⟨w.heap.size, 3, none⟩ = some (.string ⟨#[]⟩) := bxe.cell 3
      have qf3 := bxe.frozen 3
      have q4 : w5.cell? ⟨w.heap.size, 4, none⟩ = some (.slice none 0 0) := bxe.cell 4
      have qf4 := bxe.frozen 4
      have q5 : w5.cell? ⟨w.heap.size, 5, none⟩ = some (.slice none 0 0) := bxe.cell 5
      have qf5 := bxe.frozen 5
      have p0 : w5.cell? ⟨w.heap.size + 1, 0, none⟩ = some (.int .i8 0) := bx9.cell 0
      have p1 : w5.cell? ⟨w.heap.size + 1, 1, none⟩ = some (.bool false) := bx9.cell 1
      have p2 : w5.cell? ⟨w.heap.size + 1, 2, none⟩ = some (.int .i64 0) := bx9.cell 2
      have p3 : w5.cell? ⟨w.heap.size + 1, 3, none⟩ = some (.string ⟨#[]⟩) := bx9.cell 3
      have p4 : w5.cell? ⟨w.heap.size + 1, 4, none⟩ = some (.slice none 0 0) := bx9.cell 4
      have p5 : w5.cell? ⟨w.heap.size + 1, 5, none⟩ = some (.slice none 0 0) := bx9.cell 5
      clear bxe bx9
      go_wp2_with fail
      refine bodyPost_ret (v := .tuple #[.agg #[.int .i8 0, .bool false, .int .i64 0, .string ⟨#[]⟩, .slice none 0 0, .slice none 0 0], .int .i64 (E : Nat), .int .i64 (X0 : Nat)]) (by simp [results, Tryz.results7, go_sem, q0, q1, q2, q3, q4, q5]) rfl ?_
      exact HL5.out.err _ _
  rw [if_neg hc] at hG
  have h34 := hc
  clear hc
  by_cases hc : s[k]'hlt = 91
  · rw [if_pos hc] at hG
    have b110 : (((s[k]'hlt).toNat : Int) == 110) = false := by rw [hc]; rfl
    have b116 : (((s[k]'hlt).toNat : Int) == 116) = false := by rw [hc]; rfl
    have b102 : (((s[k]'hlt).toNat : Int) == 102) = false := by rw [hc]; rfl
    have b45 : (((s[k]'hlt).toNat : Int) == 45) = false := by rw [hc]; rfl
    have b34 : (((s[k]'hlt).toNat : Int) == 34) = false := by rw [hc]; rfl
    have b91 : (((s[k]'hlt).toNat : Int) == 91) = true := by rw [hc]; rfl
    have b123 : (((s[k]'hlt).toNat : Int) == 123) = false := by rw [hc]; rfl
    have HC := Lib.hid (fun w => rlist_any s k d hlt hs hd1 hd3 w HI.out R hG)
    clear hG HI HGD hc hnd
    have HS := Lib.hid (LW.start w 0)
    unfold zeroC at HS
    go_enter Tryz.func7, Tryz.ntmps7
    go_upto_region 2 with fail
    obtain ⟨X, hX⟩ : ∃ X, X = ((w.alloc (.cells #[.int .i8 0, .bool false, .int .i64 0, .string ⟨#[]⟩, .slice none 0 0, .slice none 0 0] 28)).alloc (.cells #[.int .i8 0, .bool false, .int .i64 0, .string ⟨#[]⟩, .slice none 0 0, .slice none 0 0] 28)) := ⟨_, rfl⟩
    rw [← hX] at HS ⊢
    clear hX
    go_wp2_with first | (go_at_call 17; refine (HD.out _).mono ?_; rintro e w' ⟨rfl, h0⟩; have h0 := h0.symm; subst h0) | (go_at_call 20; fail)
    refine (HC.out _).mono ?_
    intro e w5 h5
    cases R with
    | error q =>
      obtain ⟨a, c⟩ := q
      obtain ⟨rfl, hb5⟩ := h5
      have HL5 := Lib.hid (HS.out.below hb5)
      clear hb5
      unfold zeroV
      have bxe := HL5.out.z6
      have bx9 := HL5.out.z9
      unfold zeroC at bxe
      have q0 : w5.cell? ⟨w.heap.size, 0, none⟩ = some (.int .i8 0) := bxe.cell 0
      have qf0 := bxe.frozen 0
      have q1 : w5.cell? ⟨w.heap.size, 1, none⟩ = some (.bool false) := bxe.cell 1
      have qf1 := bxe.frozen 1
      have q2 : w5.cell? ⟨w.heap.size, 2, none⟩ = some (.int .i64 0) := bxe.cell 2
      have qf2 := bxe.frozen 2
      have q3 : w5.cell? ⟨w.heap.size, 3, none⟩ = some (.string ⟨#[]⟩) := bxe.cell 3
      have qf3 := bxe.frozen 3
      have q4 : w5.cell? ⟨w.heap.size, 4, none⟩ = some (.slice none 0 0) := bxe.cell 4
      have qf4 := bxe.frozen 4
      have q5 : w5.cell? ⟨w.heap.size, 5, none⟩ = some (.slice none 0 0) := bxe.cell 5
      have qf5 := bxe.frozen 5
      have p0 : w5.cell? ⟨w.heap.size + 1, 0, none⟩ = some (.int .i8 0) := bx9.cell 0
      have p1 : w5.cell? ⟨w.heap.size + 1, 1, none⟩ = some (.bool false) := bx9.cell 1
      have p2 : w5.cell? ⟨w.heap.size + 1, 2, none⟩ = some (.int .i64 0) := bx9.cell 2
      have p3 : w5.cell? ⟨w.heap.size + 1, 3, none⟩ = some (.string ⟨#[]⟩) := bx9.cell 3
      have p4 : w5.cell? ⟨w.heap.size + 1, 4, none⟩ = some (.slice none 0 0) := bx9.cell 4
      have p5 : w5.cell? ⟨w.heap.size + 1, 5, none⟩ = some (.slice none 0 0) := bx9.cell 5
      clear bxe bx9
      go_wp2_with fail
      refine bodyPost_ret (v := .tuple #[.agg #[.int .i8 0, .bool false, .int .i64 0, .string ⟨#[]⟩, .slice none 0 0, .slice none 0 0], .int .i64 (a : Nat), .int .i64 (c : Nat)]) (by simp [results, Tryz.results7, go_sem, q0, q1, q2, q3, q4, q5]) rfl ?_
      exact HL5.out.err _ _
    | ok p =>
      obtain ⟨v, E⟩ := p
      obtain ⟨val, S, rfl, hva, hS, hb5⟩ := h5
      obtain ⟨kd, bo, nu, te, o1, n1, m1, o2, n2, m2, rfl⟩ := isVa_form hva
      have HL5 := Lib.hid (HS.out.below hb5)
      have HP := Lib.hid (HL5.out.pass hva (fun q e => by have := hS q e; have := HS.out.z6.lt; omega) E)
      clear hb5 hva hS
      have bxe := HL5.out.z6
      have bx9 := HL5.out.z9
      unfold zeroC at bxe
      have q0 : w5.cell? ⟨w.heap.size, 0, none⟩ = some (.int .i8 0) := bxe.cell 0
      have qf0 := bxe.frozen 0
      have q1 : w5.cell? ⟨w.heap.size, 1, none⟩ = some (.bool false) := bxe.cell 1
      have qf1 := bxe.frozen 1
      have q2 : w5.cell? ⟨w.heap.size, 2, none⟩ = some (.int .i64 0) := bxe.cell 2
      have qf2 := bxe.frozen 2
      have q3 : w5.cell? ⟨w.heap.size, 3, none⟩ = some (.string ⟨#[]⟩) := bxe.cell 3
      have qf3 := bxe.frozen 3
      have q4 : w5.cell? ⟨w.heap.size, 4, none⟩ = some (.slice none 0 0) := bxe.cell 4
      have qf4 := bxe.frozen 4
      have q5 : w5.cell? ⟨w.heap.size, 5, none⟩ = some (.slice none 0 0) := bxe.cell 5
      have qf5 := bxe.frozen 5
      have p0 : w5.cell? ⟨w.heap.size + 1, 0, none⟩ = some (.int .i8 0) := bx9.cell 0
      have p1 : w5.cell? ⟨w.heap.size + 1, 1, none⟩ = some (.bool false) := bx9.cell 1
      have p2 : w5.cell? ⟨w.heap.size + 1, 2, none⟩ = some (.int .i64 0) := bx9.cell 2
      have p3 : w5.cell? ⟨w.heap.size + 1, 3, none⟩ = some (.string ⟨#[]⟩) := bx9.cell 3
      have p4 : w5.cell? ⟨w.heap.size + 1, 4, none⟩ = some (.slice none 0 0) := bx9.cell 4
      have p5 : w5.cell? ⟨w.heap.size + 1, 5, none⟩ = some (.slice none 0 0) := bx9.cell 5
      clear bxe bx9
      go_wp2_with fail
      refine bodyPost_ret (v := .tuple #[.agg #[.int .i8 kd, .bool bo, .int .i64 nu, .string te, .slice o1 n1 m1, .slice o2 n2 m2], .int .i64 (E : Nat), .int .i64 0]) (by simp [results, Tryz.results7, go_sem, q0, q1, q2, q3, q4, q5]) rfl ?_
      exact HP.out
  rw [if_neg hc] at hG
  have h91 := hc
  clear hc
  by_cases hc : s[k]'hlt = 123
  · rw [if_pos hc] at hG
    have b110 : (((s[k]'hlt).toNat : Int) == 110) = false := by rw [hc]; rfl
    have b116 : (((s[k]'hlt).toNat : Int) == 116) = false := by rw [hc]; rfl
    have b102 : (((s[k]'hlt).toNat : Int) == 102) = false := by rw [hc]; rfl
    have b45 : (((s[k]'hlt).toNat : Int) == 45) = false := by rw [hc]; rfl
    have b34 : (((s[k]'hlt).toNat : Int) == 34) = false := by rw [hc]; rfl
    have b91 : (((s[k]'hlt).toNat : Int) == 91) = false := by rw [hc]; rfl
    have b123 : (((s[k]'hlt).toNat : Int) == 123) = true := by rw [hc]; rfl
    have HC := Lib.hid (fun w => robject_any s k d hlt hs hd1 hd3 w HI.out R hG)
    clear hG HI HGD hc hnd
    have HS := Lib.hid (LW.start w 0)
    unfold zeroC at HS
    go_enter Tryz.func7, Tryz.ntmps7
    go_upto_region 2 with fail
    obtain ⟨X, hX⟩ : ∃ X, X = ((w.alloc (.cells #[.int .i8 0, .bool false, .int .i64 0, .string ⟨#[]⟩, .slice none 0 0, .slice none 0 0] 28)).alloc (.cells #[.int .i8 0, .bool false, .int .i64 0, .string ⟨#[]⟩, .slice none 0 0, .slice none 0 0] 28)) := ⟨_, rfl⟩
    rw [← hX] at HS ⊢
    clear hX
    go_wp2_with first | (go_at_call 17; refine (HD.out _).mono ?_; rintro e w' ⟨rfl, h0⟩; have h0 := h0.symm; subst h0) | (go_at_call 21; fail)
    refine (HC.out _).mono ?_
    intro e w5 h5
    cases R with
    | error q =>
      obtain ⟨a, c⟩ := q
      obtain ⟨rfl, hb5⟩ := h5
      have HL5 := Lib.hid (HS.out.below hb5)
      clear hb5
      unfold zeroV
      have bxe := HL5.out.z6
      have bx9 := HL5.out.z9
      unfold zeroC at bxe
      have q0 : w5.cell? ⟨w.heap.size, 0, none⟩ = some (.int .i8 0) := bxe.cell 0
      have qf0 := bxe.frozen 0
      have q1 : w5.cell? ⟨w.heap.size, 1, none⟩ = some (.bool false) := bxe.cell 1
      have qf1 := bxe.frozen 1
      have q2 : w5.cell? ⟨w.heap.size, 2, none⟩ = some (.int .i64 0) := bxe.cell 2
      have qf2 := bxe.frozen 2
      have q3 : w5.cell? ⟨w.heap.size, 3, none⟩ = some (.string ⟨#[]⟩) := bxe.cell 3
      have qf3 := bxe.frozen 3
      have q4 : w5.cell? ⟨w.heap.size, 4, none⟩ = some (.slice none 0 0) := bxe.cell 4
      have qf4 := bxe.frozen 4
      have q5 : w5.cell? ⟨w.heap.size, 5, none⟩ = some (.slice none 0 0) := bxe.cell 5
      have qf5 := bxe.frozen 5
      have p0 : w5.cell? ⟨w.heap.size + 1, 0, none⟩ = some (.int .i8 0) := bx9.cell 0
      have p1 : w5.cell? ⟨w.heap.size + 1, 1, none⟩ = some (.bool false) := bx9.cell 1
      have p2 : w5.cell? ⟨w.heap.size + 1, 2, none⟩ = some (.int .i64 0) := bx9.cell 2
      have p3 : w5.cell? ⟨w.heap.size + 1, 3, none⟩ = some (.string ⟨#[]⟩) := bx9.cell 3
      have p4 : w5.cell? ⟨w.heap.size + 1, 4, none⟩ = some (.slice none 0 0) := bx9.cell 4
      have p5 : w5.cell? ⟨w.heap.size + 1, 5, none⟩ = some (.slice none 0 0) := bx9.cell 5
      clear bxe bx9
      go_wp2_with fail
      refine bodyPost_ret (v := .tuple #[.agg #[.int .i8 0, .bool false, .int .i64 0, .string ⟨#[]⟩, .slice none 0 0, .slice none 0 0], .int .i64 (a : Nat), .int .i64 (c : Nat)]) (by simp [results, Tryz.results7, go_sem, q0, q1, q2, q3, q4, q5]) rfl ?_
      exact HL5.out.err _ _
    | ok p =>
      obtain ⟨v, E⟩ := p
      obtain ⟨val, S, rfl, hva, hS, hb5⟩ := h5
      obtain ⟨kd, bo, nu, te, o1, n1, m1, o2, n2, m2, rfl⟩ := isVa_form hva
      have HL5 := Lib.hid (HS.out.below hb5)
      have HP := Lib.hid (HL5.out.pass hva (fun q e => by have := hS q e; have := HS.out.z6.lt; omega) E)
      clear hb5 hva hS
      have bxe := HL5.out.z6
      have bx9 := HL5.out.z9
      unfold zeroC at bxe
      have q0 : w5.cell? ⟨w.heap.size, 0, none⟩ = some (.int .i8 0) := bxe.cell 0
      have qf0 := bxe.frozen 0
      have q1 : w5.cell? ⟨w.heap.size, 1, none⟩ = some (.bool false) := bxe.cell 1
      have qf1 := bxe.frozen 1
      have q2 : w5.cell? ⟨w.heap.size, 2, none⟩ = some (.int .i64 0) := bxe.cell 2
      have qf2 := bxe.frozen 2
      have q3 : w5.cell? ⟨w.heap.size, 3, none⟩ = some (.string ⟨#[]⟩) := bxe.cell 3
      have qf3 := bxe.frozen 3
      have q4 : w5.cell? ⟨w.heap.size, 4, none⟩ = some (.slice none 0 0) := bxe.cell 4
      have qf4 := bxe.frozen 4
      have q5 : w5.cell? ⟨w.heap.size, 5, none⟩ = some (.slice none 0 0) := bxe.cell 5
      have qf5 := bxe.frozen 5
      have p0 : w5.cell? ⟨w.heap.size + 1, 0, none⟩ = some (.int .i8 0) := bx9.cell 0
      have p1 : w5.cell? ⟨w.heap.size + 1, 1, none⟩ = some (.bool false) := bx9.cell 1
      have p2 : w5.cell? ⟨w.heap.size + 1, 2, none⟩ = some (.int .i64 0) := bx9.cell 2
      have p3 : w5.cell? ⟨w.heap.size + 1, 3, none⟩ = some (.string ⟨#[]⟩) := bx9.cell 3
      have p4 : w5.cell? ⟨w.heap.size + 1, 4, none⟩ = some (.slice none 0 0) := bx9.cell 4
      have p5 : w5.cell? ⟨w.heap.size + 1, 5, none⟩ = some (.slice none 0 0) := bx9.cell 5
      clear bxe bx9
      go_wp2_with fail
      refine bodyPost_ret (v := .tuple #[.agg #[.int .i8 kd, .bool bo, .int .i64 nu, .string te, .slice o1 n1 m1, .slice o2 n2 m2], .int .i64 (E : Nat), .int .i64 0]) (by simp [results, Tryz.results7, go_sem, q0, q1, q2, q3, q4, q5]) rfl ?_
      exact HP.out
  rw [if_neg hc] at hG
  have h123 := hc
  clear hc
  have hRe : R = .error (k, 40) := hG
  subst hRe
  have b110 : (((s[k]'hlt).toNat : Int) == 110) = false := ne_b (n := 110) (by decide) h110
  have b116 : (((s[k]'hlt).toNat : Int) == 116) = false := ne_b (n := 116) (by decide) h116
  have b102 : (((s[k]'hlt).toNat : Int) == 102) = false := ne_b (n := 102) (by decide) h102
  have b45 : (((s[k]'hlt).toNat : Int) == 45) = false := ne_b (n := 45) (by decide) h45
  have b34 : (((s[k]'hlt).toNat : Int) == 34) = false := ne_b (n := 34) (by decide) h34
  have b91 : (((s[k]'hlt).toNat : Int) == 91) = false := ne_b (n := 91) (by decide) h91
  have b123 : (((s[k]'hlt).toNat : Int) == 123) = false := ne_b (n := 123) (by decide) h123
  clear hG HI HGD hnd h110 h102 h116 h45 h34 h91 h123
  have HS := Lib.hid (LW.start w 0)
  unfold zeroC at HS
  go_enter Tryz.func7, Tryz.ntmps7
  go_upto_region 2 with fail
  obtain ⟨X, hX⟩ : ∃ X, X = ((w.alloc (.cells #[.int .i8 0, .bool false, .int .i64 0, .string ⟨#[]⟩, .slice none 0 0, .slice none 0 0] 28)).alloc (.cells #[.int .i8 0, .bool false, .int .i64 0, .string ⟨#[]⟩, .slice none 0 0, .slice none 0 0] 28)) := ⟨_, rfl⟩
  rw [← hX] at HS ⊢
  clear hX
  have bxe := HS.out.z6
  have bx9 := HS.out.z9
  unfold zeroC at bxe
  have q0 : X.cell? ⟨w.heap.size, 0, none⟩ = some (.int .i8 0) := bxe.cell 0
  have qf0 := bxe.frozen 0
  have q1 : X.cell? ⟨w.heap.size, 1, none⟩ = some (.bool false) := bxe.cell 1
  have qf1 := bxe.frozen 1
  have q2 : X.cell? ⟨w.heap.size, 2, none⟩ = some (.int .i64 0) := bxe.cell 2
  have qf2 := bxe.frozen 2
  have q3 : X.cell? ⟨w.heap.size, 3, none⟩ = some (.string ⟨#[]⟩) := bxe.cell 3
  have qf3 := bxe.frozen 3
  have q4 : X.cell? ⟨w.heap.size, 4, none⟩ = some (.slice none 0 0) := bxe.cell 4
  have qf4 := bxe.frozen 4
  have q5 : X.cell? ⟨w.heap.size, 5, none⟩ = some (.slice none 0 0) := bxe.cell 5
  have qf5 := bxe.frozen 5
  have p0 : X.cell? ⟨w.heap.size + 1, 0, none⟩ = some (.int .i8 0) := bx9.cell 0
  have p1 : X.cell? ⟨w.heap.size + 1, 1, none⟩ = some (.bool false) := bx9.cell 1
  have p2 : X.cell? ⟨w.heap.size + 1, 2, none⟩ = some (.int .i64 0) := bx9.cell 2
  have p3 : X.cell? ⟨w.heap.size + 1, 3, none⟩ = some (.string ⟨#[]⟩) := bx9.cell 3
  have p4 : X.cell? ⟨w.heap.size + 1, 4, none⟩ = some (.slice none 0 0) := bx9.cell 4
  have p5 : X.cell? ⟨w.heap.size + 1, 5, none⟩ = some (.slice none 0 0) := bx9.cell 5
  clear bxe bx9
  go_wp2_with (go_at_call 17; refine (HD.out _).mono ?_; rintro e w' ⟨rfl, h0⟩; have h0 := h0.symm; subst h0)
  refine bodyPost_ret (v := .tuple #[.agg #[.int .i8 0, .bool false, .int .i64 0, .string ⟨#[]⟩, .slice none 0 0, .slice none 0 0], .int .i64 (k : Nat), .int .i64 40]) (by simp [results, Tryz.results7, go_sem, q0, q1, q2, q3, q4, q5]) rfl ?_
  exact HS.out.err _ 40
/-- The reference's Value, in place. -/
theorem rValue_any (s : ByteArray) (hs : s.size ≤ 20000) : ∀ (N k : Nat) (d : Int) (w : World), k ≤ s.size → s.size < N + k → -9223372036854775808 ≤ d → d ≤ 9223372036854775807 →
    Calls Tryz.prog 7 #[.string s, .int .i64 k, .int .i64 d] w fun e w' => AnsR w (valM s.data.toList k d) e w'
  | 0, k, d, w, hk, hN, _, _ => absurd hN (by omega)
  | N + 1, k, d, w, hk, hN, hd1, hd2 => rValue_step s k d hk hs hd1 hd2 w fun hd k' h1 h2 w => rValue_any s hs N k' (d + 1) w h2 (by omega) (by omega) (by omega)
end Go.Proofs.YtgbagdfcdljleaaGreatDoor
