/-
  slices.Grow of no slice, slices.Concat of rows of bytes.
-/
import Derived.Test.YtbjdbphnccdpbaaGl
import Derived.Lib.AppendZerosOnto
set_option linter.unusedVariables false
namespace Go.Proofs.Ytbjdbphnccdpbaa
open Go.RowKit Go.Shelf Go.Lib Go.Deep

/-- 'append(nil, make([]byte, k)...)'. -/
theorem run_app_zeros (w : World) (ty : TypeId) (k : Nat) (h0 : 0 < k) (hk : k ≤ 8000000) : ∃ c w', (Builtin.append_ #[27, 3] ty #[.slice none 0 0, .int .i64 k]).run Try.prog w = .ok (.slice (some ⟨w.heap.size, 0, none⟩) k c) w' ∧ ow w.heap.size w' (.slice (some ⟨w.heap.size, 0, none⟩) 0 c) [] ∧ Below w.heap.size w w' ∧ k ≤ c := by
  obtain ⟨i, hi, hzz⟩ := Option.map_eq_some_iff.1 infoU8
  simp only [Prod.mk.injEq] at hzz
  obtain ⟨hz, hsz, hby⟩ := hzz
  have h1 := grownCap_ge w k 0 5
  have h2 := grownCap_le_maxLen w k 0 5 (by unfold maxLen; omega)
  have hr := run_append_grow_zeros (P := Try.prog) w 27 3 ty 5 i _ .i64 .i64 Try.underlying27 Try.underlying3 hi hz none 0 0 [] (run_firstCells_none w.drew i.size 0 0 0) k h0 (by omega) (by omega) (by omega) (by rw [hby]; omega) (growslice_fits (by omega) (by rw [hby]; omega))
  rw [Nat.zero_add] at hr
  refine ⟨_, _, hr, .inr ⟨w.heap.size, _, _, rfl, Nat.le_refl _, heap_alloc_new w.drew _, Nat.zero_le _, h2, ?_, by rfl⟩, (below_drewN (Below.refl _ _) 1).alloc (Nat.le_refl _) _, h1⟩
  simp only [Array.size_append, List.size_toArray, size_zeroCells, List.length_nil]
  have : (Value.int IntKind.u8 0).cells.size = 1 := rfl
  rw [this]; omega

theorem wpList_app_zeros {w : World} {ops : Array Oper} {rest : List Oper} {o : Oper} {a : Act} {Q : Exit → Act → World → Prop} (hgd : o.guard = none) (s x : Operand)
    (ho : o.op = .call { callee := .builtin .append, args := #[s, x], argTypes := #[27, 3] }) (k : Nat) (h0 : 0 < k) (hk : k ≤ 8000000) (hs : a.eval s = .slice none 0 0) (hx : a.eval x = .int .i64 k)
    (h : ∀ c w', Hid (ow w.heap.size w' (.slice (some ⟨w.heap.size, 0, none⟩) 0 c) [] ∧ Below w.heap.size w w') → k ≤ c → wpList Try.prog ops Q rest (a.put o.dst (.slice (some ⟨w.heap.size, 0, none⟩) k c)) w') : wpList Try.prog ops Q (o :: rest) a w := by
  refine wpList_plain hgd fun K hK => ?_
  obtain ⟨c, w', hr, h1, h2, h3⟩ := run_app_zeros w o.type k h0 hk
  unfold Oper.wp execOp
  simp only [ho, resolve, invoke, builtin, Sem.run_bind, Sem.run_pure, Result.andThen_ok, List.map_toArray, List.map_cons, List.map_nil, hs, hx, hr]
  exact hK _ _ (h c w' (Lib.hid ⟨h1, h2⟩) h3)
set_option maxRecDepth 100000 in
set_option maxHeartbeats 4000000 in
theorem grow_any (k : Nat) (w : World) (hk : k ≤ 8000000) : Calls Try.prog 61 #[.slice none 0 0, .int .i64 k] w fun e w' => ∃ o c, e = .returned (.slice o 0 c) ∧ Hid (ow w.heap.size w' (.slice o 0 c) [] ∧ Below w.heap.size w w') := by
  rcases Nat.eq_zero_or_pos k with rfl | h0
  · go_enter Try.func61, Try.ntmps61
    go_wp2_with fail
    go_ret
    exact ⟨none, 0, rfl, Lib.hid ⟨.inl ⟨rfl, rfl⟩, Below.refl _ _⟩⟩
  · have t1 : decide ((k : Int) < 0) = false := decide_eq_false (by omega)
    have t2 : decide (0 < (k : Int)) = true := decide_eq_true (by omega)
    have t2' : decide (0 < k) = true := decide_eq_true h0
    have hw64 : wrap64 (k : Int) = k := by unfold wrap64; omega
    have H0 := Lib.hid h0
    have HK := Lib.hid hk
    clear h0 hk
    go_enter Try.func61, Try.ntmps61
    go_wp2_with (refine wpList_app_zeros rfl _ _ rfl k H0.out HK.out rfl (congrArg (Value.int IntKind.i64) hw64) ?_)
    intro c w' HQ hkc
    go_wp2_with fail
    go_ret
    exact ⟨_, c, rfl, HQ⟩

/-- The bytes of the first j rows. -/
def pf (L : List (List UInt8)) (j : Nat) : List UInt8 := (L.take j).flatten
theorem pf_succ (L : List (List UInt8)) (j : Nat) (h : j < L.length) : pf L (j + 1) = pf L j ++ L[j] := by
  unfold pf
  rw [List.take_succ_eq_append_getElem h, List.flatten_append]
  simp
theorem pf_le (L : List (List UInt8)) (j : Nat) : (pf L j).length ≤ L.flatten.length := by
  have := congrArg List.length (congrArg List.flatten (List.take_append_drop j L))
  rw [List.flatten_append, List.length_append] at this
  unfold pf
  omega
theorem pf_all (L : List (List UInt8)) : pf L L.length = L.flatten := by unfold pf; rw [List.take_length]
set_option maxRecDepth 100000 in
set_option maxHeartbeats 4000000 in
/-- slices.Concat: all the bytes, one row behind the other, in new memory. -/
theorem concat_any (L : List (List UInt8)) (v : Value) (w : World) (hv : rds w L v) (hl : L.flatten.length ≤ 4000000) : Calls Try.prog 34 #[v] w fun e w' => ∃ o c, e = .returned (.slice o L.flatten.length c) ∧ Hid (ow w.heap.size w' (.slice o L.flatten.length c) L.flatten ∧ Below w.heap.size w w') := by
  obtain ⟨o, a, cap, rfl, hc1, hc2, ho, hL⟩ := hv
  unfold maxLen at hc2
  have HL := Lib.hid hL
  have HO := Lib.hid ho
  obtain ⟨F, hF⟩ : ∃ F, L.flatten = F := ⟨_, rfl⟩
  have hle := pf_le L
  have hall := pf_all L
  rw [hF] at hl hle hall
  rw [hF]
  have HFL := Lib.hid (And.intro hl hle)
  have HALL := Lib.hid hall
  clear hL ho hl hle hF hall
  go_enter Try.func34, Try.ntmps34
  go_wp2_with fail
  go_loopw [3, 11] (fun sv iv wr => ∃ j : Nat, j ≤ L.length ∧ iv = .int .i64 j ∧ sv = .int .i64 ((pf L j).length : Nat) ∧ w = wr) (fun _ i _ => L.length - (intOf i).toNat)
  case atStart => exact ⟨0, by omega, rfl, rfl, rfl⟩
  case round =>
    obtain ⟨j, hj, rfl, rfl, rfl⟩ := hrel
    by_cases hlt : j < L.length
    · obtain rfl := HO.out (by omega)
      obtain ⟨ob, cb, q1, q2⟩ := HL.out j hlt
      have hf : (pf L (j + 1)).length = (pf L j).length + L[j].length := by rw [pf_succ L j hlt, List.length_append]
      have hf2 := HFL.out.2 (j + 1)
      rw [hf] at hf2
      have HF := Lib.hid hf
      have hfl := HFL.out.1
      have hlt' : (j : Int) < (L.length : Int) := by omega
      generalize (pf L j).length = P at *
      generalize L[j].length = m at *
      have hw : IntKind.i64.wrap ((P : Int) + (m : Int)) = (P : Int) + (m : Int) := by go_unwrap
      have hz : decide ((P : Int) + (m : Int) < 0) = false := decide_eq_false (by omega)
      clear hf q2 hf2 hfl
      go_wp2_with fail
      go_roundw
      case rel => exact ⟨j + 1, by omega, by go_num, by rw [HF.out]; simp, trivial⟩
      case measure => simp [intOf]; omega
    · obtain rfl : j = L.length := by omega
      have hlt' : decide ((L.length : Int) < (L.length : Int)) = false := decide_eq_false (by omega)
      have HC := Lib.hid (grow_any (pf L L.length).length w (by rw [HALL.out]; have := HFL.out.1; omega))
      clear hlt hj
      go_wp2_with (go_at_call 61; refine HC.out.mono ?_)
      rintro e w1 ⟨o1, c1, rfl, HQ1⟩
      go_wp2_with fail
      go_loopw [6, 27] (fun nv iv wr => ∃ j o2 c2, j ≤ L.length ∧ iv = .int .i64 (j : Nat) ∧ nv = .slice o2 (pf L j).length c2 ∧ Hid (ow w.heap.size wr (.slice o2 (pf L j).length c2) (pf L j) ∧ Below w.heap.size w wr)) (fun _ i _ => L.length - (intOf i).toNat)
      case atStart => exact ⟨0, o1, c1, by omega, rfl, rfl, HQ1⟩
      case round =>
        obtain ⟨j, o2, c2, hj, rfl, rfl, HQ⟩ := hrel
        by_cases hlt : j < L.length
        · obtain rfl := HO.out (by omega)
          obtain ⟨ob, cb, q1, q2⟩ := HL.out j hlt
          have g1 := (Fr.of_below (B := fun _ => False) HQ.out.2).cell _ _ (fun h => h) q1
          have HR := Lib.hid (q2.below HQ.out.2)
          have HF := Lib.hid (pf_succ L j hlt)
          have HSZ : Hid ((pf L j).length + L[j].length ≤ 140737488351232) := Lib.hid (by
            have := HFL.out.2 (j + 1)
            rw [HF.out, List.length_append] at this
            have := HFL.out.1
            omega)
          have hlt' : (j : Int) < (L.length : Int) := by omega
          generalize hP : pf L j = P at *
          generalize hX : L[j] = X at *
          clear q1 q2 hP hX
          go_wp2_with (at_builtin; refine wpList_app_ow rfl _ _ rfl w.heap.size (.slice o2 P.length c2) (.slice ob X.length cb) P X rfl rfl HQ.out.1 HR.out HSZ.out HQ.out.2.size ?_)
          intro o3 c3 w3 own3 gr3 at3
          have HQ3 : Hid (ow w.heap.size w3 (.slice o3 (pf L (j + 1)).length c3) (pf L (j + 1)) ∧ Below w.heap.size w w3) := Lib.hid ⟨by rw [HF.out, List.length_append]; exact own3, HQ.out.2.trans ((Fr.grown (B := fun k => w.heap.size ≤ k) gr3 (fun r hr => (HQ.out.1.lt r hr).1)).below (fun k hk => hk) HQ.out.2.size)⟩
          rw [show P.length + X.length = (pf L (j + 1)).length by rw [HF.out, List.length_append]]
          clear own3 gr3 at3
          go_wp2_with fail
          go_roundw
          case rel => exact ⟨j + 1, o3, c3, by omega, by go_num, rfl, HQ3⟩
          case measure => simp [intOf]; omega
        · obtain rfl : j = L.length := by omega
          have hlt' : decide ((L.length : Int) < (L.length : Int)) = false := decide_eq_false (by omega)
          have hff := HALL.out
          generalize hP : pf L L.length = P at *
          subst hff
          clear hP
          go_wp2_with fail
          go_ret
          exact ⟨o2, c2, rfl, HQ⟩
end Go.Proofs.Ytbjdbphnccdpbaa
