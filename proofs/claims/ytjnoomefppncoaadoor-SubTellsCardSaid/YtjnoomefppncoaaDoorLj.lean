/-
  The statement SubPlain.
-/
import Derived.Test.YtjnoomefppncoaaDoorLi
set_option linter.unusedVariables false
namespace Go.Proofs.YtjnoomefppncoaaDoor
open Go.RowKit Go.Shelf

set_option maxRecDepth 100000 in
set_option maxHeartbeats 8000000 in
theorem subPlain_any (s : ByteArray) (w : World) (hE : Env w) (hs : s.size ≤ maxLen) : Calls Tryd.prog 6 #[.string s] w fun e w' => e = .returned (.bool true) ∧ Below w.heap.size w w' := by
  have HW : Hid (∀ W, Below w.heap.size w W → Calls Tryd.prog 8 #[] W fun e w' => e = .returned (.bool true) ∧ Below W.heap.size W w') := Lib.hid fun W hb => wakes_any W (hE.kb hb)
  by_cases hbig : 1500 < s.size
  · have hc : (1500 : Int) < (s.size : Int) := by omega
    clear hE hs
    go_enter Tryd.func6, Tryd.ntmps6
    go_wp2_with (go_at_call 8; refine (HW.out _ (Below.refl _ _)).mono ?_; rintro e w5 ⟨rfl, hb5⟩)
    go_ret
    exact ⟨rfl, hb5⟩
  have hs2 : s.size ≤ 1500 := by omega
  have HL := Lib.hid (lex_any s w hE (by omega))
  have HH : Hid (∀ W, Below w.heap.size w W → Calls Tryd.prog 12 #[.string s] W fun e w' => e = .returned (.int .i64 (cntX (ansL s.data.toList).1)) ∧ Below W.heap.size W w') := Lib.hid fun W hb => holes_any s W (hE.kb hb) (by omega)
  have hNI := ans_nice s.data.toList
  have hPL := fun h => ans_plain s.data.toList h (by rw [toList_length]; exact hs2)
  have hlen := ans_len s.data.toList
  unfold LexC at HL
  generalize ansL s.data.toList = A at *
  obtain ⟨l, at1, e1⟩ := A
  simp only at HL HH hlen
  have NI : Hid (∀ i (h : i + 1 < l.length), l[i + 1].isT = true → l[i].isT = false) := Lib.hid fun i h hT => hNI l rfl i h hT
  have PL := Lib.hid hPL
  have hc : ¬ (1500 : Int) < (s.size : Int) := by omega
  clear hE hs hbig hNI hPL
  go_enter Tryd.func6, Tryd.ntmps6
  go_wp2_with fail
  go_at_call 9
  refine HL.out.mono ?_
  rintro e w1 ⟨v, rfl, ⟨o, g, c, rfl, hc1, hc2, hc3, hc4⟩, hb1⟩
  have HC := Lib.hid hc4
  have HO := Lib.hid hc3
  have HB := Lib.hid hb1
  clear hc4 hc3 hb1 HL hc
  go_wp2_with fail
  go_loopw [6] (fun iv wr => ∃ i : Nat, i ≤ s.size ∧ iv = .int .i64 i ∧ w1 = wr ∧ Hid (∀ c ∈ s.data.toList.take i, c ≠ 36)) (fun iv _ => s.size - (intOf iv).toNat)
  case atStart => exact ⟨0, Nat.zero_le _, rfl, rfl, Lib.hid (by simp)⟩
  case round =>
    obtain ⟨i, hi, rfl, rfl, hnd⟩ := hrel
    by_cases hlt : i < s.size
    · by_cases h36 : s[i] = 36
      · have hq : (((s[i].toNat : Nat) : Int) == 36) = true := by rw [h36]; rfl
        clear h36 hnd
        go_wp2_with fail
        go_loopw [7, 32] (fun nv jv wr => ∃ j : Nat, j ≤ l.length ∧ jv = .int .i64 j ∧ nv = .int .i64 (cntX (l.take j)) ∧ Hid (Below w1.heap.size w1 wr)) (fun _ jv _ => l.length - (intOf jv).toNat)
        case atStart => exact ⟨0, Nat.zero_le _, rfl, rfl, Lib.hid (Below.refl _ _)⟩
        case round =>
          obtain ⟨j, hj, rfl, rfl, hbr⟩ := hrel
          by_cases hlj : j < l.length
          · obtain rfl := HO.out (by omega)
            have hcw : ∀ i u, (xcells l)[i]? = some u → wr.cell? ⟨g, i, none⟩ = some u := fun i u hi => (hbr.out.cell (p := ⟨g, i, none⟩) (World.block_lt_of_cell? w1 _ (HC.out i u hi))).trans (HC.out i u hi)
            obtain ⟨d0, d1, d2, d3, d4, d5⟩ := xr_six hcw j hlj
            have hcs := cnt_succ l j hlj
            have hcl := cnt_le l j
            have hk : ((l[j].k : Int) == 0) = l[j].isT := by cases l[j] <;> rfl
            have hk' : ((l[j].k : Int) != 0) = !l[j].isT := by cases l[j] <;> rfl
            have hlti : (j : Int) < (l.length : Int) := by omega
            have da := fun (ob : Obj) (q : Nat) u (h : wr.cell? ⟨g, q, none⟩ = some u) => (((Below.refl wr.heap.size wr).alloc (Nat.le_refl _) ob).cell (p := ⟨g, q, none⟩) (World.block_lt_of_cell? wr _ h)).trans h
            have hB2 := fun (ob : Obj) => hbr.out.alloc hbr.out.size ob
            have HB2 := Lib.hid hB2
            clear hB2
            cases hT : l[j].isT with
            | false =>
              rw [hT] at hk hk'
              have hn : nt l[j] = true := by unfold nt; rw [hT]; rfl
              rw [hn] at hcs
              have HCS := Lib.hid hcs
              generalize l[j] = x at *
              generalize cntX (l.take j) = n at *
              clear hT hn hcs hcw
              rcases j with _ | m
              · go_wp2_with fail
                go_roundw
                case rel => exact ⟨0 + 1, by omega, by go_num, by rw [HCS.out]; go_num, Lib.hid (HB2.out _)⟩
                case measure => simp [intOf]; omega
              · have hm0 : (0 : Int) < (m : Int) + 1 := by omega
                go_wp2_with fail
                go_roundw
                case rel => exact ⟨m + 1 + 1, by omega, by go_num, by rw [HCS.out]; go_num, Lib.hid (HB2.out _)⟩
                case measure => simp [intOf]; omega
            | true =>
              rw [hT] at hk hk'
              have hn : nt l[j] = false := by unfold nt; rw [hT]; rfl
              rw [hn] at hcs
              have HCS := Lib.hid hcs
              rcases j with _ | m
              · generalize l[0] = x at *
                generalize cntX (l.take 0) = n at *
                clear hT hn hcs hcw
                go_wp2_with fail
                go_roundw
                case rel => exact ⟨0 + 1, by omega, by go_num, by rw [HCS.out]; rfl, Lib.hid (HB2.out _)⟩
                case measure => simp [intOf]; omega
              · have hm0 : (0 : Int) < (m : Int) + 1 := by omega
                have hp0 := (xr_six hcw m (by omega)).1
                have hpa := fun ob => da ob _ _ hp0
                have hkp : ((l[m].k : Int) == 0) = false := by
                  have := NI.out m (by omega) hT
                  revert this
                  cases l[m] <;> intro h <;> first | rfl | cases h
                generalize l[m] = y at *
                generalize l[m + 1] = x at *
                generalize cntX (l.take (m + 1)) = n at *
                clear hT hn hcs hcw
                go_wp2_with fail
                go_roundw
                case rel => exact ⟨m + 1 + 1, by omega, by go_num, by rw [HCS.out]; rfl, Lib.hid (HB2.out _)⟩
                case measure => simp [intOf]; omega
          · obtain rfl : j = l.length := by omega
            have ht : l.take l.length = l := List.take_of_length_le (Nat.le_refl _)
            rw [ht]
            have HBR := Lib.hid (HB.out.trans (hbr.out.mono HB.out.size))
            clear ht hbr
            generalize cntX l = n at *
            go_wp2_with (first | (go_at_call 12; refine (HH.out _ HBR.out).mono ?_; rintro e w5 ⟨rfl, hb5⟩) | (go_at_call 8; refine (HW.out _ (HBR.out.trans (hb5.mono HBR.out.size))).mono ?_; rintro e w6 ⟨rfl, hb6⟩))
            go_ret
            exact ⟨rfl, (HBR.out.trans (hb5.mono HBR.out.size)).trans (hb6.mono (Nat.le_trans HBR.out.size hb5.size))⟩
      · have hq : (((s[i].toNat : Nat) : Int) == 36) = false := beq_eq_false_iff_ne.2 (fun e => h36 (toNat_eq (n := 36) (by omega)))
        have hn2 : Hid (∀ c ∈ s.data.toList.take (i + 1), c ≠ 36) := Lib.hid fun c hc => by
          rw [take_snoc s i hlt] at hc
          rcases List.mem_append.1 hc with h | h
          · exact hnd.out c h
          · rw [List.mem_singleton.1 h]; exact h36
        clear h36 hnd
        go_wp2_with fail
        go_roundw
        case rel => exact ⟨i + 1, by omega, by go_num, by trivial, hn2⟩
        case measure => simp [intOf]; omega
    · obtain rfl : i = s.size := by omega
      have hall := PL.out (fun c hc => hnd.out c (by rw [List.take_of_length_le (by rw [toList_length]; exact Nat.le_refl _)]; exact hc))
      clear hnd
      rcases hall with h | ⟨h0, h⟩ | ⟨h0, h⟩
      · cases h
        go_wp2_with (go_at_call 8; refine (HW.out _ HB.out).mono ?_; rintro e w6 ⟨rfl, hb6⟩)
        go_ret
        exact ⟨rfl, HB.out.trans (hb6.mono HB.out.size)⟩
      · cases h
        have hse : s = ⟨#[]⟩ := by rw [← bs_self s, h0]
        subst hse
        have hcn : cntX [] = 0 := rfl
        rw [hcn] at HH
        go_wp2_with (first | (go_at_call 12; refine (HH.out _ HB.out).mono ?_; rintro e w5 ⟨rfl, hb5⟩) | (go_at_call 8; refine (HW.out _ (HB.out.trans (hb5.mono HB.out.size))).mono ?_; rintro e w6 ⟨rfl, hb6⟩))
        go_ret
        exact ⟨rfl, (HB.out.trans (hb5.mono HB.out.size)).trans (hb6.mono (Nat.le_trans HB.out.size hb5.size))⟩
      · cases h
        obtain rfl := HO.out (by simp)
        have d0 : w1.cell? ⟨g, 0, none⟩ = some (.int .i8 0) := HC.out 0 _ rfl
        have d1 : w1.cell? ⟨g, 1, none⟩ = some (.string s) := by have := HC.out 1 _ rfl; rw [this]; show some (Value.string (bs s.data.toList)) = _; rw [bs_self]
        have hcn : cntX [X.text s.data.toList] = 0 := rfl
        rw [hcn] at HH
        go_wp2_with (first | (go_at_call 12; refine (HH.out _ HB.out).mono ?_; rintro e w5 ⟨rfl, hb5⟩) | (go_at_call 8; refine (HW.out _ (HB.out.trans (hb5.mono HB.out.size))).mono ?_; rintro e w6 ⟨rfl, hb6⟩))
        all_goals
          go_ret
          exact ⟨rfl, (HB.out.trans (hb5.mono HB.out.size)).trans (hb6.mono (Nat.le_trans HB.out.size hb5.size))⟩
end Go.Proofs.YtjnoomefppncoaaDoor
