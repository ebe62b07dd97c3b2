/-
  What can be wrong with what is given: the four faults, and Bind.
-/
import Derived.Test.YtlamkadllbgamaaGreatDoorE7
import Derived.Test.YtlamkadllbgamaaGreatDoorEi
set_option linter.unusedVariables false
set_option linter.unusedSimpArgs false
namespace Go.Proofs.YtlamkadllbgamaaGreatDoor
open Go.RowKit Go.Maps

set_option maxHeartbeats 1000000 in
theorem when_any (so : Bool) (s : ByteArray) (e0 : Int) (w : World) : Calls Tryz.prog 35 #[.bool so, .string s, .int .i64 e0] w fun e w' => e = .returned (.tuple #[.string (if so then s else ⟨#[]⟩), .int .i64 (if so then e0 else 0)]) ∧ w' = w := by
  cases so with
  | false =>
    rw [if_neg Bool.false_ne_true, if_neg Bool.false_ne_true]
    go_enter Tryz.func35, Tryz.ntmps35
    go_wp2_with fail
    go_ret2
    exact ⟨rfl, rfl⟩
  | true =>
    rw [if_pos rfl, if_pos rfl]
    go_enter Tryz.func35, Tryz.ntmps35
    go_wp2_with fail
    go_ret2
    exact ⟨rfl, rfl⟩

theorem isPs_form {W : World} {L : List PR} {v : Value} (h : isPs W L v) : ∃ o c, v = .slice o L.length c := by
  obtain ⟨a, c, ⟨o, rfl, -⟩, -⟩ := h
  exact ⟨o, c, rfl⟩
theorem isGs_form {W : World} {L : List G} {v : Value} (h : isGs W L v) : ∃ o c, v = .slice o L.length c := by
  obtain ⟨a, c, ⟨o, rfl, -⟩, -⟩ := h
  exact ⟨o, c, rfl⟩
set_option maxRecDepth 100000 in
set_option maxHeartbeats 2000000 in
theorem fault1_any (L : List PR) (v : Value) (b1 : Nat) (w : World) (hE : Env w) (hP : finePs L) (h : isPs w L v) (hb : w.cell? ⟨b1, 0, none⟩ = some v) :
    Calls Tryz.prog 31 #[.pointer (some ⟨b1, 0, none⟩)] w fun e w' => e = .returned (.tuple #[.string ⟨#[]⟩, .int .i64 (checkP L)]) ∧ Below w.heap.size w w' := by
  have HC := Lib.hid (Check_any L v w hE hP h)
  obtain ⟨o, c, rfl⟩ := isPs_form h
  generalize checkP L = r at *
  clear h hE hP
  generalize L.length = n at *
  go_enter Tryz.func31, Tryz.ntmps31
  go_wp2_with (go_at_call 11; refine HC.out.mono ?_; rintro e w5 ⟨rfl, hb5⟩)
  go_ret2
  exact ⟨rfl, hb5⟩
set_option maxRecDepth 100000 in
set_option maxHeartbeats 2000000 in
theorem fault2_any (gs : List G) (u : Value) (b2 : Nat) (w : World) (hl : gs.length ≤ 1000000) (h : isGs w gs u) (hb : w.cell? ⟨b2, 0, none⟩ = some u) :
    Calls Tryz.prog 32 #[.pointer (some ⟨b2, 0, none⟩)] w fun e w' => e = .returned (.tuple #[.string ⟨#[]⟩, .int .i64 (if riseB (gs.map G.nm) then 0 else 2)]) ∧ Below w.heap.size w w' := by
  have HN : Hid (Calls Tryz.prog 33 #[u, .func (.func 34) #[] #[]] w fun e w' => (∃ v', e = .returned v' ∧ isK w' (gs.map G.nm) v') ∧ Below w.heap.size w w') := Lib.hid (eachGS_any gs u w hl h)
  have HR : Hid (∀ v5 w1, isK w1 (gs.map G.nm) v5 → Calls Tryz.prog 26 #[v5] w1 fun e w' => e = .returned (.bool (riseB (gs.map G.nm))) ∧ Below w1.heap.size w1 w') := Lib.hid fun v5 w1 hk => rise_any _ v5 w1 (by rw [List.length_map]; exact hl) hk
  have HW : Hid (∀ so w1, Calls Tryz.prog 35 #[.bool so, .string ⟨#[]⟩, .int .i64 2] w1 fun e w' => e = .returned (.tuple #[.string (if so then ⟨#[]⟩ else ⟨#[]⟩), .int .i64 (if so then 2 else 0)]) ∧ w' = w1) := Lib.hid fun so w1 => when_any so _ 2 w1
  obtain ⟨o, c, rfl⟩ := isGs_form h
  generalize gs.map G.nm = ks at *
  generalize riseB ks = r at *
  clear h
  generalize gs.length = n at *
  cases r with
  | true =>
    rw [if_pos rfl]
    go_enter Tryz.func32, Tryz.ntmps32
    go_wp2_with (first
      | (go_at_call 33; refine HN.out.mono ?_; rintro e w5 ⟨⟨v5, rfl, hk5⟩, hb5⟩; obtain ⟨o5, c5, rfl⟩ := isK_form hk5; have HK5 := Lib.hid hk5; clear hk5)
      | (go_at_call 26; refine (HR.out _ _ HK5.out).mono ?_; rintro e w6 ⟨rfl, hb6⟩)
      | (go_at_call 35; refine (HW.out false _).mono ?_; rintro e w7 ⟨rfl, rfl⟩))
    go_ret2
    exact ⟨rfl, hb5.trans (hb6.mono hb5.size)⟩
  | false =>
    rw [if_neg Bool.false_ne_true]
    go_enter Tryz.func32, Tryz.ntmps32
    go_wp2_with (first
      | (go_at_call 33; refine HN.out.mono ?_; rintro e w5 ⟨⟨v5, rfl, hk5⟩, hb5⟩; obtain ⟨o5, c5, rfl⟩ := isK_form hk5; have HK5 := Lib.hid hk5; clear hk5)
      | (go_at_call 26; refine (HR.out _ _ HK5.out).mono ?_; rintro e w6 ⟨rfl, hb6⟩)
      | (go_at_call 35; refine (HW.out true _).mono ?_; rintro e w7 ⟨rfl, rfl⟩))
    go_ret2
    exact ⟨rfl, hb5.trans (hb6.mono hb5.size)⟩

set_option maxRecDepth 100000 in
set_option maxHeartbeats 2000000 in
/-- slices.Index of a text. -/
theorem idxK_any (ks : List ByteArray) (s : ByteArray) (v : Value) (w : World) (hl : ks.length ≤ 1000000) (h : isK w ks v) :
    Calls Tryz.prog 59 #[v, .string s] w fun e w' => (∃ i : Int, e = .returned (.int .i64 i) ∧ decide (0 ≤ i) = ks.any (fun k => decide (k = s))) ∧ w' = w := by
  obtain ⟨a, cap, ⟨o, rfl, hc1, hc2, ho⟩, hks⟩ := h
  unfold maxLen at hc2
  have HK := Lib.hid hks
  obtain ⟨r, hr⟩ : ∃ r, ks.any (fun k => decide (k = s)) = r := ⟨_, rfl⟩
  rw [hr]
  have HR := Lib.hid hr
  clear hks hr
  go_enter Tryz.func59, Tryz.ntmps59
  go_wp2_with fail
  go_loopw [8] (fun i wr => ∃ (j : Nat), j ≤ ks.length ∧ i = .int .i64 j ∧ wr = w ∧ Hid (∀ q (h : q < ks.length), q < j → ks[q] ≠ s)) (fun i _ => ks.length - (intOf i).toNat)
  case atStart => exact ⟨0, by omega, rfl, rfl, Lib.hid (fun _ _ h => absurd h (by omega))⟩
  case round =>
    obtain ⟨j, hj, rfl, rfl, hno⟩ := hrel
    by_cases hlt : j < ks.length
    · obtain rfl := ho (by omega)
      have g0 := (HK.out j hlt).1
      by_cases he : ks[j] = s
      · have HRES : Hid (r = true) := Lib.hid (by rw [← HR.out, List.any_eq_true]; exact ⟨ks[j], List.getElem_mem hlt, by simpa using he⟩)
        have z : (s.toList == s.toList) = true := beq_self_eq_true _
        rw [he] at g0
        clear he hno HR
        go_wp2_with fail
        go_ret
        exact ⟨⟨_, rfl, by rw [HRES.out, decide_eq_true]; omega⟩, rfl⟩
      · have hno' : Hid (∀ q (h : q < ks.length), q < j + 1 → ks[q] ≠ s) := Lib.hid fun q hq h => by
          by_cases e : q = j
          · subst e; exact he
          · exact hno.out q hq (by omega)
        have ze := beq_toList (Ne.symm he)
        clear he hno HR
        generalize ks[j] = k9 at *
        go_wp2_with fail
        go_roundw
        case rel => exact ⟨j + 1, by omega, by go_num, by trivial, hno'⟩
        case measure => simp [intOf]; omega
    · obtain rfl : j = ks.length := by omega
      have HRES : Hid (r = false) := Lib.hid (by
        rw [← HR.out, List.any_eq_false]
        intro k hk
        obtain ⟨i, hi, rfl⟩ := List.getElem_of_mem hk
        simpa using hno.out i hi hi)
      clear hno HR
      go_wp2_with fail
      go_ret
      exact ⟨⟨_, rfl, by rw [HRES.out]; rfl⟩, rfl⟩
set_option maxHeartbeats 1000000 in
theorem containsK_any (ks : List ByteArray) (s : ByteArray) (v : Value) (w : World) (hl : ks.length ≤ 1000000) (h : isK w ks v) :
    Calls Tryz.prog 39 #[v, .string s] w fun e w' => e = .returned (.bool (ks.any (fun k => decide (k = s)))) ∧ w' = w := by
  have HI := Lib.hid (idxK_any ks s v w hl h)
  generalize (ks.any fun k => decide (k = s)) = r at *
  obtain ⟨o, c, rfl⟩ := isK_form h
  clear h
  go_enter Tryz.func39, Tryz.ntmps39
  go_wp2_with (go_at_call 59; refine HI.out.mono ?_; rintro e w5 ⟨⟨i, rfl, hi⟩, rfl⟩)
  go_ret
  exact ⟨ret_bool (by rw [← hi]), rfl⟩
end Go.Proofs.YtlamkadllbgamaaGreatDoor
