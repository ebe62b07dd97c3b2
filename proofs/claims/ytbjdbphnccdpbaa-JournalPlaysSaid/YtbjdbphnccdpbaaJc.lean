/-
  The program's journal: broken, there, first.
-/
import Derived.Test.YtbjdbphnccdpbaaJb
set_option linter.unusedVariables false
namespace Go.Proofs.Ytbjdbphnccdpbaa
open Go.RowKit Go.Shelf Go.Lib Go.Deep

theorem head_short {x : List UInt8} (h : ¬ 4 ≤ x.length) : headN x = none := by
  match x, h with
  | [], _ => rfl
  | [_], _ => rfl
  | [_, _], _ => rfl
  | [_, _, _], _ => rfl
  | _ :: _ :: _ :: _ :: _, h4 => exact absurd (by simp) h4
/-- What broken says: so many bytes at the end belong to no whole frame. -/
def Brk (x : List UInt8) (n : Nat) : Prop := n ≤ x.length ∧ ((scanL x).2 = 0 → n = 0)
theorem brk_none {x y : List UInt8} (hy : y.length ≤ x.length) (hs : (scanL x).2 = 0 → (scanL y).2 = 0) (hn : headN y = none) : Brk x y.length :=
  ⟨hy, fun h => by have := hs h; rw [scan_none hn] at this; exact this⟩
set_option maxRecDepth 100000 in
set_option maxHeartbeats 4000000 in
theorem broken_any (x : List UInt8) (v : Value) (w : World) (hx : rd w x v) : Calls Try.prog 32 #[v] w fun e w' => ∃ n : Nat, e = .returned (.int .i64 n) ∧ Hid (Brk x n ∧ Below w.heap.size w w') := by
  obtain ⟨o, c, rfl, hc1, hc2⟩ := hx.form
  have HX := Lib.hid hx
  clear hx
  go_enter Try.func32, Try.ntmps32
  go_wp2_with fail
  go_loopw [0] (fun bv wr => ∃ (rest : List UInt8) (ob : Option Addr) (cb : Nat), bv = .slice ob rest.length cb ∧ Hid (rest.length ≤ x.length ∧ ((scanL x).2 = 0 → (scanL rest).2 = 0)) ∧ Hid (rd wr rest (.slice ob rest.length cb)) ∧ Hid (Below w.heap.size w wr)) (fun bv _ => lenOf' bv)
  case atStart => exact ⟨x, o, c, rfl, Lib.hid ⟨Nat.le_refl _, id⟩, HX, Lib.hid (Below.refl _ _)⟩
  case round =>
    obtain ⟨rest, ob, cb, rfl, hI, hRD, hB⟩ := hrel
    by_cases h4 : 4 ≤ rest.length
    · obtain ⟨ab, rfl, _⟩ := hRD.out.at (by omega)
      match rest, h4 with
      | p :: q :: r :: u :: t, _ =>
        obtain ⟨N, hN, hNb, hhd0⟩ := head_ex p q r u t
        have HL : Hid (Calls Try.prog 57 #[.slice (some ab) (p :: q :: r :: u :: t).length cb] wr fun e w' => e = .returned (.int .i64 (N : Nat)) ∧ Hid (Below wr.heap.size wr w')) := Lib.hid (by
          have := jlength_any p q r u t _ wr hRD.out
          rw [hN] at this
          exact this)
        have HH := Lib.hid hhd0
        have hlen : (4 : Int) ≤ ((p :: q :: r :: u :: t).length : Int) := by simp; omega
        have hlen' : 4 ≤ (p :: q :: r :: u :: t).length := by simp
        clear hhd0 hN
        generalize hxx : p :: q :: r :: u :: t = rest at *
        clear hxx
        have hnc : rest.length ≤ cb ∧ cb ≤ maxLen := by
          obtain ⟨o2, c2, e2, e3, e4⟩ := hRD.out.form
          cases e2
          exact ⟨e3, e4⟩
        have hml := hnc.2
        unfold maxLen at hml
        by_cases hb : 1 ≤ N ∧ N ≤ 524288
        · have HS : Hid (sizeF (N : Int) = ((4 + N : Nat) : Int)) := Lib.hid (by unfold sizeF; rw [if_neg (by omega)]; omega)
          have tz : (((4 + N : Nat) : Int) == 0) = false := by rw [beq_eq_false_iff_ne]; omega
          have tz' : ((4 : Int) + (N : Int) == 0) = false := by rw [beq_eq_false_iff_ne]; omega
          by_cases hf : 4 + N ≤ rest.length
          · have hh : headN rest = some N := by rw [HH.out, if_pos ⟨hb.1, hb.2, hf⟩]
            have t5 : decide ((rest.length : Int) < ((4 + N : Nat) : Int)) = false := decide_eq_false (by omega)
            have t5' : decide (rest.length < 4 + N) = false := decide_eq_false (by omega)
            have t5'' : decide ((rest.length : Int) < 4 + (N : Int)) = false := decide_eq_false (by omega)
            have hcc : 4 + (N : Int) ≤ (cb : Int) := by omega
            have hnn : 4 + (N : Int) ≤ (rest.length : Int) := by omega
            have htn : (4 + (N : Int)).toNat = 4 + N := by omega
            have HK : Hid (∀ W, Below wr.heap.size wr W → rd W (rest.drop (4 + N)) (.slice (some (if cb = 4 + N then ab else ab.add (4 + N))) (rest.length - (4 + N)) (cb - (4 + N)))) := Lib.hid fun W hW => (hRD.out.below hW).drop (4 + N) hf
            have HE : Hid (scanL rest = ((rest.drop 4).take N :: (scanL (rest.drop (4 + N))).1, (scanL (rest.drop (4 + N))).2)) := Lib.hid (scan_some hh)
            have hdl : Hid ((rest.drop (4 + N)).length = rest.length - (4 + N)) := Lib.hid (by rw [List.length_drop])
            have HF := Lib.hid hf
            clear hh hb hf hNb
            go_wp2_with first
              | (go_at_call 57; refine HL.out.mono ?_; rintro e w0 ⟨rfl, hB0⟩)
              | (go_at_call 56; refine (psize_any _ _).mono ?_; rintro e w0 ⟨rfl, rfl⟩; rw [HS.out])
            go_roundw
            case rel =>
              refine ⟨rest.drop (4 + N), some (if cb = 4 + N then ab else ab.add (4 + N)), cb - (4 + N), by rw [hdl.out]; by_cases e : cb = 4 + N <;> simp [e], Lib.hid ⟨by rw [hdl.out]; have := hI.out.1; omega, fun h => by have := hI.out.2 h; rw [HE.out] at this; exact this⟩, Lib.hid ?_, Lib.hid (hB.out.trans (hB0.out.mono hB.out.size))⟩
              rw [hdl.out]
              exact HK.out _ hB0.out
            case measure => simp [lenOf']; have := HF.out; omega
          · have hh : headN rest = none := by rw [HH.out, if_neg (by omega)]
            have HQ := Lib.hid (brk_none hI.out.1 hI.out.2 hh)
            have t5 : decide ((rest.length : Int) < ((4 + N : Nat) : Int)) = true := decide_eq_true (by omega)
            have t5' : decide (rest.length < 4 + N) = true := decide_eq_true (by omega)
            have t5'' : decide ((rest.length : Int) < 4 + (N : Int)) = true := decide_eq_true (by omega)
            clear hh hb hf hNb hnc hml
            go_wp2_with first
              | (go_at_call 57; refine HL.out.mono ?_; rintro e w0 ⟨rfl, hB0⟩)
              | (go_at_call 56; refine (psize_any _ _).mono ?_; rintro e w0 ⟨rfl, rfl⟩; rw [HS.out])
            go_ret
            exact ⟨rest.length, rfl, Lib.hid ⟨HQ.out, hB.out.trans (hB0.out.mono hB.out.size)⟩⟩
        · have HS : Hid (sizeF (N : Int) = 0) := Lib.hid (by unfold sizeF; rw [if_pos (by omega)])
          clear hb hNb hnc hml
          go_wp2_with first
            | (go_at_call 57; refine HL.out.mono ?_; rintro e w0 ⟨rfl, hB0⟩)
            | (go_at_call 56; refine (psize_any _ _).mono ?_; rintro e w0 ⟨rfl, rfl⟩; rw [HS.out])
          go_ret
          exact ⟨0, rfl, Lib.hid ⟨⟨Nat.zero_le _, fun _ => rfl⟩, hB.out.trans (hB0.out.mono hB.out.size)⟩⟩
    · have HQ := Lib.hid (brk_none hI.out.1 hI.out.2 (head_short h4))
      have t4 : decide ((4 : Int) ≤ (rest.length : Int)) = false := decide_eq_false (by omega)
      have t4' : decide (4 ≤ rest.length) = false := decide_eq_false h4
      clear h4
      go_wp2_with fail
      go_ret
      exact ⟨rest.length, rfl, Lib.hid ⟨HQ.out, hB.out⟩⟩

set_option maxRecDepth 100000 in
theorem there_nil (w : World) : Calls Try.prog 36 #[.pointer none] w fun e w' => e = .returned (.int .i64 1) ∧ w = w' := by
  go_enter Try.func36, Try.ntmps36
  go_wp2_with fail
  go_ret
  exact ⟨rfl, rfl⟩
set_option maxRecDepth 100000 in
theorem there_some (a : Addr) (w : World) : Calls Try.prog 36 #[.pointer (some a)] w fun e w' => e = .returned (.int .i64 0) ∧ w = w' := by
  go_enter Try.func36, Try.ntmps36
  go_wp2_with fail
  go_ret
  exact ⟨rfl, rfl⟩

set_option maxRecDepth 100000 in
set_option maxHeartbeats 4000000 in
/-- first: N deeds, one behind the other, up to the first that tells an error. -/
theorem first_deeds (N : Nat) (a : Addr) (gs : Nat → Nat) (lbs : Nat → Array Value) (J : Nat → World → Prop) (Q : Int → World → Prop) (w : World) (hN : N ≤ 1000)
    (hrow : ∀ k, k < N → ∀ W, J k W → W.cell? (a.add k) = some (.func (.func (gs k)) #[] (lbs k)))
    (eg : ∀ k, k < N → ∀ args w, (callFunc (gs k) args).run Try.prog w = .ok (.enter (gs k) args) w)
    (hdeed : ∀ k, k < N → ∀ W, J k W → Calls Try.prog (gs k) (lbs k) W fun e W' => ∃ i, e = .returned (.int .i64 i) ∧ ((i = 0 ∧ J (k + 1) W') ∨ (i ≠ 0 ∧ Q i W')))
    (h0 : J 0 w) : Calls Try.prog 27 #[.slice (some a) N N] w fun e w' => ∃ i, e = .returned (.int .i64 i) ∧ Hid ((i = 0 ∧ J N w') ∨ (i ≠ 0 ∧ Q i w')) := by
  have HROW := Lib.hid hrow
  have HEG := Lib.hid eg
  have HD := Lib.hid hdeed
  have H0 := Lib.hid h0
  clear hrow eg hdeed h0
  go_enter Try.func27, Try.ntmps27
  go_wp2_with fail
  go_loopw [8] (fun iv wr => ∃ k : Nat, k ≤ N ∧ iv = .int .i64 k ∧ Hid (J k wr)) (fun iv _ => N - (intOf iv).toNat)
  case atStart => exact ⟨0, by omega, rfl, H0⟩
  case round =>
    obtain ⟨k, hk, rfl, HJ⟩ := hrel
    by_cases hlt : k < N
    · have hlt' : (k : Int) < (N : Int) := by omega
      have hc := HROW.out k hlt wr HJ.out
      have hg := HEG.out k hlt
      have hd := HD.out k hlt wr HJ.out
      generalize gs k = g at *
      generalize lbs k = lb at *
      have HDD := Lib.hid hd
      clear hd
      go_wp2_with fail
      refine HDD.out.mono ?_
      rintro e w2 ⟨i, rfl, hq⟩
      rcases hq with ⟨rfl, hq⟩ | ⟨hi, hq⟩
      · have HQ := Lib.hid hq
        clear hq
        go_wp2_with fail
        go_roundw
        case rel => exact ⟨k + 1, by omega, by go_num, HQ⟩
        case measure => simp [intOf]; omega
      · have HQ := Lib.hid (And.intro hi hq)
        have ti : (i != 0) = true := by simpa using hi
        clear hq hi
        go_wp2_with fail
        go_ret
        exact ⟨i, rfl, Lib.hid (.inr HQ.out)⟩
    · obtain rfl : k = N := by omega
      have hlt' : decide ((k : Int) < (k : Int)) = false := decide_eq_false (by omega)
      go_wp2_with fail
      go_ret
      exact ⟨0, rfl, Lib.hid (.inl ⟨rfl, HJ.out⟩)⟩
end Go.Proofs.Ytbjdbphnccdpbaa
