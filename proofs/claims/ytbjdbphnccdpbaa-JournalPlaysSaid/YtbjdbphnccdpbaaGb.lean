/-
  The program's frames: the length, the first frame.
-/
import Derived.Test.YtbjdbphnccdpbaaGa
import Derived.Laws.BitsLemmas
set_option linter.unusedVariables false
namespace Go.Proofs.Ytbjdbphnccdpbaa
open Go.RowKit Go.Shelf Go.Lib Go.Deep

/-- The number that the first j of four bytes are. -/
def pre4 (p q r u : UInt8) : Nat → Nat
  | 0 => 0
  | 1 => p.toNat
  | 2 => p.toNat * 256 + q.toNat
  | 3 => (p.toNat * 256 + q.toNat) * 256 + r.toNat
  | _ => ((p.toNat * 256 + q.toNat) * 256 + r.toNat) * 256 + u.toNat
def at4 (p q r u : UInt8) : Nat → UInt8
  | 0 => p
  | 1 => q
  | 2 => r
  | _ => u
theorem pre4_step (p q r u : UInt8) (j : Nat) (h : j < 4) : pre4 p q r u (j + 1) = pre4 p q r u j * 256 + (at4 p q r u j).toNat ∧ pre4 p q r u j < 16777216 := by
  have := UInt8.toNat_lt p
  have := UInt8.toNat_lt q
  have := UInt8.toNat_lt r
  have := UInt8.toNat_lt u
  match j, h with
  | 0, _ => exact ⟨by show p.toNat = 0 * 256 + p.toNat; omega, by show 0 < 16777216; omega⟩
  | 1, _ => exact ⟨rfl, by show p.toNat < 16777216; omega⟩
  | 2, _ => exact ⟨rfl, by show p.toNat * 256 + q.toNat < 16777216; omega⟩
  | 3, _ => exact ⟨rfl, by show (p.toNat * 256 + q.toNat) * 256 + r.toNat < 16777216; omega⟩
theorem i64_join (P Y : Nat) (hP : P < 16777216) (hY : Y < 256) : bits BinOp.or IntKind.i64 ((P : Int) * 256) (Y : Int) = (P : Int) * 256 + Y :=
  bits_join .i64 32 (by decide) (fun n h0 h1 => by rw [IntKind.wrap_i64]; simp at h1; omega) 8 _ _ (by omega) (by omega) (by simp; omega) (by omega) (by simp; omega) (by simp; omega)
theorem pre4_end (p q r u : UInt8) : pre4 p q r u 4 = be4 p q r u := by
  simp only [pre4, be4]
  omega
set_option maxRecDepth 100000 in
set_option maxHeartbeats 4000000 in
theorem length_any (p q r u : UInt8) (t : List UInt8) (v : Value) (w : World) (hx : rd w (p :: q :: r :: u :: t) v) : Calls Try.prog 72 #[v] w fun e w' => e = .returned (.int .i64 (pre4 p q r u 4 : Nat)) ∧ w = w' := by
  obtain ⟨o, c, rfl, hc1, hc2⟩ := hx.form
  obtain ⟨a, rfl, hcell⟩ := hx.at (by simp)
  have HC : Hid (∀ j, j < 4 → w.cell? (a.add j) = some (.int .u8 ((at4 p q r u j).toNat : Int))) := Lib.hid fun j hj => by
    match j, hj with
    | 0, _ => exact hcell 0 (by simp)
    | 1, _ => exact hcell 1 (by simp)
    | 2, _ => exact hcell 2 (by simp)
    | 3, _ => exact hcell 3 (by simp)
  unfold maxLen at hc2
  have hlen : 4 ≤ (p :: q :: r :: u :: t).length := by simp
  have hlc : 4 ≤ c := by omega
  clear hx hcell
  generalize (p :: q :: r :: u :: t).length = n at *
  clear hc1
  have hq : (4 : Int) ≤ (n : Int) := by omega
  have hqc : (4 : Int) ≤ (c : Int) := by omega
  go_enter Try.func72, Try.ntmps72
  go_wp2_with fail
  go_loopw [3, 9] (fun nv i wr => ∃ j : Nat, j ≤ 4 ∧ i = .int .i64 j ∧ nv = .int .i64 (pre4 p q r u j : Nat) ∧ w = wr) (fun _ i _ => 4 - (intOf i).toNat)
  case atStart => exact ⟨0, by omega, rfl, rfl, rfl⟩
  case round =>
    obtain ⟨j, hj, rfl, rfl, rfl⟩ := hrel
    by_cases hlt : j < 4
    · have h1 := HC.out j hlt
      obtain ⟨h2, h3⟩ := pre4_step p q r u j hlt
      have H2 := Lib.hid h2
      have h4 := UInt8.toNat_lt (at4 p q r u j)
      generalize pre4 p q r u j = P at *
      generalize (at4 p q r u j).toNat = Y at *
      clear h2
      have hlt' : (j : Int) < 4 := by omega
      have hor := i64_join P Y h3 h4
      have hw : IntKind.i64.wrap ((P : Int) * 256) = (P : Int) * 256 := by go_unwrap
      go_wp2_with fail
      go_roundw
      case rel => exact ⟨j + 1, by omega, by go_num, by rw [H2.out]; simp, trivial⟩
      case measure => simp [intOf]; omega
    · obtain rfl : j = 4 := by omega
      have hlt' : decide ((4 : Int) < 4) = false := rfl
      go_wp2_with fail
      go_ret
      exact ⟨rfl, rfl⟩
/-- How many bytes the first frame has; 0, if none is whole. -/
def firstN (x : List UInt8) : Nat := match headN x with
  | some n => 4 + n
  | none => 0
theorem first_some {x : List UInt8} {n : Nat} (h : headN x = some n) : firstN x = 4 + n := by unfold firstN; rw [h]
theorem first_none {x : List UInt8} (h : headN x = none) : firstN x = 0 := by unfold firstN; rw [h]
set_option maxRecDepth 100000 in
set_option maxHeartbeats 4000000 in
theorem first_any (x : List UInt8) (v : Value) (w : World) (hx : rd w x v) : Calls Try.prog 71 #[v] w fun e w' => e = .returned (.int .i64 (firstN x : Nat)) ∧ w = w' := by
  obtain ⟨o, c, rfl, hc1, hc2⟩ := hx.form
  unfold maxLen at hc2
  by_cases h4 : 4 ≤ x.length
  · match x, h4 with
    | p :: q :: r :: u :: t, _ =>
      obtain ⟨N, hN, hNb, hhd0⟩ := head_ex p q r u t
      have HP : Hid (pre4 p q r u 4 = N) := Lib.hid (by rw [pre4_end]; unfold be4; omega)
      have HL : Hid (Calls Try.prog 72 #[.slice o (p :: q :: r :: u :: t).length c] w fun e w' => e = .returned (.int .i64 (N : Nat)) ∧ w = w') := Lib.hid (by
        have := length_any p q r u t _ w hx
        rw [HP.out] at this
        exact this)
      have HH := Lib.hid hhd0
      have hn4 : 4 ≤ (p :: q :: r :: u :: t).length := by simp
      generalize hxx : p :: q :: r :: u :: t = x at *
      clear hhd0 hx hxx HP hN
      have t4 : decide ((x.length : Int) < 4) = false := decide_eq_false (by omega)
      have t4' : decide (x.length < 4) = false := decide_eq_false (by omega)
      by_cases hb : 1 ≤ N ∧ N ≤ 524288
      · have hs : sizeF (N : Int) = ((4 + N : Nat) : Int) := by unfold sizeF; rw [if_neg (by omega)]; omega
        have HS := Lib.hid hs
        clear hs
        by_cases hf : 4 + N ≤ x.length
        · have hr : headN x = some N := by rw [HH.out, if_pos ⟨hb.1, hb.2, hf⟩]
          rw [first_some hr]
          have t5 : decide ((x.length : Int) < ((4 + N : Nat) : Int)) = false := decide_eq_false (by omega)
          have t5' : decide (x.length < 4 + N) = false := decide_eq_false (by omega)
          have hwr : IntKind.i64.wrap (4 + (N : Int)) = 4 + (N : Int) := by go_unwrap
          generalize 4 + N = M at *
          clear hr hb hf hwr hn4
          go_enter Try.func71, Try.ntmps71
          go_wp2_with first
            | (go_at_call 72; refine HL.out.mono ?_; rintro e w0 ⟨rfl, rfl⟩)
            | (go_at_call 56; refine (psize_any _ _).mono ?_; rintro e w0 ⟨rfl, rfl⟩; rw [HS.out])
          go_ret
          exact ⟨rfl, rfl⟩
        · have hr : headN x = none := by rw [HH.out, if_neg (by omega)]
          rw [first_none hr]
          have t5 : decide ((x.length : Int) < ((4 + N : Nat) : Int)) = true := decide_eq_true (by omega)
          have t5' : decide (x.length < 4 + N) = true := decide_eq_true (by omega)
          generalize 4 + N = M at *
          clear hr hb hf hn4
          go_enter Try.func71, Try.ntmps71
          go_wp2_with first
            | (go_at_call 72; refine HL.out.mono ?_; rintro e w0 ⟨rfl, rfl⟩)
            | (go_at_call 56; refine (psize_any _ _).mono ?_; rintro e w0 ⟨rfl, rfl⟩; rw [HS.out])
          go_ret
          exact ⟨rfl, rfl⟩
      · have hs : sizeF (N : Int) = 0 := by unfold sizeF; rw [if_pos (by omega)]
        have hr : headN x = none := by rw [HH.out, if_neg (by omega)]
        rw [first_none hr]
        have HS := Lib.hid hs
        have t5 : decide ((x.length : Int) < 0) = false := decide_eq_false (by omega)
        clear hr hb hn4 hs
        go_enter Try.func71, Try.ntmps71
        go_wp2_with first
          | (go_at_call 72; refine HL.out.mono ?_; rintro e w0 ⟨rfl, rfl⟩)
          | (go_at_call 56; refine (psize_any _ _).mono ?_; rintro e w0 ⟨rfl, rfl⟩; rw [HS.out])
        go_ret
        exact ⟨rfl, rfl⟩
  · have hh : headN x = none := by
      match x, h4 with
      | [], _ => rfl
      | [_], _ => rfl
      | [_, _], _ => rfl
      | [_, _, _], _ => rfl
      | _ :: _ :: _ :: _ :: _, h4 => exact absurd (by simp) h4
    rw [first_none hh]
    have t4 : decide ((x.length : Int) < 4) = true := decide_eq_true (by omega)
    have t4' : decide (x.length < 4) = true := decide_eq_true (by omega)
    clear hh h4 hx
    go_enter Try.func71, Try.ntmps71
    go_wp2_with fail
    go_ret
    exact ⟨rfl, rfl⟩
end Go.Proofs.Ytbjdbphnccdpbaa
