/-
  FrameLong: the walk.
-/
import Derived.Test.YtjpkokmokdaddaaGo
set_option linter.unusedVariables false
namespace Go.Proofs.Ytjpkokmokdaddaa
open Go.RowKit Go.Shelf Go.Lib Go.Deep

theorem mod3 (n : Int) : ∃ m : Nat, m ≤ 2 ∧ wrap64 (n.tmod 3 + 3) = n.tmod 3 + 3 ∧ (n.tmod 3 + 3).tmod 3 = (m : Int) := by
  have h1 : n.tmod 3 < 3 := Int.tmod_lt_of_pos n (by decide)
  have h2 : -3 < n.tmod 3 := Int.lt_tmod_of_pos n (by decide)
  generalize n.tmod 3 = r at *
  have h3 : (r + 3).tmod 3 = (r + 3) % 3 := Int.tmod_eq_emod_of_nonneg (by omega)
  refine ⟨((r + 3) % 3).toNat, by omega, ?_, by rw [h3]; omega⟩
  rw [wrap64]
  omega
theorem zeros_bytes (n : Nat) : List.replicate n (Value.int .u8 0) = byteCells (List.replicate n 0) := by simp [byteCells]
theorem ow_zeros {base n : Nat} {W : World} {v : Value} (h : W.ownsRow base 5 1 v n (madeCells #[Value.int .u8 0] n).toList) : ow base W v (List.replicate n 0) := by
  refine ow.of_row h ?_
  rw [toList_madeCells_one, zeros_bytes]
theorem rep_length (n : Nat) (x : List UInt8) (h : x = List.replicate n 0) : x.length = n := by rw [h, List.length_replicate]
set_option maxRecDepth 100000 in
set_option maxHeartbeats 4000000 in
theorem long_walk (n : Int) (w : World) {p : Prop} (hp : p) : Calls Try.prog 4 #[.int .i64 n] w fun e w' => e = .returned (.bool true) ∧ Below w.heap.size w w' := by
  obtain ⟨m, hm, hw, hmod⟩ := mod3 n
  obtain ⟨N, hN⟩ : ∃ N : Nat, N = 524288 + m := ⟨_, rfl⟩
  have hadd : IntKind.i64.wrap (524288 + (m : Int)) = (N : Int) := by rw [IntKind.wrap_i64]; omega
  have hN64 : wrap64 (N : Int) = (N : Int) := by rw [wrap64]; omega
  have hadd' : (524288 + (m : Int)) = (N : Int) := by omega
  have HN := Lib.hid (And.intro hm hN)
  obtain ⟨i8, hi8, hz8, hs8, hb8⟩ := info_parts infoU8
  obtain ⟨x, hx⟩ : ∃ x : List UInt8, x = List.replicate N 0 := ⟨_, rfl⟩
  have HXE : Hid (x.length = N) := Lib.hid (rep_length N x hx)
  have HXO : Hid (∀ (W : World) (v : Value), W.ownsRow w.heap.size 5 1 v N (madeCells #[Value.int .u8 0] N).toList → ow w.heap.size W v x) := Lib.hid fun W v h => by rw [hx]; exact ow_zeros h
  clear hN hx hm
  by_cases h0 : m = 0
  · have t0 : decide ((0 : Int) < (m : Int)) = false := decide_eq_false (by omega)
    have t0' : decide (0 < m) = false := decide_eq_false (by omega)
    have hNN : N = 524288 := by have := HN.out.2; omega
    have hg : goodL x := ⟨by rw [HXE.out]; omega, by rw [HXE.out]; omega⟩
    have hfr : frB x = frameL x := by unfold frB; exact if_pos hg
    have hfe : frE x = 0 := by unfold frE; rw [HXE.out, if_neg (by omega), if_neg (by omega)]
    have hsc : scanL (frameL x) = ([x], 0) := by
      have := scan_frame hg []
      rw [List.append_nil, scan_nil] at this
      exact this
    have hfl : (frameL x).length = 4 + N := by rw [frame_length, HXE.out]
    have HFR := Lib.hid (And.intro hfr (And.intro hfe (And.intro hsc hfl)))
    have q1 : ((4 + (N : Int)) == 524292) = true := by rw [beq_iff_eq]; omega
    have q2 : (((4 + N : Nat) : Int) == 524292) = true := by rw [beq_iff_eq]; omega
    have q3 : ((N : Int) == 524288) = true := by rw [beq_iff_eq]; omega
    have H0 := Lib.hid h0
    clear h0 hNN hg hfr hfe hsc hfl
    go_enter Try.func4, Try.ntmps4
    go_wp2_with (at_make; refine wpList_make_full _ rfl _ _ 22 rfl w.heap.size 5 i8 _ 1 Try.underlying22 hi8 hz8 hs8 .i64 .i64 (wrap64 (N : Int)) (wrap64 (N : Int)) N rfl rfl hN64 hN64 ?b20 ?b30 (Nat.le_refl _) ?_)
    case b20 => rw [hb8]; have := HN.out; omega
    case b30 => unfold maxLen; have := HN.out; omega
    intro w1 own1 gr1
    have HO := HXO.out w1 _ own1
    have HB1 : Hid (Below w.heap.size w w1) := Lib.hid ((Fr.grown (B := fun _ => False) gr1 (fun r hr => by cases hr)).below (fun k hk => hk.elim) (Nat.le_refl _))
    have hF0 := pframe_any x _ w1 (by have := HO.rd; exact this)
    rw [HFR.out.1, HFR.out.2.1, HFR.out.2.2.2] at hF0
    have HF := Lib.hid hF0
    clear own1 gr1 HO hF0
    go_wp2_with (go_at_call 10; refine HF.out.mono ?_)
    rintro e w2 ⟨o2, c2, rfl, hq2⟩
    have HB2 := Lib.hid (HB1.out.trans (hq2.out.2.mono HB1.out.size))
    have hS0 := pscan_any (frameL x) _ w2 (by have := hq2.out.1.rd; exact this) hq2.out.1.fit (by rw [HFR.out.2.2.2]; have := HN.out; omega)
    rw [HFR.out.2.2.1] at hS0
    have HS := Lib.hid hS0
    clear hq2 hS0 HF
    go_wp2_with (go_at_call 14; refine HS.out.mono ?_)
    rintro e w3 ⟨o3, c3, rfl, hq3⟩
    have HB3 := Lib.hid (HB2.out.trans (hq3.out.2.mono HB2.out.size))
    obtain ⟨o4, a4, c4, e4, f1, f2, f3, _, f5⟩ := hq3.out.1
    cases e4
    obtain ⟨rfl, _⟩ := f3 (by simp)
    obtain ⟨ab, cb, g1, _, _⟩ := f5 0 (by simp)
    simp only [List.getElem_cons_zero, HXE.out] at g1
    have g0 : w3.cell? a4 = some (.slice (some ab) N cb) := by simpa [Addr.add] using g1
    clear hq3 f1 f2 f3 f5 HS g1
    simp only [List.length_cons, List.length_nil, Nat.zero_add]
    go_wp2_with (go_at_call 9; refine (wakes_hid w _ HB3.out).mono ?_; rintro e w4 ⟨rfl, HB⟩)
    go_ret
    exact ⟨rfl, HB.out⟩
  · have t0 : decide ((0 : Int) < (m : Int)) = true := decide_eq_true (by omega)
    have t0' : decide (0 < m) = true := decide_eq_true (by omega)
    have hNN : 524288 < N := by have := HN.out.2; omega
    have hfr : frB x = [] := by unfold frB; rw [if_neg (by rw [HXE.out]; omega)]
    have hfe : frE x = 3 := by unfold frE; rw [HXE.out, if_neg (by omega), if_pos (by omega)]
    have hsz : sizeF (N : Int) = 0 := by unfold sizeF; rw [if_pos (by omega)]
    have HFR := Lib.hid (And.intro hfr (And.intro hfe hsz))
    clear h0 hNN hfr hfe hsz
    go_enter Try.func4, Try.ntmps4
    go_wp2_with (at_make; refine wpList_make_full _ rfl _ _ 22 rfl w.heap.size 5 i8 _ 1 Try.underlying22 hi8 hz8 hs8 .i64 .i64 (wrap64 (N : Int)) (wrap64 (N : Int)) N rfl rfl hN64 hN64 ?b21 ?b31 (Nat.le_refl _) ?_)
    case b21 => rw [hb8]; have := HN.out; omega
    case b31 => unfold maxLen; have := HN.out; omega
    intro w1 own1 gr1
    have HO := HXO.out w1 _ own1
    have HB1 : Hid (Below w.heap.size w w1) := Lib.hid ((Fr.grown (B := fun _ => False) gr1 (fun r hr => by cases hr)).below (fun k hk => hk.elim) (Nat.le_refl _))
    have hF0 := pframe_any x _ w1 (by have := HO.rd; exact this)
    rw [HFR.out.1, HFR.out.2.1] at hF0
    have HF := Lib.hid hF0
    clear own1 gr1 HO hF0
    go_wp2_with (go_at_call 10; refine HF.out.mono ?_)
    rintro e w2 ⟨o2, c2, rfl, hq2⟩
    have HB2 := Lib.hid (HB1.out.trans (hq2.out.2.mono HB1.out.size))
    have HSZ : Hid (∀ W, Calls Try.prog 12 #[.int .i64 (N : Int)] W fun e w' => e = .returned (.int .i64 0) ∧ W = w') := Lib.hid (by have := psize_any (N : Int); rw [HFR.out.2.2] at this; exact this)
    clear hq2 HF
    simp only [List.length_nil]
    go_wp2_with first
      | (go_at_call 12; refine (HSZ.out _).mono ?_; rintro e w0 ⟨rfl, rfl⟩)
      | (go_at_call 9; refine (wakes_hid w _ HB2.out).mono ?_; rintro e w4 ⟨rfl, HB⟩)
    go_ret
    exact ⟨rfl, HB.out⟩
end Go.Proofs.Ytjpkokmokdaddaa
