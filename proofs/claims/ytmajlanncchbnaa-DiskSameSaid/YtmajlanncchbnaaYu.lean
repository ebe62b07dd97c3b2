/-
  The statement DiskSame: the call returns true, and writes nothing that was there.
-/
import Derived.Test.YtmajlanncchbnaaYt
import Derived.Deep.Cut
import Derived.Deep.CutBlock
import Derived.Deep.CutRange
set_option linter.unusedVariables false
namespace Go.Proofs.Ytmajlanncchbnaa
open Go.RowKit Go.Shelf Go.Lib Go.Deep

/-- An act, but for a copy. -/
def stD (s : DS) (X : AC) : DS := if X.d = 6 then s else (opD s X).2
def runD (s : DS) (l : List AC) : DS := l.foldl stD s
theorem runD_snoc (s : DS) (l : List AC) (j : Nat) (h : j < l.length) : runD s (l.take (j + 1)) = stD (runD s (l.take j)) l[j] := by
  unfold runD
  rw [List.take_succ_eq_append_getElem h, List.foldl_append]
  rfl
theorem runD_all (s : DS) (l : List AC) : runD s (l.take l.length) = runD s l := by rw [List.take_length]

/-- Two pairs, apart from one another. -/
def JJ (w : World) (bp br b2 r2 : Nat) (s t : DS) (wr : World) : Prop :=
  ∃ vp vr vp2 vr2, J w bp br s s vp vr wr ∧ J w b2 r2 t t vp2 vr2 wr ∧ ∀ k, FP b2 r2 vp2 vr2 k → ¬ FP bp br vp vr k
theorem JJ.below {w : World} {bp br b2 r2 : Nat} {s t : DS} {W W' : World} (h : JJ w bp br b2 r2 s t W) (hb : Below W.heap.size W W') : JJ w bp br b2 r2 s t W' := by
  obtain ⟨vp, vr, vp2, vr2, h1, h2, h3⟩ := h
  exact ⟨vp, vr, vp2, vr2, h1.below hb, h2.below hb, h3⟩
theorem jj_apart {w : World} {bp br b2 r2 : Nat} {s t t' : DS} {vp vr vp2 vr2 : Value} {W W' : World} (h1 : J w bp br s s vp vr W) (h2 : J w b2 r2 t t vp2 vr2 W) (h3 : ∀ k, FP b2 r2 vp2 vr2 k → ¬ FP bp br vp vr k) (hj : JE w b2 r2 (FP b2 r2 vp2 vr2) W t' t' W') :
    ∃ vp3 vr3, J w bp br s s vp vr W' ∧ J w b2 r2 t' t' vp3 vr3 W' ∧ ∀ k, FP b2 r2 vp3 vr3 k → ¬ FP bp br vp vr k := by
  obtain ⟨vp3, vr3, q1, q2, q3⟩ := hj
  refine ⟨vp3, vr3, h1.fr q2 (fun k hk hk2 => h3 k hk2 hk) (fun k hk => (h2.low k hk).1), q1, fun k hk hk2 => ?_⟩
  rcases q3 k hk with e | e
  · exact h3 k e hk2
  · have := (h1.low k hk2).2
    omega
/-- An act on the second pair, on the first. -/
theorem JJ.second {w : World} {bp br b2 r2 : Nat} {s t : DS} (X : AC) (c1 : Value) (W : World) (h : JJ w bp br b2 r2 s t W) (hx : rd w X.b c1) :
    Calls Try.prog 15 #[.pointer (some ⟨b2, 0, none⟩), .pointer (some ⟨r2, 0, none⟩), .agg #[.int .i64 X.d, c1, .int .i64 X.n]] W fun e w' => e = .returned (.bool true) ∧ Hid (JJ w bp br b2 r2 s (opD t X).2 w') := by
  obtain ⟨vp, vr, vp2, vr2, h1, h2, h3⟩ := h
  refine (does_any X c1 W h2 hx).mono ?_
  rintro e w' ⟨rfl, hj⟩
  obtain ⟨vp3, vr3, q1, q2, q3⟩ := jj_apart h1 h2 h3 hj.out
  exact ⟨rfl, Lib.hid ⟨vp, vr, vp3, vr3, q1, q2, q3⟩⟩
theorem JJ.first {w : World} {bp br b2 r2 : Nat} {s t : DS} (X : AC) (c1 : Value) (W : World) (h : JJ w bp br b2 r2 s t W) (hx : rd w X.b c1) :
    Calls Try.prog 15 #[.pointer (some ⟨bp, 0, none⟩), .pointer (some ⟨br, 0, none⟩), .agg #[.int .i64 X.d, c1, .int .i64 X.n]] W fun e w' => e = .returned (.bool true) ∧ Hid (JJ w bp br b2 r2 (opD s X).2 t w') := by
  obtain ⟨vp, vr, vp2, vr2, h1, h2, h3⟩ := h
  refine (does_any X c1 W h1 hx).mono ?_
  rintro e w' ⟨rfl, hj⟩
  obtain ⟨vp3, vr3, q1, q2, q3⟩ := jj_apart h2 h1 (fun k hk hk2 => h3 k hk2 hk) hj.out
  exact ⟨rfl, Lib.hid ⟨vp3, vr3, vp2, vr2, q2, q1, fun k hk hk2 => q3 k hk2 hk⟩⟩
theorem JJ.alike {w : World} {bp br b2 r2 : Nat} {s t : DS} (W : World) (h : JJ w bp br b2 r2 s t W) :
    (Calls Try.prog 12 #[.pointer (some ⟨bp, 0, none⟩), .pointer (some ⟨br, 0, none⟩)] W fun e w' => e = .returned (.bool true) ∧ Hid (JJ w bp br b2 r2 s t w')) ∧
    (Calls Try.prog 12 #[.pointer (some ⟨b2, 0, none⟩), .pointer (some ⟨r2, 0, none⟩)] W fun e w' => e = .returned (.bool true) ∧ Hid (JJ w bp br b2 r2 s t w')) := by
  have h0 := h
  obtain ⟨vp, vr, vp2, vr2, h1, h2, h3⟩ := h
  refine ⟨(alike_any W h1).mono ?_, (alike_any W h2).mono ?_⟩
  · rintro e w' ⟨rfl, hj⟩
    exact ⟨rfl, Lib.hid (h0.below hj.out)⟩
  · rintro e w' ⟨rfl, hj⟩
    exact ⟨rfl, Lib.hid (h0.below hj.out)⟩
theorem JJ.mk {w : World} {bp br b2 r2 : Nat} {s : DS} {vp vr : Value} {W W1 W2 : World} (h : J w bp br s s vp vr W) (hq : ∃ v', Dk 44 w.heap.size b2 s v' W1 ∧ (∀ k, v'.ownBlock = some k → W.heap.size ≤ k) ∧ Below W.heap.size W W1) (hb2 : W.heap.size ≤ b2)
    (hq2 : W1.heap.size ≤ r2 ∧ ∃ v', Dk 46 w.heap.size r2 s v' W2 ∧ (∀ k, v'.ownBlock = some k → W1.heap.size ≤ k) ∧ Below W1.heap.size W1 W2) : JJ w bp br b2 r2 s s W2 := by
  obtain ⟨v1, a1, a2, a3⟩ := hq
  obtain ⟨a4, v2, a5, a6, a7⟩ := hq2
  have hb : Below W.heap.size W W2 := a3.trans (a7.mono a3.size)
  refine ⟨vp, vr, v1, v2, h.below hb, ⟨a1.below a7, a5, fun k hk hk2 => ?_, h.2.2.2.trans (hb.mono h.2.2.2.size)⟩, fun k hk hk2 => ?_⟩
  · have := (a1.fp k (.inr hk)).2
    have := a6 k hk2
    omega
  · have hlt := (h.low k hk2).2
    have := a3.size
    rcases hk with (rfl | hk) | (rfl | hk)
    · omega
    · have := a2 k hk; omega
    · omega
    · have := a6 k hk; omega
theorem JJ.bytes {w : World} {bp br b2 r2 : Nat} {s : DS} {W : World} (h : JJ w bp br b2 r2 s s W) :
    Below w.heap.size w W ∧ (Calls Try.prog 16 #[.pointer (some ⟨bp, 0, none⟩)] W fun e w' => ∃ o c, e = .returned (.tuple #[.slice o (byD s).length c, .int .i64 (beD s)]) ∧ Hid (rd w' (byD s) (.slice o (byD s).length c) ∧ Below W.heap.size W w')) ∧
    (Calls Try.prog 16 #[.pointer (some ⟨b2, 0, none⟩)] W fun e w' => ∃ o c, e = .returned (.tuple #[.slice o (byD s).length c, .int .i64 (beD s)]) ∧ Hid (rd w' (byD s) (.slice o (byD s).length c) ∧ Below W.heap.size W w')) ∧
    (Calls Try.prog 21 #[.pointer (some ⟨bp, 0, none⟩)] W fun e w' => e = .returned (.bool s.dn) ∧ W = w') ∧
    (Calls Try.prog 21 #[.pointer (some ⟨b2, 0, none⟩)] W fun e w' => e = .returned (.bool s.dn) ∧ W = w') := by
  obtain ⟨vp, vr, vp2, vr2, h1, h2, _⟩ := h
  exact ⟨h1.2.2.2, bytes_any W h1.1, bytes_any W h2.1, down_any W h1.1, down_any W h2.1⟩
/-- An act of the argument, in a later world. -/
theorem as_later {w wr : World} {l : List AC} {a : Addr} (h : isAs w l a) (hb : Below w.heap.size w wr) (i : Nat) (hi : i < l.length) : ∃ c1, wr.cell? (a.add (i * 3)) = some (.int .i64 l[i].d) ∧ wr.cell? ⟨(a.add (i * 3)).block, (a.add (i * 3)).off + 1, none⟩ = some c1 ∧ wr.cell? ⟨(a.add (i * 3)).block, (a.add (i * 3)).off + 2, none⟩ = some (.int .i64 l[i].n) ∧ rd w l[i].b c1 := by
  obtain ⟨c1, g0, g1, g2, h3⟩ := as_at h i hi
  have hc : ∀ a c, w.cell? a = some c → wr.cell? a = some c := fun a c hc => (Fr.of_below (B := fun _ => False) hb).cell a c (fun h => h) hc
  exact ⟨c1, hc _ _ g0, hc _ _ g1, hc _ _ g2, h3⟩

set_option maxRecDepth 100000 in
set_option maxHeartbeats 32000000 in
theorem diskSame_walk (v : Value) (l : List AC) (a : Addr) (cap : Nat) (v' : Value) (m : List AC) (a' : Addr) (cap' : Nat) (w : World) (hv : slv v l.length a cap) (hl : isAs w l a) (hv' : slv v' m.length a' cap') (hl' : isAs w m a') :
    Calls Try.prog 6 #[v, v'] w fun e w' => e = .returned (.bool true) ∧ Below w.heap.size w w' := by
  obtain ⟨o, rfl, hc1, hc2, ho⟩ := hv
  obtain ⟨o', rfl, hc3, hc4, ho'⟩ := hv'
  unfold maxLen at hc2 hc4
  have HL := Lib.hid hl
  have HO := Lib.hid ho
  have HL2 := Lib.hid hl'
  have HO2 := Lib.hid ho'
  clear hl ho hl' ho'
  go_enter Try.func6, Try.ntmps6
  go_upto_block 0 with fail
  go_cut [5, 6] from 19 to 37 (fun s5 s6 wx => (∃ k : Int, s5 = .int .i64 k) ∧ (∃ j : Nat, s6 = .int .i64 j) ∧ w = wx)
  case first =>
    go_wp2_with fail
    go_loop [5, 6] (fun n i => ∃ (j : Nat) (k : Int), j ≤ l.length ∧ i = .int .i64 j ∧ n = .int .i64 k) (fun _ i => l.length - (intOf i).toNat)
    case atStart => exact ⟨0, 0, by omega, rfl, rfl⟩
    case round =>
      obtain ⟨j, k, hj, rfl, rfl⟩ := hrel
      by_cases hlt : j < l.length
      · have hlt' : (j : Int) < (l.length : Int) := by omega
        by_cases h2 : j ≤ 60
        · obtain rfl := HO.out (by omega)
          obtain ⟨c1, g0, g1, g2, h3⟩ := as_at HL.out j hlt
          obtain ⟨ob, ab, cb, rfl, hb1, hb2, hb3⟩ := h3
          unfold maxLen at hb2
          generalize l[j] = X at *
          have h2' : (j : Int) ≤ 60 := by omega
          go_wp2_with fail
          go_round
          case rel => exact ⟨j + 1, _, by omega, by go_num, rfl⟩
          case measure => simp [intOf]; omega
        · have h2' : decide ((j : Int) ≤ 60) = false := decide_eq_false (by omega)
          have h2'' : decide (j ≤ 60) = false := decide_eq_false (by omega)
          go_wp2_with fail
          go_meet
          exact ⟨⟨_, rfl⟩, ⟨_, rfl⟩, rfl⟩
      · obtain rfl : j = l.length := by omega
        go_wp2_with fail
        go_meet
        exact ⟨⟨_, rfl⟩, ⟨_, rfl⟩, rfl⟩
  case rest =>
    obtain ⟨⟨k0, rfl⟩, ⟨j0, rfl⟩, rfl⟩ := hcut
    go_upto_block 2 with fail
    go_cut [5, 7] from 38 to 56 (fun s5 s7 wx => (∃ k : Int, s5 = .int .i64 k) ∧ (∃ j : Nat, s7 = .int .i64 j) ∧ w = wx)
    case first =>
      go_wp2_with fail
      go_loop [5, 7] (fun n i => ∃ (j : Nat) (k : Int), j ≤ m.length ∧ i = .int .i64 j ∧ n = .int .i64 k) (fun _ i => m.length - (intOf i).toNat)
      case atStart => exact ⟨0, k0, by omega, rfl, rfl⟩
      case round =>
        obtain ⟨j, k, hj, rfl, rfl⟩ := hrel
        by_cases hlt : j < m.length
        · have hlt' : (j : Int) < (m.length : Int) := by omega
          by_cases h2 : j ≤ 60
          · obtain rfl := HO2.out (by omega)
            obtain ⟨c1, g0, g1, g2, h3⟩ := as_at HL2.out j hlt
            obtain ⟨ob, ab, cb, rfl, hb1, hb2, hb3⟩ := h3
            unfold maxLen at hb2
            generalize m[j] = X at *
            have h2' : (j : Int) ≤ 60 := by omega
            go_wp2_with fail
            go_round
            case rel => exact ⟨j + 1, _, by omega, by go_num, rfl⟩
            case measure => simp [intOf]; omega
          · have h2' : decide ((j : Int) ≤ 60) = false := decide_eq_false (by omega)
            have h2'' : decide (j ≤ 60) = false := decide_eq_false (by omega)
            go_wp2_with fail
            go_meet
            exact ⟨⟨_, rfl⟩, ⟨_, rfl⟩, rfl⟩
        · obtain rfl : j = m.length := by omega
          go_wp2_with fail
          go_meet
          exact ⟨⟨_, rfl⟩, ⟨_, rfl⟩, rfl⟩
    case rest =>
      obtain ⟨⟨k1, rfl⟩, ⟨j1, rfl⟩, rfl⟩ := hcut
      by_cases p1 : 60 < l.length
      · have q1 : decide ((60 : Int) < (l.length : Int)) = true := decide_eq_true (by omega)
        have q1' : decide (60 < l.length) = true := decide_eq_true p1
        go_wp2_with (go_at_call 8; refine (wakes_hid w w (Below.refl _ _)).mono ?_)
        rintro e w2 ⟨rfl, hq⟩
        go_wp2_with fail
        go_ret
        exact ⟨rfl, hq.out⟩
      have q1 : decide ((60 : Int) < (l.length : Int)) = false := decide_eq_false (by omega)
      have q1' : decide (60 < l.length) = false := decide_eq_false p1
      by_cases p2 : 60 < m.length
      · have q2 : decide ((60 : Int) < (m.length : Int)) = true := decide_eq_true (by omega)
        have q2' : decide (60 < m.length) = true := decide_eq_true p2
        go_wp2_with (go_at_call 8; refine (wakes_hid w w (Below.refl _ _)).mono ?_)
        rintro e w2 ⟨rfl, hq⟩
        go_wp2_with fail
        go_ret
        exact ⟨rfl, hq.out⟩
      have q2 : decide ((60 : Int) < (m.length : Int)) = false := decide_eq_false (by omega)
      have q2' : decide (60 < m.length) = false := decide_eq_false p2
      by_cases p3 : 65536 < k1
      · have q3 : decide (65536 < k1) = true := decide_eq_true p3
        go_wp2_with (go_at_call 8; refine (wakes_hid w w (Below.refl _ _)).mono ?_)
        rintro e w2 ⟨rfl, hq⟩
        go_wp2_with fail
        go_ret
        exact ⟨rfl, hq.out⟩
      have q3 : decide (65536 < k1) = false := decide_eq_false p3
      clear p1 p2 p3
      go_wp2_with (go_at_call 9; refine (new_any w.heap.size w (Nat.le_refl _)).mono ?_)
      rintro e w2 ⟨rfl, hk1, hb1⟩
      have HR := Lib.hid (rnew_any w.heap.size w2 hb1.size)
      have HK := Lib.hid (And.intro hk1 hb1)
      clear hk1 hb1
      go_wp2_with (go_at_call 10; refine HR.out.mono ?_)
      rintro e w3 ⟨rfl, hk2, hb2⟩
      have HJ : Hid (∃ vp vr, J w w.heap.size w2.heap.size (runD ⟨[], false, none⟩ (l.take 0)) (runD ⟨[], false, none⟩ (l.take 0)) vp vr w3) := Lib.hid ⟨_, _, J.new (HK.out.1.below hb2) hk2 (HK.out.2.trans (hb2.mono HK.out.2.size))⟩
      clear hk2 hb2 HR
      generalize w2.heap.size = br at *
      clear HK
      have HH : Hid (Below w.heap.size w w3) := Lib.hid (by obtain ⟨_, _, h⟩ := HJ.out; exact h.2.2.2)
      go_wp2_with fail
      go_loopw [10] (fun i wr => ∃ j : Nat, j ≤ l.length ∧ i = .int .i64 j ∧ Hid (∃ vp vr, J w w.heap.size br (runD ⟨[], false, none⟩ (l.take j)) (runD ⟨[], false, none⟩ (l.take j)) vp vr wr)) (fun i _ => l.length - (intOf i).toNat)
      case atStart => exact ⟨0, by omega, rfl, HJ⟩
      case round =>
        obtain ⟨j, hj, rfl, hJ⟩ := hrel
        clear HJ HH
        by_cases hlt : j < l.length
        · obtain rfl := HO.out (by omega)
          have hlt' : (j : Int) < (l.length : Int) := by omega
          obtain ⟨vp, vr, hj0⟩ := hJ.out
          obtain ⟨c1, g0, g1, g2, hx⟩ := as_later HL.out hj0.2.2.2 j hlt
          have hsn := Lib.hid (runD_snoc ⟨[], false, none⟩ l j hlt)
          obtain ⟨ob, ab, cb, hcb, _⟩ := id hx
          generalize l[j] = X at *
          by_cases h6 : X.d = 6
          · have h6' : (X.d == 6) = true := by simpa using h6
            have h6n : (X.d != 6) = false := by simp [h6]
            have HJ1 : Hid (∃ vp vr, J w w.heap.size br (runD ⟨[], false, none⟩ (l.take (j + 1))) (runD ⟨[], false, none⟩ (l.take (j + 1))) vp vr wr) := Lib.hid ⟨vp, vr, by rw [hsn.out]; unfold stD; rw [if_pos h6]; exact hj0⟩
            clear hj0 hx h6 hJ
            go_wp2_with fail
            go_roundw
            case rel => exact ⟨j + 1, by omega, by go_num, HJ1⟩
            case measure => simp [intOf]; omega
          · have h6' : (X.d == 6) = false := by simpa using h6
            have h6n : (X.d != 6) = true := by simpa using h6
            have HD := Lib.hid (does_any X c1 wr hj0 hx)
            have HE : Hid (stD (runD ⟨[], false, none⟩ (l.take j)) X = (opD (runD ⟨[], false, none⟩ (l.take j)) X).2) := Lib.hid (by unfold stD; rw [if_neg h6])
            subst hcb
            clear hj0 hx h6 hJ
            go_wp2_with (go_at_call 15; refine HD.out.mono ?_)
            first | rintro e w4 rfl hq | rintro e w4 ⟨rfl, hq⟩
            have HJ1 : Hid (∃ vp vr, J w w.heap.size br (runD ⟨[], false, none⟩ (l.take (j + 1))) (runD ⟨[], false, none⟩ (l.take (j + 1))) vp vr w4) := Lib.hid (by
              obtain ⟨vp2, vr2, q1, _, _⟩ := hq.out
              exact ⟨vp2, vr2, by rw [hsn.out, HE.out]; exact q1⟩)
            clear hq HD
            go_wp2_with fail
            go_roundw
            case rel => exact ⟨j + 1, by omega, by go_num, HJ1⟩
            case measure => simp [intOf]; omega
        · obtain rfl : j = l.length := by omega
          rw [runD_all] at hJ
          obtain ⟨vp, vr, hj0⟩ := hJ.out
          have HC := Lib.hid (copy_any wr hj0.1 hj0.2.2.2.size)
          have HJ0 := Lib.hid hj0
          clear hJ hj0
          go_wp2_with (go_at_call 11; refine HC.out.mono ?_)
          first | rintro e w4 rfl hq | rintro e w4 ⟨rfl, hq⟩
          have HB4 : Hid (Below wr.heap.size wr w4) := Lib.hid (by obtain ⟨_, _, _, h⟩ := hq.out; exact h)
          have HC2 := Lib.hid (rcopy_any w4 (HJ0.out.2.1.below HB4.out) (Nat.le_trans HJ0.out.2.2.2.size HB4.out.size))
          go_wp2_with (go_at_call 23; refine HC2.out.mono ?_)
          rintro e w5 ⟨r2, rfl, hq2⟩
          have HJJ : Hid (JJ w w.heap.size br wr.heap.size r2 (runD ⟨[], false, none⟩ l) (runD (runD ⟨[], false, none⟩ l) (m.take 0)) w5) := Lib.hid (JJ.mk HJ0.out hq.out (Nat.le_refl _) hq2.out)
          clear hq hq2 HC HC2 HB4 HJ0
          generalize wr.heap.size = b2 at *
          generalize runD ⟨[], false, none⟩ l = s1 at *
          go_wp2_with fail
          go_loopw [13] (fun i wr => ∃ j : Nat, j ≤ m.length ∧ i = .int .i64 j ∧ Hid (JJ w w.heap.size br b2 r2 s1 (runD s1 (m.take j)) wr)) (fun i _ => m.length - (intOf i).toNat)
          case atStart => exact ⟨0, by omega, rfl, HJJ⟩
          case round =>
            obtain ⟨j, hj, rfl, hJ⟩ := hrel
            clear HJJ
            have hB0 : Below w.heap.size w wr := by obtain ⟨_, _, _, _, h, _⟩ := hJ.out; exact h.2.2.2
            by_cases hlt : j < m.length
            · obtain rfl := HO2.out (by omega)
              have hlt' : (j : Int) < (m.length : Int) := by omega
              obtain ⟨c1, g0, g1, g2, hx⟩ := as_later HL2.out hB0 j hlt
              have hsn := Lib.hid (runD_snoc s1 m j hlt)
              obtain ⟨ob, ab, cb, hcb, _⟩ := id hx
              generalize m[j] = X at *
              by_cases h6 : X.d = 6
              · have h6' : (X.d == 6) = true := by simpa using h6
                have HJ1 : Hid (JJ w w.heap.size br b2 r2 s1 (runD s1 (m.take (j + 1))) wr) := Lib.hid (by rw [hsn.out]; unfold stD; rw [if_pos h6]; exact hJ.out)
                clear hB0 hx h6 hJ
                go_wp2_with fail
                go_roundw
                case rel => exact ⟨j + 1, by omega, by go_num, HJ1⟩
                case measure => simp [intOf]; omega
              · have h6' : (X.d == 6) = false := by simpa using h6
                have HD := Lib.hid (hJ.out.second X c1 wr hx)
                have HE : Hid (stD (runD s1 (m.take j)) X = (opD (runD s1 (m.take j)) X).2) := Lib.hid (by unfold stD; rw [if_neg h6])
                subst hcb
                clear hB0 hx h6 hJ
                go_wp2_with (go_at_call 15; refine HD.out.mono ?_)
                first | rintro e w6 rfl hq | rintro e w6 ⟨rfl, hq⟩
                have HA := Lib.hid (hq.out.alike w6).1
                clear hq HD
                go_wp2_with (go_at_call 12; refine HA.out.mono ?_)
                first | rintro e w7 rfl hq | rintro e w7 ⟨rfl, hq⟩
                have HA2 := Lib.hid (hq.out.alike w7).2
                clear hq HA
                go_wp2_with (go_at_call 12; refine HA2.out.mono ?_)
                first | rintro e w8 rfl hq | rintro e w8 ⟨rfl, hq⟩
                have HJ1 : Hid (JJ w w.heap.size br b2 r2 s1 (runD s1 (m.take (j + 1))) w8) := Lib.hid (by rw [hsn.out, HE.out]; exact hq.out)
                clear hq HA2
                go_wp2_with fail
                go_roundw
                case rel => exact ⟨j + 1, by omega, by go_num, HJ1⟩
                case measure => simp [intOf]; omega
            · obtain rfl : j = m.length := by omega
              rw [runD_all] at hJ
              have HJJ : Hid (JJ w w.heap.size br b2 r2 (runD s1 (m.take 0)) (runD s1 m) wr) := hJ
              clear hJ hB0
              go_wp2_with fail
              go_loopw [14] (fun i wr => ∃ j : Nat, j ≤ m.length ∧ i = .int .i64 j ∧ Hid (JJ w w.heap.size br b2 r2 (runD s1 (m.take j)) (runD s1 m) wr)) (fun i _ => m.length - (intOf i).toNat)
              case atStart => exact ⟨0, by omega, rfl, HJJ⟩
              case round =>
                obtain ⟨j, hj, rfl, hJ⟩ := hrel
                clear HJJ
                have hB0 : Below w.heap.size w wr := by obtain ⟨_, _, _, _, h, _⟩ := hJ.out; exact h.2.2.2
                by_cases hlt : j < m.length
                · obtain rfl := HO2.out (by omega)
                  have hlt' : (j : Int) < (m.length : Int) := by omega
                  obtain ⟨c1, g0, g1, g2, hx⟩ := as_later HL2.out hB0 j hlt
                  have hsn := Lib.hid (runD_snoc s1 m j hlt)
                  obtain ⟨ob, ab, cb, hcb, _⟩ := id hx
                  generalize m[j] = X at *
                  by_cases h6 : X.d = 6
                  · have h6' : (X.d == 6) = true := by simpa using h6
                    have h6n : (X.d != 6) = false := by simp [h6]
                    have HJ1 : Hid (JJ w w.heap.size br b2 r2 (runD s1 (m.take (j + 1))) (runD s1 m) wr) := Lib.hid (by rw [hsn.out]; unfold stD; rw [if_pos h6]; exact hJ.out)
                    clear hB0 hx h6 hJ
                    go_wp2_with fail
                    go_roundw
                    case rel => exact ⟨j + 1, by omega, by go_num, HJ1⟩
                    case measure => simp [intOf]; omega
                  · have h6' : (X.d == 6) = false := by simpa using h6
                    have h6n : (X.d != 6) = true := by simpa using h6
                    have HD := Lib.hid (hJ.out.first X c1 wr hx)
                    have HE : Hid (stD (runD s1 (m.take j)) X = (opD (runD s1 (m.take j)) X).2) := Lib.hid (by unfold stD; rw [if_neg h6])
                    subst hcb
                    clear hB0 hx h6 hJ
                    go_wp2_with (go_at_call 15; refine HD.out.mono ?_)
                    first | rintro e w6 rfl hq | rintro e w6 ⟨rfl, hq⟩
                    have HJ1 : Hid (JJ w w.heap.size br b2 r2 (runD s1 (m.take (j + 1))) (runD s1 m) w6) := Lib.hid (by rw [hsn.out, HE.out]; exact hq.out)
                    clear hq HD
                    go_wp2_with fail
                    go_roundw
                    case rel => exact ⟨j + 1, by omega, by go_num, HJ1⟩
                    case measure => simp [intOf]; omega
                · obtain rfl : j = m.length := by omega
                  rw [runD_all] at hJ
                  generalize runD s1 m = s2 at *
                  have HBY := Lib.hid hJ.out.bytes.2.1
                  have HJ2 := Lib.hid hJ.out
                  have HB0 := Lib.hid hB0
                  clear hJ hB0
                  go_wp2_with (go_at_call 16; refine HBY.out.mono ?_)
                  rintro e w6 ⟨ox, cx, rfl, hq⟩
                  have HR6 := Lib.hid hq.out.1
                  have HJ6 := Lib.hid (HJ2.out.below hq.out.2)
                  have HBZ := Lib.hid HJ6.out.bytes.2.2.1
                  clear hq HBY HJ2
                  go_wp2_with (go_at_call 16; refine HBZ.out.mono ?_)
                  rintro e w7 ⟨oy, cy, rfl, hq⟩
                  have HJ7 := Lib.hid (HJ6.out.below hq.out.2)
                  have hcv1 := run_str w7 _ ox _ cx (HR6.out.below hq.out.2)
                  have hcv2 := run_str w7 _ oy _ cy hq.out.1
                  have HD1 := Lib.hid HJ7.out.bytes.2.2.2.1
                  have HD2 := Lib.hid HJ7.out.bytes.2.2.2.2
                  have HW := Lib.hid (wakes_hid w w7 HJ7.out.bytes.1)
                  clear hq HBZ HJ6 HR6 HJ7
                  go_wp2_with (go_at_call 21; refine HD1.out.mono ?_)
                  rintro e w8 ⟨rfl, rfl⟩
                  go_wp2_with (go_at_call 21; refine HD2.out.mono ?_)
                  rintro e w8 ⟨rfl, rfl⟩
                  go_wp2_with (go_at_call 8; refine HW.out.mono ?_)
                  rintro e w8 ⟨rfl, hq⟩
                  go_wp2_with fail
                  go_ret
                  exact ⟨rfl, hq.out⟩
end Go.Proofs.Ytmajlanncchbnaa
