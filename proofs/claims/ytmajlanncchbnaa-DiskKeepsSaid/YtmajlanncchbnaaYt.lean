/-
  The statement DiskPlays: the call returns true, and writes nothing that was there.
-/
import Derived.Test.YtmajlanncchbnaaYs
set_option linter.unusedVariables false
namespace Go.Proofs.Ytmajlanncchbnaa
open Go.RowKit Go.Shelf Go.Lib Go.Deep

theorem wakes_hid (w w1 : World) (hb : Below w.heap.size w w1) : Calls Try.prog 8 #[] w1 fun e w' => e = .returned (.bool true) ∧ Hid (Below w.heap.size w w') := (wakes_any w1).mono (by
    rintro e w' ⟨rfl, h⟩
    exact ⟨rfl, Lib.hid (hb.trans (h.mono hb.size))⟩)
theorem J.new {W0 : World} {bp br : Nat} {w2 : World} (h1 : Dk 44 W0.heap.size bp ⟨[], false, none⟩ (.slice none 0 0) w2) (h2 : Dk 46 W0.heap.size br ⟨[], false, none⟩ (.slice none 0 0) w2) (hb : Below W0.heap.size W0 w2) : J W0 bp br ⟨[], false, none⟩ ⟨[], false, none⟩ (.slice none 0 0) (.slice none 0 0) w2 :=
  ⟨h1, h2, (fun k hk => by cases hk), hb⟩
/-- The relation at a round's head. -/
def JR (w : World) (br : Nat) (bp : Nat) (wr : World) : Prop := ∃ s vp vr, J w bp br s s vp vr wr

set_option maxRecDepth 100000 in
set_option maxHeartbeats 16000000 in
theorem diskPlays_walk (v : Value) (l : List AC) (a : Addr) (cap : Nat) (w : World) (hv : slv v l.length a cap) (hl : isAs w l a) :
    Calls Try.prog 3 #[v] w fun e w' => e = .returned (.bool true) ∧ Below w.heap.size w w' := by
  have HG := Lib.hid (great_any v l a cap w hv hl)
  obtain ⟨o, rfl, hc1, hc2, ho⟩ := hv
  unfold maxLen at hc2
  have HL := Lib.hid hl
  have HO := Lib.hid ho
  clear hl ho
  go_enter Try.func3, Try.ntmps3
  go_wp2_with (go_at_call 7; refine HG.out.mono ?_)
  rintro e w2 ⟨⟨g, rfl⟩, rfl⟩
  cases g
  case true =>
    go_wp2_with (go_at_call 8; refine (wakes_hid w w (Below.refl _ _)).mono ?_)
    rintro e w2 ⟨rfl, hq⟩
    go_wp2_with fail
    go_ret
    exact ⟨rfl, hq.out⟩
  case false =>
    go_wp2_with (go_at_call 9; refine (new_any w.heap.size w (Nat.le_refl _)).mono ?_)
    rintro e w2 ⟨rfl, hk1, hb1⟩
    have HR := Lib.hid (rnew_any w.heap.size w2 hb1.size)
    have HK := Lib.hid (And.intro hk1 hb1)
    clear hk1 hb1
    go_wp2_with (go_at_call 10; refine HR.out.mono ?_)
    rintro e w3 ⟨rfl, hk2, hb2⟩
    have HJ : Hid (JR w w2.heap.size w.heap.size w3) := Lib.hid ⟨_, _, _, J.new (HK.out.1.below hb2) hk2 (HK.out.2.trans (hb2.mono HK.out.2.size))⟩
    clear hk2 hb2 HR HG
    generalize w2.heap.size = br at *
    clear HK
    go_wp2_with fail
    go_loopw [3, 5] (fun av i wr => ∃ (j bp : Nat), j ≤ l.length ∧ av = .pointer (some ⟨bp, 0, none⟩) ∧ i = .int .i64 j ∧ Hid (JR w br bp wr)) (fun _ i _ => l.length - (intOf i).toNat)
    case atStart => exact ⟨0, w.heap.size, by omega, rfl, rfl, HJ⟩
    case round =>
      obtain ⟨j, bp, hj, rfl, rfl, hJ⟩ := hrel
      clear HJ
      by_cases hlt : j < l.length
      · obtain rfl := HO.out (by omega)
        have hlt' : (j : Int) < (l.length : Int) := by omega
        obtain ⟨s, vp, vr, hj0⟩ := hJ.out
        obtain ⟨c1, g0, g1, g2, h3⟩ := as_at (HL.out.below hj0.2.2.2) j hlt
        have hx : rd w l[j].b c1 := by
          obtain ⟨c2, _, k1, _, k3⟩ := as_at HL.out j hlt
          have := (Fr.of_below (B := fun _ => False) hj0.2.2.2).cell _ _ (fun h => h) k1
          rw [this] at g1
          cases g1
          exact k3
        obtain ⟨ob, ab, cb, hcb, _⟩ := id hx
        generalize l[j] = X at *
        have HA := Lib.hid (alike_any wr hj0)
        by_cases h6 : X.d = 6
        · have h6' : (X.d == 6) = true := by simpa using h6
          have HC := Lib.hid (copy_any wr hj0.1 hj0.2.2.2.size)
          have HJ0 := Lib.hid hj0
          clear hj0 hx h3 h6 hJ HA
          go_wp2_with (go_at_call 11; refine HC.out.mono ?_)
          first | rintro e w4 rfl hq | rintro e w4 ⟨rfl, hq⟩
          obtain ⟨v', q1, q2, q3⟩ := hq.out
          have hog := OG.new HJ0.out q1 (Nat.le_refl _) q2 q3
          have HA := Lib.hid (alike_any w4 (HJ0.out.below q3))
          have HO4 := Lib.hid hog
          clear q1 q2 q3 hq hog HC
          go_wp2_with (go_at_call 12; refine HA.out.mono ?_)
          first | rintro e w5 rfl hb5 | rintro e w5 ⟨rfl, hb5⟩
          have hb6 : Below w5.heap.size w5 (w5.alloc (.cells (byteCells [9]).toArray 5)) := (Below.refl _ _).alloc (Nat.le_refl _) _
          have HS := Lib.hid (((HO4.out.below hb5.out).below hb6).call 13 #[.pointer (some ⟨bp, 0, none⟩), .slice (some ⟨w5.heap.size, 0, none⟩) 1 1] (fun s => swapD s [9]) (fun s v hk hb => swap_any _ hk hb (rd_built w5 [9] (by decide))))
          clear HA HO4 hb5 hb6
          go_wp2_with (go_at_call 13; refine HS.out.mono ?_)
          rintro e w6 ⟨i6, rfl, hq⟩
          have HS2 := Lib.hid (hq.out.call 14 #[.pointer (some ⟨bp, 0, none⟩)] crashD (fun s v hk hb => crash_any _ hk))
          clear HS hq
          go_wp2_with (go_at_call 14; refine HS2.out.mono ?_)
          rintro e w7 ⟨i7, rfl, hq⟩
          have HJ5 : Hid (JR w br wr.heap.size w7) := Lib.hid ⟨_, _, _, hq.out.done⟩
          clear HS2 hq
          go_wp2_with fail
          go_roundw
          case rel => exact ⟨j + 1, wr.heap.size, by omega, rfl, by go_num, HJ5⟩
          case measure => simp [intOf]; omega
        · have h6' : (X.d == 6) = false := by simpa using h6
          have HD := Lib.hid (does_any X c1 wr hj0 hx)
          subst hcb
          clear hj0 hx h3 h6 hJ HA
          go_wp2_with (go_at_call 15; refine HD.out.mono ?_)
          first | rintro e w4 rfl hq | rintro e w4 ⟨rfl, hq⟩
          obtain ⟨vp2, vr2, q1, q2, q3⟩ := hq.out
          have HJ4 := Lib.hid q1
          have HA := Lib.hid (alike_any w4 q1)
          clear q1 q2 q3 hq HD
          go_wp2_with (go_at_call 12; refine HA.out.mono ?_)
          first | rintro e w5 rfl hb5 | rintro e w5 ⟨rfl, hb5⟩
          have HJ5 : Hid (JR w br bp w5) := Lib.hid ⟨_, _, _, HJ4.out.below hb5.out⟩
          clear HA HJ4 hb5
          go_wp2_with fail
          go_roundw
          case rel => exact ⟨j + 1, bp, by omega, rfl, by go_num, HJ5⟩
          case measure => simp [intOf]; omega
      · obtain rfl : j = l.length := by omega
        have hb : Below w.heap.size w wr := by
          obtain ⟨s, vp, vr, hj0⟩ := hJ.out
          exact hj0.2.2.2
        have HW := Lib.hid (wakes_hid w wr hb)
        clear hJ hb
        go_wp2_with (go_at_call 8; refine HW.out.mono ?_)
        rintro e w2 ⟨rfl, hq⟩
        go_wp2_with fail
        go_ret
        exact ⟨rfl, hq.out⟩
end Go.Proofs.Ytmajlanncchbnaa
