/-
  FrameOwn: the walk.
-/
import Derived.Test.YtjpkokmokdaddaaGo
import Derived.Laws.Closers25b
set_option linter.unusedVariables false
namespace Go.Proofs.Ytjpkokmokdaddaa
open Go.RowKit Go.Shelf Go.Lib Go.Deep

/-- A row of n bytes that is written on; all else stays. -/
def OWN (base n : Nat) (vo : Value) (Wb W : World) : Prop := ∃ y : List UInt8, y.length = n ∧ ow base W vo y ∧ Fr (fun k => vo.ownBlock = some k) Wb W
theorem own_cell {base n g cap j : Nat} {Wb W : World} (h : OWN base n (.slice (some ⟨g, 0, none⟩) n cap) Wb W) (hj : j < n) :
    ∃ b : UInt8, W.cell? ⟨g, j, none⟩ = some (.int .u8 b.toNat) ∧ W.frozen? ⟨g, j, none⟩ = false ∧ ∀ z : Int, 0 ≤ z → z ≤ 255 → OWN base n (.slice (some ⟨g, 0, none⟩) n cap) Wb (W.setCell ⟨g, j, none⟩ (.int .u8 z)) := by
  obtain ⟨y, rfl, h1, h2⟩ := h
  rcases h1 with ⟨hv, _⟩ | ⟨g', cap', cur, hv, hb, hg, r1, r2, r3, r4⟩
  · cases hv
  · cases hv
    have hc : cur[j]? = some (.int .u8 (y[j]).toNat) := by
      have := congrArg (fun l => l[j]?) r4
      simp only [List.getElem?_take, if_pos hj, byteCells, List.getElem?_map, List.getElem?_eq_getElem hj, Option.map_some] at this
      simpa using this
    refine ⟨y[j], by rw [cell_of_row W g j cur _ _ hg]; exact hc, by simp [World.frozen?, hg], fun z h0 h9 => ?_⟩
    obtain ⟨c, rfl⟩ : ∃ c : UInt8, z = (c.toNat : Int) := ⟨UInt8.ofNat z.toNat, by rw [UInt8.toNat_ofNat']; omega⟩
    refine ⟨y.set j c, by simp, .inr ⟨g, cap, cur.set! j (.int .u8 c.toNat), by simp, hb, ?_, by simpa using r1, r2, by simpa using r3, ?_⟩, h2.trans (Fr.set _ _ _ _ rfl)⟩
    · simp [World.setCell, Array.getElem?_modify, hg]
    · rw [List.length_set, Array.set!_eq_setIfInBounds, Array.toList_setIfInBounds, List.take_set, r4]
      simp only [byteCells, List.map_set]
theorem own_some {base : Nat} {W : World} {o : Option Addr} {c : Nat} {x : List UInt8} (h : ow base W (.slice o x.length c) x) (h0 : 0 < x.length) : ∃ g, o = some ⟨g, 0, none⟩ := by
  rcases h with ⟨_, rfl⟩ | ⟨g, cap, cur, hv, _⟩
  · exact absurd h0 (by simp)
  · cases hv; exact ⟨g, rfl⟩
theorem sc_rds_fr {w : World} {x : List UInt8} {v : Value} {L : List (List UInt8)} {rest : List UInt8} {bv : Value} {W W' : World} (h : SC w x v L rest bv W) (B : Nat → Prop) (hB : ∀ k, B k → k < w.heap.size) (hF : Fr B W W') : rds W' L v := by
  obtain ⟨xs, s1, s2, _⟩ := h
  rcases s1.2 with ⟨rfl, h0⟩ | ⟨g, cap, cur, rfl, hb, hg, r1, r2, r3, r4⟩
  · have : L = [] := List.eq_nil_of_length_eq_zero h0
    subst this
    exact ⟨none, ⟨0, 0, none⟩, 0, rfl, Nat.le_refl _, by unfold maxLen; omega, fun h => absurd h (by simp), fun i h => absurd h (by simp)⟩
  · refine ⟨some ⟨g, 0, none⟩, ⟨g, 0, none⟩, cap, rfl, r1, r2, fun _ => rfl, fun i hi => ?_⟩
    obtain ⟨c, q1, q2⟩ := s2 i hi
    obtain ⟨oc, cc, rfl, _⟩ := q2.form
    refine ⟨oc, cc, hF.cell _ _ (fun hk => ?_) (s1.cells (g := g) rfl i _ q1), (q2.keep fun k o hk ho => hF.2 k o ho (fun hb2 => ?_)).rd⟩
    · rw [block_add] at hk
      have := hB _ hk
      have : w.heap.size ≤ g := hb
      simp only at *
      omega
    · have := hB _ hb2
      have := (q2.lt k hk).1
      omega
set_option maxRecDepth 100000 in
set_option maxHeartbeats 4000000 in
theorem own_walk (v : Value) (x : List UInt8) (b : UInt8) (w : World) (hx0 : rd w x v ∧ fit v) : Calls Try.prog 7 #[v, .int .u8 b.toNat] w fun e w' => e = .returned (.bool true) ∧ Below w.heap.size w w' := by
  obtain ⟨hx, hft⟩ := hx0
  obtain ⟨o, c, rfl, hc1, hc2⟩ := hx.form
  by_cases hlen : 2000 < x.length
  · have t1 : decide ((2000 : Int) < (x.length : Int)) = true := decide_eq_true (by omega)
    have t1' : decide (2000 < x.length) = true := decide_eq_true hlen
    clear hx hc1 hc2 hlen
    go_enter Try.func7, Try.ntmps7
    go_wp2_with (go_at_call 9; refine (wakes_hid w _ (Below.refl _ _)).mono ?_; rintro e w1 ⟨rfl, HB⟩)
    go_ret
    exact ⟨rfl, HB.out⟩
  · have t1 : decide ((2000 : Int) < (x.length : Int)) = false := decide_eq_false (by omega)
    have t1' : decide (2000 < x.length) = false := decide_eq_false hlen
    have HX := Lib.hid hx
    have HL := Lib.hid hlen
    have hcv := run_strF w _ _ _ _ hx
    have hb1 : Below w.heap.size w (w.alloc (.cells #[] 5)) := (Below.refl _ _).alloc (Nat.le_refl _) _
    have OW1 := Lib.hid (ow.new (base := w.heap.size) (W := w) [] #[] 0 (Nat.le_refl _) (Nat.le_refl _) (by unfold maxLen; omega) (by simp) rfl)
    have HX1 := Lib.hid (hx.below hb1)
    have HB1 := Lib.hid hb1
    clear hx hc1 hc2 hlen hft hb1
    go_enter Try.func7, Try.ntmps7
    go_wp2_with (at_builtin; refine wpList_app_ow rfl _ _ rfl w.heap.size (.slice (some ⟨w.heap.size, 0, none⟩) 0 0) (.slice o x.length c) [] x rfl rfl OW1.out HX1.out (by have := HL.out; simp; omega) (by have := HB1.out.size; omega) ?_)
    intro o2 c2 w2 own2 gr2 at2
    try simp only [List.length_nil, Nat.zero_add, List.nil_append] at own2
    try simp only [List.length_nil, Nat.zero_add, List.nil_append] at at2
    try simp only [List.length_nil, Nat.zero_add, List.nil_append]
    have HB2 : Hid (Below w.heap.size w w2) := Lib.hid (HB1.out.trans ((Fr.grown (B := fun k => w.heap.size ≤ k) gr2 (fun r hr => by simp [Value.ownBlock] at hr; omega)).below (fun k hk => hk) (HB1.out.size)))
    have OW2 := Lib.hid own2
    have HX2 := Lib.hid (HX.out.below HB2.out)
    have hF2 := pframe_any x _ w2 own2.rd
    obtain ⟨FB, hFB⟩ : ∃ FB, frB x = FB := ⟨_, rfl⟩
    obtain ⟨FE, hFE⟩ : ∃ FE, frE x = FE := ⟨_, rfl⟩
    rw [hFB, hFE] at hF2
    have HFE := Lib.hid (And.intro hFB hFE)
    have HF2 := Lib.hid hF2
    clear hF2 hFB hFE
    clear own2 gr2 at2 OW1 HX1 HB1 hcv
    go_wp2_with (go_at_call 10; refine HF2.out.mono ?_)
    rintro e w3 ⟨o3, c3, rfl, hq3⟩
    have OW3 := Lib.hid (ow_rd_below OW2.out hq3.out.2)
    have HB3 := Lib.hid (HB2.out.trans (hq3.out.2.mono HB2.out.size))
    have HF3 := Lib.hid hq3.out.1
    have HS3 := Lib.hid (pscan_any x _ w3 OW3.out.rd OW3.out.fit (by have := HL.out; omega))
    have HZ23 := Lib.hid hq3.out.2.size
    clear hq3 HF2
    go_wp2_with (go_at_call 14; refine HS3.out.mono ?_)
    rintro e w4 ⟨o4, c4, rfl, hq4⟩
    have OW4 := Lib.hid (ow_rd_below OW3.out hq4.out.2)
    have HB4 := Lib.hid (HB3.out.trans (hq4.out.2.mono HB3.out.size))
    have HF4 := Lib.hid (ow_rd_below HF3.out hq4.out.2)
    have HL4 := Lib.hid hq4.out.1
    have HZ34 := Lib.hid hq4.out.2.size
    have HS4 := Lib.hid (rscan_any x _ w4 (HX.out.below HB4.out) (by have := HL.out; omega))
    clear hq4 HS3
    go_wp2_with (go_at_call 15; refine HS4.out.mono ?_)
    rintro e w5 ⟨v5, L5, rfl, hq5⟩
    obtain ⟨rfl, rest5, bv5, hsc5⟩ := hq5.out
    have hb5 : Below w4.heap.size w4 w5 := by obtain ⟨_, _, _, h, _⟩ := hsc5; exact h
    obtain ⟨o5, a5, c5, rfl, _⟩ := hsc5.rds
    have HB5 := Lib.hid (HB4.out.trans (hb5.mono HB4.out.size))
    have OW5 := Lib.hid (ow_rd_below OW4.out hb5)
    have HF5 := Lib.hid (ow_rd_below HF4.out hb5)
    have HL5 := Lib.hid (HL4.out.below hb5)
    have HM5 := Lib.hid hsc5
    clear hq5 hsc5 hb5 HS4
    go_wp2_with fail
    go_loopw [40] (fun i wr => ∃ j : Nat, j ≤ x.length ∧ i = .int .i64 j ∧ Hid (OWN w.heap.size x.length (.slice o2 x.length c2) w5 wr)) (fun i _ => x.length - (intOf i).toNat)
    case atStart => exact ⟨0, by omega, rfl, Lib.hid ⟨x, rfl, OW5.out, Fr.refl _ _⟩⟩
    case round =>
      obtain ⟨j, hj, rfl, hO⟩ := hrel
      by_cases hlt : j < x.length
      · obtain ⟨g, rfl⟩ := own_some OW5.out (by omega)
        obtain ⟨B, g1, g2, g3⟩ := own_cell hO.out hlt
        have HN := Lib.hid (g3 (bits BinOp.xor .u8 B.toNat b.toNat) (bits_lo_u8 _ _ _) (bits_hi_u8 _ _ _))
        have hlt' : (j : Int) < (x.length : Int) := by omega
        have hj2 : j ≤ 2000 := by have := HL.out; omega
        clear g3
        go_wp2_with fail
        go_roundw
        case rel => exact ⟨j + 1, by omega, by go_num, HN⟩
        case measure => simp [intOf]; omega
      · obtain rfl : j = x.length := by omega
        have hlt' : decide ((x.length : Int) < (x.length : Int)) = false := decide_eq_false (by omega)
        obtain ⟨y, _, _, hF⟩ := hO.out
        have hlo : ∀ k, (Value.slice o2 x.length c2).ownBlock = some k → w.heap.size ≤ k ∧ k < w2.heap.size := fun k hk => ⟨(OW2.out.lt k hk).1, (OW2.out.lt k hk).2.1⟩
        have HBW := Lib.hid (HB5.out.trans (hF.below (fun k hk => (hlo k hk).1) HB5.out.size))
        have hMR := sc_rds_fr HM5.out _ (fun k hk => by have := (hlo k hk).2; have := HZ23.out; have := HZ34.out; omega) hF
        have hLR := HL5.out.fr _ (fun k hk => by have := (hlo k hk).2; have := HZ23.out; omega) hF
        have HFR := Lib.hid (HF5.out.keep fun k o hk ho => hF.2 k o ho (fun hb => by have := (hlo k hb).2; have := (HF5.out.lt k hk).1; omega))
        have HSM := Lib.hid (rsame_any _ _ _ _ wr hLR.rds hMR)
        clear hF hMR hLR hO
        by_cases h0 : x.length = 0
        · have hE : FE = 2 := by rw [← HFE.out.2]; unfold frE; rw [if_pos h0]
          subst hE
          clear h0
          have hdec : decide ((scanL x).1 = (scanL x).1) = true := decide_eq_true rfl
          rw [hdec] at HSM
          go_wp2_with first
            | (go_at_call 16; refine HSM.out.mono ?_; rintro e w7 ⟨rfl, hq7⟩; have HB7 := Lib.hid (HBW.out.trans (hq7.out.mono HBW.out.size)); clear hq7)
            | (go_at_call 9; refine (wakes_hid w _ HB7.out).mono ?_; rintro e w8 ⟨rfl, HB⟩)
          go_ret
          exact ⟨rfl, HB.out⟩
        · have hE : FE = 0 := by rw [← HFE.out.2]; unfold frE; rw [if_neg h0, if_neg (by have := HL.out; omega)]
          have hB : FB = frameL x := by rw [← HFE.out.1]; unfold frB; rw [if_pos ⟨by omega, by have := HL.out; omega⟩]
          subst hE
          subst hB
          have hfl := frame_length x
          have hq := HFR.out
          obtain ⟨g3, rfl⟩ := own_some hq (by omega)
          have hcv := hq.rd.drop 4 (by omega)
          obtain ⟨_, _, he, hcc, _⟩ := hq.form
          cases he
          have hc34 : ¬ c3 = 4 := by omega
          rw [if_neg hc34] at hcv
          have hd : (frameL x).drop 4 = x := by simp [frameL, num4]
          rw [hd, hfl] at hcv
          rw [hfl]
          have had : (⟨g3, 0, none⟩ : Addr).add 4 = ⟨g3, 4, none⟩ := by unfold Addr.add; split <;> simp_all
          rw [had, show 4 + x.length - 4 = x.length by omega] at hcv
          have hcs := run_strF wr _ _ _ _ hcv
          have hdec : decide ((scanL x).1 = (scanL x).1) = true := decide_eq_true rfl
          rw [hdec] at HSM
          clear hq hd hfl hcc hcv hdec
          go_wp2_with first
            | (go_at_call 16; refine HSM.out.mono ?_; rintro e w7 ⟨rfl, hq7⟩; have HB7 := Lib.hid (HBW.out.trans (hq7.out.mono HBW.out.size)); clear hq7)
            | (go_at_call 9; refine (wakes_hid w _ HB7.out).mono ?_; rintro e w8 ⟨rfl, HB⟩)
          go_ret
          exact ⟨rfl, HB.out⟩
end Go.Proofs.Ytjpkokmokdaddaa
