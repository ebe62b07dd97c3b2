/-
  The statement DiskKeeps: the call returns true, and writes nothing that was there.
-/
import Derived.Test.YtmajlanncchbnaaYv
set_option linter.unusedVariables false
namespace Go.Proofs.Ytmajlanncchbnaa
open Go.RowKit Go.Shelf Go.Lib Go.Deep

set_option maxRecDepth 100000 in
set_option maxHeartbeats 64000000 in
theorem diskKeeps_walk (v : Value) (l : List AC) (a : Addr) (cap : Nat) (w : World) (hv : slv v l.length a cap) (hl : isAs w l a) :
    Calls Try.prog 5 #[v] w fun e w' => e = .returned (.bool true) ∧ Below w.heap.size w w' := by
  obtain ⟨o, rfl, hc1, hc2, ho⟩ := hv
  unfold maxLen at hc2
  have HL := Lib.hid hl
  have HO := Lib.hid ho
  clear hl ho
  go_enter Try.func5, Try.ntmps5
  go_upto_block 0 with fail
  go_cut [3, 4] from 16 to 34 (fun s5 s6 wx => (∃ k : Int, s5 = .int .i64 k) ∧ (∃ j : Nat, s6 = .int .i64 j) ∧ w = wx)
  case first => as_aux_lemma =>
    go_wp2_with fail
    go_loop [3, 4] (fun n i => ∃ (j : Nat) (k : Int), j ≤ l.length ∧ i = .int .i64 j ∧ n = .int .i64 k) (fun _ i => l.length - (intOf i).toNat)
    case atStart => exact ⟨0, 0, by omega, rfl, rfl⟩
    case round =>
      obtain ⟨j, k, hj, rfl, rfl⟩ := hrel
      by_cases hlt : j < l.length
      · have hlt' : (j : Int) < (l.length : Int) := by omega
        by_cases h2 : j ≤ 100
        · obtain rfl := HO.out (by omega)
          obtain ⟨c1, g0, g1, g2, h3⟩ := as_at HL.out j hlt
          obtain ⟨ob, ab, cb, rfl, hb1, hb2, hb3⟩ := h3
          unfold maxLen at hb2
          generalize l[j] = X at *
          have h2' : (j : Int) ≤ 100 := by omega
          go_wp2_with fail
          go_round
          case rel => exact ⟨j + 1, _, by omega, by go_num, rfl⟩
          case measure => simp [intOf]; omega
        · have h2' : decide ((j : Int) ≤ 100) = false := decide_eq_false (by omega)
          have h2'' : decide (j ≤ 100) = false := decide_eq_false (by omega)
          go_wp2_with fail
          go_meet
          exact ⟨⟨_, rfl⟩, ⟨_, rfl⟩, rfl⟩
      · obtain rfl : j = l.length := by omega
        go_wp2_with fail
        go_meet
        exact ⟨⟨_, rfl⟩, ⟨_, rfl⟩, rfl⟩
  case rest =>
    obtain ⟨⟨k1, rfl⟩, ⟨j1, rfl⟩, rfl⟩ := hcut
    by_cases p1 : 100 < l.length
    · have q1 : decide ((100 : Int) < (l.length : Int)) = true := decide_eq_true (by omega)
      have q1' : decide (100 < l.length) = true := decide_eq_true p1
      go_wp2_with (go_at_call 8; refine (wakes_hid w w (Below.refl _ _)).mono ?_)
      rintro e w2 ⟨rfl, hq⟩
      go_wp2_with fail
      go_ret
      exact ⟨rfl, hq.out⟩
    have q1 : decide ((100 : Int) < (l.length : Int)) = false := decide_eq_false (by omega)
    have q1' : decide (100 < l.length) = false := decide_eq_false p1
    by_cases p3 : 65536 < k1
    · have q3 : decide (65536 < k1) = true := decide_eq_true p3
      go_wp2_with (go_at_call 8; refine (wakes_hid w w (Below.refl _ _)).mono ?_)
      rintro e w2 ⟨rfl, hq⟩
      go_wp2_with fail
      go_ret
      exact ⟨rfl, hq.out⟩
    have q3 : decide (65536 < k1) = false := decide_eq_false p3
    clear p1 p3
    go_wp2_with (go_at_call 9; refine (new_any w.heap.size w (Nat.le_refl _)).mono ?_)
    rintro e w2 ⟨rfl, hk1, hb1⟩
    have HJ : Hid (K0 w w.heap.size ⟨[], false, none⟩ (.slice none 0 0) (.slice none 0 0) [] w2) := Lib.hid ⟨hk1, .inl ⟨rfl, rfl⟩, (fun k hk => by cases hk), hb1⟩
    clear hk1 hb1
    go_wp2_with fail
    go_loopw [6, 7, 8, 9] (fun wv kv av i wr => ∃ (j : Nat) (k : Int) (s : DS) (vp : Value) (ow' : Option Addr) (cw : Nat), j ≤ l.length ∧ i = .int .i64 j ∧ kv = .int .i64 k ∧ av = .bool s.ar.isSome ∧ wv = .slice ow' s.f.length cw ∧ Hid (K0 w w.heap.size s vp (.slice ow' s.f.length cw) s.f wr) ∧ Hid (IV s k)) (fun _ _ _ i _ => l.length - (intOf i).toNat)
    case atStart => exact ⟨0, 0, ⟨[], false, none⟩, .slice none 0 0, none, 0, by omega, rfl, rfl, rfl, rfl, HJ, Lib.hid iv_new⟩
    case round =>
      obtain ⟨j, k, s, vp, ow0, cw, hj, rfl, rfl, rfl, rfl, hK, hI⟩ := hrel
      clear HJ
      by_cases hlt : j < l.length
      · obtain rfl := HO.out (by omega)
        have hlt' : (j : Int) < (l.length : Int) := by omega
        have hB0 := hK.out.2.2.2
        obtain ⟨c1, g0, g1, g2, hx⟩ := as_later2 HL.out hB0 j hlt
        generalize l[j] = X at *
        obtain ⟨d, xb, n⟩ := X
        obtain ⟨f, dn, ar⟩ := s
        dsimp only at g0 g1 g2 hx hI hK ⊢
        obtain ⟨ob, ab, cb, rfl, hb1, hb2, _⟩ := id hx
        have hB9 : Below wr.heap.size wr (wr.alloc (.cells #[.int .i64 d, .slice ob xb.length cb, .int .i64 n] 31)) := (Below.refl _ _).alloc (Nat.le_refl _) _
        have hK1 := K1.new hK.out #[.int .i64 d, .slice ob xb.length cb, .int .i64 n]
        have hx1 := hx.below (hB0.trans (hB9.mono hB0.size))
        have HX := Lib.hid hx
        have HK1 := Lib.hid hK1
        have HCW := Lib.hid hK.out.cap.2
        have HCB : Hid (xb.length ≤ cb ∧ cb ≤ maxLen) := Lib.hid ⟨hb1, hb2⟩
        have hB0' := hB0.size
        clear hx hB0 hx1 hK1 hK hB9 hb1 hb2
        go_upto_region 15 with fail
        go_cut [61] from 53 to 61 (fun s61 wx => ∃ bb : Bool, s61 = .bool bb ∧ Hid (BB bb d) ∧ Hid (K1 w w.heap.size wr.heap.size #[.int .i64 d, .slice ob xb.length cb, .int .i64 n] ⟨f, dn, ar⟩ vp (.slice ow0 f.length cw) f wx))
        case first => as_aux_lemma =>
          clear g0 g1 g2 hI
          by_cases hneg : d < 0
          · have e1 : decide (d < 0) = true := decide_eq_true hneg
            have EB := Lib.hid hneg
            clear hneg
            go_wp2_with fail
            go_meet
            exact ⟨true, rfl, Lib.hid (bb_yes EB.out), HK1⟩
          · have e1 : decide (d < 0) = false := decide_eq_false hneg
            have EB := Lib.hid hneg
            clear hneg
            go_wp2_with fail
            go_meet
            exact ⟨decide (5 < d), rfl, Lib.hid (bb_dec (by have := EB.out; omega)), HK1⟩
        case rest =>
          obtain ⟨bb, rfl, HBB, HK2⟩ := hcut
          obtain ⟨z0, z1, z2⟩ := act_cells HK2.out.2
          have zf : wc.frozen? ⟨wr.heap.size, 0, none⟩ = false := Lib.frozen_of_heap HK2.out.2 0
          clear HK1 g0 g1 g2
          go_upto_if 61 with fail
          go_cut [61] from 62 to 62 (fun s61 wx => s61 = .bool bb ∧ ∃ d' : Int, Hid (0 ≤ d' ∧ d' ≤ 5) ∧ Hid (K1 w w.heap.size wr.heap.size #[.int .i64 d', .slice ob xb.length cb, .int .i64 n] ⟨f, dn, ar⟩ vp (.slice ow0 f.length cw) f wx))
          case first => as_aux_lemma =>
            clear hI
            cases bb
            case true =>
              have HKB : Hid (K1 w w.heap.size wr.heap.size #[.int .i64 5, .slice ob xb.length cb, .int .i64 n] ⟨f, dn, ar⟩ vp (.slice ow0 f.length cw) f (wc.setCell ⟨wr.heap.size, 0, none⟩ (.int .i64 5))) := Lib.hid (HK2.out.box hB0')
              clear HBB
              go_wp2_with fail
              go_meet
              exact ⟨rfl, 5, Lib.hid ⟨by decide, by decide⟩, HKB⟩
            case false =>
              have HD : Hid (0 ≤ d ∧ d ≤ 5) := Lib.hid (by have h := HBB.out; have : ¬ (d < 0 ∨ 5 < d) := fun h2 => (by have := h.2 h2; cases this); omega)
              clear HBB
              go_wp2_with fail
              go_meet
              exact ⟨rfl, d, HD, HK2⟩
          case rest =>
            obtain ⟨rfl, d, HD, HK1⟩ := hcut
            obtain ⟨z0, z1, z2⟩ := act_cells HK1.out.2
            clear HK2 zf HBB
            have HKW := Lib.hid HK1.out.1.2.2.2
            have HDW := Lib.hid (down_any _ HK1.out.1.1)
            go_upto_block 4 with (go_at_call 21; refine HDW.out.mono ?_; rintro e w3 ⟨rfl, rfl⟩)
            clear HDW
            go_cut [6, 7, 8, 11, 12, 66] from 67 to 144 (fun s6 s7 s8 s11 s12 s66 wx => s11 = .bool dn ∧ s66 = .int .i64 d ∧ ∃ (s' : DS) (vp' : Value) (o' : Option Addr) (c' : Nat) (k' r1 : Int) (am : Bool), s6 = .slice o' s'.f.length c' ∧ s7 = .int .i64 k' ∧ s8 = .bool am ∧ s12 = .int .i64 r1 ∧ Hid (K1 w w.heap.size wr.heap.size #[.int .i64 d, .slice ob xb.length cb, .int .i64 n] s' vp' (.slice o' s'.f.length c') s'.f wx) ∧ Hid (OC d dn r1 am s' k'))
            case first =>
              cases dn
              case false =>
                rcases ar with _ | m
                ·
                  by_cases d0 : d = 0
                  · subst d0
                    by_cases hlong : 1048576 < f.length + xb.length
                    ·
                      as_aux_lemma =>
                        have hr : appD ⟨f, false, none⟩ xb = (3, ⟨f, false, none⟩) := by unfold appD; rw [if_neg (by simp), if_pos hlong]
                        have HC := Lib.hid (HK1.out.call 17 #[.pointer (some ⟨w.heap.size, 0, none⟩), .slice ob xb.length cb] (3, ⟨f, false, none⟩) (fun hd hb => by rw [← hr]; exact append_any _ hd hb (HX.out.below HKW.out)))
                        clear HK1 hr
                        go_wp2_with (go_at_call 17; refine HC.out.mono ?_)
                        first | rintro e w4 rfl hq | rintro e w4 ⟨rfl, hq⟩
                        obtain ⟨vp', hk⟩ := hq.out
                        obtain ⟨z0, z1, z2⟩ := act_cells hk.2
                        clear hq HC
                        have HKF := Lib.hid hk
                        clear hk
                        go_wp2_with fail
                        go_meet
                        exact ⟨rfl, rfl, ⟨f, false, none⟩, vp', _, _, k, 3, false, rfl, rfl, rfl, rfl, HKF, Lib.hid (by unfold OC; simp)⟩
                    ·
                      as_aux_lemma =>
                        have hr : appD ⟨f, false, none⟩ xb = (0, ⟨f ++ xb, false, none⟩) := by unfold appD; rw [if_neg (by simp), if_neg hlong]; rfl
                        have HC := Lib.hid (HK1.out.call 17 #[.pointer (some ⟨w.heap.size, 0, none⟩), .slice ob xb.length cb] (0, ⟨f ++ xb, false, none⟩) (fun hd hb => by rw [← hr]; exact append_any _ hd hb (HX.out.below HKW.out)))
                        clear HK1 hr
                        go_wp2_with (go_at_call 17; refine HC.out.mono ?_)
                        first | rintro e w4 rfl hq | rintro e w4 ⟨rfl, hq⟩
                        obtain ⟨vp', hk⟩ := hq.out
                        obtain ⟨z0, z1, z2⟩ := act_cells hk.2
                        clear hq HC
                        have hrd := HX.out.below hk.1.2.2.2
                        go_wp2_with (at_builtin; refine wpList_app_ow rfl _ _ rfl w.heap.size (.slice ow0 f.length cw) (.slice ob xb.length cb) f xb rfl rfl hk.1.2.1 hrd (by omega) hk.1.2.2.2.size ?_)
                        intro o5 c5 w5 own5 gr5 at5
                        have hk := hk.append gr5 own5 at5
                        obtain ⟨z0, z1, z2⟩ := act_cells hk.2
                        rw [show f.length + xb.length = (f ++ xb).length by rw [List.length_append]] at hk ⊢
                        clear own5 gr5 at5 hrd
                        generalize f ++ xb = F_ at *
                        have HKF := Lib.hid hk
                        clear hk
                        go_wp2_with fail
                        go_meet
                        exact ⟨rfl, rfl, ⟨F_, false, none⟩, vp', _, _, k, 0, false, rfl, rfl, rfl, rfl, HKF, Lib.hid (by unfold OC; simp)⟩
                  by_cases d1 : d = 1
                  · subst d1
                    by_cases hlong : 1048576 < xb.length
                    ·
                      as_aux_lemma =>
                        have hr : swapD ⟨f, false, none⟩ xb = (3, ⟨f, false, none⟩) := by unfold swapD; rw [if_neg (by simp), if_pos hlong]
                        have HC := Lib.hid (HK1.out.call 13 #[.pointer (some ⟨w.heap.size, 0, none⟩), .slice ob xb.length cb] (3, ⟨f, false, none⟩) (fun hd hb => by rw [← hr]; exact swap_any _ hd hb (HX.out.below HKW.out)))
                        clear HK1 hr
                        go_wp2_with (go_at_call 13; refine HC.out.mono ?_)
                        first | rintro e w4 rfl hq | rintro e w4 ⟨rfl, hq⟩
                        obtain ⟨vp', hk⟩ := hq.out
                        obtain ⟨z0, z1, z2⟩ := act_cells hk.2
                        clear hq HC
                        have HKF := Lib.hid hk
                        clear hk
                        go_wp2_with fail
                        go_meet
                        exact ⟨rfl, rfl, ⟨f, false, none⟩, vp', _, _, k, 3, false, rfl, rfl, rfl, rfl, HKF, Lib.hid (by unfold OC; simp)⟩
                    ·
                      as_aux_lemma =>
                        have hr : swapD ⟨f, false, none⟩ xb = (0, ⟨xb, false, none⟩) := by unfold swapD; rw [if_neg (by simp), if_neg hlong]; rfl
                        have HC := Lib.hid (HK1.out.call 13 #[.pointer (some ⟨w.heap.size, 0, none⟩), .slice ob xb.length cb] (0, ⟨xb, false, none⟩) (fun hd hb => by rw [← hr]; exact swap_any _ hd hb (HX.out.below HKW.out)))
                        clear HK1 hr
                        go_wp2_with (go_at_call 13; refine HC.out.mono ?_)
                        first | rintro e w4 rfl hq | rintro e w4 ⟨rfl, hq⟩
                        obtain ⟨vp', hk⟩ := hq.out
                        obtain ⟨z0, z1, z2⟩ := act_cells hk.2
                        clear hq HC
                        have hk := hk.anew
                        have hrd := HX.out.below hk.1.2.2.2
                        obtain ⟨z0, z1, z2⟩ := act_cells hk.2
                        go_wp2_with (at_builtin; refine wpList_app_ow rfl _ _ rfl w.heap.size (.slice (some ⟨w4.heap.size, 0, none⟩) 0 0) (.slice ob xb.length cb) [] xb rfl rfl hk.1.2.1 hrd (by simp only [List.length_nil]; omega) hk.1.2.2.2.size ?_)
                        try simp only [List.length_nil, Nat.zero_add, List.nil_append]
                        intro o5 c5 w5 own5 gr5 at5
                        have hk := hk.append gr5 own5 (by rw [World.size_alloc]; exact at5)
                        obtain ⟨z0, z1, z2⟩ := act_cells hk.2
                        clear own5 gr5 at5 hrd
                        have HKF := Lib.hid hk
                        clear hk
                        go_wp2_with fail
                        go_meet
                        exact ⟨rfl, rfl, ⟨xb, false, none⟩, vp', _, _, k, 0, false, rfl, rfl, rfl, rfl, HKF, Lib.hid (by unfold OC; simp)⟩
                  by_cases d2 : d = 2
                  · subst d2
                    by_cases hbad : n < 0 ∨ (f.length : Int) < n
                    ·
                      as_aux_lemma =>
                        have hr : cutD ⟨f, false, none⟩ n = (2, ⟨f, false, none⟩) := by unfold cutD; rw [if_neg (by simp), if_pos hbad]
                        have HC := Lib.hid (HK1.out.call 18 #[.pointer (some ⟨w.heap.size, 0, none⟩), .int .i64 n] (2, ⟨f, false, none⟩) (fun hd hb => by rw [← hr]; exact cut_any n _ hd))
                        clear HK1 hr
                        go_wp2_with (go_at_call 18; refine HC.out.mono ?_)
                        first | rintro e w4 rfl hq | rintro e w4 ⟨rfl, hq⟩
                        obtain ⟨vp', hk⟩ := hq.out
                        obtain ⟨z0, z1, z2⟩ := act_cells hk.2
                        clear hq HC
                        have HKF := Lib.hid hk
                        clear hk
                        go_wp2_with fail
                        go_meet
                        exact ⟨rfl, rfl, ⟨f, false, none⟩, vp', _, _, k, 2, false, rfl, rfl, rfl, rfl, HKF, Lib.hid (by unfold OC; simp)⟩
                    ·
                      as_aux_lemma =>
                        obtain ⟨q, rfl⟩ : ∃ q : Nat, n = (q : Int) := ⟨n.toNat, by omega⟩
                        have HQ : Hid (q ≤ f.length ∧ q ≤ cw) := Lib.hid ⟨by omega, by have := HCW.out; omega⟩
                        have hqw : (q : Int) ≤ (cw : Int) := by have := HQ.out; omega
                        have hqd : decide ((f.length : Int) < (q : Int)) = false := decide_eq_false (by omega)
                        have hqd' : decide (f.length < q) = false := decide_eq_false (by omega)

                        have hr : cutD ⟨f, false, none⟩ (q : Int) = (0, ⟨f.take q, false, none⟩) := by unfold cutD; rw [if_neg (by simp), if_neg hbad, Int.toNat_natCast]; rfl
                        have HC := Lib.hid (HK1.out.call 18 #[.pointer (some ⟨w.heap.size, 0, none⟩), .int .i64 q] (0, ⟨f.take q, false, none⟩) (fun hd hb => by rw [← hr]; exact cut_any (q : Int) _ hd))
                        clear HK1 hr
                        go_wp2_with (go_at_call 18; refine HC.out.mono ?_)
                        first | rintro e w4 rfl hq | rintro e w4 ⟨rfl, hq⟩
                        obtain ⟨vp', hk⟩ := hq.out
                        obtain ⟨z0, z1, z2⟩ := act_cells hk.2
                        clear hq HC
                        have hk := hk.cut q HQ.out.1 HQ.out.2
                        rw [show (Value.slice ow0 q cw) = .slice ow0 (f.take q).length cw by rw [List.length_take, Nat.min_eq_left HQ.out.1]] at hk
                        have HKF := Lib.hid hk
                        clear hk
                        go_wp2_with fail
                        go_meet
                        exact ⟨rfl, rfl, ⟨f.take q, false, none⟩, vp', _, _, k, 0, false, by rw [List.length_take, Nat.min_eq_left HQ.out.1], rfl, rfl, rfl, HKF, Lib.hid (by unfold OC; simp)⟩
                  by_cases d3 : d = 3
                  · subst d3
                    by_cases hbad : n < 0
                    ·
                      as_aux_lemma =>
                        have hr : armD ⟨f, false, none⟩ n = (2, ⟨f, false, none⟩) := by unfold armD; rw [if_neg (by simp), if_pos hbad]
                        have HC := Lib.hid (HK1.out.call 19 #[.pointer (some ⟨w.heap.size, 0, none⟩), .int .i64 n] (2, ⟨f, false, none⟩) (fun hd hb => by rw [← hr]; exact arm_any n _ hd))
                        clear HK1 hr
                        go_wp2_with (go_at_call 19; refine HC.out.mono ?_)
                        first | rintro e w4 rfl hq | rintro e w4 ⟨rfl, hq⟩
                        obtain ⟨vp', hk⟩ := hq.out
                        obtain ⟨z0, z1, z2⟩ := act_cells hk.2
                        clear hq HC
                        have HKF := Lib.hid hk
                        clear hk
                        go_wp2_with fail
                        go_meet
                        exact ⟨rfl, rfl, ⟨f, false, none⟩, vp', _, _, k, 2, false, rfl, rfl, rfl, rfl, HKF, Lib.hid (by unfold OC; simp)⟩
                    ·
                      as_aux_lemma =>
                        obtain ⟨q, rfl⟩ : ∃ q : Nat, n = (q : Int) := ⟨n.toNat, by omega⟩

                        have hr : armD ⟨f, false, none⟩ (q : Int) = (0, ⟨f, false, some q⟩) := by unfold armD; rw [if_neg (by simp), if_neg hbad, Int.toNat_natCast]
                        have HC := Lib.hid (HK1.out.call 19 #[.pointer (some ⟨w.heap.size, 0, none⟩), .int .i64 q] (0, ⟨f, false, some q⟩) (fun hd hb => by rw [← hr]; exact arm_any (q : Int) _ hd))
                        clear HK1 hr
                        go_wp2_with (go_at_call 19; refine HC.out.mono ?_)
                        first | rintro e w4 rfl hq | rintro e w4 ⟨rfl, hq⟩
                        obtain ⟨vp', hk⟩ := hq.out
                        obtain ⟨z0, z1, z2⟩ := act_cells hk.2
                        clear hq HC
                        have HKF := Lib.hid hk
                        clear hk
                        go_wp2_with fail
                        go_meet
                        exact ⟨rfl, rfl, ⟨f, false, some q⟩, vp', _, _, q, 0, true, rfl, rfl, rfl, rfl, HKF, Lib.hid (by unfold OC; simp)⟩
                  by_cases d4 : d = 4
                  · subst d4
                    as_aux_lemma =>
                      have hr : crashD ⟨f, false, none⟩ = (0, ⟨f, true, none⟩) := by unfold crashD; rw [if_neg (by simp)]
                      have HC := Lib.hid (HK1.out.call 14 #[.pointer (some ⟨w.heap.size, 0, none⟩)] (0, ⟨f, true, none⟩) (fun hd hb => by rw [← hr]; exact crash_any _ hd))
                      clear HK1 hr
                      go_wp2_with (go_at_call 14; refine HC.out.mono ?_)
                      first | rintro e w4 rfl hq | rintro e w4 ⟨rfl, hq⟩
                      obtain ⟨vp', hk⟩ := hq.out
                      obtain ⟨z0, z1, z2⟩ := act_cells hk.2
                      clear hq HC
                      have HKF := Lib.hid hk
                      clear hk
                      go_wp2_with fail
                      go_meet
                      exact ⟨rfl, rfl, ⟨f, true, none⟩, vp', _, _, k, 0, false, rfl, rfl, rfl, rfl, HKF, Lib.hid (by unfold OC; simp)⟩
                  obtain rfl : d = 5 := by have := HD.out; omega
                  clear d0 d1 d2 d3 d4
                  as_aux_lemma =>
                    have hr : upD ⟨f, false, none⟩ = (2, ⟨f, false, none⟩) := by rfl
                    have HC := Lib.hid (HK1.out.call 20 #[.pointer (some ⟨w.heap.size, 0, none⟩)] (2, ⟨f, false, none⟩) (fun hd hb => by rw [← hr]; exact up_any _ hd))
                    clear HK1 hr
                    go_wp2_with (go_at_call 20; refine HC.out.mono ?_)
                    first | rintro e w4 rfl hq | rintro e w4 ⟨rfl, hq⟩
                    obtain ⟨vp', hk⟩ := hq.out
                    obtain ⟨z0, z1, z2⟩ := act_cells hk.2
                    clear hq HC
                    have HKF := Lib.hid hk
                    clear hk
                    go_wp2_with fail
                    go_meet
                    exact ⟨rfl, rfl, ⟨f, false, none⟩, vp', _, _, k, 2, false, rfl, rfl, rfl, rfl, HKF, Lib.hid (by unfold OC; simp)⟩
                · obtain rfl := hI.out.2 m rfl
                  by_cases d0 : d = 0
                  · subst d0
                    by_cases hlong : 1048576 < f.length + xb.length
                    ·
                      as_aux_lemma =>
                        have hr : appD ⟨f, false, some m⟩ xb = (3, ⟨f, false, some m⟩) := by unfold appD; rw [if_neg (by simp), if_pos hlong]
                        have HC := Lib.hid (HK1.out.call 17 #[.pointer (some ⟨w.heap.size, 0, none⟩), .slice ob xb.length cb] (3, ⟨f, false, some m⟩) (fun hd hb => by rw [← hr]; exact append_any _ hd hb (HX.out.below HKW.out)))
                        clear HK1 hr
                        go_wp2_with (go_at_call 17; refine HC.out.mono ?_)
                        first | rintro e w4 rfl hq | rintro e w4 ⟨rfl, hq⟩
                        obtain ⟨vp', hk⟩ := hq.out
                        obtain ⟨z0, z1, z2⟩ := act_cells hk.2
                        clear hq HC
                        have HKF := Lib.hid hk
                        clear hk
                        go_wp2_with fail
                        go_meet
                        exact ⟨rfl, rfl, ⟨f, false, some m⟩, vp', _, _, m, 3, true, rfl, rfl, rfl, rfl, HKF, Lib.hid (by unfold OC; simp)⟩
                    ·
                      as_aux_lemma =>
                        obtain ⟨q, hq0, hqx, hqt⟩ : ∃ q : Nat, (if xb.length < m then (xb.length : Int) else (m : Int)) = (q : Int) ∧ q ≤ xb.length ∧ xb.take m = xb.take q := by
                          by_cases hlt : xb.length < m
                          · exact ⟨xb.length, by rw [if_pos (by omega)], Nat.le_refl _, by rw [List.take_of_length_le (by omega), List.take_of_length_le (Nat.le_refl _)]⟩
                          · exact ⟨m, by rw [if_neg (by omega)], by omega, rfl⟩
                        have hql : (xb.take q).length = q := by rw [List.length_take]; omega
                        have hqc : (q : Int) ≤ (cb : Int) := by have := HCB.out; omega
                        have HQX : Hid (q ≤ xb.length ∧ q ≤ cb ∧ cb ≤ maxLen ∧ (xb.take q).length = q ∧ f.length + q ≤ 1048576) := Lib.hid ⟨hqx, by omega, HCB.out.2, hql, by omega⟩

                        have hr : appD ⟨f, false, some m⟩ xb = (60, ⟨f ++ xb.take q, true, none⟩) := by unfold appD; rw [if_neg (by simp), if_neg hlong, ← hqt]; rfl
                        have HC := Lib.hid (HK1.out.call 17 #[.pointer (some ⟨w.heap.size, 0, none⟩), .slice ob xb.length cb] (60, ⟨f ++ xb.take q, true, none⟩) (fun hd hb => by rw [← hr]; exact append_any _ hd hb (HX.out.below HKW.out)))
                        clear HK1 hr
                        go_wp2_with (go_at_call 17; refine HC.out.mono ?_)
                        first | rintro e w4 rfl hq | rintro e w4 ⟨rfl, hq⟩
                        obtain ⟨vp', hk⟩ := hq.out
                        obtain ⟨z0, z1, z2⟩ := act_cells hk.2
                        clear hq HC
                        have hrd := (HX.out.below hk.1.2.2.2).cut q cb HQX.out.1 HQX.out.2.1 HQX.out.2.2.1
                        clear hqx hqt hql
                        go_wp2_with (at_builtin; refine wpList_app_ow rfl _ _ rfl w.heap.size (.slice ow0 f.length cw) (.slice ob q cb) f (xb.take q) rfl rfl hk.1.2.1 hrd (by rw [HQX.out.2.2.2.1]; have := HQX.out.2.2.2.2; omega) hk.1.2.2.2.size ?_)
                        rw [Nat.min_eq_left HQX.out.1]
                        intro o5 c5 w5 own5 gr5 at5
                        have hk := hk.append gr5 own5 at5
                        obtain ⟨z0, z1, z2⟩ := act_cells hk.2
                        rw [show f.length + q = (f ++ xb.take q).length by rw [List.length_append, HQX.out.2.2.2.1]] at hk ⊢
                        clear own5 gr5 at5 hrd
                        generalize f ++ xb.take q = F_ at *
                        have HKF := Lib.hid hk
                        clear hk
                        go_wp2_with fail
                        go_meet
                        exact ⟨rfl, rfl, ⟨F_, true, none⟩, vp', _, _, m, 60, true, rfl, rfl, rfl, rfl, HKF, Lib.hid (by unfold OC; simp)⟩
                  by_cases d1 : d = 1
                  · subst d1
                    by_cases hlong : 1048576 < xb.length
                    ·
                      as_aux_lemma =>
                        have hr : swapD ⟨f, false, some m⟩ xb = (3, ⟨f, false, some m⟩) := by unfold swapD; rw [if_neg (by simp), if_pos hlong]
                        have HC := Lib.hid (HK1.out.call 13 #[.pointer (some ⟨w.heap.size, 0, none⟩), .slice ob xb.length cb] (3, ⟨f, false, some m⟩) (fun hd hb => by rw [← hr]; exact swap_any _ hd hb (HX.out.below HKW.out)))
                        clear HK1 hr
                        go_wp2_with (go_at_call 13; refine HC.out.mono ?_)
                        first | rintro e w4 rfl hq | rintro e w4 ⟨rfl, hq⟩
                        obtain ⟨vp', hk⟩ := hq.out
                        obtain ⟨z0, z1, z2⟩ := act_cells hk.2
                        clear hq HC
                        have HKF := Lib.hid hk
                        clear hk
                        go_wp2_with fail
                        go_meet
                        exact ⟨rfl, rfl, ⟨f, false, some m⟩, vp', _, _, m, 3, true, rfl, rfl, rfl, rfl, HKF, Lib.hid (by unfold OC; simp)⟩
                    ·
                      as_aux_lemma =>
                        have hr : swapD ⟨f, false, some m⟩ xb = (60, ⟨f, true, none⟩) := by unfold swapD; rw [if_neg (by simp), if_neg hlong]; rfl
                        have HC := Lib.hid (HK1.out.call 13 #[.pointer (some ⟨w.heap.size, 0, none⟩), .slice ob xb.length cb] (60, ⟨f, true, none⟩) (fun hd hb => by rw [← hr]; exact swap_any _ hd hb (HX.out.below HKW.out)))
                        clear HK1 hr
                        go_wp2_with (go_at_call 13; refine HC.out.mono ?_)
                        first | rintro e w4 rfl hq | rintro e w4 ⟨rfl, hq⟩
                        obtain ⟨vp', hk⟩ := hq.out
                        obtain ⟨z0, z1, z2⟩ := act_cells hk.2
                        clear hq HC
                        have HKF := Lib.hid hk
                        clear hk
                        go_wp2_with fail
                        go_meet
                        exact ⟨rfl, rfl, ⟨f, true, none⟩, vp', _, _, m, 60, true, rfl, rfl, rfl, rfl, HKF, Lib.hid (by unfold OC; simp)⟩
                  by_cases d2 : d = 2
                  · subst d2
                    by_cases hbad : n < 0 ∨ (f.length : Int) < n
                    ·
                      as_aux_lemma =>
                        have hr : cutD ⟨f, false, some m⟩ n = (2, ⟨f, false, some m⟩) := by unfold cutD; rw [if_neg (by simp), if_pos hbad]
                        have HC := Lib.hid (HK1.out.call 18 #[.pointer (some ⟨w.heap.size, 0, none⟩), .int .i64 n] (2, ⟨f, false, some m⟩) (fun hd hb => by rw [← hr]; exact cut_any n _ hd))
                        clear HK1 hr
                        go_wp2_with (go_at_call 18; refine HC.out.mono ?_)
                        first | rintro e w4 rfl hq | rintro e w4 ⟨rfl, hq⟩
                        obtain ⟨vp', hk⟩ := hq.out
                        obtain ⟨z0, z1, z2⟩ := act_cells hk.2
                        clear hq HC
                        have HKF := Lib.hid hk
                        clear hk
                        go_wp2_with fail
                        go_meet
                        exact ⟨rfl, rfl, ⟨f, false, some m⟩, vp', _, _, m, 2, true, rfl, rfl, rfl, rfl, HKF, Lib.hid (by unfold OC; simp)⟩
                    ·
                      as_aux_lemma =>
                        have hr : cutD ⟨f, false, some m⟩ n = (60, ⟨f, true, none⟩) := by unfold cutD; rw [if_neg (by simp), if_neg hbad]; rfl
                        have HC := Lib.hid (HK1.out.call 18 #[.pointer (some ⟨w.heap.size, 0, none⟩), .int .i64 n] (60, ⟨f, true, none⟩) (fun hd hb => by rw [← hr]; exact cut_any n _ hd))
                        clear HK1 hr
                        go_wp2_with (go_at_call 18; refine HC.out.mono ?_)
                        first | rintro e w4 rfl hq | rintro e w4 ⟨rfl, hq⟩
                        obtain ⟨vp', hk⟩ := hq.out
                        obtain ⟨z0, z1, z2⟩ := act_cells hk.2
                        clear hq HC
                        have HKF := Lib.hid hk
                        clear hk
                        go_wp2_with fail
                        go_meet
                        exact ⟨rfl, rfl, ⟨f, true, none⟩, vp', _, _, m, 60, true, rfl, rfl, rfl, rfl, HKF, Lib.hid (by unfold OC; simp)⟩
                  by_cases d3 : d = 3
                  · subst d3
                    by_cases hbad : n < 0
                    ·
                      as_aux_lemma =>
                        have hr : armD ⟨f, false, some m⟩ n = (2, ⟨f, false, some m⟩) := by unfold armD; rw [if_neg (by simp), if_pos hbad]
                        have HC := Lib.hid (HK1.out.call 19 #[.pointer (some ⟨w.heap.size, 0, none⟩), .int .i64 n] (2, ⟨f, false, some m⟩) (fun hd hb => by rw [← hr]; exact arm_any n _ hd))
                        clear HK1 hr
                        go_wp2_with (go_at_call 19; refine HC.out.mono ?_)
                        first | rintro e w4 rfl hq | rintro e w4 ⟨rfl, hq⟩
                        obtain ⟨vp', hk⟩ := hq.out
                        obtain ⟨z0, z1, z2⟩ := act_cells hk.2
                        clear hq HC
                        have HKF := Lib.hid hk
                        clear hk
                        go_wp2_with fail
                        go_meet
                        exact ⟨rfl, rfl, ⟨f, false, some m⟩, vp', _, _, m, 2, true, rfl, rfl, rfl, rfl, HKF, Lib.hid (by unfold OC; simp)⟩
                    ·
                      as_aux_lemma =>
                        obtain ⟨q, rfl⟩ : ∃ q : Nat, n = (q : Int) := ⟨n.toNat, by omega⟩

                        have hr : armD ⟨f, false, some m⟩ (q : Int) = (0, ⟨f, false, some q⟩) := by unfold armD; rw [if_neg (by simp), if_neg hbad, Int.toNat_natCast]
                        have HC := Lib.hid (HK1.out.call 19 #[.pointer (some ⟨w.heap.size, 0, none⟩), .int .i64 q] (0, ⟨f, false, some q⟩) (fun hd hb => by rw [← hr]; exact arm_any (q : Int) _ hd))
                        clear HK1 hr
                        go_wp2_with (go_at_call 19; refine HC.out.mono ?_)
                        first | rintro e w4 rfl hq | rintro e w4 ⟨rfl, hq⟩
                        obtain ⟨vp', hk⟩ := hq.out
                        obtain ⟨z0, z1, z2⟩ := act_cells hk.2
                        clear hq HC
                        have HKF := Lib.hid hk
                        clear hk
                        go_wp2_with fail
                        go_meet
                        exact ⟨rfl, rfl, ⟨f, false, some q⟩, vp', _, _, q, 0, true, rfl, rfl, rfl, rfl, HKF, Lib.hid (by unfold OC; simp)⟩
                  by_cases d4 : d = 4
                  · subst d4
                    as_aux_lemma =>
                      have hr : crashD ⟨f, false, some m⟩ = (0, ⟨f, true, none⟩) := by unfold crashD; rw [if_neg (by simp)]
                      have HC := Lib.hid (HK1.out.call 14 #[.pointer (some ⟨w.heap.size, 0, none⟩)] (0, ⟨f, true, none⟩) (fun hd hb => by rw [← hr]; exact crash_any _ hd))
                      clear HK1 hr
                      go_wp2_with (go_at_call 14; refine HC.out.mono ?_)
                      first | rintro e w4 rfl hq | rintro e w4 ⟨rfl, hq⟩
                      obtain ⟨vp', hk⟩ := hq.out
                      obtain ⟨z0, z1, z2⟩ := act_cells hk.2
                      clear hq HC
                      have HKF := Lib.hid hk
                      clear hk
                      go_wp2_with fail
                      go_meet
                      exact ⟨rfl, rfl, ⟨f, true, none⟩, vp', _, _, m, 0, false, rfl, rfl, rfl, rfl, HKF, Lib.hid (by unfold OC; simp)⟩
                  obtain rfl : d = 5 := by have := HD.out; omega
                  clear d0 d1 d2 d3 d4
                  as_aux_lemma =>
                    have hr : upD ⟨f, false, some m⟩ = (2, ⟨f, false, some m⟩) := by rfl
                    have HC := Lib.hid (HK1.out.call 20 #[.pointer (some ⟨w.heap.size, 0, none⟩)] (2, ⟨f, false, some m⟩) (fun hd hb => by rw [← hr]; exact up_any _ hd))
                    clear HK1 hr
                    go_wp2_with (go_at_call 20; refine HC.out.mono ?_)
                    first | rintro e w4 rfl hq | rintro e w4 ⟨rfl, hq⟩
                    obtain ⟨vp', hk⟩ := hq.out
                    obtain ⟨z0, z1, z2⟩ := act_cells hk.2
                    clear hq HC
                    have HKF := Lib.hid hk
                    clear hk
                    go_wp2_with fail
                    go_meet
                    exact ⟨rfl, rfl, ⟨f, false, some m⟩, vp', _, _, m, 2, true, rfl, rfl, rfl, rfl, HKF, Lib.hid (by unfold OC; simp)⟩
              case true =>
                obtain rfl := hI.out.1 rfl
                by_cases d0 : d = 0
                · subst d0
                  as_aux_lemma =>
                    have hr : appD ⟨f, true, none⟩ xb = (60, ⟨f, true, none⟩) := by unfold appD; rw [if_pos rfl]
                    have HC := Lib.hid (HK1.out.call 17 #[.pointer (some ⟨w.heap.size, 0, none⟩), .slice ob xb.length cb] (60, ⟨f, true, none⟩) (fun hd hb => by rw [← hr]; exact append_any _ hd hb (HX.out.below HKW.out)))
                    clear HK1 hr
                    go_wp2_with (go_at_call 17; refine HC.out.mono ?_)
                    first | rintro e w4 rfl hq | rintro e w4 ⟨rfl, hq⟩
                    obtain ⟨vp', hk⟩ := hq.out
                    obtain ⟨z0, z1, z2⟩ := act_cells hk.2
                    clear hq HC
                    have HKF := Lib.hid hk
                    clear hk
                    go_wp2_with fail
                    go_meet
                    exact ⟨rfl, rfl, ⟨f, true, none⟩, vp', _, _, k, 60, false, rfl, rfl, rfl, rfl, HKF, Lib.hid (by unfold OC; simp)⟩
                by_cases d1 : d = 1
                · subst d1
                  as_aux_lemma =>
                    have hr : swapD ⟨f, true, none⟩ xb = (60, ⟨f, true, none⟩) := by unfold swapD; rw [if_pos rfl]
                    have HC := Lib.hid (HK1.out.call 13 #[.pointer (some ⟨w.heap.size, 0, none⟩), .slice ob xb.length cb] (60, ⟨f, true, none⟩) (fun hd hb => by rw [← hr]; exact swap_any _ hd hb (HX.out.below HKW.out)))
                    clear HK1 hr
                    go_wp2_with (go_at_call 13; refine HC.out.mono ?_)
                    first | rintro e w4 rfl hq | rintro e w4 ⟨rfl, hq⟩
                    obtain ⟨vp', hk⟩ := hq.out
                    obtain ⟨z0, z1, z2⟩ := act_cells hk.2
                    clear hq HC
                    have HKF := Lib.hid hk
                    clear hk
                    go_wp2_with fail
                    go_meet
                    exact ⟨rfl, rfl, ⟨f, true, none⟩, vp', _, _, k, 60, false, rfl, rfl, rfl, rfl, HKF, Lib.hid (by unfold OC; simp)⟩
                by_cases d2 : d = 2
                · subst d2
                  as_aux_lemma =>
                    have hr : cutD ⟨f, true, none⟩ n = (60, ⟨f, true, none⟩) := by unfold cutD; rw [if_pos rfl]
                    have HC := Lib.hid (HK1.out.call 18 #[.pointer (some ⟨w.heap.size, 0, none⟩), .int .i64 n] (60, ⟨f, true, none⟩) (fun hd hb => by rw [← hr]; exact cut_any n _ hd))
                    clear HK1 hr
                    go_wp2_with (go_at_call 18; refine HC.out.mono ?_)
                    first | rintro e w4 rfl hq | rintro e w4 ⟨rfl, hq⟩
                    obtain ⟨vp', hk⟩ := hq.out
                    obtain ⟨z0, z1, z2⟩ := act_cells hk.2
                    clear hq HC
                    have HKF := Lib.hid hk
                    clear hk
                    go_wp2_with fail
                    go_meet
                    exact ⟨rfl, rfl, ⟨f, true, none⟩, vp', _, _, k, 60, false, rfl, rfl, rfl, rfl, HKF, Lib.hid (by unfold OC; simp)⟩
                by_cases d3 : d = 3
                · subst d3
                  as_aux_lemma =>
                    have hr : armD ⟨f, true, none⟩ n = (60, ⟨f, true, none⟩) := by unfold armD; rw [if_pos rfl]
                    have HC := Lib.hid (HK1.out.call 19 #[.pointer (some ⟨w.heap.size, 0, none⟩), .int .i64 n] (60, ⟨f, true, none⟩) (fun hd hb => by rw [← hr]; exact arm_any n _ hd))
                    clear HK1 hr
                    go_wp2_with (go_at_call 19; refine HC.out.mono ?_)
                    first | rintro e w4 rfl hq | rintro e w4 ⟨rfl, hq⟩
                    obtain ⟨vp', hk⟩ := hq.out
                    obtain ⟨z0, z1, z2⟩ := act_cells hk.2
                    clear hq HC
                    have HKF := Lib.hid hk
                    clear hk
                    go_wp2_with fail
                    go_meet
                    exact ⟨rfl, rfl, ⟨f, true, none⟩, vp', _, _, k, 60, false, rfl, rfl, rfl, rfl, HKF, Lib.hid (by unfold OC; simp)⟩
                by_cases d4 : d = 4
                · subst d4
                  as_aux_lemma =>
                    have hr : crashD ⟨f, true, none⟩ = (60, ⟨f, true, none⟩) := by unfold crashD; rw [if_pos rfl]
                    have HC := Lib.hid (HK1.out.call 14 #[.pointer (some ⟨w.heap.size, 0, none⟩)] (60, ⟨f, true, none⟩) (fun hd hb => by rw [← hr]; exact crash_any _ hd))
                    clear HK1 hr
                    go_wp2_with (go_at_call 14; refine HC.out.mono ?_)
                    first | rintro e w4 rfl hq | rintro e w4 ⟨rfl, hq⟩
                    obtain ⟨vp', hk⟩ := hq.out
                    obtain ⟨z0, z1, z2⟩ := act_cells hk.2
                    clear hq HC
                    have HKF := Lib.hid hk
                    clear hk
                    go_wp2_with fail
                    go_meet
                    exact ⟨rfl, rfl, ⟨f, true, none⟩, vp', _, _, k, 60, false, rfl, rfl, rfl, rfl, HKF, Lib.hid (by unfold OC; simp)⟩
                obtain rfl : d = 5 := by have := HD.out; omega
                clear d0 d1 d2 d3 d4
                as_aux_lemma =>
                  have hr : upD ⟨f, true, none⟩ = (0, ⟨f, false, none⟩) := by rfl
                  have HC := Lib.hid (HK1.out.call 20 #[.pointer (some ⟨w.heap.size, 0, none⟩)] (0, ⟨f, false, none⟩) (fun hd hb => by rw [← hr]; exact up_any _ hd))
                  clear HK1 hr
                  go_wp2_with (go_at_call 20; refine HC.out.mono ?_)
                  first | rintro e w4 rfl hq | rintro e w4 ⟨rfl, hq⟩
                  obtain ⟨vp', hk⟩ := hq.out
                  obtain ⟨z0, z1, z2⟩ := act_cells hk.2
                  clear hq HC
                  have HKF := Lib.hid hk
                  clear hk
                  go_wp2_with fail
                  go_meet
                  exact ⟨rfl, rfl, ⟨f, false, none⟩, vp', _, _, k, 0, false, rfl, rfl, rfl, rfl, HKF, Lib.hid (by unfold OC; simp)⟩
            case rest =>
              obtain ⟨rfl, rfl, ⟨F, dn', ar'⟩, vp', o', c', k', r1, am, rfl, rfl, rfl, rfl, hK', hO⟩ := hcut
              obtain ⟨z0, z1, z2⟩ := act_cells hK'.out.2
              have INV : Hid (IV ⟨F, dn', ar'⟩ k') := Lib.hid ⟨hO.out.2.2.2.2.1, hO.out.2.2.2.2.2⟩
              clear hI HK1 HKW
              go_upto_region 45 with fail
              go_cut [11, 12, 13] from 145 to 155 (fun s11 s12 s13 wx => s11 = .bool dn ∧ s12 = .int .i64 r1 ∧ ∃ tn : Bool, s13 = .bool tn ∧ Hid (TN3 tn d r1 dn) ∧ Hid (K1 w w.heap.size wr.heap.size #[.int .i64 d, .slice ob xb.length cb, .int .i64 n] ⟨F, dn', ar'⟩ vp' (.slice o' F.length c') F wx))
              case first => as_aux_lemma =>
                by_cases b3 : d < 3
                · have t3 : decide (d < 3) = true := decide_eq_true b3
                  by_cases b60 : r1 = 60
                  · subst b60
                    have B3 := Lib.hid b3
                    clear b3 hO
                    cases dn
                    case false =>
                      go_wp2_with fail
                      go_meet
                      exact ⟨rfl, rfl, true, rfl, Lib.hid (tn3_yes B3.out), hK'⟩
                    case true =>
                      go_wp2_with fail
                      go_meet
                      exact ⟨rfl, rfl, false, rfl, Lib.hid (tn3_no (fun h => by cases h.2.2)), hK'⟩
                  · have t60 : (r1 == 60) = false := by simpa using b60
                    have EB : Hid (¬ r1 = 60) := Lib.hid b60
                    clear b3 b60 hO
                    go_wp2_with fail
                    go_meet
                    exact ⟨rfl, rfl, false, rfl, Lib.hid (tn3_no (fun h => absurd h.2.1 EB.out)), hK'⟩
                · have t3 : decide (d < 3) = false := decide_eq_false b3
                  have EB : Hid (¬ d < 3) := Lib.hid b3
                  clear b3 hO
                  go_wp2_with fail
                  go_meet
                  exact ⟨rfl, rfl, false, rfl, Lib.hid (tn3_no (fun h => by have h1 := h.1; have := EB.out; omega)), hK'⟩
              case rest =>
                obtain ⟨rfl, rfl, tn, rfl, HTT, hK2⟩ := hcut
                obtain ⟨z0, z1, z2⟩ := act_cells hK2.out.2
                clear hK'
                go_upto_region 46 with fail
                go_cut [8, 11, 12, 13, 187] from 156 to 187 (fun s8 s11 s12 s13 s187 wx => s8 = .bool am ∧ s11 = .bool dn ∧ s12 = .int .i64 r1 ∧ s13 = .bool tn ∧ s187 = .bool false ∧ Hid (K1 w w.heap.size wr.heap.size #[.int .i64 d, .slice ob xb.length cb, .int .i64 n] ⟨F, dn', ar'⟩ vp' (.slice o' F.length c') F wx))
                case first => as_aux_lemma =>
                  have OCF := hO.out
                  clear hO INV
                  cases tn
                  case true =>
                    have bt := HTT.out.1 rfl
                    obtain ⟨rfl, _⟩ := OCF.1 bt
                    obtain ⟨b3, rfl, rfl⟩ := bt
                    have t3 : decide (d < 3) = true := decide_eq_true b3
                    have t5 : decide (d < 5) = true := decide_eq_true (by omega)
                    clear OCF b3 HTT
                    go_wp2_with fail
                    go_meet
                    exact ⟨rfl, rfl, rfl, rfl, rfl, hK2⟩
                  case false =>
                    have bt : ¬ (d < 3 ∧ r1 = 60 ∧ dn = false) := fun h => by cases HTT.out.2 h
                    by_cases b3 : d < 3
                    · have t3 : decide (d < 3) = true := decide_eq_true b3
                      have t5 : decide (d < 5) = true := decide_eq_true (by omega)
                      by_cases b0 : r1 = 0
                      · subst b0
                        obtain ⟨rfl, rfl⟩ := OCF.2.2.1 b3 rfl
                        clear HTT OCF b3 bt
                        go_wp2_with fail
                        go_meet
                        exact ⟨rfl, rfl, rfl, rfl, rfl, hK2⟩
                      · have t0 : (r1 == 0) = false := by simpa using b0
                        cases dn
                        case false =>
                          clear HTT OCF b3 bt b0
                          go_wp2_with fail
                          go_meet
                          exact ⟨rfl, rfl, rfl, rfl, rfl, hK2⟩
                        case true =>
                          obtain rfl := OCF.2.2.2.1 rfl (by omega)
                          clear HTT OCF b3 bt b0
                          go_wp2_with fail
                          go_meet
                          exact ⟨rfl, rfl, rfl, rfl, rfl, hK2⟩
                    · have t3 : decide (d < 3) = false := decide_eq_false b3
                      cases dn
                      case false =>
                        clear HTT OCF b3 bt
                        go_wp2_with fail
                        go_meet
                        exact ⟨rfl, rfl, rfl, rfl, rfl, hK2⟩
                      case true =>
                        by_cases b5 : d < 5
                        · have t5 : decide (d < 5) = true := decide_eq_true b5
                          obtain rfl := OCF.2.2.2.1 rfl b5
                          clear HTT OCF b3 bt b5
                          go_wp2_with fail
                          go_meet
                          exact ⟨rfl, rfl, rfl, rfl, rfl, hK2⟩
                        · have t5 : decide (d < 5) = false := decide_eq_false b5
                          clear HTT OCF b3 bt b5
                          go_wp2_with fail
                          go_meet
                          exact ⟨rfl, rfl, rfl, rfl, rfl, hK2⟩
                case rest =>
                  obtain ⟨rfl, rfl, rfl, rfl, rfl, hK3⟩ := hcut
                  clear hK2 z0 z1 z2
                  have HTN : Hid ((tn = true → ar' = none) ∧ (tn = false → am = ar'.isSome)) := Lib.hid ⟨fun h => (hO.out.1 (HTT.out.1 h)).2, fun h => hO.out.2.1 (fun h2 => by rw [HTT.out.2 h2] at h; cases h)⟩
                  clear hO HTT
                  go_upto_if 188 with fail
                  go_cut [8, 13] from 188 to 188 (fun s8 s13 wx => s8 = .bool ar'.isSome ∧ s13 = .bool tn ∧ Hid (K1 w w.heap.size wr.heap.size #[.int .i64 d, .slice ob xb.length cb, .int .i64 n] ⟨F, dn', ar'⟩ vp' (.slice o' F.length c') F wx))
                  case first => as_aux_lemma =>
                    cases tn
                    case false =>
                      have E2 := Lib.hid (HTN.out.2 rfl)
                      clear HTN INV
                      go_wp2_with fail
                      go_meet
                      exact ⟨by rw [E2.out], rfl, hK3⟩
                    case true =>
                      have E2 := Lib.hid (HTN.out.1 rfl)
                      clear HTN INV
                      go_wp2_with fail
                      go_meet
                      exact ⟨by rw [E2.out]; rfl, rfl, hK3⟩
                  case rest =>
                    obtain ⟨rfl, rfl, hK4⟩ := hcut
                    clear hK3 HTN
                    have HBY := Lib.hid hK4.out.1.asks.1
                    have HK4 := hK4
                    clear hK4
                    cases dn'
                    case false => as_aux_lemma =>
                      rw [show byD ⟨F, false, ar'⟩ = F from rfl, show beD ⟨F, false, ar'⟩ = 0 from rfl] at HBY
                      go_wp2_with (go_at_call 16; refine HBY.out.mono ?_)
                      rintro e w8 ⟨ox, cx, rfl, hq⟩
                      have HK5 := Lib.hid (HK4.out.below hq.out.2)
                      have hcv1 := run_str w8 _ ox _ cx hq.out.1
                      have hcv2 := run_str w8 _ _ _ _ HK5.out.1.asks.2.2.2
                      have HLN := Lib.hid HK5.out.1.asks.2.1
                      have HDN := Lib.hid HK5.out.1.asks.2.2.1
                      clear hq HBY HK4
                      go_wp2_with (first | (go_at_call 22; refine HLN.out.mono ?_; rintro e w9 ⟨rfl, rfl⟩) | (go_at_call 21; refine HDN.out.mono ?_; rintro e w9 ⟨rfl, rfl⟩))
                      go_roundw
                      case rel => exact ⟨j + 1, k', ⟨F, false, ar'⟩, vp', _, _, by omega, by go_num, rfl, rfl, rfl, Lib.hid HK5.out.1, INV⟩
                      case measure => simp [intOf]; omega
                    case true => as_aux_lemma =>
                      rw [show byD ⟨F, true, ar'⟩ = [] from rfl, show beD ⟨F, true, ar'⟩ = 60 from rfl] at HBY
                      go_wp2_with (go_at_call 16; refine HBY.out.mono ?_)
                      first | rintro e w8 ox cx rfl hq | rintro e w8 ⟨ox, cx, rfl, hq⟩
                      have HK5 := Lib.hid (HK4.out.below hq.out.2)
                      have hcv1 := run_str w8 _ ox _ cx hq.out.1
                      have hcv2 := run_str w8 _ _ _ _ HK5.out.1.asks.2.2.2
                      have HLN := Lib.hid HK5.out.1.asks.2.1
                      have HDN := Lib.hid HK5.out.1.asks.2.2.1
                      clear hq HBY HK4
                      go_wp2_with (first | (go_at_call 22; refine HLN.out.mono ?_; rintro e w9 ⟨rfl, rfl⟩) | (go_at_call 21; refine HDN.out.mono ?_; rintro e w9 ⟨rfl, rfl⟩))
                      go_roundw
                      case rel => exact ⟨j + 1, k', ⟨F, true, ar'⟩, vp', _, _, by omega, by go_num, rfl, rfl, rfl, Lib.hid HK5.out.1, INV⟩
                      case measure => simp [intOf]; omega
      · obtain rfl : j = l.length := by omega
        have HW := Lib.hid (wakes_hid w wr hK.out.2.2.2)
        clear hK hI
        go_wp2_with (go_at_call 8; refine HW.out.mono ?_)
        rintro e w2 ⟨rfl, hq⟩
        go_wp2_with fail
        go_ret
        exact ⟨rfl, hq.out⟩
end Go.Proofs.Ytmajlanncchbnaa
