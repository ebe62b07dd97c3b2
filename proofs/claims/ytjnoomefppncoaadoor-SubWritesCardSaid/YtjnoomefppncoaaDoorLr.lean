/-
  The statement SubJoin: both texts are good.
-/
import Derived.Test.YtjnoomefppncoaaDoorLp
set_option linter.unusedVariables false
namespace Go.Proofs.YtjnoomefppncoaaDoor
open Go.RowKit Go.Shelf

theorem add_z (g j : Nat) : (⟨g, 0, none⟩ : Addr).add j = ⟨g, j, none⟩ := by unfold Addr.add; split <;> simp_all
/-- The row that the law joins, behind j parts. -/
def JW (w3 : World) (N L : List X) (j n c : Nat) (o : Option Addr) (wr : World) : Prop :=
  (joinW N L j).length = n ∧ wr.ownsRow w3.heap.size 36 6 (.slice o n c) n (xcells (joinW N L j).reverse) ∧ Below w3.heap.size w3 wr
theorem below_grown {B : Nat} {a W W' : World} {row : Option Nat} (h : Below B a W) (hB : B ≤ W.heap.size) (hg : W.grownBy W' row) (hr : ∀ r, row = some r → B ≤ r) : Below B a W' :=
  ⟨hg.os.trans h.os, hg.tape.trans h.tape, hg.output.trans h.output, Nat.le_trans h.size hg.size, fun k hk => (hg.block k (by omega) (fun e => by have := hr k e.symm; omega)).trans (h.block k hk)⟩
theorem JW.below {w3 : World} {N L : List X} {j n c : Nat} {o : Option Addr} {wr W : World} (h : JW w3 N L j n c o wr) (hb : Below wr.heap.size wr W) : JW w3 N L j n c o W :=
  ⟨h.1, h.2.1.kept (row := none) ⟨hb.os, hb.tape, hb.output, hb.size, fun k hk _ => hb.block k hk⟩ (by cases (Value.slice o n c).ownBlock <;> simp), h.2.2.trans (hb.mono h.2.2.size)⟩
theorem JW.drew {w3 : World} {N L : List X} {j n c : Nat} {o : Option Addr} {W : World} (h : JW w3 N L j n c o W) : JW w3 N L j n c o W.drew := ⟨h.1, h.2.1, ⟨h.2.2.os, h.2.2.tape, h.2.2.output, h.2.2.size, h.2.2.block⟩⟩
theorem JW.app {w3 : World} {N L : List X} {j n c c' : Nat} {o o' : Option Addr} {W w6 : World} {x : X} (h : JW w3 N L j n c o W)
    (own : w6.ownsRow w3.heap.size 36 6 (.slice o' (n + 1) c') (n + 1) (xcells (joinW N L j).reverse ++ x.cs)) (gr : W.grownBy w6 (Value.slice o n c).ownBlock) (hx : joinW N L (j + 1) = x :: joinW N L j) : JW w3 N L (j + 1) (n + 1) c' o' w6 := by
  refine ⟨by rw [hx, List.length_cons, h.1], ?_, below_grown h.2.2 h.2.2.size gr (fun r e => (h.2.1.lt r e).1)⟩
  rw [hx, List.reverse_cons, xcells_snoc]
  exact own
theorem JW.put {w3 : World} {N L : List X} {j m c : Nat} {g : Nat} {W w6 : World} {x y : X} {M : List X} (h : JW w3 N L j (m + 1) c (some ⟨g, 0, none⟩) W) (hL : joinW N L j = y :: M) (hy : y.isT = true) (ht : x.isT = true)
    (own : w6.ownsRow w3.heap.size 36 6 (.slice (some ⟨g, 0, none⟩) (m + 1) c) (m + 1) (((((((xcells (joinW N L j).reverse).set (m * 6) (.int .i8 0)).set (m * 6 + 1) (.string (bs y.t ++ bs x.t))).set (m * 6 + 2) (.int .i64 0)).set (m * 6 + 3) (.string ⟨#[]⟩)).set (m * 6 + 4) (.string ⟨#[]⟩)).set (m * 6 + 5) (.slice none 0 0)))
    (gr : W.grownBy w6 (some g)) (hx : joinW N L (j + 1) = .text (y.t ++ x.t) :: M) : JW w3 N L (j + 1) (m + 1) c (some ⟨g, 0, none⟩) w6 := by
  have hlen : M.length = m := by have := h.1; rw [hL, List.length_cons] at this; omega
  refine ⟨by rw [hx, List.length_cons, hlen], ?_, below_grown h.2.2 h.2.2.size gr (fun r e => by cases e; exact (h.2.1.lt g rfl).1)⟩
  have e1 : xcells (joinW N L j).reverse = xcells M.reverse ++ [.int .i8 y.k, .string (bs y.t), .int .i64 0, .string (bs y.m), .string (bs y.a), .slice none 0 0] := by rw [hL, List.reverse_cons, xcells_snoc]; rfl
  rw [e1, set_six _ _ _ _ _ _ _ _ _ _ _ _ _ _ (by rw [xcells_len, List.length_reverse, hlen])] at own
  rw [hx, List.reverse_cons, xcells_snoc]
  have e2 : (X.text (y.t ++ x.t)).cs = [.int .i8 0, .string (bs y.t ++ bs x.t), .int .i64 0, .string ⟨#[]⟩, .string ⟨#[]⟩, .slice none 0 0] := by rw [bs_app]; rfl
  rw [e2]
  exact own
theorem JW.last {w3 : World} {N L : List X} {j m c : Nat} {o : Option Addr} {W : World} {y : X} {M : List X} (h : JW w3 N L j (m + 1) c o W) (hL : joinW N L j = y :: M) :
    ∃ g, o = some ⟨g, 0, none⟩ ∧ W.cell? ⟨g, m * 6, none⟩ = some (.int .i8 y.k) ∧ W.cell? ⟨g, m * 6 + 1, none⟩ = some (.string (bs y.t)) := by
  have hlen : M.length = m := by have := h.1; rw [hL, List.length_cons] at this; omega
  have hown := h.2.1
  rcases hown.2 with ⟨h0, _⟩ | ⟨g, cap, cur, hv, _⟩
  · simp at h0
  simp only [Value.slice.injEq, true_and] at hv
  obtain ⟨rfl, rfl⟩ := hv
  have hM : (xcells M.reverse).length = m * 6 := by rw [xcells_len, List.length_reverse, hlen]
  have hx : xcells (joinW N L j).reverse = xcells M.reverse ++ y.cs := by rw [hL, List.reverse_cons, xcells_snoc]
  have key : ∀ i u, i < 6 → y.cs[i]? = some u → W.cell? ⟨g, m * 6 + i, none⟩ = some u := fun i u hi hu => by
    rw [hown.cellAt (m * 6 + i) (by omega), hx, List.getElem?_append_right (by omega), hM, Nat.add_sub_cancel_left]
    exact hu
  exact ⟨g, rfl, key 0 _ (by omega) rfl, key 1 _ (by omega) rfl⟩

set_option maxRecDepth 100000 in
set_option maxHeartbeats 8000000 in
theorem subJoin_good (s t : ByteArray) (w : World) (hs : s.size ≤ 1000) (ht : t.size ≤ 1000) (hcase : s.size = 0 ∨ ∃ n, ∃ h : n < s.size, s.size = n + 1 ∧ ((((s[n]'h).toNat : Nat) : Int) == 36) = false)
    (HW : Hid (∀ W, Hid (Below w.heap.size w W) → Calls Tryd.prog 8 #[] W fun e w' => e = .returned (.bool true) ∧ Below W.heap.size W w'))
    (L N : List X) (hL : L.length ≤ 4096) (hN : N.length ≤ 1000) (hnice : nice N) (htx : ∀ x ∈ L, x.t.length ≤ 100000) (htn : ∀ x ∈ N, x.t.length ≤ 100000) 
    (HS : Hid (Calls Tryd.prog 9 #[.string s] w fun e w' => ∃ v, e = .returned (.tuple #[v, .int .i64 0, .int .i64 0]) ∧ isXr w' L.reverse v ∧ Below w.heap.size w w'))
    (HT : Hid (∀ W, Hid (Below w.heap.size w W) → Calls Tryd.prog 9 #[.string t] W fun e w' => ∃ v, e = .returned (.tuple #[v, .int .i64 0, .int .i64 0]) ∧ isXr w' N.reverse v ∧ Below W.heap.size W w'))
    (HST : Hid (∀ W, Hid (Below w.heap.size w W) → Calls Tryd.prog 9 #[.string (s ++ t)] W fun e w' => ∃ v, e = .returned (.tuple #[v, .int .i64 0, .int .i64 0]) ∧ isXr w' (N.foldr addR L).reverse v ∧ Below W.heap.size W w')) :
    Calls Tryd.prog 7 #[.string s, .string t] w fun e w' => e = .returned (.bool true) ∧ Below w.heap.size w w' := by
  have hc1 : ¬ (1000 : Int) < (s.size : Int) := by omega
  have hc2 : ¬ (1000 : Int) < (t.size : Int) := by omega
  have hsum : s.size + t.size ≤ 9223372036854775807 := by omega
  rcases hcase with h0 | ⟨n, hn, hn1, hq⟩
  all_goals first
    | (have hc3 : ¬ (0 : Int) < (s.size : Int) := by omega)
    | (have hc3 : (0 : Int) < (s.size : Int) := by omega
       have hi1 : (0 : Int) ≤ (s.size : Int) - 1 := by omega
       have hi2 : (s.size : Int) - 1 < (s.size : Int) := by omega
       have hi3 : ((s.size : Int) - 1).toNat = n := by omega)
  all_goals
    go_enter Tryd.func7, Tryd.ntmps7
    go_wp2_with fail
    go_at_call 9
    refine HS.out.mono ?_
    rintro e w1 ⟨v1, rfl, hx1, hb1⟩
    have HB1 := Lib.hid hb1
    have HX1 := Lib.hid hx1
    clear hb1 hx1
    go_wp2_with fail
    go_at_call 9
    refine (HT.out w1 HB1).mono ?_
    rintro e w2 ⟨v2, rfl, hx2, hb2⟩
    have HB2 := Lib.hid (HB1.out.trans (hb2.mono HB1.out.size))
    have HX1b := Lib.hid (HX1.out.below hb2)
    have HX2 := Lib.hid hx2
    clear hb2 hx2 HX1 HB1
    go_wp2_with fail
    go_at_call 9
    refine (HST.out w2 HB2).mono ?_
    rintro e w3 ⟨v3, rfl, hx3, hb3⟩
    have HB3 := Lib.hid (HB2.out.trans (hb3.mono HB2.out.size))
    have HX1 := Lib.hid (HX1b.out.below hb3)
    have HX2c := Lib.hid (HX2.out.below hb3)
    have HX3 := Lib.hid hx3
    clear hb3 hx3 HX1b HX2 HB2
    obtain ⟨i0, hi, hz0, hz1, hz2⟩ := info_parts infoX
    obtain ⟨o1, g1, c1, hv1, a1, a2, a3, a4⟩ := HX1.out
    obtain ⟨o2, g2, c2, hv2, b1, b2, b3, b4⟩ := HX2c.out
    rw [List.length_reverse] at hv1 a1 a3 hv2 b1 b3
    subst hv1 hv2
    have HA1 : Hid ((0 < L.length → o1 = some ⟨g1, 0, none⟩) ∧ ∀ j u, (xcells L.reverse)[j]? = some u → w3.cell? ((⟨g1, 0, none⟩ : Addr).add j) = some u) := Lib.hid ⟨a3, fun j u hj => by rw [add_z]; exact a4 j u hj⟩
    have HB2 := Lib.hid (And.intro b3 b4)
    clear a3 a4 b3 b4 HX1 HX2c HT HST HS
    go_wp2_with (at_builtin; refine wpList_append_row_at rfl _ _ 23 rfl w3.heap.size 36 i0 zeroX 6 88 Tryd.underlying23 hi hz0 hz1 hz2 rfl (by decide) (.slice none 0 0) 0 [] rfl (World.ownsRow_nil _ _ _ _) o1 ⟨g1, 0, none⟩ L.length c1 (xcells L.reverse) rfl HA1.out.1 (by rw [xcells_len, List.length_reverse]) HA1.out.2 (xcells_one _) (by unfold maxLen; omega) (by omega) (Nat.le_refl _) ?_; intro o4 c4 w4 own4 gr4 at4)
    have HJ0 : Hid (JW w3 N L 0 L.length c4 o4 w4) := Lib.hid (by
      rw [Nat.zero_add, List.nil_append] at own4
      exact ⟨by rw [joinW_zero], by rw [joinW_zero]; exact own4, below_grown (Below.refl _ _) (Nat.le_refl _) gr4 (fun r e => by cases e)⟩)
    clear own4 gr4 at4 HA1
    go_wp2_with fail
    go_loopw [14, 88] (fun wv jv wr => ∃ (j n c : Nat) (o : Option Addr), j ≤ N.length ∧ jv = .int .i64 j ∧ wv = .slice o n c ∧ Hid (JW w3 N L j n c o wr)) (fun _ jv _ => N.length - (intOf jv).toNat)
    case atStart => exact ⟨0, L.length, c4, o4, Nat.zero_le _, rfl, by simp, HJ0⟩
    case round =>
      obtain ⟨j, n, c, o, hj, rfl, rfl, HJ⟩ := hrel
      clear HJ0
      by_cases hlt : j < N.length
      · obtain rfl := HB2.out.1 (by omega)
        have hjr : j < N.reverse.length := by rw [List.length_reverse]; exact hlt
        have hcw : ∀ i u, (xcells N.reverse)[i]? = some u → wr.cell? ⟨g2, i, none⟩ = some u := fun i u hi => (HJ.out.2.2.cell (p := ⟨g2, i, none⟩) (World.block_lt_of_cell? w3 _ (HB2.out.2 i u hi))).trans (HB2.out.2 i u hi)
        obtain ⟨x0, x1, x2, x3, x4, x5⟩ := xr_six hcw j hjr
        have hJS := joinW_succ N L j hjr
        have hnl : n ≤ L.length + j := by rw [← HJ.out.1]; exact joinW_len N L j
        have hwr : w3.heap.size ≤ wr.heap.size := HJ.out.2.2.size
        have hxm : N.reverse[j] ∈ N := by rw [← List.mem_reverse]; exact List.getElem_mem _
        have hxT : N.reverse[j].isT = true → N.reverse[j].t ≠ [] := fun hT => nice_mem hnice _ hxm hT
        have hxt := htn _ hxm
        have hlti : (j : Int) < (N.length : Int) := by omega
        have hmore : ∀ i, j = i + 1 → joinW N L (j + 1) = N.reverse[j] :: joinW N L j := fun i e => by subst e; exact joinW_more N L hnice i hjr
        clear hcw hxm
        generalize N.reverse[j] = x at *
        have hxk : ((x.k : Int) == 0) = x.isT := by cases x <;> rfl
        have NEWS : Hid (∀ ob, ∀ j u, x.cs[j]? = some u → ((wr.alloc ob).alloc (.cells #[.int .i8 x.k, .string (bs x.t), .int .i64 0, .string (bs x.m), .string (bs x.a), .slice none 0 0] 36)).cell? ((⟨wr.heap.size + 1, 0, none⟩ : Addr).add j) = some u) := Lib.hid fun ob j u hu => by
          have hz : (wr.alloc ob).heap.size = wr.heap.size + 1 := by simp
          rw [← hz]; exact news_cs x j u hu
        have HJ1 : Hid (∀ ob, JW w3 N L j n c o (wr.alloc ob)) := Lib.hid fun ob => HJ.out.below ((Below.refl _ _).alloc (Nat.le_refl _) _)
        have HJ2 : Hid (∀ ob ob', JW w3 N L j n c o ((wr.alloc ob).alloc ob')) := Lib.hid fun ob ob' => (HJ1.out ob).below ((Below.refl _ _).alloc (Nat.le_refl _) _)
        rcases j with _ | i
        · have hj0 := joinW_zero N L
          rw [hj0] at hJS
          rcases n with _ | m
          · have hL0 : L = [] := by have := HJ.out.1; rw [hj0] at this; exact List.eq_nil_of_length_eq_zero this
            have hxe : joinW N L (0 + 1) = x :: joinW N L 0 := by rw [hJS, hj0]; exact addR_cons _ _ (fun hT => ⟨hxT hT, fun y hy => by rw [hL0] at hy; cases hy⟩)
            have HXE := Lib.hid hxe
            clear hxe hJS hmore hj0 HJ hxT hL0
            go_wp2_with (at_builtin; refine wpList_append_row_at rfl _ _ 23 rfl w3.heap.size 36 i0 zeroX 6 88 Tryd.underlying23 hi hz0 hz1 hz2 rfl (by decide) _ 0 (xcells (joinW N L 0).reverse) rfl (HJ2.out _ _).2.1 (some ⟨wr.heap.size + 1, 0, none⟩) ⟨wr.heap.size + 1, 0, none⟩ 1 1 x.cs rfl (fun _ => rfl) rfl (NEWS.out _) (ones_cs x) (by unfold maxLen; omega) (by omega) (by simp; omega) ?_; intro o6 c6 w6 own6 gr6 at6)
            have HG := Lib.hid ((HJ2.out _ _).app own6 gr6 HXE.out)
            clear own6 gr6 at6
            go_wp2_with fail
            go_roundw
            case rel => exact ⟨0 + 1, 0 + 1, c6, o6, by omega, by go_num, rfl, HG⟩
            case measure => simp [intOf]; omega
          · obtain ⟨y, M, hLy⟩ : ∃ y M, L = y :: M := by
              have := HJ.out.1
              rw [hj0] at this
              cases hL2 : L with
              | nil => rw [hL2] at this; cases this
              | cons y M => exact ⟨y, M, rfl⟩
            obtain ⟨g, hog, d0, d1⟩ := HJ.out.last (hj0.trans hLy)
            subst hog
            have hg : g < wr.heap.size := World.block_lt_of_cell? wr _ d0
            have d0a : ∀ ob, (wr.alloc ob).cell? ⟨g, m * 6, none⟩ = some (.int .i8 y.k) := fun ob => (((Below.refl wr.heap.size wr).alloc (Nat.le_refl _) ob).cell (p := ⟨g, m * 6, none⟩) hg).trans d0
            have d1a : ∀ ob, (wr.alloc ob).cell? ⟨g, m * 6 + 1, none⟩ = some (.string (bs y.t)) := fun ob => (((Below.refl wr.heap.size wr).alloc (Nat.le_refl _) ob).cell (p := ⟨g, m * 6 + 1, none⟩) hg).trans d1
            have hyk : ((y.k : Int) == 0) = y.isT := by cases y <;> rfl
            have hyt := htx y (by rw [hLy]; simp)
            have h0m : (0 : Int) ≤ (m : Int) + 1 := by omega
            cases hT : x.isT with
            | false =>
              rw [hT] at hxk
              have hxe : joinW N L (0 + 1) = x :: joinW N L 0 := by rw [hJS, hj0]; exact addR_cons _ _ (fun e => by rw [hT] at e; cases e)
              have HXE := Lib.hid hxe
              clear hxe hJS hmore hj0 HJ hxT hT hLy d0 d1 hyk hyt
              go_wp2_with (at_builtin; refine wpList_append_row_at rfl _ _ 23 rfl w3.heap.size 36 i0 zeroX 6 88 Tryd.underlying23 hi hz0 hz1 hz2 rfl (by decide) _ (m + 1) (xcells (joinW N L 0).reverse) rfl (HJ2.out _ _).2.1 (some ⟨wr.heap.size + 1, 0, none⟩) ⟨wr.heap.size + 1, 0, none⟩ 1 1 x.cs rfl (fun _ => rfl) rfl (NEWS.out _) (ones_cs x) (by unfold maxLen; omega) (by omega) (by simp; omega) ?_; intro o6 c6 w6 own6 gr6 at6)
              have HG := Lib.hid ((HJ2.out _ _).app own6 gr6 HXE.out)
              clear own6 gr6 at6
              go_wp2_with fail
              go_roundw
              case rel => exact ⟨0 + 1, m + 1 + 1, c6, o6, by omega, by go_num, rfl, HG⟩
              case measure => simp [intOf]; omega
            | true =>
              rw [hT] at hxk
              cases hTy : y.isT with
              | false =>
                rw [hTy] at hyk
                have hxe : joinW N L (0 + 1) = x :: joinW N L 0 := by rw [hJS, hj0]; exact addR_cons _ _ (fun _ => ⟨hxT hT, fun z hz => by rw [hLy] at hz; cases hz; exact hTy⟩)
                have HXE := Lib.hid hxe
                clear hxe hJS hmore hj0 HJ hxT hT hTy hLy d0 d1 hyt
                go_wp2_with (at_builtin; refine wpList_append_row_at rfl _ _ 23 rfl w3.heap.size 36 i0 zeroX 6 88 Tryd.underlying23 hi hz0 hz1 hz2 rfl (by decide) _ (m + 1) (xcells (joinW N L 0).reverse) rfl (HJ2.out _ _).2.1 (some ⟨wr.heap.size + 1, 0, none⟩) ⟨wr.heap.size + 1, 0, none⟩ 1 1 x.cs rfl (fun _ => rfl) rfl (NEWS.out _) (ones_cs x) (by unfold maxLen; omega) (by omega) (by simp; omega) ?_; intro o6 c6 w6 own6 gr6 at6)
                have HG := Lib.hid ((HJ2.out _ _).app own6 gr6 HXE.out)
                clear own6 gr6 at6
                go_wp2_with fail
                go_roundw
                case rel => exact ⟨0 + 1, m + 1 + 1, c6, o6, by omega, by go_num, rfl, HG⟩
                case measure => simp [intOf]; omega
              | true =>
                rw [hTy] at hyk
                have hxe : joinW N L (0 + 1) = .text (y.t ++ x.t) :: M := by
                  rw [hJS, hLy]
                  have h1 : x.t ≠ [] := hxT hT
                  cases x with
                  | text b =>
                    cases y with
                    | text a => have h1' : b ≠ [] := h1; simp [addR, h1', X.t]
                    | ref _ => cases hTy
                    | att _ _ => cases hTy
                  | ref _ => cases hT
                  | att _ _ => cases hT
                obtain ⟨y1, y2, y3, y4, y5, y6, ⟨_, f1, f1'⟩, ⟨⟨_, f2⟩, f2', f2''⟩, ⟨⟨_, f3⟩, f3', f3''⟩, ⟨⟨_, f4⟩, f4', f4''⟩, ⟨⟨_, f5⟩, f5', f5''⟩, ⟨⟨_, f6⟩, f6', f6''⟩, own6, gr6⟩ := own_six (HJ1.out (.cells #[.int .i8 x.k, .string (bs x.t), .int .i64 0, .string (bs x.m), .string (bs x.a), .slice none 0 0] 36)).2.1 (m * 6) (by omega) (.int .i8 0) (.string (bs y.t ++ bs x.t)) (.int .i64 0) (.string ⟨#[]⟩) (.string ⟨#[]⟩) (.slice none 0 0)
                have HG := Lib.hid ((HJ1.out _).put (hj0.trans hLy) hTy hT own6 gr6 hxe)
                have hsz : (bs y.t).size + (bs x.t).size ≤ 9223372036854775807 := by rw [bs_size, bs_size]; omega
                have e0 := (HJ1.out (.cells #[.int .i8 x.k, .string (bs x.t), .int .i64 0, .string (bs x.m), .string (bs x.a), .slice none 0 0] 36)).2.2.size
                clear hxe hJS hmore hj0 HJ hxT hT hTy hLy own6 gr6 hyt hxt NEWS HJ2
                go_wp2_with fail
                go_region
                all_goals
                  go_wp2_with fail
                  go_roundw
                  case rel => exact ⟨0 + 1, m + 1, c, some ⟨g, 0, none⟩, by omega, by go_num, rfl, Lib.hid HG.out.drew⟩
                  case measure => simp [intOf]; omega
        · have HXE := Lib.hid (hmore i rfl)
          have hi0 : (((i : Nat) : Int) + 1 == 0) = false := beq_eq_false_iff_ne.2 (by omega)
          clear hmore hJS HJ hxT
          go_wp2_with (at_builtin; refine wpList_append_row_at rfl _ _ 23 rfl w3.heap.size 36 i0 zeroX 6 88 Tryd.underlying23 hi hz0 hz1 hz2 rfl (by decide) _ n (xcells (joinW N L (i + 1)).reverse) rfl (HJ2.out _ _).2.1 (some ⟨wr.heap.size + 1, 0, none⟩) ⟨wr.heap.size + 1, 0, none⟩ 1 1 x.cs rfl (fun _ => rfl) rfl (NEWS.out _) (ones_cs x) (by unfold maxLen; omega) (by omega) (by simp; omega) ?_; intro o6 c6 w6 own6 gr6 at6)
          have HG := Lib.hid ((HJ2.out _ _).app own6 gr6 HXE.out)
          clear own6 gr6 at6
          go_wp2_with fail
          go_roundw
          case rel => exact ⟨i + 1 + 1, n + 1, c6, o6, by omega, by go_num, rfl, HG⟩
          case measure => simp [intOf]; omega
      · obtain rfl : j = N.length := by omega
        have hall := joinW_all N L N.length rfl
        have HS3 : Hid (∀ w', w' = wr → Calls Tryd.prog 11 #[v3, .slice o n c] w' fun e w'' => e = .returned (.bool true) ∧ Below wr.heap.size wr w'') := Lib.hid (by
          rintro w' rfl
          have hown := HJ.out.2.1
          have h2 : isXr w' (N.foldr addR L).reverse (.slice o n c) := by
            have hn := HJ.out.1
            rw [hall] at hn hown
            rcases hown.2 with ⟨h1, h2⟩ | ⟨g, cap, cur, hv, hgB, hg, q1, q2, q3, q4⟩
            · cases h1
              have : N.foldr addR L = [] := List.eq_nil_of_length_eq_zero (by omega)
              rw [this]
              exact isXr_nil _
            · cases hv
              refine ⟨_, g, c, by rw [List.length_reverse, hn], by rw [List.length_reverse, hn]; exact q1, q2, fun _ => rfl, fun j u hju => ?_⟩
              have hj2 := (List.getElem?_eq_some_iff.1 hju).1
              rw [xcells_len, List.length_reverse, hn] at hj2
              rw [hown.cellAt j hj2]
              exact hju
          exact sameAll_any _ v3 _ w' (HX3.out.below HJ.out.2.2) h2)
        have HBR := Lib.hid (HB3.out.trans (HJ.out.2.2.mono HB3.out.size))
        clear hall HJ
        go_wp2_with (first | (go_at_call 11; refine (HS3.out _ rfl).mono ?_; rintro e w7 ⟨rfl, hb7⟩) | (go_at_call 8; refine (HW.out _ (Lib.hid (HBR.out.trans (hb7.mono HBR.out.size)))).mono ?_; rintro e w9 ⟨rfl, hb9⟩))
        go_ret
        exact ⟨rfl, (HBR.out.trans (hb7.mono HBR.out.size)).trans (hb9.mono (Nat.le_trans HBR.out.size hb7.size))⟩
end Go.Proofs.YtjnoomefppncoaaDoor
