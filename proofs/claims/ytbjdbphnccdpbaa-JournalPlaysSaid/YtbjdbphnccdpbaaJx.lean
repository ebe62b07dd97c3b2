/-
  JournalWhole: the walk.
-/
import Derived.Test.YtbjdbphnccdpbaaJw
import Derived.Deep.Cut
import Derived.Deep.CutBlock
import Derived.Deep.CutRange
set_option linter.unusedVariables false
namespace Go.Proofs.Ytbjdbphnccdpbaa
open Go.RowKit Go.Shelf Go.Lib Go.Deep

/-- The disk in memory, the rows that were told OK in theirs. -/
def SW (w : World) (nb : Nat) (Wt : List (List UInt8)) (wv : Value) (s : DS) (vd : Value) (W : World) : Prop := Dk 52 w.heap.size nb s vd W ∧ RW w W Wt wv
theorem SW.low {w W : World} {nb : Nat} {Wt : List (List UInt8)} {wv : Value} {s : DS} {vd : Value} (h : SW w nb Wt wv s vd W) : Below w.heap.size w W := h.2.choose_spec.2.2
theorem SW.below {w W W' : World} {nb : Nat} {Wt : List (List UInt8)} {wv : Value} {s : DS} {vd : Value} (h : SW w nb Wt wv s vd W) (hb : Below W.heap.size W W') : SW w nb Wt wv s vd W' := ⟨h.1.below hb, h.2.below hb⟩
theorem SW.disk {w W W' : World} {nb : Nat} {Wt : List (List UInt8)} {wv : Value} {s s' : DS} {vd v' : Value} (h : SW w nb Wt wv s vd W) (hk : Dk 52 w.heap.size nb s' v' W') (hF : Fr (Fp nb vd) W W') : SW w nb Wt wv s' v' W' := ⟨hk, h.2.disk h.1 hF⟩
theorem SW.q {w W W' : World} {nb : Nat} {Wt : List (List UInt8)} {wv : Value} {s : DS} {vd : Value} {r : Int × DS} {e : Ending} (h : SW w nb Wt wv s vd W) (hq : DQ 52 w.heap.size nb vd W r e W') : ∃ v', SW w nb Wt wv r.2 v' W' := by
  obtain ⟨_, v', h1, _, h3⟩ := hq
  exact ⟨v', h.disk h1 h3⟩
theorem SW.form {w W : World} {nb : Nat} {Wt : List (List UInt8)} {wv : Value} {s : DS} {vd : Value} (h : SW w nb Wt wv s vd W) : ∃ o c, wv = .slice o Wt.length c := by
  obtain ⟨xs, s1, _⟩ := h.2
  obtain ⟨o, _, c, h, _⟩ := row_form s1
  exact ⟨o, c, h⟩
/-- The row of rows is written on; the disk stays. -/
theorem SW.rows {w W W' : World} {nb : Nat} {Wt Wt' : List (List UInt8)} {wv wv' : Value} {s : DS} {vd : Value} (h : SW w nb Wt wv s vd W) (hg : W.grownBy W' wv.ownBlock) (hr : RW w W' Wt' wv') : SW w nb Wt' wv' s vd W' := by
  refine ⟨h.1.keep fun k o hk ho => (hg.block k (Array.getElem?_eq_some_iff.1 ho).1 (fun e => ?_)).trans ho, hr⟩
  obtain ⟨xs, s1, _⟩ := h.2
  rcases s1.2 with ⟨rfl, _⟩ | ⟨g, cap, cur, rfl, _, hgg, _⟩
  · cases e
  · have : k = g := by simpa [Value.ownBlock] using e
    subst this
    obtain ⟨_, _, _, ⟨m, hm, _⟩, hoo⟩ := h.1
    rcases hk with rfl | hf
    · rw [hgg] at hm; cases hm
    · obtain ⟨_, _, c2, hc2⟩ := hoo.lt k hf
      rw [hgg] at hc2; cases hc2
/-- A row of one row, built. -/
theorem rn_one {w W : World} {x : List UInt8} {ob : Option Addr} {cb : Nat} (hx : rd w x (.slice ob x.length cb)) : RN w (W.alloc (.cells #[.slice ob x.length cb] 27)) [x] (.slice (some ⟨W.heap.size, 0, none⟩) 1 1) := by
  refine ⟨some ⟨W.heap.size, 0, none⟩, ⟨W.heap.size, 0, none⟩, 1, [.slice ob x.length cb], rfl, fun _ => rfl, rfl, cell_one_new _ _ _, fun u hu => by simp at hu; subst hu; rfl, fun i hi => ?_⟩
  match i, hi with
  | 0, _ => exact ⟨ob, cb, rfl, hx⟩
/-- An empty row, built. -/
theorem rw_empty {w W : World} (hb : Below w.heap.size w W) : RW w (W.alloc (.cells #[] 27)) [] (.slice (some ⟨W.heap.size, 0, none⟩) 0 0) :=
  ⟨[], ⟨rfl, .inr ⟨W.heap.size, 0, #[], rfl, hb.size, heap_alloc_new W _, Nat.le_refl _, by unfold maxLen; omega, by simp, rfl⟩⟩, fun i h => absurd h (by simp), hb.alloc (Nat.le_trans (Nat.le_refl _) hb.size) _⟩
/-- Between two rounds. -/
theorem Dk.not_cells {T t : TypeId} {base b N : Nat} {s : DS} {v : Value} {W : World} {cs : Array Value} (h : Dk T base b s v W) (hb : W.heap[N]? = some (.cells cs t (0, 0))) (h1 : t ≠ T) (h2 : t ≠ 5) : ¬ Fp b v N := by
  obtain ⟨_, _, _, ⟨k, hk, _⟩, ho⟩ := h
  rintro (rfl | hv)
  · rw [hb] at hk
    cases hk
    exact h1 rfl
  · obtain ⟨_, _, cur, hc⟩ := ho.lt N hv
    rw [hb] at hc
    cases hc
    exact h2 rfl
/-- An act in its variable. -/
def AK (nx : Nat) (d : Int) (v1 v2 : Value) (n : Int) (W : World) : Prop := W.heap[nx]? = some (.cells #[.int .i64 d, v1, v2, .int .i64 n] 30 (0, 0))
theorem AK.cells {nx : Nat} {d : Int} {v1 v2 : Value} {n : Int} {W : World} (h : AK nx d v1 v2 n W) : W.cell? ⟨nx, 0, none⟩ = some (.int .i64 d) ∧ W.cell? ⟨nx, 1, none⟩ = some v1 ∧ W.cell? ⟨nx, 2, none⟩ = some v2 ∧ W.cell? ⟨nx, 3, none⟩ = some (.int .i64 n) := by
  refine ⟨?_, ?_, ?_, ?_⟩ <;> simp [World.cell?, show W.heap[nx]? = _ from h]
theorem AK.disk {nx nb : Nat} {d : Int} {v1 v2 vd : Value} {n : Int} {w W W' : World} {s : DS} (h : AK nx d v1 v2 n W) (hk : Dk 52 w.heap.size nb s vd W) (hF : Fr (Fp nb vd) W W') : AK nx d v1 v2 n W' := hF.2 nx _ h (hk.not_cells h (by decide) (by decide))
def RI (w : World) (nb : Nat) (wv : Value) (kp : Int) (W : World) : Prop := ∃ Wt s vd, UPW Wt s kp ∧ SW w nb Wt wv s vd W
/-- Behind an act. -/
def MI (w : World) (nb : Nat) (wv : Value) (kp : Int) (W : World) : Prop := ∃ Wt s vd, MID Wt s kp ∧ SW w nb Wt wv s vd W
theorem UPW.count {W : List (List UInt8)} {s : DS} {kp : Int} (h : UPW W s kp) (hl : s.f.length ≤ 1048576) : W.length ≤ 300000 := by
  have := frames_count W
  rw [h.2.2.1] at hl
  omega
theorem app_60 {s : DS} {x : List UInt8} {r : Int × DS} (hr : AppR s x r) (h : r.1 = 60) : x.length ≤ 524288 := by
  by_cases hE : frE x = 0
  · exact (fr_ok hE).1.2
  · rcases hr with ⟨_, rfl⟩ | ⟨h0, _⟩ | ⟨h0, _⟩
    · unfold frE at h hE
      by_cases h0 : x.length = 0
      · omega
      · rw [if_neg h0] at h hE
        by_cases h1 : 524288 < x.length
        · rw [if_pos h1] at h; exact absurd (show (3 : Int) = 60 from h) (by decide)
        · omega
    · exact absurd h0 hE
    · exact absurd h0 hE
set_option maxRecDepth 100000 in
set_option maxHeartbeats 32000000 in
theorem whole_walk (v : Value) (l : List AC) (a : Addr) (cap : Nat) (w : World) (hv : slv v l.length a cap) (hl : isAs w l a) :
    Calls Try.prog 5 #[v] w fun e w' => e = .returned (.bool true) ∧ Below w.heap.size w w' := by
  have HG := Lib.hid ((great_any v l a cap w hv hl).mono fun e w' h => Lib.hid h)
  obtain ⟨o, rfl, hc1, hc2, ho⟩ := hv
  unfold maxLen at hc2
  have HL := Lib.hid hl
  have HO := Lib.hid ho
  have HWK : Hid (∀ W, Below w.heap.size w W → Calls Try.prog 7 #[] W fun e w' => e = .returned (.bool true) ∧ Hid (Below w.heap.size w w')) := Lib.hid fun W hW => (wakes_any W).mono fun e w' ⟨h1, h2⟩ => ⟨h1, Lib.hid (hW.trans (h2.out.mono hW.size))⟩
  clear hl ho
  go_enter Try.func5, Try.ntmps5
  go_wp2_with (go_at_call 6; go_loud (refine HG.out.mono ?_))
  rintro e w0 hq0
  obtain ⟨bb, rfl, HB0⟩ := hq0.out
  clear hq0 HG
  cases bb
  case true =>
    go_wp2_with (go_at_call 7; go_loud (refine (HWK.out _ HB0.out).mono ?_); rintro e w2 ⟨rfl, HB⟩)
    go_ret
    exact ⟨rfl, HB.out⟩
  have HN := Lib.hid (new_any w.heap.size w0 HB0.out.size)
  go_wp2_with (go_at_call 8; go_loud (refine HN.out.mono ?_))
  rintro e w1 ⟨rfl, hk1, hb1⟩
  obtain ⟨nb, hnb⟩ : ∃ nb, w0.heap.size = nb := ⟨_, rfl⟩
  have HRI : Hid (RI w nb (.slice none 0 0) 0 w1) := Lib.hid ⟨[], _, _, ⟨fun x hx => absurd hx (by simp), rfl, rfl, fun n hn => by cases hn⟩, hnb ▸ hk1, RW.nil (HB0.out.trans (hb1.mono HB0.out.size))⟩
  rw [hnb]
  clear hk1 hb1 hnb HB0 HN
  go_wp2_with fail
  go_loopw [4, 5, 6, 7, 8, 9, 10, 11, 12, 13, 14] (fun wv kv iv y7 y8 y9 y10 y11 y12 y13 y14 wr => ∃ (j ml cw : Nat) (pw : Option Addr) (kp : Int), j ≤ l.length ∧ iv = .int .i64 (j : Nat) ∧ kv = .int .i64 kp ∧ wv = .slice pw ml cw ∧ Hid (RI w nb (.slice pw ml cw) kp wr)) (fun _ _ iv _ _ _ _ _ _ _ _ _ => l.length - (intOf iv).toNat)
  case atStart => exact ⟨0, 0, 0, none, 0, by omega, rfl, rfl, rfl, HRI⟩
  case round =>
    obtain ⟨j, ml, cw, pw, kp, hj, rfl, rfl, rfl, hI⟩ := hrel
    by_cases hlt : j < l.length
    · have hlt' : (j : Int) < (l.length : Int) := by omega
      obtain rfl := HO.out (by omega)
      obtain ⟨Wt, s, vd, hU, hS⟩ := hI.out
      obtain ⟨c1, c2, g0, g1, g2, g3, h3, h4⟩ := as_later HL.out hS.low j hlt
      obtain ⟨ob, cb, rfl, hb1, hb2⟩ := h3.form
      obtain ⟨ol, al, cl, rfl, hl1, hl2, _⟩ := id h4
      unfold maxLen at hb2 hl2
      generalize l[j] = X at *
      obtain ⟨d, x, L, n⟩ := X
      have HX := Lib.hid h3
      have HXL := Lib.hid h4
      have HS := Lib.hid hS
      have HU := Lib.hid hU
      have HLT := Lib.hid hlt
      dsimp only at *
      clear h3 h4 hU hS hI hlt
      obtain ⟨nx, hnx⟩ : ∃ nx, wr.heap.size = nx := ⟨_, rfl⟩
      have HAK : Hid (∀ W, wr.alloc (.cells #[.int .i64 d, .slice ob x.length cb, .slice ol L.length cl, .int .i64 n] 30) = W → AK nx d (.slice ob x.length cb) (.slice ol L.length cl) n W ∧ SW w nb Wt (.slice pw ml cw) s vd W) := Lib.hid fun W hW => by
        rw [← hW, ← hnx]
        exact ⟨heap_alloc_new wr _, HS.out.below ((Below.refl _ _).alloc (Nat.le_refl _) _)⟩
      go_upto_block 2 with fail
      obtain ⟨W1, hW1⟩ : ∃ W1, wr.alloc (.cells #[.int .i64 d, .slice ob x.length cb, .slice ol L.length cl, .int .i64 n] 30) = W1 := ⟨_, rfl⟩
      obtain ⟨hA1, hS1⟩ := HAK.out W1 hW1
      rw [hW1]
      have HA1 := Lib.hid hA1
      have HS1 := Lib.hid hS1
      obtain ⟨a0, a1, a2, a3⟩ := hA1.cells
      clear hW1 hnx HAK hA1 hS1 HS g0 g1 g2 g3
      go_cut [4, 5, 8] from 33 to 79 (fun s4 s5 s8 wx => ∃ (m' c' : Nat) (p' : Option Addr) (kp' : Int), s4 = .slice p' m' c' ∧ s5 = .int .i64 kp' ∧ Hid (MI w nb (.slice p' m' c') kp' wx))
      case first =>
        by_cases d0 : d = 0
        · subst d0
          have HAP := Lib.hid ((japp_any W1 HS1.out.1 HS1.out.low.size (HX.out.below HS1.out.low)).mono fun e w' h => Lib.hid h)
          go_wp2_with (go_at_call 10; go_loud (refine HAP.out.mono ?_))
          rintro e w3 hq0
          obtain ⟨ri, rfl, rs, hq⟩ := hq0.out
          obtain ⟨_, v3, k3, _, f3⟩ := hq.out.2
          obtain ⟨b0, b1, b2, b3⟩ := (HA1.out.disk HS1.out.1 f3).cells
          have HS3 := Lib.hid (HS1.out.disk k3 f3)
          have HM3 := Lib.hid (app_mid HU.out hq.out.1)
          have H60 := Lib.hid (app_60 hq.out.1)
          have HCN := Lib.hid (HU.out.count HS1.out.1.1)
          clear hq0 hq k3 f3 HAP a0 a1 a2 a3
          dsimp only at HS3 HM3 H60
          by_cases hap : ri = 0 ∨ (ri = 60 ∧ (x.length : Int) + 4 ≤ kp)
          · have hWW : appW Wt x ri kp = Wt ++ [x] := by unfold appW; rw [if_pos hap]
            rw [hWW] at HM3
            obtain ⟨pw2, cw2, hcw⟩ := HS3.out.form
            simp only [Value.slice.injEq] at hcw
            obtain ⟨rfl, rfl, rfl⟩ := hcw
            have HB3 := Lib.hid ((Below.refl w3.heap.size w3).alloc (Nat.le_refl _) (.cells #[.slice ob x.length cb] 27))
            have HR3 := Lib.hid (HS3.out.2.below HB3.out)
            have HN3 := Lib.hid (rn_one (W := w3) HX.out)
            have cases3 : ((ri == 0) = true) ∨ ((ri == 0) = false ∧ (ri == 60) = true ∧ decide ((x.length : Int) + 4 ≤ kp) = true ∧ IntKind.i64.wrap ((x.length : Int) + 4) = (x.length : Int) + 4) := by
              by_cases h0 : ri = 0
              · exact .inl (by rw [beq_iff_eq]; exact h0)
              · rcases hap with h | ⟨h, h2⟩
                · exact absurd h h0
                · exact .inr ⟨by rw [beq_eq_false_iff_ne]; exact h0, by rw [beq_iff_eq]; exact h, decide_eq_true h2, by have := H60.out h; go_unwrap⟩
            clear hap hWW
            rcases cases3 with t0 | ⟨t0, t1, t2, hwr⟩
            all_goals
              go_wp2_with (at_builtin; go_loud (refine wpList_app_rw rfl _ _ rfl w _ _ Wt [x] rfl rfl HR3.out HN3.out (by have := HCN.out; simp; omega) ?_))
              intro o4 c4 w4 rw4 gr4
              have HQ : Hid (MI w nb (.slice o4 (Wt.length + 1) c4) kp w4) := Lib.hid ⟨_, _, v3, HM3.out, (HS3.out.below HB3.out).rows gr4 rw4⟩
              clear rw4 gr4
              go_wp2_with fail
              go_meet
              exact ⟨_, c4, o4, kp, rfl, rfl, HQ⟩
          · have hWW : appW Wt x ri kp = Wt := by unfold appW; rw [if_neg hap]
            rw [hWW] at HM3
            have HQ : Hid (MI w nb (.slice pw ml cw) kp w3) := Lib.hid ⟨_, _, v3, HM3.out, HS3.out⟩
            have t0 : (ri == 0) = false := by rw [beq_eq_false_iff_ne]; exact fun h => hap (.inl h)
            by_cases h60 : ri = 60
            · have hwr : IntKind.i64.wrap ((x.length : Int) + 4) = (x.length : Int) + 4 := by have := H60.out h60; go_unwrap
              have t1 : (ri == 60) = true := by rw [beq_iff_eq]; exact h60
              have t2 : decide ((x.length : Int) + 4 ≤ kp) = false := decide_eq_false (fun h => hap (.inr ⟨h60, h⟩))
              clear hap hWW h60
              go_wp2_with fail
              go_meet
              exact ⟨_, cw, pw, kp, rfl, rfl, HQ⟩
            · have t1 : (ri == 60) = false := by rw [beq_eq_false_iff_ne]; exact h60
              clear hap hWW h60
              go_wp2_with fail
              go_meet
              exact ⟨_, cw, pw, kp, rfl, rfl, HQ⟩
        have e0 : (d == 0) = false := by rw [beq_eq_false_iff_ne]; exact d0
        by_cases d1 : d = 1
        · subst d1
          have HSN := Lib.hid ((jsnap_any W1 HS1.out.1 HS1.out.low.size (HXL.out.below HS1.out.low)).mono fun e w' h => Lib.hid h)
          clear d0 e0
          go_wp2_with (go_at_call 11; go_loud (refine HSN.out.mono ?_))
          rintro e w3 hq0
          obtain ⟨ri, rfl, rs, hq⟩ := hq0.out
          obtain ⟨_, v3, k3, _, f3⟩ := hq.out.2
          have HA3 := Lib.hid (HA1.out.disk HS1.out.1 f3)
          obtain ⟨b0, b1, b2, b3⟩ := HA3.out.cells
          have HS3 := Lib.hid (HS1.out.disk k3 f3)
          have HM3 := Lib.hid (snap_mid HU.out hq.out.1)
          have HLC : Hid (ri = 0 → L.length ≤ 300000) := Lib.hid fun h0 => by
            have := frames_count L
            rcases hq.out.1 with ⟨h5, h⟩ | ⟨h5, h6, h⟩ | ⟨h5, h6, h⟩
            · have := congrArg Prod.fst h; simp only at this; rw [h0] at this; exact absurd this.symm h5
            · have := congrArg Prod.fst h; simp only at this; rw [h0] at this; exact absurd this.symm h6
            · have := fit_le h6; omega
          clear hq0 hq k3 f3 HSN a0 a1 a2 a3
          dsimp only at HS3 HM3
          by_cases h0 : ri = 0
          · have hWW : snapW Wt L ri = L := by unfold snapW; rw [if_pos h0]
            rw [hWW] at HM3
            have HLN := Lib.hid (HLC.out h0)
            subst h0
            have HRE := Lib.hid (rw_empty HS3.out.low)
            have HB3 := Lib.hid ((Below.refl w3.heap.size w3).alloc (Nat.le_refl _) (.cells #[] 27))
            have HN3 := Lib.hid (RN.of HXL.out (HS3.out.low.trans (HB3.out.mono HS3.out.low.size)))
            have d2' := (AK.cells (W := w3.alloc (.cells #[] 27)) ((HB3.out.block nx (Array.getElem?_eq_some_iff.1 HA3.out).1).trans HA3.out)).2.2.1
            clear hWW
            go_wp2_with (at_builtin; go_loud (refine wpList_app_rw rfl _ _ rfl w _ _ [] L rfl rfl HRE.out HN3.out (by have := HLN.out; simp; omega) ?_))
            intro o4 c4 w4 rw4 gr4
            have HQ : Hid (MI w nb (.slice o4 L.length c4) kp w4) := Lib.hid ⟨_, _, v3, HM3.out, SW.rows ⟨HS3.out.1.below HB3.out, HRE.out⟩ gr4 rw4⟩
            clear rw4 gr4
            go_wp2_with fail
            go_meet
            exact ⟨_, c4, o4, kp, rfl, rfl, HQ⟩
          · have hWW : snapW Wt L ri = Wt := by unfold snapW; rw [if_neg h0]
            rw [hWW] at HM3
            have t0 : (ri == 0) = false := by rw [beq_eq_false_iff_ne]; exact h0
            have HQ : Hid (MI w nb (.slice pw ml cw) kp w3) := Lib.hid ⟨_, _, v3, HM3.out, HS3.out⟩
            clear h0 hWW
            go_wp2_with fail
            go_meet
            exact ⟨_, cw, pw, kp, rfl, rfl, HQ⟩
        have e1 : (d == 1) = false := by rw [beq_eq_false_iff_ne]; exact d1
        by_cases d2 : d = 2
        · subst d2
          have HAM := Lib.hid (arm_any n W1 HS1.out.1)
          clear d0 e0 d1 e1
          go_wp2_with (go_at_call 12; go_loud (refine HAM.out.mono ?_))
          rintro e w3 hq
          obtain ⟨rfl, v3, k3, _, f3⟩ := hq
          obtain ⟨b0, b1, b2, b3⟩ := (HA1.out.disk HS1.out.1 f3).cells
          have HS3 := Lib.hid (HS1.out.disk k3 f3)
          have HM3 := Lib.hid (arm_mid (n := n) HU.out)
          clear k3 f3 HAM a0 a1 a2 a3
          generalize armD s n = r at *
          obtain ⟨ri, rs⟩ := r
          dsimp only at HS3 HM3 ⊢
          by_cases h0 : ri = 0
          · rw [if_pos h0] at HM3
            subst h0
            have HQ : Hid (MI w nb (.slice pw ml cw) n w3) := Lib.hid ⟨_, _, v3, HM3.out, HS3.out⟩
            go_wp2_with fail
            go_meet
            exact ⟨_, cw, pw, n, rfl, rfl, HQ⟩
          · rw [if_neg h0] at HM3
            have t0 : (ri == 0) = false := by rw [beq_eq_false_iff_ne]; exact h0
            have HQ : Hid (MI w nb (.slice pw ml cw) kp w3) := Lib.hid ⟨_, _, v3, HM3.out, HS3.out⟩
            clear h0
            go_wp2_with fail
            go_meet
            exact ⟨_, cw, pw, kp, rfl, rfl, HQ⟩
        have e2 : (d == 2) = false := by rw [beq_eq_false_iff_ne]; exact d2
        have HCR := Lib.hid (crash_any W1 HS1.out.1)
        clear d0 d1 d2
        go_wp2_with (go_at_call 13; go_loud (refine HCR.out.mono ?_))
        rintro e w3 hq
        obtain ⟨rfl, v3, k3, _, f3⟩ := hq
        have HQ : Hid (MI w nb (.slice pw ml cw) kp w3) := Lib.hid ⟨_, _, v3, crash_mid HU.out, HS1.out.disk k3 f3⟩
        clear k3 f3 HCR a0 a1 a2 a3
        go_wp2_with fail
        go_meet
        exact ⟨_, cw, pw, kp, rfl, rfl, HQ⟩
      case rest =>
        obtain ⟨m', c', p', kp', rfl, rfl, HM⟩ := hcut
        obtain ⟨Wt', s', vd', hM, hS⟩ := HM.out
        have HMM := Lib.hid hM
        have HSS := Lib.hid hS
        have HDW := Lib.hid (down_any wc hS.1)
        clear hM hS HM a0 a1 a2 a3
        cases hdn : s'.dn
        · rw [hdn] at HDW
          have HQ : Hid (RI w nb (.slice p' m' c') kp' wc) := Lib.hid ⟨Wt', s', vd', HMM.out.up hdn, HSS.out⟩
          clear hdn
          go_wp2_with (go_at_call 23; go_loud (refine HDW.out.mono ?_); rintro e w3 ⟨rfl, rfl⟩)
          go_roundw
          case rel => exact ⟨j + 1, m', c', p', kp', by have := HLT.out; omega, by go_num, rfl, rfl, HQ⟩
          case measure => simp [intOf]; have := HLT.out; omega
        · rw [hdn] at HDW
          obtain ⟨hup, hop, hopl⟩ := open_mid HMM.out hdn
          obtain ⟨hag1, hag2, hag3⟩ := open_again HMM.out.1
          have HUP := up_any wc HSS.out.1
          rw [hup] at HUP
          have HUP := Lib.hid HUP
          have HOP := Lib.hid (And.intro hop hopl)
          have HAG := Lib.hid (And.intro hag1 (And.intro hag2 hag3))
          clear hup hop hopl hag1 hag2 hag3 hdn
          go_wp2_with first
            | (go_at_call 23; go_loud (refine HDW.out.mono ?_); rintro e w3 ⟨rfl, rfl⟩)
            | (go_at_call 14; go_loud (refine HUP.out.mono ?_))
          rintro e w4 hq
          obtain ⟨rfl, v4, k4, _, f4⟩ := hq
          have HS4 := Lib.hid (HSS.out.disk k4 f4)
          have HO4 := jopen_any w4 k4 HS4.out.low.size
          rw [HOP.out.1, HOP.out.2] at HO4
          have HO5 := Lib.hid (HO4.mono fun e w' h => Lib.hid h)
          have HNB4 := Lib.hid k4.lt
          clear k4 f4 HUP HDW HO4
          go_wp2_with (go_at_call 15; go_loud (refine HO5.out.mono ?_))
          rintro e w5 hq0
          obtain ⟨o5, c5, rfl, hq⟩ := hq0.out
          obtain ⟨v5, hoe, hrw5⟩ := hq.out
          have k5 := hoe.1
          rw [HOP.out.1] at k5
          have HS5 := Lib.hid (HS4.out.disk k5 hoe.2.2)
          have HR5 := Lib.hid hrw5
          have HO6 := jopen_any w5 k5 HS5.out.low.size
          try dsimp only at HO6
          rw [HAG.out.1, HAG.out.2.1, HAG.out.2.2] at HO6
          have HO7 := Lib.hid (HO6.mono fun e w' h => Lib.hid h)
          clear hq0 hq hoe hrw5 k5 HO5 HO6
          go_wp2_with (go_at_call 15; go_loud (refine HO7.out.mono ?_))
          rintro e w6 hq0
          obtain ⟨o6, c6, rfl, hq⟩ := hq0.out
          obtain ⟨v6, hoe, hrw6⟩ := hq.out
          have k6 := hoe.1
          try dsimp only at k6
          rw [HAG.out.1] at k6
          have HS6 := Lib.hid (HS5.out.disk k6 hoe.2.2)
          have hr5 := HR5.out.fr hoe.2.2 (fun k hk e => by
            rcases e with rfl | e
            · have := HNB4.out; omega
            · exact hk.2 e)
          have SM : Hid (∀ W, Below w6.heap.size w6 W → Calls Try.prog 17 #[.slice o5 Wt'.length c5, .slice p' m' c'] W fun e w' => e = .returned (.bool true) ∧ Hid (Below w6.heap.size w6 w')) := Lib.hid fun W hW => by
            have := rsame_any Wt' Wt' _ _ W (hr5.rds.below hW) (HS6.out.2.rds.below hW)
            rw [decide_eq_true rfl] at this
            exact this.mono fun e w' ⟨h1, h2⟩ => ⟨h1, Lib.hid (hW.trans (h2.out.mono hW.size))⟩
          have SM2 : Hid (∀ W, Below w6.heap.size w6 W → Calls Try.prog 17 #[.slice o6 Wt'.length c6, .slice p' m' c'] W fun e w' => e = .returned (.bool true) ∧ Hid (Below w6.heap.size w6 w')) := Lib.hid fun W hW => by
            have := rsame_any Wt' Wt' _ _ W (hrw6.rds.below hW) (HS6.out.2.rds.below hW)
            rw [decide_eq_true rfl] at this
            exact this.mono fun e w' ⟨h1, h2⟩ => ⟨h1, Lib.hid (hW.trans (h2.out.mono hW.size))⟩
          clear hq0 hq hoe hrw6 k6 hr5 HO7 HR5
          try dsimp only
          generalize Wt'.length = wl at *
          go_wp2_with (go_at_call 17; go_loud (refine (SM.out w6 (Below.refl _ _)).mono ?_))
          first | rintro e w7 rfl HB7 | rintro e w7 ⟨rfl, HB7⟩
          have HQ : Hid (∀ W, Below w6.heap.size w6 W → RI w nb (.slice p' m' c') kp' W) := Lib.hid fun W hW => ⟨Wt', _, v6, upw_again HMM.out.1, HS6.out.below hW⟩
          go_wp2_with (go_at_call 17; go_loud (refine (SM2.out w7 HB7.out).mono ?_); first | rintro e w8 rfl HB8 | rintro e w8 ⟨rfl, HB8⟩)
          have HQ8 := Lib.hid (HQ.out w8 HB8.out)
          clear SM SM2
          go_roundw
          case rel => exact ⟨j + 1, m', c', p', kp', by have := HLT.out; omega, by go_num, rfl, rfl, HQ8⟩
          case measure => simp [intOf]; have := HLT.out; omega
    · obtain rfl : j = l.length := by omega
      have hlt' : decide ((l.length : Int) < (l.length : Int)) = false := decide_eq_false (by omega)
      obtain ⟨Wt, s, vd, hU, hS⟩ := hI.out
      obtain ⟨u1, u2⟩ := upw_rows hU
      have HRO := jrows_any wr hS.1
      rw [u1, u2] at HRO
      have HRO2 := Lib.hid (HRO.mono fun e w' h => Lib.hid h)
      have HSS := Lib.hid hS
      clear hU hS hI u1 u2 HRO hlt
      go_wp2_with (go_at_call 19; go_loud (refine HRO2.out.mono ?_))
      rintro e w3 hq0
      obtain ⟨o3, c3, rfl, hq⟩ := hq0.out
      have HB3 := Lib.hid (HSS.out.low.trans (hq.out.2.mono HSS.out.low.size))
      have SM := rsame_any Wt Wt _ _ w3 hq.out.1.rds (HSS.out.2.rds.below hq.out.2)
      rw [decide_eq_true rfl] at SM
      have HSM := Lib.hid SM
      clear hq0 hq SM HRO2
      generalize Wt.length = wl at *
      go_wp2_with (go_at_call 17; go_loud (refine HSM.out.mono ?_))
      rintro e w4 ⟨rfl, HB4⟩
      have HB5 := Lib.hid (HB3.out.trans (HB4.out.mono HB3.out.size))
      go_wp2_with (go_at_call 7; go_loud (refine (HWK.out w4 HB5.out).mono ?_); rintro e w5 ⟨rfl, HB⟩)
      go_ret
      exact ⟨rfl, HB.out⟩
end Go.Proofs.Ytbjdbphnccdpbaa
