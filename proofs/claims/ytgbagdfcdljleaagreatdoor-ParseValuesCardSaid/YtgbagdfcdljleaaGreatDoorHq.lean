/-
  Parse's walk: into a list or an object.
-/
import Derived.Test.YtgbagdfcdljleaaGreatDoorHn
import Derived.Deep.Cut
import Derived.Deep.CutBlock
import Derived.Deep.CutRange
import Derived.Deep.DeepCutAuto
set_option linter.unusedVariables false
set_option linter.unusedSimpArgs false
namespace Go.Proofs.YtgbagdfcdljleaaGreatDoor
open Go.RowKit Go.Maps

def zeroP : Value := .agg #[.int .i8 0, .bool false, .int .i64 0, .string ⟨#[]⟩, .slice none 0 0, .slice none 0 0, .int .u8 0, .map none]
theorem infoP : (Tryz.prog.info? 69).map (fun i => (i.zero, i.size, i.bytes)) = some (some zeroP, 8, 96) := by kernel_rfl
theorem news_at {W : World} {q : Nat} {cs : List Value} {t : TypeId} (h : Bx W q cs.toArray t) : ∀ j u, cs[j]? = some u → W.cell? ((⟨q, 0, none⟩ : Addr).add j) = some u := fun j u hj => by
  rw [add_at, h.cell]
  simpa using hj
section
variable {W0 W W' : World} {b : Nat} {s : ByteArray} {d : Int} {k : Nat} {op : List Fm} {ov : Value} {ys : List Value} {B : Nat → Prop}
set_option maxRecDepth 100000 in
set_option maxHeartbeats 4000000 in
theorem enter_any {f : Fm} {mo : Option Nat} (h : PW W0 b s d k op ov ys B W) (hE : Ru.Env W0) (hv : f.vs = []) (hks : f.ks = []) (hop : op.length < 100000) (hk : k < s.size) (hs : s.size ≤ 200000)
    {Wb : World} (hwb : Below Wb.heap.size Wb W) (hm1 : f.obj = true → ∃ mb, mo = some mb ∧ Wb.heap.size ≤ mb ∧ MapIs Tryz.prog 9 W mb 0 (unitF []) ∧ Off W0 b ov B mb) (hm0 : f.obj = false → mo = none) (kd : Int) (hkd : (if f.obj = true then (5 : Int) else 4) = kd) :
    Calls Tryz.prog 40 #[.pointer (some ⟨b, 0, none⟩), .agg #[.int .i8 kd, .bool false, .int .i64 0, .string ⟨#[]⟩, .slice none 0 0, .slice none 0 0, .int .u8 f.close.toNat, .map mo]] W fun e W' => StepR W0 b s d ov B Wb (enterM s.data.toList k op f) e W' := by
  obtain ⟨m0, hm⟩ : ∃ m0, op.length = m0 := ⟨_, rfl⟩
  obtain ⟨o, ad, c, hov, hc1, hc2, hc3, hc4, -⟩ := Ow.own_form h.own
  subst hov
  rw [hm] at hop hc1 hc3
  rw [hm] at h hm1 ⊢
  obtain ⟨r, hr⟩ : ∃ r, enterM s.data.toList k op f = r := ⟨_, rfl⟩
  rw [hr]
  obtain ⟨cl, hcl⟩ : ∃ cl : UInt8, f.close = cl := ⟨_, rfl⟩
  rw [hcl]
  have hcf : fcells f (.slice none 0 0) (.slice none 0 0) (.map mo) = [.int .i8 kd, .bool false, .int .i64 0, .string ⟨#[]⟩, .slice none 0 0, .slice none 0 0, .int .u8 cl.toNat, .map mo] := by
    unfold fcells; rw [hkd, hcl]
  have HR := Lib.hid hr
  have HCL := Lib.hid hcl
  have HH := Lib.hid h
  have HM1 := Lib.hid hm1
  have HM0 := Lib.hid hm0
  have HCF := Lib.hid hcf
  have HC := Lib.hid (And.intro hc1 (And.intro hc2 (And.intro hc3 hc4)))
  have HD := Lib.hid hm
  clear h hr hm1 hm0 hcf hc1 hc2 hc3 hc4 hkd hcl hm
  have h1 := (HH.out.alloc (.cells #[.int .i8 kd, .bool false, .int .i64 0, .string ⟨#[]⟩, .slice none 0 0, .slice none 0 0, .int .u8 cl.toNat, .map mo] 69)).alloc (.cells #[.int .i8 0, .bool false, .int .i64 0, .string ⟨#[]⟩, .slice none 0 0, .slice none 0 0] 28)
  have bx1 : Bx ((W.alloc (.cells #[.int .i8 kd, .bool false, .int .i64 0, .string ⟨#[]⟩, .slice none 0 0, .slice none 0 0, .int .u8 cl.toNat, .map mo] 69)).alloc (.cells #[.int .i8 0, .bool false, .int .i64 0, .string ⟨#[]⟩, .slice none 0 0, .slice none 0 0] 28)) W.heap.size #[.int .i8 kd, .bool false, .int .i64 0, .string ⟨#[]⟩, .slice none 0 0, .slice none 0 0, .int .u8 cl.toNat, .map mo] 69 := (Bx.new W _ _).alloc _
  have bx2 : Bx ((W.alloc (.cells #[.int .i8 kd, .bool false, .int .i64 0, .string ⟨#[]⟩, .slice none 0 0, .slice none 0 0, .int .u8 cl.toNat, .map mo] 69)).alloc (.cells #[.int .i8 0, .bool false, .int .i64 0, .string ⟨#[]⟩, .slice none 0 0, .slice none 0 0] 28)) (W.heap.size + 1) #[.int .i8 0, .bool false, .int .i64 0, .string ⟨#[]⟩, .slice none 0 0, .slice none 0 0] 28 := by have := Bx.new (W.alloc (.cells #[.int .i8 kd, .bool false, .int .i64 0, .string ⟨#[]⟩, .slice none 0 0, .slice none 0 0, .int .u8 cl.toNat, .map mo] 69)) #[.int .i8 0, .bool false, .int .i64 0, .string ⟨#[]⟩, .slice none 0 0, .slice none 0 0] 28; simpa using this
  have kx : Kb b W ((W.alloc (.cells #[.int .i8 kd, .bool false, .int .i64 0, .string ⟨#[]⟩, .slice none 0 0, .slice none 0 0, .int .u8 cl.toNat, .map mo] 69)).alloc (.cells #[.int .i8 0, .bool false, .int .i64 0, .string ⟨#[]⟩, .slice none 0 0, .slice none 0 0] 28)) := ((Kb.refl b W).alloc _).alloc _
  have sx : ((W.alloc (.cells #[.int .i8 kd, .bool false, .int .i64 0, .string ⟨#[]⟩, .slice none 0 0, .slice none 0 0, .int .u8 cl.toNat, .map mo] 69)).alloc (.cells #[.int .i8 0, .bool false, .int .i64 0, .string ⟨#[]⟩, .slice none 0 0, .slice none 0 0] 28)).heap.size = W.heap.size + 2 := by simp
  have mx : ∀ mb, mb < W.heap.size → ((W.alloc (.cells #[.int .i8 kd, .bool false, .int .i64 0, .string ⟨#[]⟩, .slice none 0 0, .slice none 0 0, .int .u8 cl.toNat, .map mo] 69)).alloc (.cells #[.int .i8 0, .bool false, .int .i64 0, .string ⟨#[]⟩, .slice none 0 0, .slice none 0 0] 28)).heap[mb]? = W.heap[mb]? := fun mb hlt => (Below.heap_alloc _ _ _ (by simp; omega)).trans (Below.heap_alloc _ _ _ hlt)
  have H1 := Lib.hid h1
  have BX1 := Lib.hid bx1
  have BX2 := Lib.hid bx2
  have KX := Lib.hid kx
  have SX := Lib.hid sx
  have MX := Lib.hid mx
  clear h1 bx1 bx2 kx sx mx
  go_enter Tryz.func40, Tryz.ntmps40
  go_upto_region 1 with fail
  obtain ⟨X, hX⟩ : ∃ X, X = ((W.alloc (.cells #[.int .i8 kd, .bool false, .int .i64 0, .string ⟨#[]⟩, .slice none 0 0, .slice none 0 0, .int .u8 cl.toNat, .map mo] 69)).alloc (.cells #[.int .i8 0, .bool false, .int .i64 0, .string ⟨#[]⟩, .slice none 0 0, .slice none 0 0] 28)) := ⟨_, rfl⟩
  rw [← hX] at H1 BX1 BX2 KX SX MX
  rw [← hX]
  clear hX
  have PU : Hid (∀ w1 w2 o' c', Below X.heap.size X w1 → w2.ownsRow W0.heap.size 69 8 (.slice o' (m0 + 1) c') (m0 + 1) (ys ++ [.int .i8 kd, .bool false, .int .i64 0, .string ⟨#[]⟩, .slice none 0 0, .slice none 0 0, .int .u8 cl.toNat, .map mo]) → w1.grownBy w2 (Value.slice o m0 c).ownBlock → ((Value.slice o' (m0 + 1) c').ownBlock = (Value.slice o m0 c).ownBlock ∨ (Value.slice o' (m0 + 1) c').ownBlock = some w1.heap.size) →
      ∃ y, ((∃ u, w2.cell? ⟨b, 3, none⟩ = some u) ∧ w2.frozen? ⟨b, 3, none⟩ = false ∧ w2.setCell ⟨b, 3, none⟩ (.slice o' (m0 + 1) c') = y) ∧ Hid (∃ B', PW W0 b s d k (f :: op) (.slice o' (m0 + 1) c') (ys ++ fcells f (.slice none 0 0) (.slice none 0 0) (.map mo)) B' y ∧ (X.heap.size ≤ y.heap.size ∧ ∀ q, q < X.heap.size → mo ≠ some q → Off W0 b (.slice o m0 c) B q → y.heap[q]? = X.heap[q]? ∧ Off W0 b (.slice o' (m0 + 1) c') B' q) ∧ (∀ q, B' q → B q ∨ Wb.heap.size ≤ q))) := Lib.hid fun w1 w2 o' c' hb own gr at' => by
    have h2 := H1.out.below hb
    have hbb : w2.heap[b]? = w1.heap[b]? := gr.block b h2.blt (fun e => h2.hb e.symm)
    have hsz := gr.size
    refine ⟨_, ⟨⟨_, heap_cell (a := ⟨b, 3, none⟩) hbb h2.c3⟩, (World.frozen?_of_block (w := w1) (a := ⟨b, 3, none⟩) hbb).trans (h2.fz 3), rfl⟩, Lib.hid ?_⟩
    have hmo : ∀ q, mo = some q → Wb.heap.size ≤ q ∧ MapIs Tryz.prog 9 W q 0 (unitF []) ∧ Off W0 b (.slice o m0 c) B q := fun q e => by
      cases hf : f.obj with
      | false => have := HM0.out hf; rw [this] at e; cases e
      | true =>
        obtain ⟨mb, e1, e0, e2, e3⟩ := HM1.out hf
        rw [e1] at e
        cases e
        exact ⟨e0, e2, e3⟩
    have hlt : ∀ q, mo = some q → q < W.heap.size := fun q e => (hmo q e).2.1.lt
    have hnewB : ∀ q, (Value.slice o' (m0 + 1) c').ownBlock = some q → (Value.slice o m0 c).ownBlock = some q ∨ q = w1.heap.size := fun q e => by
      rcases at' with e' | e'
      · rw [e'] at e; exact .inl e
      · rw [e'] at e; exact .inr (by simpa using e.symm)
    have hX1 : X.heap.size ≤ w1.heap.size := hb.size
    have hWX : W.heap.size + 2 = X.heap.size := SX.out.symm
    have hfm : isFm w2 W0.heap.size f (.slice none 0 0) (.slice none 0 0) (.map mo) [] (fun _ => False) (fun q => mo = some q) := by
      refine ⟨?_, ?_, ?_, ?_, fun hf => ?_, fun hf => ?_, fun q e => e.elim, fun q e => ?_, fun q e => ?_⟩
      · rw [hv]; exact World.ownsRow_nil _ _ _ _
      · rw [hv]; rfl
      · rw [hks]; exact World.ownsRow_nil _ _ _ _
      · rw [hks]; intro x hx; cases hx
      · obtain ⟨mb, e1, -, e2, e3⟩ := HM1.out hf
        refine ⟨mb, by rw [e1], ?_, e1, fun e => e, e3.1⟩
        rw [hks]
        refine map_kp e2 ?_
        have hl := e2.lt
        rw [gr.block mb (by omega) (fun e => e3.2.2.2 e.symm), hb.block mb (by omega), MX.out mb hl]
      · exact ⟨by rw [HM0.out hf], hks⟩
      · cases e
      · cases e
    have hpw := h2.push (f := f) (lv := .slice none 0 0) (kv := .slice none 0 0) (m := .map mo) (xs := []) (S := fun _ => False) (Bf := fun q => mo = some q) gr (by
      rw [HD.out, HCF.out]; exact own) at' hfm (fun q e => by
        obtain ⟨_, e2, e3⟩ := hmo q e
        have hl := e2.lt
        refine ⟨e3.1, by omega, e3.2.1, fun e' => ?_, e3.2.2.1⟩
        rcases hnewB q e' with e4 | e4
        · exact e3.2.2.2 e4
        · omega)
    refine ⟨_, hpw, ⟨by simp; omega, fun q h3 hq h4 => ⟨?_, h4.1, h4.2.1, fun e => ?_, fun e => ?_⟩⟩, fun q e => e.imp id fun e => (hmo q e).1⟩
    · rw [Below.heap_setCell _ _ _ _ h4.2.1, gr.block q (by omega) (fun e => h4.2.2.2 e.symm), hb.block q h3]
    · rcases e with e | e
      · exact h4.2.2.1 e
      · exact hq e
    · rcases hnewB q e with e' | e'
      · exact h4.2.2.2 e'
      · omega
  have c3 := H1.out.c3
  have c3' := (H1.out.alloc (.cells #[.int .i8 kd, .bool false, .int .i64 0, .string ⟨#[]⟩, .slice none 0 0, .slice none 0 0, .int .u8 cl.toNat, .map mo] 69)).c3
  have y0 : X.cell? ⟨W.heap.size, 0, none⟩ = some (.int .i8 kd) := BX1.out.cell 0
  have y1 : X.cell? ⟨W.heap.size, 1, none⟩ = some (.bool false) := BX1.out.cell 1
  have y2 : X.cell? ⟨W.heap.size, 2, none⟩ = some (.int .i64 0) := BX1.out.cell 2
  have y3 : X.cell? ⟨W.heap.size, 3, none⟩ = some (.string ⟨#[]⟩) := BX1.out.cell 3
  have y4 : X.cell? ⟨W.heap.size, 4, none⟩ = some (.slice none 0 0) := BX1.out.cell 4
  have y5 : X.cell? ⟨W.heap.size, 5, none⟩ = some (.slice none 0 0) := BX1.out.cell 5
  have y6 : X.cell? ⟨W.heap.size, 6, none⟩ = some (.int .u8 cl.toNat) := BX1.out.cell 6
  have y7 : X.cell? ⟨W.heap.size, 7, none⟩ = some (.map mo) := BX1.out.cell 7
  have ho : X.ownsRow W0.heap.size 69 8 (.slice o m0 c) m0 ys := by have := H1.out.own; rw [HD.out] at this; exact this
  have HO := Lib.hid ho
  have hb0 : W0.heap.size ≤ X.heap.size := H1.out.kb.size
  have HB0 := Lib.hid hb0
  have HOP := Lib.hid hop
  clear ho hb0
  obtain ⟨i0, hi, hzz⟩ := Option.map_eq_some_iff.1 infoP
  simp only [Prod.mk.injEq] at hzz
  obtain ⟨hz0, hz1, hz2⟩ := hzz
  go_cut [] (fun wx => Hid (∃ o' c' B', PW W0 b s d k (f :: op) (.slice o' (m0 + 1) c') (ys ++ fcells f (.slice none 0 0) (.slice none 0 0) (.map mo)) B' wx ∧ (X.heap.size ≤ wx.heap.size ∧ ∀ q, q < X.heap.size → mo ≠ some q → Off W0 b (.slice o m0 c) B q → wx.heap[q]? = X.heap[q]? ∧ Off W0 b (.slice o' (m0 + 1) c') B' q) ∧ (∀ q, B' q → B q ∨ Wb.heap.size ≤ q)))
  case first =>
    go_region_law (refine Ow.step_append_row rfl _ _ 41 rfl W0.heap.size 69 i0 zeroP 8 96 Tryz.underlying41 hi hz0 hz1 hz2 rfl (by decide) (.slice o m0 c) m0 ys (by simp [Act.eval, Act.put]) (HO.out.drew.alloc _) (some ⟨X.heap.size, 0, none⟩) ⟨X.heap.size, 0, none⟩ 1 1 [.int .i8 kd, .bool false, .int .i64 0, .string ⟨#[]⟩, .slice none 0 0, .slice none 0 0, .int .u8 cl.toNat, .map mo] (by simp [Act.eval, Act.put]) (fun _ => rfl) rfl (news_at (Bx.new X.drew _ _)) (by intro u hu; simp at hu; rcases hu with rfl | rfl | rfl | rfl | rfl | rfl | rfl | rfl <;> rfl) (by have := HOP.out; unfold maxLen; omega) (by have := HOP.out; omega) (by have := HB0.out; simp; omega) ?_; intro o' c' w2 own2 gr2 at2; obtain ⟨y, ⟨⟨_, q1⟩, q2, q3⟩, HY⟩ := PU.out _ _ _ _ ((Below.refl _ X).drew.alloc (Nat.le_refl _) _) own2 gr2 at2)
    all_goals
      go_wp2_with fail
      go_meet
      exact Lib.hid ⟨_, _, HY.out.choose, HY.out.choose_spec⟩
  case rest =>
    obtain ⟨o', c', B', h2, hf2, hbb⟩ := hcut.out
    have HBB := Lib.hid hbb
    clear hbb
    have hoff : ∀ q, W.heap.size ≤ q → q < X.heap.size → wc.heap[q]? = X.heap[q]? ∧ Off W0 b (.slice o' (m0 + 1) c') B' q := fun q h3 h4 => by
      refine hf2.2 q h4 (fun e => ?_) (HH.out.off q h3)
      cases hf : f.obj with
      | false => have := HM0.out hf; rw [this] at e; cases e
      | true =>
        obtain ⟨mb, e1, -, e2, e3⟩ := HM1.out hf
        rw [e1] at e
        cases e
        have := e2.lt
        omega
    have hsx := SX.out
    have bx1 := BX1.out.kp (hoff W.heap.size (Nat.le_refl _) (by omega)).1
    have bx2 := BX2.out.kp (hoff (W.heap.size + 1) (by omega) (by omega)).1
    have of1 := (hoff W.heap.size (Nat.le_refl _) (by omega)).2
    have of2 := (hoff (W.heap.size + 1) (by omega) (by omega)).2
    have hfr : ∀ q, q < Wb.heap.size → Off W0 b (.slice o m0 c) B q → wc.heap[q]? = Wb.heap[q]? ∧ Off W0 b (.slice o' (m0 + 1) c') B' q := fun q h3 h4 => by
      have h5 := hwb.size
      have h6 := hf2.2 q (by omega) (fun e => by
        cases hf : f.obj with
        | false => have := HM0.out hf; rw [this] at e; cases e
        | true =>
          obtain ⟨mb, e1, e0, e2, e3⟩ := HM1.out hf
          rw [e1] at e
          cases e
          omega) h4
      exact ⟨h6.1.trans ((KX.out.2 q (by omega) h4.2.1).trans (hwb.block q h3)), h6.2⟩
    have hwsz : Wb.heap.size ≤ wc.heap.size := by have h5 := hwb.size; have := hf2.1; omega
    have HF2 := Lib.hid (show Frm W0 b (.slice o m0 c) B Wb (.slice o' (m0 + 1) c') B' wc from ⟨hwsz, hfr⟩)
    have H2 := Lib.hid h2
    have BX1 := Lib.hid bx1
    have BX2 := Lib.hid bx2
    have OF1 := Lib.hid of1
    have OF2 := Lib.hid of2
    have hne1 : ¬ b = W.heap.size := fun e => of1.2.1 e.symm
    have hne2 : ¬ b = W.heap.size + 1 := fun e => of2.2.1 e.symm
    have c1 := h2.c1
    have f1 := h2.fz 1
    clear hcut h2 hf2 hoff bx1 bx2 of1 of2 hfr hsx hwsz c3 c3' y0 y1 y2 y3 y4 y5 y6 y7 hi hz0 hz1 hz2 i0 PU
    go_wp2_with fail
    have h3 := H2.out.at (k + 1)
    have hk1 : k + 1 ≤ s.size := hk
    refine (blanks_any h3 hk1 (by omega)).mono ?_
    rintro e W3 ⟨rfl, h4, hg4⟩
    have k4 : Kb b wc W3 := ((Kb.refl b wc).set_b 1 _).trans (Kb.of_grown hg4)
    have bx1 := BX1.out.kp (k4.2 _ BX1.out.lt OF1.out.2.1)
    have bx2 := BX2.out.kp (k4.2 _ BX2.out.lt OF2.out.2.1)
    have y6 : W3.cell? ⟨W.heap.size, 6, none⟩ = some (.int .u8 cl.toNat) := bx1.cell 6
    have HF4 := Lib.hid (HF2.out.trans (Frm.of_kb k4))
    obtain ⟨K, hK⟩ : ∃ K, bl s.data.toList (k + 1) = K := ⟨_, rfl⟩
    have hKs : K ≤ s.size := by rw [← hK]; have := bl_le s.data.toList (k + 1) (by rw [toList_length]; exact hk1); rwa [toList_length] at this
    rw [hK] at h4
    have HK := Lib.hid hK
    have H4 := Lib.hid h4
    have BX2 := Lib.hid bx2
    clear h3 h4 hg4 k4 bx1 bx2 hK c1 f1
    go_wp2_with fail
    have hst := stands_any H4.out cl hKs (by omega)
    by_cases hy : s.data.toList[K]? = some cl
    · rw [decide_eq_true hy] at hst
      have hr := HR.out
      unfold enterM at hr
      rw [HK.out, HCL.out, if_pos hy] at hr
      subst hr
      refine hst.mono ?_
      rintro e W4 ⟨rfl, hb4⟩
      have h5 := H4.out.below hb4
      have H5 := Lib.hid h5
      have HF5 := Lib.hid (HF4.out.trans (Frm.of_kb (Kb.of_below hb4)))
      have BX2 := Lib.hid (BX2.out.below hb4)
      clear hst hy h5 hb4
      go_wp2_with fail
      refine (leave_any H5.out (by rw [HD.out]; omega) (by omega)).mono ?_
      intro e W5 h6
      obtain ⟨val, S, ov5, ys5, B5, rfl, h7, hva, hS, hF⟩ := h6
      obtain ⟨kd', bo, nu, te, o1, n1, m1, o2, n2, m2, rfl⟩ := isVa_form hva
      have hb2 := hF.2 (W.heap.size + 1) BX2.out.lt OF2.out
      have bx2 := BX2.out.kp hb2.1
      have q0 : W5.cell? ⟨W.heap.size + 1, 0, none⟩ = some (.int .i8 0) := bx2.cell 0
      have q1 : W5.cell? ⟨W.heap.size + 1, 1, none⟩ = some (.bool false) := bx2.cell 1
      have q2 : W5.cell? ⟨W.heap.size + 1, 2, none⟩ = some (.int .i64 0) := bx2.cell 2
      have q3 : W5.cell? ⟨W.heap.size + 1, 3, none⟩ = some (.string ⟨#[]⟩) := bx2.cell 3
      have q4 : W5.cell? ⟨W.heap.size + 1, 4, none⟩ = some (.slice none 0 0) := bx2.cell 4
      have q5 : W5.cell? ⟨W.heap.size + 1, 5, none⟩ = some (.slice none 0 0) := bx2.cell 5
      have z0 := bx2.frozen 0
      have z1 := bx2.frozen 1
      have z2 := bx2.frozen 2
      have z3 := bx2.frozen 3
      have z4 := bx2.frozen 4
      have z5 := bx2.frozen 5
      have H7 := Lib.hid h7
      have HVA := Lib.hid hva
      have HS := Lib.hid hS
      have HB2 := Lib.hid hb2
      have HF7 := Lib.hid (HF5.out.trans hF)
      have BX2L := Lib.hid BX2.out.lt
      have BX2 := Lib.hid bx2
      clear h7 hva hS hb2 hF bx2
      go_wp2_with fail
      refine bodyPost_ret (v := .tuple #[.agg #[.int .i8 kd', .bool bo, .int .i64 nu, .string te, .slice o1 n1 m1, .slice o2 n2 m2], .bool true]) (by simp [results, Tryz.results40, go_sem, q0, q1, q2, q3, q4, q5]) rfl ?_
      have hlt2 : W.heap.size + 1 < W4.heap.size := BX2L.out
      have hwb2 := hwb.size
      refine StepR.got6 H7.out HB2.out.2 HVA.out (fun q e => ⟨(HS.out q e).1, (HS.out q e).2.1, ?_⟩) (fun q e e' => ?_) HF7.out (by omega)
      · have h9 := HF5.out.1
        rcases (HS.out q e).2.2 with e1 | e1
        · exact HBB.out q e1
        · exact .inr (by omega)
      · rcases (HS.out q e).2.2 with e1 | e1
        · exact OF2.out.2.2.1 (e' ▸ e1)
        · omega
    · have hr := HR.out
      unfold enterM at hr
      rw [HK.out, HCL.out, if_neg hy] at hr
      have HR := Lib.hid hr
      rw [decide_eq_false hy] at hst
      refine hst.mono ?_
      rintro e W4 ⟨rfl, hb4⟩
      have h5 := H4.out.below hb4
      have H5 := Lib.hid h5
      have HF5 := Lib.hid (HF4.out.trans (Frm.of_kb (Kb.of_below hb4)))
      have BX2 := Lib.hid (BX2.out.below hb4)
      clear hst hy h5 hb4 hr
      go_wp2_with fail
      refine (key_any H5.out hE (by rw [HD.out]; omega) hKs hs (by rw [hks]; simp)).mono ?_
      intro e W5 h6
      have hr := HR.out
      cases hkm : keyM s.data.toList K f with
      | error er =>
        rw [hkm] at h6 hr
        subst hr
        obtain ⟨rfl, hb6⟩ := h6
        have HB6 := Lib.hid hb6
        clear hb6 HR hkm
        exact ⟨rfl, StepR.err rfl HB6.out⟩
      | ok p =>
        obtain ⟨k', f'⟩ := p
        rw [hkm] at h6 hr
        simp only at hr
        subst hr
        obtain ⟨rfl, ov5, ys5, B5, h7, hF⟩ := h6
        have hb2 := hF.2 (W.heap.size + 1) BX2.out.lt OF2.out
        have bx2 := BX2.out.kp hb2.1
        have q0 : W5.cell? ⟨W.heap.size + 1, 0, none⟩ = some (.int .i8 0) := bx2.cell 0
        have q1 : W5.cell? ⟨W.heap.size + 1, 1, none⟩ = some (.bool false) := bx2.cell 1
        have q2 : W5.cell? ⟨W.heap.size + 1, 2, none⟩ = some (.int .i64 0) := bx2.cell 2
        have q3 : W5.cell? ⟨W.heap.size + 1, 3, none⟩ = some (.string ⟨#[]⟩) := bx2.cell 3
        have q4 : W5.cell? ⟨W.heap.size + 1, 4, none⟩ = some (.slice none 0 0) := bx2.cell 4
        have q5 : W5.cell? ⟨W.heap.size + 1, 5, none⟩ = some (.slice none 0 0) := bx2.cell 5
        have z0 := bx2.frozen 0
        have z1 := bx2.frozen 1
        have z2 := bx2.frozen 2
        have z3 := bx2.frozen 3
        have z4 := bx2.frozen 4
        have z5 := bx2.frozen 5
        have H7 := Lib.hid h7
        have HB2 := Lib.hid hb2
        have HF7 := Lib.hid (HF5.out.trans hF)
        clear h7 hb2 hF bx2 HR hkm
        go_wp2_with fail
        refine bodyPost_ret (v := .tuple #[zeroV, .bool false]) (by simp [results, Tryz.results40, go_sem, q0, q1, q2, q3, q4, q5, zeroV]) rfl ?_
        have hwb2 := hwb.size
        exact StepR.rd6 H7.out HB2.out.2 HF7.out (by omega)
end
end Go.Proofs.YtgbagdfcdljleaaGreatDoor
