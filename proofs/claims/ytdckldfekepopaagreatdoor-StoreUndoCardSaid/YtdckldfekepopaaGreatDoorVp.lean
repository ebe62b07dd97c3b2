/-
  StoreUndo: the walk.
-/
import Derived.Test.YtdckldfekepopaaGreatDoorVo
import Derived.Deep.Cut
import Derived.Deep.CutBlock
import Derived.Deep.CutRange
import Derived.Deep.DeepCutAuto
set_option linter.unusedVariables false
set_option linter.unusedSimpArgs false
namespace Go.Proofs.YtdckldfekepopaaGreatDoor
open Go.RowKit Go.Deep

/-- What lies there all along: the store's box; what came in. -/
structure UB (w : World) (s : St) (ps : List G) (o ou : Option Addr) (cap cu : Nat) (W : World) : Prop where
  bel : Below w.heap.size w W
  sz : w.heap.size < W.heap.size
  box : W.heap[w.heap.size]? = some (.cells #[.slice o s.l.length cap, .int .i64 s.made] 24 (0, 0))
  rd : isS W s (.agg #[.slice o s.l.length cap, .int .i64 s.made])
  uf : uS W s (.agg #[.slice o s.l.length cap, .int .i64 s.made])
  ps : isGs W ps (.slice ou ps.length cu)
theorem UB.below {w : World} {s : St} {ps : List G} {o ou : Option Addr} {cap cu : Nat} {W W' : World} (h : UB w s ps o ou cap cu W) (hb : Below W.heap.size W W') : UB w s ps o ou cap cu W' := by
  have := h.sz; have := hb.size
  exact ⟨h.bel.trans (hb.mono h.bel.size), by omega, (hb.block _ h.sz).trans h.box, isS_below hb h.rd, uS_below hb h.uf, isGs_below hb h.ps⟩
set_option maxRecDepth 100000 in
set_option maxHeartbeats 8000000 in
theorem StoreUndo_any (s : St) (v : Value) (K p : ByteArray) (u : Value) (ps : List G) (w : World) (hE : Env9 w) (h : isS w s v ∧ uS w s v) (hK : K.size ≤ maxLen) (hp : p.size ≤ maxLen) (hg : isGs w ps u) :
    Calls Tryz.prog 5 #[v, .string K, .string p, u] w fun e w' => e = .returned (.bool true) ∧ Below w.heap.size w w' := by
  obtain ⟨h, hz⟩ := h
  obtain ⟨o, cap, rfl, -, hm⟩ := isS_two h
  obtain ⟨ou, cu, rfl⟩ : ∃ ou cu, u = .slice ou ps.length cu := by obtain ⟨a, cap, ⟨o, rfl, _⟩, _⟩ := hg; exact ⟨_, _, rfl⟩
  unfold maxLen at hp
  have A0 : KB w (w.alloc (.cells #[.slice o s.l.length cap, .int .i64 s.made] 24)) := kbA
  have HU0 : Hid (UB w s ps o ou cap cu (w.alloc (.cells #[.slice o s.l.length cap, .int .i64 s.made] 24))) := Lib.hid ⟨A0, by simp, World.alloc_heap_new _ _, isS_below A0 h, uS_below A0 hz, isGs_below A0 hg⟩
  have HG := Lib.hid (lgreat_any s ps K _ _ (w.alloc (.cells #[.slice o s.l.length cap, .int .i64 s.made] 24)) hK HU0.out.rd HU0.out.ps)
  have HW : Hid (∀ w1, KB w w1 → Calls Tryz.prog 7 #[] w1 fun e w' => e = .returned (.bool true) ∧ Below w1.heap.size w1 w') := Lib.hid fun w1 hk => wakes10_any w1 (hE.kb hk)
  have HE := Lib.hid hE
  clear h hz hg hE hK A0
  by_cases hL : lgreat s ps K = true
  · rw [hL] at HG
    clear hL
    go_enter Tryz.func5, Tryz.ntmps5
    go_wp2_with fail
    refine HG.out.mono ?_
    rintro e w1 ⟨rfl, hb1⟩
    have H1 := Lib.hid (HU0.out.below hb1)
    clear hb1 HG HU0
    go_wp2_with fail
    refine (HW.out _ H1.out.bel).mono ?_
    rintro e w2 ⟨rfl, hb2⟩
    have H2 := Lib.hid (H1.out.below hb2)
    clear hb2 H1
    go_wp2_with fail
    go_ret
    exact ⟨rfl, H2.out.bel⟩
  · have hL' : lgreat s ps K = false := by simpa using hL
    rw [hL'] at HG
    by_cases h4 : 400 < p.size
    · have y1 : decide ((400 : Int) < (p.size : Int)) = true := decide_eq_true (by omega)
      clear hL hL' h4
      go_enter Tryz.func5, Tryz.ntmps5
      go_wp2_with fail
      refine HG.out.mono ?_
      rintro e w1 ⟨rfl, hb1⟩
      have H1 := Lib.hid (HU0.out.below hb1)
      clear hb1 HG HU0
      go_wp2_with fail
      refine (HW.out _ H1.out.bel).mono ?_
      rintro e w2 ⟨rfl, hb2⟩
      have H2 := Lib.hid (H1.out.below hb2)
      clear hb2 H1
      go_wp2_with fail
      go_ret
      exact ⟨rfl, H2.out.bel⟩
    · have y1 : decide ((400 : Int) < (p.size : Int)) = false := decide_eq_false (by omega)
      have hgs : greatS s = false ∧ greatG ps = false ∧ K.size ≤ 400 := by
        unfold lgreat at hL'
        rw [Bool.or_eq_false_iff, Bool.or_eq_false_iff] at hL'
        have := of_decide_eq_false hL'.2.2
        exact ⟨hL'.1, hL'.2.1, by omega⟩
      have HX : Hid (fineS s ∧ fineG ps ∧ K.size ≤ 400 ∧ s.l.length ≤ 40) := Lib.hid ⟨fineS_of hgs.1, fineG_of hgs.2.1, hgs.2.2, (greatS_no hgs.1).1⟩
      clear hL hL' h4 hgs
      go_enter Tryz.func5, Tryz.ntmps5
      go_wp2_with fail
      refine HG.out.mono ?_
      rintro e w1 ⟨rfl, hb1⟩
      have H1 := Lib.hid (HU0.out.below hb1)
      obtain ⟨r0, r1⟩ := two_cells H1.out.box
      have HC := Create_any s K ps _ _ w1 (HE.out.kb H1.out.bel) HX.out.1 HX.out.2.2.1 HX.out.2.1 H1.out.rd H1.out.ps
      have hw := fun h => went_create (K := K) (ps := ps) HX.out.1 HX.out.2.2.1 HX.out.2.1 h
      have hu := undo_create (s := s) (K := K) (ps := ps)
      generalize createL s K ps = C at HC hw hu
      obtain ⟨t, p1, ec⟩ := C
      dsimp only at HC hw hu
      have HC := Lib.hid HC
      have HW' := Lib.hid hw
      have HU' := Lib.hid hu
      clear hb1 HG HU0 hw hu
      go_wp2_with fail
      refine HC.out.mono ?_
      rintro e w3 ⟨⟨v', rfl, hs'⟩, hb3⟩
      obtain ⟨ot, ct, rfl, -, -⟩ := isS_two hs'
      have A4 : KB w3 (w3.alloc (.cells #[.slice ot t.l.length ct, .int .i64 t.made] 24)) := kbA
      have H4 := Lib.hid ((H1.out.below hb3).below A4)
      have HS4 := Lib.hid (isS_below A4 hs')
      have N4 := World.alloc_heap_new w3 (.cells #[.slice ot t.l.length ct, .int .i64 t.made] 24)
      clear hb3 A4 hs' HC H1 r0 r1
      go_upto_if 41 with fail
      generalize hW4 : (w3.alloc (.cells #[.slice ot t.l.length ct, .int .i64 t.made] 24)) = W4 at *
      clear hW4
      have N4 := Lib.hid N4
      go_cut [12, 13] from 41 to 120 (fun s12 s13 wx => Hid (UB w s ps o ou cap cu wx))
      case first =>
        by_cases hz : ec = 0
        · subst hz
          obtain ⟨hdel, hm1, hm2⟩ := HU'.out rfl
          obtain ⟨hwent, -⟩ := HW'.out rfl
          have hft := hwent.fine HX.out.1 HX.out.2.2.2 (by omega)
          have HD := Delete_any t p1 _ W4 (HE.out.kb H4.out.bel) hft HS4.out
          rw [hdel] at HD
          have HD := Lib.hid HD
          obtain ⟨r0, r1⟩ := two_cells H4.out.box
          have u1 : wrap64 (s.made + 1) = s.made + 1 := by unfold wrap64; omega
          have u2 : IntKind.i64.wrap (s.made + 1) = s.made + 1 := IntWalk.i64_in _ (by omega)
          obtain ⟨d0, d1⟩ := two_cells N4.out
          clear hdel hwent hft HU' HW'
          go_wp2_with fail
          refine HD.out.mono ?_
          rintro e w5 ⟨⟨v', rfl, hs5⟩, hb5⟩
          obtain ⟨o5, c5, rfl, -, -⟩ := isS_two hs5
          change isS w5 ⟨s.l, s.made + 1⟩ (.agg #[.slice o5 s.l.length c5, .int .i64 (s.made + 1)]) at hs5
          have A6 : KB w5 (w5.alloc (.cells #[.slice o5 s.l.length c5, .int .i64 (s.made + 1)] 24)) := kbA
          have r0 := cell_below A6 _ _ (cell_below hb5 _ _ r0)
          have r1 := cell_below A6 _ _ (cell_below hb5 _ _ r1)
          have A7 : KB w5 (w5.alloc (.cells #[.slice o5 s.l.length c5, .int .i64 s.made] 24)) := kbA
          have H7 := Lib.hid ((H4.out.below hb5).below A7)
          obtain ⟨t0, t1⟩ := two_cells H7.out.box
          have hs7 : isS (w5.alloc (.cells #[.slice o5 s.l.length c5, .int .i64 s.made] 24)) s (.agg #[.slice o5 s.l.length c5, .int .i64 s.made]) := by
            obtain ⟨lv, e, hts, -⟩ := hs5
            simp only [Value.agg.injEq, Array.mk.injEq, List.cons.injEq, and_true] at e
            subst e
            exact ⟨_, rfl, isTs_below A7 hts, hm⟩
          have HSM := Lib.hid (Same10p_any s _ _ _ HX.out.1 hs7 H7.out.rd H7.out.uf)
          clear hb5 hs5 hs7 HD A6 A7 d0 d1
          show _
          dsimp only
          go_wp2_with fail
          refine HSM.out.mono ?_
          rintro e w8 ⟨rfl, hb8⟩
          have H8 := Lib.hid (H7.out.below hb8)
          clear hb8 HSM t0 t1 r0 r1
          go_wp2_with fail
          go_meet
          exact H8
        · have hzb : (ec == 0) = false := by rw [beq_eq_false_iff_ne]; exact hz
          clear HU' HW'
          go_wp2_with fail
          go_meet
          exact H4
      case rest =>
        have H4 := hcut
        obtain ⟨r0, r1⟩ := two_cells H4.out.box
        have HG := Lib.hid (Get10_any s p _ wc HX.out.1 H4.out.rd)
        clear hcut HS4 N4
        go_wp2_with fail
        refine HG.out.mono ?_
        rintro e w5 ⟨⟨v', rfl, ⟨pv, rfl, hgw, -⟩⟩, hb5⟩
        obtain ⟨tw, bw, hT⟩ : ∃ tw bw, getT s p = (tw, bw) := ⟨_, _, rfl⟩
        rw [hT] at hgw ⊢
        dsimp only at hgw ⊢
        obtain ⟨oz, cz, rfl⟩ : ∃ oz cz, pv = .slice oz tw.ps.length cz := by obtain ⟨az, cz, ⟨oz, rfl, -⟩, -⟩ := hgw; exact ⟨_, _, rfl⟩
        have HT := Lib.hid hT
        have A6 : KB w5 (w5.alloc (.cells #[.string tw.ph, .string tw.ty, .slice oz tw.ps.length cz] 52)) := kbA
        have H6 := Lib.hid ((H4.out.below hb5).below A6)
        have N6 := Lib.hid (World.alloc_heap_new w5 (.cells #[.string tw.ph, .string tw.ty, .slice oz tw.ps.length cz] 52))
        have z6 := World.size_alloc w5 (.cells #[.string tw.ph, .string tw.ty, .slice oz tw.ps.length cz] 52)
        have HGW := Lib.hid (isGs_below A6 hgw)
        obtain ⟨r0, r1⟩ := two_cells H6.out.box
        have HUP := Update_any s p ps _ _ _ (HE.out.kb H6.out.bel) HX.out.1 HX.out.2.1 H6.out.rd H6.out.ps
        have hw := fun h => went_update (p := p) (ps := ps) HX.out.1 HX.out.2.1 h
        have hu := undo_update (s := s) (p := p) (ps := ps)
        generalize updateL s p ps = C at HUP hw hu
        obtain ⟨t2, e2⟩ := C
        dsimp only at HUP hw hu
        have HUP := Lib.hid HUP
        have HW2 := Lib.hid hw
        have HU2 := Lib.hid hu
        have Z6 := Lib.hid z6
        clear hT hgw hb5 HG A6 hw hu H4 z6
        go_wp2_with fail
        refine HUP.out.mono ?_
        rintro e w7 ⟨⟨v', rfl, hs7⟩, hb7⟩
        obtain ⟨o2, c2, rfl, -, -⟩ := isS_two hs7
        have A8 : KB w7 (w7.alloc (.cells #[.slice o2 t2.l.length c2, .int .i64 t2.made] 24)) := kbA
        have H8 := Lib.hid ((H6.out.below hb7).below A8)
        have N8 := Lib.hid (World.alloc_heap_new w7 (.cells #[.slice o2 t2.l.length c2, .int .i64 t2.made] 24))
        have z8 := World.size_alloc w7 (.cells #[.slice o2 t2.l.length c2, .int .i64 t2.made] 24)
        have hlt6 : w5.heap.size < w7.heap.size := by have := hb7.size; have := Z6.out; omega
        have N6' := Lib.hid ((A8.block _ hlt6).trans ((hb7.block _ (by have := Z6.out; omega)).trans N6.out))
        have HS8 := Lib.hid (isS_below A8 hs7)
        have HGW8 := Lib.hid (isGs_below (hb7.trans (A8.mono hb7.size)) HGW.out)
        have Z8 := Lib.hid (And.intro z8 hlt6)
        clear hs7 hb7 A8 z8 hlt6 HUP N6 H6 HGW Z6 r0 r1
        obtain ⟨r0, r1⟩ := two_cells H8.out.box
        obtain ⟨x0, x1, x2⟩ := three_cells N6'.out
        by_cases hz : e2 = 0
        · subst hz
          obtain ⟨tt, htm, hph, hg1, hupd, hg2⟩ := HU2.out rfl
          rw [HT.out] at hg1
          simp only [Prod.mk.injEq] at hg1
          obtain ⟨rfl, rfl⟩ := hg1
          obtain ⟨hwent, -, -⟩ := HW2.out rfl
          have hft := hwent.fine HX.out.1 HX.out.2.2.2 (by omega)
          have HUP2 := Update_any t2 p tw.ps _ _ _ (HE.out.kb H8.out.bel) hft (HX.out.1.2 _ htm).2 HS8.out HGW8.out
          rw [hupd] at HUP2
          have HUP2 := Lib.hid HUP2
          have HFG := Lib.hid (And.intro hft hg2)
          clear htm hph hupd hg2 hwent hft HU2 HW2
          go_wp2_with fail
          refine HUP2.out.mono ?_
          rintro e w9 ⟨⟨v', rfl, hs9⟩, hb9⟩
          obtain ⟨o9, c9, rfl, -, -⟩ := isS_two hs9
          have A10 : KB w9 (w9.alloc (.cells #[.slice o9 s.l.length c9, .int .i64 s.made] 24)) := kbA
          have H10 := Lib.hid ((H8.out.below hb9).below A10)
          have hb10 := hb9.trans (A10.mono hb9.size)
          have N10 := Lib.hid (World.alloc_heap_new w9 (.cells #[.slice o9 s.l.length c9, .int .i64 s.made] 24))
          have hs10 := isS_below A10 hs9
          have z10 := World.size_alloc w9 (.cells #[.slice o9 s.l.length c9, .int .i64 s.made] 24)
          have hl9 : w5.heap.size < w9.heap.size ∧ w7.heap.size < w9.heap.size := by have := hb9.size; have := Z8.out.1; have := Z8.out.2; omega
          have N6a := Lib.hid ((hb10.block _ (by have := Z8.out.1; have := Z8.out.2; omega)).trans N6'.out)
          have N8a := Lib.hid ((hb10.block _ (by have := Z8.out.1; omega)).trans N8.out)
          have HG2 := Get10_any t2 p _ _ HFG.out.1 (isS_below hb10 HS8.out)
          rw [HFG.out.2] at HG2
          have HG2 := Lib.hid HG2
          have HS10 := Lib.hid hs10
          have Z10 := Lib.hid (And.intro z10 hl9)
          clear hs9 hb9 A10 hb10 hs10 HUP2 r0 r1 x0 x1 x2 z10 hl9 H8 N6' N8
          obtain ⟨y0, y1'⟩ := two_cells N8a.out
          go_wp2_with fail
          refine HG2.out.mono ?_
          rintro e w11 ⟨⟨v', rfl, ⟨pw, rfl, hgx, -⟩⟩, hb11⟩
          dsimp only at hgx
          obtain ⟨ox, cx, rfl⟩ : ∃ ox cx, pw = .slice ox ps.length cx := by obtain ⟨az, cz, ⟨oz, rfl, -⟩, -⟩ := hgx; exact ⟨_, _, rfl⟩
          have A12 : KB w11 (w11.alloc (.cells #[.string p, .string tw.ty, .slice ox ps.length cx] 52)) := kbA
          have H12 := Lib.hid ((H10.out.below hb11).below A12)
          have hb12 := hb11.trans (A12.mono hb11.size)
          obtain ⟨r0, r1⟩ := two_cells H12.out.box
          obtain ⟨x0, x1, x2⟩ := three_cells ((hb12.block _ (by have := Z10.out; omega)).trans N6a.out)
          obtain ⟨t0, t1⟩ := two_cells ((hb12.block _ (by have := Z10.out; omega)).trans N10.out)
          have n12 := World.alloc_heap_new w11 (.cells #[.string p, .string tw.ty, .slice ox ps.length cx] 52)
          obtain ⟨k0, k1, k2⟩ := three_cells n12
          have HSM := Lib.hid (Same10p_any s _ _ _ HX.out.1 (isS_below hb12 HS10.out) H12.out.rd H12.out.uf)
          have HGX := Lib.hid (isGs_below A12 hgx)
          clear hgx hb11 A12 hb12 HG2 y0 y1' n12
          show _
          dsimp only
          go_wp2_with fail
          refine HSM.out.mono ?_
          rintro e w13 ⟨rfl, hb13⟩
          have H13 := Lib.hid (H12.out.below hb13)
          have k1 := cell_below hb13 _ _ k1
          have k2 := cell_below hb13 _ _ k2
          have x1 := cell_below hb13 _ _ x1
          have HS9 := Lib.hid (rsame9_any ps _ _ w13 HX.out.2.1 (isGs_below hb13 HGX.out) H13.out.ps)
          clear hb13 HSM HGX H12
          go_wp2_with fail
          refine HS9.out.mono ?_
          rintro e w14 ⟨rfl, hb14⟩
          have H14 := Lib.hid (H13.out.below hb14)
          have k1 := cell_below hb14 _ _ k1
          have x1 := cell_below hb14 _ _ x1
          clear hb14 HS9 H13
          go_wp2_with fail
          refine (HW.out _ H14.out.bel).mono ?_
          rintro e w15 ⟨rfl, hb15⟩
          have H15 := Lib.hid (H14.out.below hb15)
          clear hb15 H14
          go_wp2_with fail
          go_ret
          exact ⟨rfl, H15.out.bel⟩
        · have hzb : (e2 == 0) = false := by rw [beq_eq_false_iff_ne]; exact hz
          clear HU2 HW2 x0 x1 x2
          go_wp2_with fail
          refine (HW.out _ H8.out.bel).mono ?_
          rintro e w9 ⟨rfl, hb9⟩
          have H9 := Lib.hid (H8.out.below hb9)
          clear hb9 H8
          go_wp2_with fail
          go_ret
          exact ⟨rfl, H9.out.bel⟩
end Go.Proofs.YtdckldfekepopaaGreatDoor
