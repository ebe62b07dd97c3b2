/-
  StoreOnce: the walk.
-/
import Derived.Test.YtdckldfekepopaaGreatDoorYF
import Derived.Deep.Cut
import Derived.Deep.CutBlock
import Derived.Deep.CutRange
import Derived.Deep.DeepCutAuto
set_option linter.unusedVariables false
set_option linter.unusedSimpArgs false
namespace Go.Proofs.YtdckldfekepopaaGreatDoor
open Go.RowKit Go.Deep

/-- What lies there as a round begins: the store's box. -/
structure OnI (w1 : World) (s : St) (j : Nat) (o : Option Addr) (cap : Nat) (W : World) : Prop where
  bel : Below w1.heap.size w1 W
  sz : w1.heap.size + 1 ≤ W.heap.size
  box : W.heap[w1.heap.size]? = some (.cells #[.slice o s.l.length cap, .int .i64 s.made] 24 (0, 0))
  rd : isS W s (.agg #[.slice o s.l.length cap, .int .i64 s.made])
  ok : okS s
  fine : fineS s
  len : s.l.length ≤ j
theorem OnI.start (w1 : World) : OnI w1 zS 0 none 0 (w1.alloc (.cells #[.slice none 0 0, .int .i64 0] 24)) :=
  ⟨kbA, by simp, World.alloc_heap_new _ _, isS_zero _, ok_zS, fine_z, by decide⟩
/-- .. as the deed is done: four boxes; t: what the deed's box holds. -/
structure OnM (w1 : World) (s : St) (x : Ac) (o o1 : Option Addr) (cap c1 b6 b7 b11 : Nat) (t : St) (ot : Option Addr) (ct : Nat) (W : World) : Prop where
  bel : Below w1.heap.size w1 W
  l6 : w1.heap.size < b6
  l7 : b6 < b7
  l11 : b7 < b11
  sz : b11 < W.heap.size
  box : W.heap[w1.heap.size]? = some (.cells #[.slice o s.l.length cap, .int .i64 s.made] 24 (0, 0))
  act : W.heap[b6]? = some (.cells #[.int .i64 x.dO, .string x.kd, .slice o1 x.ps.length c1, .int .i64 x.n] 46 (0, 0))
  was : W.heap[b7]? = some (.cells #[.slice o s.l.length cap, .int .i64 s.made] 31 (0, 0))
  new : W.heap[b11]? = some (.cells #[.slice ot t.l.length ct, .int .i64 t.made] 24 (0, 0))
  rd : isS W s (.agg #[.slice o s.l.length cap, .int .i64 s.made])
  rt : isS W t (.agg #[.slice ot t.l.length ct, .int .i64 t.made])
  ps : isGs W x.ps (.slice o1 x.ps.length c1)
theorem OnM.below {w1 : World} {s : St} {x : Ac} {o o1 : Option Addr} {cap c1 b6 b7 b11 : Nat} {t : St} {ot : Option Addr} {ct : Nat} {W W' : World} (h : OnM w1 s x o o1 cap c1 b6 b7 b11 t ot ct W) (hb : Below W.heap.size W W') : OnM w1 s x o o1 cap c1 b6 b7 b11 t ot ct W' := by
  have a1 := h.l6; have a2 := h.l7; have a3 := h.l11; have a4 := h.sz; have a5 := hb.size
  exact ⟨h.bel.trans (hb.mono h.bel.size), a1, a2, a3, by omega, (hb.block _ (by omega)).trans h.box, (hb.block _ (by omega)).trans h.act, (hb.block _ (by omega)).trans h.was, (hb.block _ (by omega)).trans h.new, isS_below hb h.rd, isS_below hb h.rt, isGs_below hb h.ps⟩
theorem OnM.set {w1 : World} {s : St} {x : Ac} {o o1 : Option Addr} {cap c1 b6 b7 b11 : Nat} {t t' : St} {ot ot' : Option Addr} {ct ct' : Nat} {W W' : World} (h : OnM w1 s x o o1 cap c1 b6 b7 b11 t ot ct W) (hs : isS W t' (.agg #[.slice ot' t'.l.length ct', .int .i64 t'.made])) (hg : W.grownBy W' (some b11))
    (hn : W'.heap[b11]? = some (.cells #[.slice ot' t'.l.length ct', .int .i64 t'.made] 24 (0, 0))) : OnM w1 s x o o1 cap c1 b6 b7 b11 t' ot' ct' W' := by
  have a1 := h.l6; have a2 := h.l7; have a3 := h.l11; have a4 := h.sz; have a5 := hg.size; have a6 := h.bel.size
  have hB : Box W b11 := ⟨_, _, _, h.new, fun s e => Value.noConfusion e, fun s e => Value.noConfusion e⟩
  have ne : ∀ k, k < b11 → (some k : Option Nat) ≠ some b11 := fun k hk e => by cases e; omega
  exact ⟨h.bel.grown hg a6 (fun r e => by cases e; omega), a1, a2, a3, by omega, (hg.block _ (by omega) (ne _ (by omega))).trans h.box, (hg.block _ (by omega) (ne _ (by omega))).trans h.act, (hg.block _ (by omega) (ne _ (by omega))).trans h.was, hn, isS_box hB hg h.rd, isS_box hB hg hs, isGs_box hB hg h.ps⟩
theorem four_cells {W : World} {B : Nat} {c0 c1 c2 c3 : Value} {t : TypeId} (h : W.heap[B]? = some (.cells #[c0, c1, c2, c3] t (0, 0))) : W.cell? ⟨B, 0, none⟩ = some c0 ∧ W.cell? ⟨B, 1, none⟩ = some c1 ∧ W.cell? ⟨B, 2, none⟩ = some c2 ∧ W.cell? ⟨B, 3, none⟩ = some c3 := by
  simp [World.cell?, h]
theorem OnM.start {w1 wr w5 w8 : World} {s : St} {x : Ac} {o o1 : Option Addr} {cap c1 j : Nat} (h : OnI w1 s j o cap wr) (hg : isGs wr x.ps (.slice o1 x.ps.length c1))
    (h5 : Below (wr.alloc (.cells #[.int .i64 x.dO, .string x.kd, .slice o1 x.ps.length c1, .int .i64 x.n] 46)).heap.size (wr.alloc (.cells #[.int .i64 x.dO, .string x.kd, .slice o1 x.ps.length c1, .int .i64 x.n] 46)) w5)
    (h8 : Below (w5.alloc (.cells #[.slice o s.l.length cap, .int .i64 s.made] 31)).heap.size (w5.alloc (.cells #[.slice o s.l.length cap, .int .i64 s.made] 31)) w8) :
    OnM w1 s x o o1 cap c1 wr.heap.size w5.heap.size w8.heap.size zS none 0 (w8.alloc (.cells #[.slice none 0 0, .int .i64 0] 24)) := by
  have A6 : KB wr (wr.alloc (.cells #[.int .i64 x.dO, .string x.kd, .slice o1 x.ps.length c1, .int .i64 x.n] 46)) := kbA
  have A7 : KB w5 (w5.alloc (.cells #[.slice o s.l.length cap, .int .i64 s.made] 31)) := kbA
  have A8 : KB w8 (w8.alloc (.cells #[.slice none 0 0, .int .i64 0] 24)) := kbA
  have z6 := World.size_alloc wr (.cells #[.int .i64 x.dO, .string x.kd, .slice o1 x.ps.length c1, .int .i64 x.n] 46)
  have z7 := World.size_alloc w5 (.cells #[.slice o s.l.length cap, .int .i64 s.made] 31)
  have z8 := World.size_alloc w8 (.cells #[.slice none 0 0, .int .i64 0] 24)
  have k5 := h5.size
  have k8 := h8.size
  have k0 := h.sz
  have b5 : KB wr w5 := A6.trans (h5.mono A6.size)
  have b8' : KB w5 w8 := A7.trans (h8.mono A7.size)
  have b9 : KB w5 (w8.alloc (.cells #[.slice none 0 0, .int .i64 0] 24)) := b8'.trans (A8.mono b8'.size)
  have b0 : KB wr (w8.alloc (.cells #[.slice none 0 0, .int .i64 0] 24)) := b5.trans (b9.mono b5.size)
  refine ⟨h.bel.trans (b0.mono h.bel.size), by omega, by omega, by omega, by omega, (b0.block _ (by omega)).trans h.box, ?_, ?_, World.alloc_heap_new _ _, isS_below b0 h.rd, isS_zero _, isGs_below b0 hg⟩
  · exact (b9.block _ (by omega)).trans ((h5.block _ (by omega)).trans (World.alloc_heap_new _ _))
  · exact (A8.block _ (by omega)).trans ((h8.block _ (by omega)).trans (World.alloc_heap_new _ _))
theorem OnM.back {w1 : World} {s : St} {x : Ac} {o o1 : Option Addr} {cap c1 b6 b7 b11 j : Nat} {t : St} {ot : Option Addr} {ct : Nat} {W : World} (h : OnM w1 s x o o1 cap c1 b6 b7 b11 t ot ct W) (hi : okS s ∧ fineS s ∧ s.l.length ≤ j) : OnI w1 s (j + 1) o cap W := by
  have a1 := h.l6; have a2 := h.l7; have a3 := h.l11; have a4 := h.sz
  exact ⟨h.bel, by omega, h.box, h.rd, hi.1, hi.2.1, by have := hi.2.2; omega⟩
theorem OnM.next {w1 : World} {s : St} {x : Ac} {o o1 : Option Addr} {cap c1 b6 b7 b11 j : Nat} {t : St} {p : ByteArray} {ot : Option Addr} {ct : Nat} {W W' : World} (h : OnM w1 s x o o1 cap c1 b6 b7 b11 t ot ct W) (hl : s.l.length ≤ j) (hf : fineS t) (hw : Went s t p) (hg : W.grownBy W' (some w1.heap.size))
    (hn : W'.heap[w1.heap.size]? = some (.cells #[.slice ot t.l.length ct, .int .i64 t.made] 24 (0, 0))) : OnI w1 t (j + 1) ot ct W' := by
  have a1 := h.l6; have a2 := h.l7; have a3 := h.l11; have a4 := h.sz; have a5 := hg.size; have a6 := h.bel.size
  have hB : Box W w1.heap.size := ⟨_, _, _, h.box, fun s e => Value.noConfusion e, fun s e => Value.noConfusion e⟩
  exact ⟨h.bel.grown hg a6 (fun r e => by cases e; omega), by omega, hn, isS_box hB hg h.rt, hw.ok, hf, by have := hw.len; omega⟩
theorem ph_size (s : St) (K : ByteArray) (ps : List G) : (createL s K ps).2.1.size ≤ maxLen := by
  have hp : ∀ n : Int, (physS n).size ≤ maxLen := fun n => by
    have h1 := Nu.txt_len n
    have h2 : (physS n).size = (Nu.txt n).length + 1 := by unfold physS; rw [Nu.size_arr]; rfl
    unfold maxLen
    omega
  have h0 : (⟨#[]⟩ : ByteArray).size ≤ maxLen := by show 0 ≤ maxLen; omega
  unfold createL
  split
  · split
    · split
      · exact h0
      · exact hp _
    · exact h0
  · exact h0
theorem delete_fine {s : St} (p : ByteArray) (hs : fineS s) : fineS (deleteL s p).1 := by
  by_cases h : (deleteL s p).2 = 0
  · obtain ⟨h1, h2, h3, h4⟩ := went_delete h
    refine ⟨by have := h1.len; have := hs.1; omega, fun y hy => (h1.mem y hy).elim (hs.2 y) id⟩
  · unfold deleteL at h ⊢
    by_cases hC : checkS s = 0
    · rw [if_pos hC] at h ⊢
      cases hI : idxT s.l p with
      | none => exact fine_z
      | some j =>
        rw [hI] at h
        exact absurd rfl h
    · rw [if_neg hC]
      exact fine_z
theorem Phys_some (n : Int) (w : World) (hn : -9223372036854775808 ≤ n ∧ n ≤ 9223372036854775807) : ∃ p c, Calls Tryz.prog 17 #[.int .i64 n] w fun e w' => e = .returned (.tuple #[.string p, .int .i64 c]) ∧ Below w.heap.size w w' := ⟨_, _, Phys_any n w hn⟩
/-- What the deed came to. -/
def Came (s t : St) (p : ByteArray) (e md : Int) : Prop := (e ≠ 0 ∧ md = s.made) ∨ (e = 0 ∧ md = t.made ∧ Went s t p)
theorem ret_true {b : Bool} (h : b = true) : (Ending.returned (.bool b)) = .returned (.bool true) := by rw [h]
set_option maxRecDepth 100000 in
set_option maxHeartbeats 8000000 in
theorem StoreOnce_any (L : List Ac) (v : Value) (w : World) (hE : Env9 w) (h : isAs w L v) :
    Calls Tryz.prog 4 #[v] w fun e w' => e = .returned (.bool true) ∧ Below w.heap.size w w' := by
  have HA := Lib.hid (acts_any L v w h)
  have HW : Hid (∀ w1, KB w w1 → Calls Tryz.prog 7 #[] w1 fun e w' => e = .returned (.bool true) ∧ Below w1.heap.size w1 w') := Lib.hid fun w1 hk => wakes10_any w1 (hE.kb hk)
  have HE := Lib.hid hE
  have HL := Lib.hid h
  by_cases hG : actsL L = true
  · rw [hG] at HA
    clear hE h hG
    go_enter Tryz.func4, Tryz.ntmps4
    go_wp2_with fail
    refine HA.out.mono ?_
    rintro e w1 ⟨rfl, hb1⟩
    have HB1 := Lib.hid hb1
    clear hb1 HA
    go_wp2_with fail
    refine (HW.out _ HB1.out).mono ?_
    rintro e w2 ⟨rfl, hb2⟩
    have HB2 := Lib.hid (HB1.out.trans (hb2.mono HB1.out.size))
    clear hb2
    go_wp2_with fail
    go_returns
    exact ⟨rfl, HB2.out⟩
  · have hG' : actsL L = false := by simpa using hG
    rw [hG'] at HA
    obtain ⟨hl40, hfa⟩ := actsL_no hG'
    have HFA := Lib.hid hfa
    obtain ⟨a, cap, ⟨o, rfl, hc1, hc2, ho⟩, hat⟩ := h
    unfold maxLen at hc2
    have HK := Lib.hid hat
    clear hE hG hG' hfa hat HL
    go_enter Tryz.func4, Tryz.ntmps4
    go_wp2_with fail
    refine HA.out.mono ?_
    rintro e w1 ⟨rfl, hb1⟩
    have HB1 := Lib.hid hb1
    clear hb1 HA
    go_wp2_with fail
    have HI0 := Lib.hid (OnI.start w1)
    go_loopw [4, 5, 6, 7, 8, 9, 10, 11, 12, 13, 14, 15, 16, 17, 18, 19, 20] (fun md i y6 y7 y8 y9 y10 y11 y12 y13 y14 y15 y16 y17 y18 y19 y20 wr => ∃ (j : Nat) (s : St) (os : Option Addr) (cs : Nat), j ≤ L.length ∧ md = .int .i64 s.made ∧ i = .int .i64 j ∧ Hid (OnI w1 s j os cs wr)) (fun _ i _ _ _ _ _ _ _ _ _ _ _ _ _ _ _ _ => L.length - (intOf i).toNat)
    case atStart => exact ⟨0, zS, none, 0, by omega, rfl, rfl, HI0⟩
    case round =>
      obtain ⟨j, s, os, cs, hj, rfl, rfl, hI⟩ := hrel
      clear HI0
      by_cases hlt : j < L.length
      · obtain rfl := ho (by omega)
        have hBw : Below w.heap.size w wr := HB1.out.trans (hI.out.bel.mono HB1.out.size)
        obtain ⟨o1, c1, q0, q1, q2, q3, hg, hp1, hd, hn⟩ := isAat_four (isAat_below hBw (HK.out j hlt))
        have hfx := HFA.out _ (List.getElem_mem hlt)
        have HO : Hid (∀ w1, Calls Tryz.prog 10 #[.agg #[.slice os s.l.length cs, .int .i64 s.made]] w1 fun e w' => e = .returned (.agg #[.slice os s.l.length cs, .int .i64 s.made]) ∧ Below w1.heap.size w1 w') := Lib.hid fun w1 => own_any _ _ w1 _ _ _ rfl
        obtain ⟨r0, r1⟩ := two_cells hI.out.box
        have HG := Lib.hid hg
        have HX := Lib.hid (And.intro hfx (And.intro hd hn))
        have HBW := Lib.hid hBw
        have HLT := Lib.hid hlt
        clear hfx hg hp1 hd hn hBw
        generalize L[j] = x at *
        have A6 : KB wr (wr.alloc (.cells #[.int .i64 x.dO, .string x.kd, .slice o1 x.ps.length c1, .int .i64 x.n] 46)) := kbA
        have r0 := cell_below A6 _ _ r0
        have r1 := cell_below A6 _ _ r1
        have N6 := Lib.hid (World.alloc_heap_new wr (.cells #[.int .i64 x.dO, .string x.kd, .slice o1 x.ps.length c1, .int .i64 x.n] 46))
        clear A6
        go_wp2_with fail
        refine (HO.out _).mono ?_
        rintro e w5 ⟨rfl, hb5⟩
        have A7 : KB w5 (w5.alloc (.cells #[.slice os s.l.length cs, .int .i64 s.made] 31)) := kbA
        have r0 := cell_below A7 _ _ (cell_below hb5 _ _ r0)
        have r1 := cell_below A7 _ _ (cell_below hb5 _ _ r1)
        obtain ⟨x0, x1, x2, x3⟩ := four_cells ((A7.block _ (by have := hb5.size; simp at this; omega)).trans ((hb5.block _ (by simp)).trans N6.out))
        have H5 := Lib.hid hb5
        clear hb5 A7 N6 HO q0 q1 q2 q3 x0 x1 x2
        obtain ⟨p0, c0, HP⟩ := Phys_some (wrap64 (1 + (wrap64 (x.n.tmod 41 + 41)).tmod 41)) (w5.alloc (.cells #[.slice os s.l.length cs, .int .i64 s.made] 31)) (by unfold wrap64; omega)
        have HP := Lib.hid HP
        go_wp2_with fail
        refine HP.out.mono ?_
        rintro e w8 ⟨rfl, hb8⟩
        have HM := Lib.hid (OnM.start hI.out HG.out H5.out hb8)
        have HIS := Lib.hid (And.intro hI.out.ok (And.intro hI.out.fine hI.out.len))
        clear HP hb8 H5 r0 r1 x3
        obtain ⟨x0, x1, x2, x3⟩ := four_cells HM.out.act
        go_upto_block 2 with fail
        generalize hW : (w8.alloc (.cells #[.slice none 0 0, .int .i64 0] 24)) = W9 at *
        clear hW HBW hI HG
        generalize w5.heap.size = b7 at *
        generalize w8.heap.size = b11 at *
        generalize wr.heap.size = b6 at *
        have HE9 : Hid (Env9 W9) := Lib.hid (HE.out.kb (HB1.out.trans (HM.out.bel.mono HB1.out.size)))
        go_cut [4, 9, 12, 13, 14, 15, 16] from 25 to 197 (fun s4 s9 s12 s13 s14 s15 s16 wx => ∃ (md e : Int) (p : ByteArray) (t : St) (ot : Option Addr) (ct : Nat), s4 = .int .i64 md ∧ s9 = .string p ∧ s12 = .int .i64 e ∧ Hid (OnM w1 s x os o1 cs c1 b6 b7 b11 t ot ct wx) ∧ Hid (Came s t p e md))
        case first =>
          obtain ⟨r0, r1⟩ := two_cells HM.out.box
          clear x3
          have hps := ph_size s x.kd x.ps
          by_cases d0 : x.dO = 0
          · have HC := Create_any s x.kd x.ps _ _ W9 HE9.out HIS.out.2.1 HX.out.1.1 (fineG_of HX.out.1.2) HM.out.rd HM.out.ps
            have hw := fun h => went_create (K := x.kd) (ps := x.ps) HIS.out.2.1 HX.out.1.1 (fineG_of HX.out.1.2) h
            generalize createL s x.kd x.ps = C at HC hw hps
            obtain ⟨t, p, ec⟩ := C
            dsimp only at HC hw hps
            have HC := Lib.hid HC
            have HN : Hid (∀ w1, Calls Tryz.prog 18 #[.string p] w1 fun e w' => e = .returned (.tuple #[.int .i64 (numL p).1, .bool (numL p).2]) ∧ w1 = w') := Lib.hid fun w1 => Number_any p hps w1
            have HW' := Lib.hid hw
            clear x0 hw hps
            rw [d0]
            clear d0
            go_wp2_with fail
            refine HC.out.mono ?_
            rintro e w10 ⟨⟨v', rfl, hs'⟩, hb⟩
            obtain ⟨ot, ct, rfl, -, -⟩ := isS_two hs'
            have M := HM.out.below hb
            obtain ⟨y1, y2, ⟨⟨_, k1⟩, k1', k1''⟩, ⟨⟨_, k2⟩, k2', k2''⟩, e0, e1, hg, hn⟩ := store_two M.new (.slice ot t.l.length ct) (.int .i64 t.made)
            have HM2 := Lib.hid (M.set hs' hg hn)
            clear HM hb hs' HC M hg hn r0 r1 x1 x2
            by_cases hz : ec = 0
            · subst hz
              obtain ⟨hwent, hm1, hl1, hp1, hr1⟩ := HW'.out rfl
              have hq : numL p = (t.made, true) := by rw [hp1, hm1]; exact num_phys (by omega) (by omega)
              rw [hq] at HN
              have hls := HIS.out.2.2
              have u1 : wrap64 (s.made + 1) = t.made := by unfold wrap64; omega
              have u2 : IntKind.i64.wrap (s.made + 1) = t.made := by rw [hm1]; exact IntWalk.i64_in _ (by omega)
              have u3 : wrap64 ((s.l.length : Int) + 1) = (t.l.length : Int) := by unfold wrap64; omega
              have HCM : Hid (Came s t p 0 t.made) := Lib.hid (.inr ⟨rfl, rfl, hwent⟩)
              clear hwent hm1 hl1 hp1 hr1 hq hls HW'
              go_wp2_with (go_at_call 18; refine (HN.out _).mono ?_; rintro e w11 ⟨rfl, rfl⟩)
              go_meet
              exact ⟨_, _, _, _, _, _, rfl, rfl, rfl, HM2, HCM⟩
            · have hzb : (ec == 0) = false := by rw [beq_eq_false_iff_ne]; exact hz
              have HCM : Hid (Came s t p ec s.made) := Lib.hid (.inl ⟨hz, rfl⟩)
              generalize (numL p).1 = N at *
              generalize (numL p).2 = Kb at *
              clear HW'
              go_wp2_with (go_at_call 18; refine (HN.out _).mono ?_; rintro e w11 ⟨rfl, rfl⟩)
              go_meet
              exact ⟨_, _, _, _, _, _, rfl, rfl, rfl, HM2, HCM⟩
          have d0b : (x.dO == 0) = false := by rw [beq_eq_false_iff_ne]; exact d0
          clear hps
          by_cases d1 : x.dO = 1
          · have HC := Update_any s p0 x.ps _ _ W9 HE9.out HIS.out.2.1 (fineG_of HX.out.1.2) HM.out.rd HM.out.ps
            have hw := fun h => went_update (p := p0) (ps := x.ps) HIS.out.2.1 (fineG_of HX.out.1.2) h
            generalize updateL s p0 x.ps = C at HC hw
            obtain ⟨t, ec⟩ := C
            dsimp only at HC hw
            have HC := Lib.hid HC
            have HW' := Lib.hid hw
            clear x0 hw d0 d0b
            rw [d1]
            clear d1
            go_wp2_with fail
            refine HC.out.mono ?_
            rintro e w10 ⟨⟨v', rfl, hs'⟩, hb⟩
            obtain ⟨ot, ct, rfl, -, -⟩ := isS_two hs'
            have M := HM.out.below hb
            obtain ⟨y1, y2, ⟨⟨_, k1⟩, k1', k1''⟩, ⟨⟨_, k2⟩, k2', k2''⟩, e0, e1, hg, hn⟩ := store_two M.new (.slice ot t.l.length ct) (.int .i64 t.made)
            have HM2 := Lib.hid (M.set hs' hg hn)
            clear HM hb hs' HC M hg hn r0 r1 x1 x2
            by_cases hz : ec = 0
            · subst hz
              obtain ⟨hwent, hm1, hl1⟩ := HW'.out rfl
              have HCM : Hid (Came s t p0 0 s.made) := Lib.hid (.inr ⟨rfl, hm1.symm, hwent⟩)
              have u3 : ((t.l.length : Int) != (s.l.length : Int)) = false := by rw [hl1]; exact bne_self_eq_false _
              have u4 : ((t.l.length : Int) == (s.l.length : Int)) = true := by rw [hl1]; exact beq_self_eq_true _
              clear hwent hm1 hl1 HW'
              go_wp2_with fail
              go_meet
              exact ⟨_, _, _, _, _, _, rfl, rfl, rfl, HM2, HCM⟩
            · have hzb : (ec == 0) = false := by rw [beq_eq_false_iff_ne]; exact hz
              have HCM : Hid (Came s t p0 ec s.made) := Lib.hid (.inl ⟨hz, rfl⟩)
              clear HW'
              go_wp2_with fail
              go_meet
              exact ⟨_, _, _, _, _, _, rfl, rfl, rfl, HM2, HCM⟩
          have d1b : (x.dO == 1) = false := by rw [beq_eq_false_iff_ne]; exact d1
          have HC := Delete_any s p0 _ W9 HE9.out HIS.out.2.1 HM.out.rd
          have hw := fun h => went_delete (s := s) (p := p0) h
          have hfd := delete_fine p0 HIS.out.2.1
          generalize deleteL s p0 = C at HC hw hfd
          obtain ⟨t, ec⟩ := C
          dsimp only at HC hw hfd
          have HC := Lib.hid HC
          have HW' := Lib.hid hw
          have HFD := Lib.hid hfd
          clear hw hfd
          go_wp2_with fail
          refine HC.out.mono ?_
          rintro e w10 ⟨⟨v', rfl, hs'⟩, hb⟩
          obtain ⟨ot, ct, rfl, -, -⟩ := isS_two hs'
          have M := HM.out.below hb
          obtain ⟨y1, y2, ⟨⟨_, k1⟩, k1', k1''⟩, ⟨⟨_, k2⟩, k2', k2''⟩, e0, e1, hg, hn⟩ := store_two M.new (.slice ot t.l.length ct) (.int .i64 t.made)
          have HM2 := Lib.hid (M.set hs' hg hn)
          have HGT := Lib.hid (Get10_any t p0 _ y2 HFD.out HM2.out.rt)
          clear HM hb hs' HC M hg hn r0 r1 x1 x2 x0 d0 d1 d0b d1b
          go_wp2_with fail
          refine HGT.out.mono ?_
          rintro e w11 ⟨⟨v', rfl, ⟨pz, rfl, hgz, -⟩⟩, hb11⟩
          obtain ⟨az, cz, ⟨oz, rfl, -⟩, -⟩ := hgz
          have A : KB w11 (w11.alloc (.cells #[.string (getT t p0).1.ph, .string (getT t p0).1.ty, .slice oz (getT t p0).1.ps.length cz] 52)) := kbA
          have e0 := cell_below A _ _ (cell_below hb11 _ _ e0)
          have e1 := cell_below A _ _ (cell_below hb11 _ _ e1)
          have HM3 := Lib.hid ((HM2.out.below hb11).below A)
          obtain ⟨th, hth⟩ : ∃ th, (getT t p0).2 = th := ⟨_, rfl⟩
          rw [hth]
          have HTH := Lib.hid hth
          clear hth A hb11 HM2 HGT
          generalize (getT t p0).1 = z at *
          by_cases hz : ec = 0
          · subst hz
            obtain ⟨hwent, hm1, hl1, hno⟩ := HW'.out rfl
            have HCM : Hid (Came s t p0 0 s.made) := Lib.hid (.inr ⟨rfl, hm1.symm, hwent⟩)
            obtain rfl : th = false := by rw [← HTH.out]; exact hno
            have hls := HIS.out.2.2
            have u3 : wrap64 ((s.l.length : Int) - 1) = (t.l.length : Int) := by unfold wrap64; omega
            clear hwent hm1 hl1 hno HW' hls HTH
            go_wp2_with fail
            go_meet
            exact ⟨_, _, _, _, _, _, rfl, rfl, rfl, HM3, HCM⟩
          · have hzb : (ec == 0) = false := by rw [beq_eq_false_iff_ne]; exact hz
            have HCM : Hid (Came s t p0 ec s.made) := Lib.hid (.inl ⟨hz, rfl⟩)
            clear HW' HTH
            go_wp2_with fail
            go_meet
            exact ⟨_, _, _, _, _, _, rfl, rfl, rfl, HM3, HCM⟩
        case rest =>
          obtain ⟨md, ec, p, t, ot, ct, rfl, rfl, rfl, HN, HCM⟩ := hcut
          clear HM HE9 x0 x1 x2 x3
          obtain ⟨r0, r1⟩ := two_cells HN.out.box
          obtain ⟨v0, v1⟩ := two_cells HN.out.was
          have HS := Lib.hid (lsame_any s _ _ wc HIS.out.2.1 HN.out.rd HN.out.rd)
          by_cases hz : ec = 0
          · subst hz
            obtain ⟨hmd, hwent⟩ : md = t.made ∧ Went s t p := by
              rcases HCM.out with h | h
              · exact absurd rfl h.1
              · exact h.2
            subst hmd
            have hft : fineS t := hwent.fine HIS.out.2.1 HIS.out.2.2 (by have := HLT.out; omega)
            have hck : checkS t = 0 := (okS_iff t).2 hwent.ok
            have HWT := Lib.hid hwent
            have HFT := Lib.hid hft
            have HCK := Lib.hid hck
            clear hwent hft hck HCM
            go_wp2_with fail
            refine HS.out.mono ?_
            rintro e w12 ⟨rfl, hb12⟩
            have HN2 := Lib.hid (HN.out.below hb12)
            have HC : Hid (Calls Tryz.prog 20 #[.agg #[.slice ot t.l.length ct, .int .i64 t.made]] w12 fun e w' => e = .returned (.int .i64 0) ∧ Below w12.heap.size w12 w') := Lib.hid (by
              have := Check10_any t _ w12 (HE.out.kb (HB1.out.trans (HN2.out.bel.mono HB1.out.size))) HFT.out HN2.out.rt
              rwa [HCK.out] at this)
            obtain ⟨e0, e1⟩ := two_cells HN2.out.new
            clear HS hb12 HN r0 r1 v0 v1
            go_wp2_with fail
            refine HC.out.mono ?_
            rintro e w13 ⟨rfl, hb13⟩
            have HN3 := Lib.hid (HN2.out.below hb13)
            obtain ⟨e0, e1⟩ := two_cells HN3.out.new
            clear HC hb13 HN2
            go_wp2_with fail
            go_loopw [17, 18, 19, 20] (fun k y18 y19 y20 wk => ∃ (q : Nat), q ≤ s.l.length ∧ k = .int .i64 q ∧ Hid (Below w13.heap.size w13 wk)) (fun k _ _ _ _ => s.l.length - (intOf k).toNat)
            case atStart => exact ⟨0, by omega, rfl, Lib.hid (Below.refl _ _)⟩
            case round =>
              obtain ⟨q, hq, rfl, hB⟩ := hrel
              have HN4 := Lib.hid (HN3.out.below hB.out)
              obtain ⟨r0, r1⟩ := two_cells HN4.out.box
              obtain ⟨e0, e1⟩ := two_cells HN4.out.new
              by_cases hlq : q < s.l.length
              · obtain ⟨lv, elv, ⟨aa, cs', ⟨os', e', k1, k2, ho'⟩, hats⟩, -⟩ := HN4.out.rd
                simp only [Value.agg.injEq, Array.mk.injEq, List.cons.injEq, and_true] at elv
                subst elv
                simp only [Value.slice.injEq, true_and] at e'
                obtain ⟨rfl, rfl⟩ := e'
                obtain rfl := ho' (by omega)
                unfold maxLen at k2
                obtain ⟨oy, cy, q0, q1, q2, hty⟩ := isTat_three (hats q hlq)
                have hPy := (HIS.out.2.1.2 _ (List.getElem_mem hlq)).2
                have hget := HWT.out.get _ (List.getElem_mem hlq)
                obtain ⟨py, ey, hgy, -⟩ := hty
                simp only [Value.agg.injEq, Array.mk.injEq, List.cons.injEq, true_and, and_true] at ey
                subst ey
                clear hats ho'
                have HLQ := Lib.hid hlq
                generalize s.l[q] = y at *
                have A18 : KB wr (wr.alloc (.cells #[.string y.ph, .string y.ty, .slice oy y.ps.length cy] 52)) := kbA
                have N18 := Lib.hid (World.alloc_heap_new wr (.cells #[.string y.ph, .string y.ty, .slice oy y.ps.length cy] 52))
                have z18 := World.size_alloc wr (.cells #[.string y.ph, .string y.ty, .slice oy y.ps.length cy] 52)
                have e0 := cell_below A18 _ _ e0
                have e1 := cell_below A18 _ _ e1
                have HA18 := Lib.hid A18
                have HGY := Lib.hid (And.intro hPy hgy)
                clear A18 hPy hgy
                by_cases hp : y.ph = p
                · have hpb : (y.ph.toList == p.toList) = true := by rw [hp]; exact beq_self_eq_true _
                  clear hp hget z18
                  go_wp2_with fail
                  go_roundw
                  case rel => exact ⟨q + 1, by have := HLQ.out; omega, by go_num, Lib.hid (hB.out.trans (HA18.out.mono hB.out.size))⟩
                  case measure => simp [intOf]; have := HLQ.out; omega
                · have hpb : (y.ph.toList == p.toList) = false := beq_toList hp
                  have HG : Hid (Calls Tryz.prog 19 #[.agg #[.slice ot t.l.length ct, .int .i64 t.made], .string y.ph] (wr.alloc (.cells #[.string y.ph, .string y.ty, .slice oy y.ps.length cy] 52)) fun e w' => (∃ v', e = .returned (.tuple #[v', .bool true]) ∧ isTh w' y v') ∧ Below (wr.alloc (.cells #[.string y.ph, .string y.ty, .slice oy y.ps.length cy] 52)).heap.size (wr.alloc (.cells #[.string y.ph, .string y.ty, .slice oy y.ps.length cy] 52)) w') := Lib.hid (by
                    have := Get10_any t y.ph _ _ HFT.out (isS_below HA18.out HN4.out.rt)
                    rwa [hget hp] at this)
                  have HZ := Lib.hid z18
                  clear hp hget z18
                  go_wp2_with fail
                  refine HG.out.mono ?_
                  rintro e w15 ⟨⟨v', rfl, ⟨pz, rfl, hgz, -⟩⟩, hb15⟩
                  have hgz' := hgz
                  obtain ⟨az, cz, ⟨oz, rfl, -⟩, -⟩ := hgz'
                  have A19 : KB w15 (w15.alloc (.cells #[.string y.ph, .string y.ty, .slice oz y.ps.length cz] 52)) := kbA
                  have z19 := HZ.out
                  obtain ⟨y0, y1, y2⟩ := three_cells ((A19.block _ (by have := hb15.size; omega)).trans ((hb15.block _ (by omega)).trans N18.out))
                  have hbb : KB wr (w15.alloc (.cells #[.string y.ph, .string y.ty, .slice oz y.ps.length cz] 52)) := HA18.out.trans ((hb15.trans (A19.mono hb15.size)).mono HA18.out.size)
                  have HSM := Lib.hid (rsame9_any y.ps _ _ _ HGY.out.1 (isGs_below A19 hgz) (isGs_below hbb HGY.out.2))
                  have HBB := Lib.hid hbb
                  clear hgz A19 z19 hb15 hbb HG e0 e1 r0 r1 q0 q1 q2 N18 HA18
                  go_wp2_with fail
                  refine HSM.out.mono ?_
                  rintro e w16 ⟨rfl, hb16⟩
                  have HFIN := Lib.hid (hB.out.trans ((HBB.out.trans (hb16.mono HBB.out.size)).mono hB.out.size))
                  clear hb16 HSM HBB y0 y1 y2
                  go_wp2_with fail
                  go_roundw
                  case rel => exact ⟨q + 1, by have := HLQ.out; omega, by go_num, HFIN⟩
                  case measure => simp [intOf]; have := HLQ.out; omega
              · obtain rfl : q = s.l.length := by omega
                obtain ⟨y1, y2, ⟨⟨_, k1⟩, k1', k1''⟩, ⟨⟨_, k2⟩, k2', k2''⟩, -, -, hg, hn⟩ := store_two HN4.out.box (.slice ot t.l.length ct) (.int .i64 t.made)
                have HNX := Lib.hid (OnM.next HN4.out HIS.out.2.2 HFT.out HWT.out hg hn)
                clear hg hn HN4 hlq
                go_wp2_with fail
                go_roundw
                case rel => exact ⟨j + 1, t, ot, ct, by have := HLT.out; omega, rfl, by go_num, HNX⟩
                case measure => simp [intOf]; have := HLT.out; omega
          · have hzb : (ec == 0) = false := by rw [beq_eq_false_iff_ne]; exact hz
            obtain rfl : md = s.made := by
              rcases HCM.out with h | h
              · exact h.2
              · exact absurd h.1 hz
            clear HCM
            go_wp2_with fail
            refine HS.out.mono ?_
            rintro e w12 ⟨rfl, hb12⟩
            have HI := Lib.hid (OnM.back (HN.out.below hb12) HIS.out)
            clear HS hb12 r0 r1 v0 v1 HN
            go_wp2_with fail
            go_roundw
            case rel => exact ⟨j + 1, s, os, cs, by have := HLT.out; omega, rfl, by go_num, HI⟩
            case measure => simp [intOf]; have := HLT.out; omega
      · obtain rfl : j = L.length := by omega
        have HX : Hid (Below w.heap.size w wr) := Lib.hid (HB1.out.trans (hI.out.bel.mono HB1.out.size))
        clear hI
        go_wp2_with fail
        refine (HW.out _ HX.out).mono ?_
        rintro e w5 ⟨rfl, hb5⟩
        have HX5 := Lib.hid (HX.out.trans (hb5.mono HX.out.size))
        clear hb5
        go_wp2_with fail
        go_returns
        exact ⟨rfl, HX5.out⟩
end Go.Proofs.YtdckldfekepopaaGreatDoor
