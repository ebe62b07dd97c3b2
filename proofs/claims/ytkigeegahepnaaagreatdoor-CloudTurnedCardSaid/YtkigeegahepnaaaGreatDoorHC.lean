/-
  The cloud's End. · Clouds, plain: what is kept to.
-/
import Derived.Test.YtkigeegahepnaaaGreatDoorHB
import Derived.Deep.RegionLaw
import Derived.Deep.RegionWith
import Derived.Deep.RegionHeld3
import Derived.Deep.Cut
import Derived.Deep.CutBlock
import Derived.Deep.CutRange
import Derived.Deep.DeepCutAuto
import Derived.Test.YtkigeegahepnaaaGreatDoorGR
set_option linter.unusedVariables false
set_option linter.unusedSimpArgs false
namespace Go.Proofs.YtkigeegahepnaaaGreatDoor
open Go.RowKit Go.Maps Go.Deep

theorem okX_fine {x : Cl} (h : fineX x) : okX x := ⟨h.2.2.2.1, h.2.2.2.2, by have := h.2.2.1; unfold maxLen; omega, by have := h.2.1; unfold maxLen; omega⟩
def Holdp (p : Prop) : Prop := p
theorem holdp {p : Prop} (h : Holdp p) : p := h
theorem step_app_cut {w : World} {ops : Array Oper} {o : Oper} {a : Act} {K : Act → World → Prop} {Q : Exit → Act → World → Prop} {E : Prop} (hgd : o.guard = none) (s x : Operand)
    (ho : o.op = .call { callee := .builtin .append, args := #[s, x], argTypes := #[50, 50] })
    (v u : Value) (l y : List Int) (n : Nat) (hn : n = l.length + y.length) (hs : a.eval s = v) (hx : a.eval x = u) (hown : owI 0 w v l) (hy : rdI w y u) (hsz : l.length + y.length ≤ 1000000)
    (h : ∀ o' c' w', owI 0 w' (.slice o' n c') (l ++ y) → w.grownBy w' v.ownBlock → ((Value.slice o' n c').ownBlock = v.ownBlock ∨ (Value.slice o' n c').ownBlock = some w.heap.size) → K (a.put o.dst (.slice o' n c')) w') :
    if Region.wanted o (yielded ops a.tmps) = true then Oper.wp Tryz.prog o a w K Q else E := by
  subst hn
  exact step_app_owI hgd s x ho 0 v u l y hs hx hown hy hsz (Nat.zero_le _) h
theorem held_setA {s : St} {L : List (Cl × An)} {z : Int} {a : An} (h : heldS s L) : heldS s (setA L z a) := ⟨h.1, fun p hp => by
  have h2 : p.1 ∈ (setA L z a).map (·.1) := List.mem_map_of_mem hp
  rw [setA_toks] at h2
  obtain ⟨q, hq, e⟩ := List.mem_map.1 h2
  have := h.2 q hq
  rw [e] at this
  exact this⟩
theorem kbA0 (w : World) : KB w (w.alloc (.cells #[.bool false, .bool false, .string ⟨#[]⟩] 38)) := kbA
set_option maxRecDepth 100000 in
set_option maxHeartbeats 8000000 in
theorem end_bad (k : Int) (well : Bool) (w : World) {N b : Nat} {s : St} {L : List (Cl × An)} {tk fl : List Int} {lv mv tv fv : Value} (h : isC w N b s L tk fl lv mv tv fv) (hk : ¬ (0 ≤ k ∧ k < fl.length)) :
    Calls Tryz.prog 16 #[.pointer (some ⟨b, 0, none⟩), .int .i64 k, .bool well] w fun e w' => e = .returned (.tuple #[.int .i64 0, .agg #[.bool false, .bool false, .string ⟨#[]⟩], .int .i64 4]) ∧ Below w.heap.size w w' := by
  obtain ⟨o, cap, ot, ct, of, cf, m, rfl, rfl, rfl, rfl⟩ := h.forms
  have b3 := (five_cells ((kbA0 w).block b h.bl |>.trans h.box)).2.2.2.2
  clear h
  go_enter Tryz.func16, Tryz.ntmps16
  by_cases h0 : k < 0
  · have d0 : decide (k < 0) = true := decide_eq_true h0
    clear hk
    go_wp2_with fail
    refine bodyPost_ret (v := .tuple #[.int .i64 0, .agg #[.bool false, .bool false, .string ⟨#[]⟩], .int .i64 4]) (by simp [results, Tryz.results16, go_sem]) rfl ?_
    exact ⟨rfl, by first | exact Below.refl _ _ | go_grown⟩
  · have d0 : decide (k < 0) = false := decide_eq_false h0
    have d1 : decide ((fl.length : Int) ≤ k) = true := decide_eq_true (by omega)
    clear hk
    go_wp2_with fail
    refine bodyPost_ret (v := .tuple #[.int .i64 0, .agg #[.bool false, .bool false, .string ⟨#[]⟩], .int .i64 4]) (by simp [results, Tryz.results16, go_sem]) rfl ?_
    exact ⟨rfl, by first | exact Below.refl _ _ | go_grown⟩
set_option maxRecDepth 100000 in
set_option maxHeartbeats 8000000 in
theorem end_good (i : Nat) (well : Bool) (w : World) {N b : Nat} {s : St} {L : List (Cl × An)} {tk fl : List Int} {lv mv tv fv : Value} (hE : Env9 w) (hF : fineS s) (h : isC w N b s L tk fl lv mv tv fv) (hi : i < fl.length) (hN : L.length ≤ 1000000) (hfl : fl.length ≤ 1000000)
    {z : Int} (hzi : fl[i] = z) (hz : okZ z) {x : Cl} (hf : findC L z = some (x, zAn)) (hx : fineX x) (hH : heldS s L) (hHx : ∀ g ∈ x.ps, heldP g.v) {r : St × An} (hr : endA s x well = r) (hHr : heldS r.1 L) :
    Calls Tryz.prog 16 #[.pointer (some ⟨b, 0, none⟩), .int .i64 i, .bool well] w fun e w' => e = .returned (.tuple #[.int .i64 z, .agg #[.bool r.2.en, .bool r.2.ok, .string r.2.ph], .int .i64 0]) ∧
      OnC w (Fp b mv tv fv) L.length b r.1 (setA L z r.2) tk (fl.take i ++ fl.drop (i + 1)) w' := by
  obtain ⟨u, hlk, hto⟩ := h.mp.look hz
  rw [hf] at hto hlk
  obtain ⟨ou, cu, rfl, hps⟩ := isTo_form hto
  obtain ⟨m, rfl⟩ : ∃ m, mv = .map (some m) := by
    rcases h.mp with ⟨-, e⟩ | ⟨m, _, e, -⟩
    · subst e; cases hf
    · exact ⟨m, e⟩
  obtain ⟨ot, ct, rfl, -⟩ := h.tk.form
  obtain ⟨g, cf, cur, rfl, -, hg, hc1, hc2, hc3, hc4, -⟩ := h.fl.resolve_left (fun e => by rw [e.2] at hi; exact absurd hi (by simp))
  have hA1 := kbA0 w
  have n1 := World.alloc_heap_new w (.cells #[.bool false, .bool false, .string ⟨#[]⟩] 38)
  have HC1 := Lib.hid (h.below hA1).trim
  have HPS := Lib.hid (isGs_below hA1 hps)
  have hci : (w.alloc (.cells #[.bool false, .bool false, .string ⟨#[]⟩] 38)).cell? ⟨g, i, none⟩ = some (.int .i64 z) := by
    have h1 : cur.toList[i]? = some (.int .i64 z) := by
      have : (cur.toList.take fl.length)[i]? = some (.int .i64 z) := by
        rw [hc4]
        unfold iCells
        rw [List.getElem?_map, List.getElem?_eq_getElem hi, hzi]
        rfl
      rwa [List.getElem?_take, if_pos hi] at this
    have h2 : w.cell? ⟨g, i, none⟩ = some (.int .i64 z) := by
      unfold World.cell?
      rw [hg]
      simpa using h1
    exact cell_below hA1 _ _ h2
  have LK : Hid (∀ W', Below (w.alloc (.cells #[.bool false, .bool false, .string ⟨#[]⟩] 38)).heap.size (w.alloc (.cells #[.bool false, .bool false, .string ⟨#[]⟩] 38)) W' → (Instr.lookup 70 (.map (some m)) (.int .i64 z) false).run Tryz.prog W' = .ok (.agg #[.int .i64 x.tok, .int .i8 x.kd, .string x.ph, .string x.ty, .slice ou x.ps.length cu, .bool false, .bool false, .string ⟨#[]⟩]) W') := Lib.hid fun W' hK => hlk W' false (fun m' e => (hK.block _ (by have := h.lt m' (.inr (.inl e)); simp; omega)).trans (hA1.block _ (h.lt m' (.inr (.inl e)))))
  have HLO : Hid (∀ k, Fp b (.map (some m)) (.slice ot tk.length ct) (.slice (some ⟨g, 0, none⟩) fl.length cf) k → k < w.heap.size) := Lib.hid h.lt
  have HE := Lib.hid (hE.kb hA1)
  have HA := Lib.hid hA1
  have HN1 := Lib.hid n1
  have HF := Lib.hid hF
  have HX := Lib.hid hx
  have HZ := Lib.hid hz
  have HFD := Lib.hid hf
  have HHS := Lib.hid hH
  have HHX := Lib.hid hHx
  have HHR := Lib.hid hHr
  have HHR2 : Hid (heldS r.1 (setA L z r.2)) := Lib.hid (held_setA hHr)
  have HR := Lib.hid hr
  have HLN := Lib.hid hN
  obtain ⟨-, -, b2, -, b4⟩ := five_cells HC1.out.box
  clear h hps hA1 hF hx hz hf hH hHx hHr hr hN hE hto hlk hc4 hg n1 hzi
  have d0 : decide ((i : Int) < 0) = false := decide_eq_false (by omega)
  have d1 : decide (fl.length ≤ i) = false := decide_eq_false (by omega)
  have d2 : 0 ≤ (i : Int) := by omega
  have d3 : (i : Int) < (fl.length : Int) := by omega
  go_enter Tryz.func16, Tryz.ntmps16
  have lk0 := LK.out _ (Below.refl _ _)
  go_upto_if 42 with fail
  have HEN : Hid (EN w (Fp b (.map (some m)) (.slice ot tk.length ct) (.slice (some ⟨g, 0, none⟩) fl.length cf)) L.length b s L tk fl x ou cu ⟨true, false, ⟨#[]⟩⟩ lv (.map (some m)) (.slice ot tk.length ct) (.slice (some ⟨g, 0, none⟩) fl.length cf)
      ((w.alloc (.cells #[.bool false, .bool false, .string ⟨#[]⟩] 38)).alloc (.cells #[.int .i64 x.tok, .int .i8 x.kd, .string x.ph, .string x.ty, .slice ou x.ps.length cu, .bool true, .bool false, .string ⟨#[]⟩] 78))) := Lib.hid (by
    have hb2 : Below (w.alloc (.cells #[.bool false, .bool false, .string ⟨#[]⟩] 38)).heap.size (w.alloc (.cells #[.bool false, .bool false, .string ⟨#[]⟩] 38)) ((w.alloc (.cells #[.bool false, .bool false, .string ⟨#[]⟩] 38)).alloc (.cells #[.int .i64 x.tok, .int .i8 x.kd, .string x.ph, .string x.ty, .slice ou x.ps.length cu, .bool true, .bool false, .string ⟨#[]⟩] 78)) := kbA
    refine ⟨HC1.out.below hb2, Fr.of_below (HA.out.trans (hb2.mono HA.out.size)), fun k hk => .inl hk, by simp, HLO.out, ?_, (hb2.block _ (by simp)).trans HN1.out, isGs_below hb2 HPS.out⟩
    have := World.alloc_heap_new (w.alloc (.cells #[.bool false, .bool false, .string ⟨#[]⟩] 38)) (.cells #[.int .i64 x.tok, .int .i8 x.kd, .string x.ph, .string x.ty, .slice ou x.ps.length cu, .bool true, .bool false, .string ⟨#[]⟩] 78)
    rwa [World.size_alloc] at this)
  have HEV : Hid (Env9 ((w.alloc (.cells #[.bool false, .bool false, .string ⟨#[]⟩] 38)).alloc (.cells #[.int .i64 x.tok, .int .i8 x.kd, .string x.ph, .string x.ty, .slice ou x.ps.length cu, .bool true, .bool false, .string ⟨#[]⟩] 78))) := Lib.hid (HE.out.kb kbA)
  clear lk0 b2 b4 hci LK HC1 HA HN1 HPS HE HLO d0 d1
  generalize (w.alloc (.cells #[.bool false, .bool false, .string ⟨#[]⟩] 38)).alloc (.cells #[.int .i64 x.tok, .int .i8 x.kd, .string x.ph, .string x.ty, .slice ou x.ps.length cu, .bool true, .bool false, .string ⟨#[]⟩] 78) = W at *
  obtain ⟨P, hP⟩ : ∃ P, Fp b (.map (some m)) (.slice ot tk.length ct) (.slice (some ⟨g, 0, none⟩) fl.length cf) = P := ⟨_, rfl⟩
  have HEN1 : Hid (EN w P L.length b s L tk fl x ou cu ⟨true, false, ⟨#[]⟩⟩ lv (.map (some m)) (.slice ot tk.length ct) (.slice (some ⟨g, 0, none⟩) fl.length cf) W) := Lib.hid (hP ▸ HEN.out)
  have HPP := Lib.hid hP
  clear HEN hP
  have HEN := HEN1
  clear HEN1
  go_cut [] (fun wx => ∃ lv2 mv2 tv2 fv2, Hid (EN w P L.length b r.1 L tk fl x ou cu r.2 lv2 mv2 tv2 fv2 wx))
  case first =>
    cases well with
    | false =>
      obtain rfl : (s, An.mk true false ⟨#[]⟩) = r := HR.out
      go_wp2_with fail
      go_meet
      exact ⟨_, _, _, _, HEN⟩
    | true =>
      have HR2 : Hid (takeL s x = r) := Lib.hid HR.out
      have HTK := Lib.hid (take_any x (.agg #[.int .i64 x.tok, .int .i8 x.kd, .string x.ph, .string x.ty, .slice ou x.ps.length cu]) W HEV.out HF.out HX.out ⟨_, rfl, HEN.out.ps, okX_fine HX.out⟩ HEN.out.c)
      rw [HR2.out] at HTK
      obtain ⟨e0, e1, e2, e3, e4, -, -, -⟩ := eight_told HEN.out.box
      clear HR
      have HEND : Hid (∀ w4, OnC W (Fp b (.map (some m)) (.slice ot tk.length ct) (.slice (some ⟨g, 0, none⟩) fl.length cf)) L.length b r.1 L tk fl w4 → ∃ y1 y2, ((∃ u, w4.cell? ⟨w.heap.size + 1, 7, none⟩ = some u) ∧ w4.frozen? ⟨w.heap.size + 1, 7, none⟩ = false ∧ w4.setCell ⟨w.heap.size + 1, 7, none⟩ (.string r.2.ph) = y1) ∧ ((∃ u, y1.cell? ⟨w.heap.size + 1, 6, none⟩ = some u) ∧ y1.frozen? ⟨w.heap.size + 1, 6, none⟩ = false ∧ y1.setCell ⟨w.heap.size + 1, 6, none⟩ (.bool r.2.ok) = y2) ∧ ∃ lv2 mv2 tv2 fv2, Hid (EN w P L.length b r.1 L tk fl x ou cu r.2 lv2 mv2 tv2 fv2 y2)) := Lib.hid (by
        intro w4 ⟨lv2, mv2, tv2, fv2, hc4, hf4, hp4⟩
        have hen := HEN.out.step hc4 hf4 hp4
        have hHr : heldS r.1 L := HHR.out
        obtain ⟨-, -, ⟨y1, s1, hb1, hg1⟩⟩ := set_told hen.box (.string r.2.ph)
        have hen1 := hen.own (a' := ⟨true, false, r.2.ph⟩) hHr HHX.out hg1 hb1
        obtain ⟨-, ⟨y2, s2, hb2, hg2⟩, -⟩ := set_told hen1.box (.bool r.2.ok)
        have hen2 := hen1.own (a' := ⟨true, r.2.ok, r.2.ph⟩) hHr HHX.out hg2 hb2
        have er : r.2 = ⟨true, r.2.ok, r.2.ph⟩ := by
          rw [← HR2.out]
          unfold takeL
          split <;> rfl
        rw [← er] at hen2
        exact ⟨y1, y2, s1, s2, _, _, _, _, Lib.hid hen2⟩)
      go_wp2_with (go_at_call 39; refine HTK.out.mono ?_; rintro e w4 ⟨rfl, hon⟩; obtain ⟨y1, y2, ⟨⟨_, q1⟩, q1', q1''⟩, ⟨⟨_, q2⟩, q2', q2''⟩, HY⟩ := HEND.out _ hon)
      go_meet

      exact HY
  case rest =>
    obtain ⟨lv2, mv2, tv2, fv2, HEN2⟩ := hcut
    clear HEN HEV
    obtain ⟨m2, rfl⟩ : ∃ m, mv2 = .map (some m) := by
      have hfd := HFD.out
      rcases HEN2.out.c.mp with ⟨-, e⟩ | ⟨m, _, e, -⟩
      · subst e; cases hfd
      · exact ⟨m, e⟩
    obtain ⟨-, -, b2, -, -⟩ := five_cells HEN2.out.c.box
    obtain ⟨e0, e1, e2, e3, e4, e5, e6, e7⟩ := eight_told HEN2.out.box
    obtain ⟨w1, u1, HU1⟩ := HEN2.out.upd HLN.out HZ.out HFD.out
    obtain ⟨w2, u2, HU2⟩ := (HEN2.out.kb (drewB1 _ _)).upd HLN.out HZ.out HFD.out
    go_upto_region 10 with fail
    go_cut [] (fun wx => Hid (EN w P L.length b r.1 (setA L z r.2) tk fl x ou cu r.2 lv2 (.map (some m2)) tv2 fv2 wx))
    case first =>
      go_region_law (fail)
      all_goals
        go_wp2_with fail
        go_meet
        first | exact HU1 | exact HU2
    case rest =>
      have HEN3 := hcut
      clear hcut b2 e0 e1 e2 e3 e4 e5 e6 e7 u1 HU1 u2 HU2 HEN2
      obtain ⟨wd, rfl⟩ : ∃ wd, wd = wc := ⟨_, rfl⟩
      obtain ⟨g2, cf2, cur2, rfl, hg2⟩ : ∃ g2 cf2 cur2, fv2 = .slice (some ⟨g2, 0, none⟩) fl.length cf2 ∧ fl.length ≤ cf2 := by
        rcases HEN3.out.c.fl with ⟨-, e⟩ | ⟨g2, cf2, cur2, e, -, -, h1, -⟩
        · rw [e] at hi; exact absurd hi (by simp)
        · exact ⟨g2, cf2, cur2, e, h1⟩
      obtain ⟨-, -, -, -, b4⟩ := five_cells HEN3.out.c.box
      go_upto_region 11 with fail
      go_cut [] (fun wx => ∃ v2, Hid (EN w P L.length b r.1 (setA L z r.2) tk (fl.take i ++ fl.drop (i + 1)) x ou cu r.2 lv2 (.map (some m2)) tv2 v2 wx))
      case first =>
        have d4 : (i : Int) ≤ (cf2 : Int) := by omega
        have d5 : i ≤ cf2 := by omega
        have d6 : 0 ≤ (i : Int) + 1 := by omega
        have d7 : (i : Int) + 1 ≤ (fl.length : Int) := by omega
        have d8 : IntKind.i64.wrap ((i : Int) + 1) = (i : Int) + 1 := by simp [IntKind.wrap, IntKind.bits, IntKind.signed]; omega
        obtain ⟨n, hn⟩ : ∃ n, n = (fl.take i).length + (fl.drop (i + 1)).length := ⟨_, rfl⟩
        have HNN := Lib.hid hn
        clear hn
        have hn2 : (fl.take i).length + (fl.drop (i + 1)).length ≤ 1000000 := by rw [List.length_take, List.length_drop]; omega
        have CUT : Hid (∀ w1, KB wd w1 → owI 0 w1 (.slice (some ⟨g2, 0, none⟩) i i) (fl.take i)) := Lib.hid fun w1 hb => (HEN3.out.kb hb).c.fl.cut i i (by omega) (Nat.le_refl _) d5
        have TAIL : Hid (∀ w1, KB wd w1 → rdI w1 (fl.drop (i + 1)) (.slice (if cf2 = i + 1 then some ⟨g2, 0, none⟩ else some ⟨g2, i + 1, none⟩) (fl.length - (i + 1)) (cf2 - (i + 1)))) := Lib.hid fun w1 hb => by
          obtain ⟨a, ea, -, -, hr⟩ := (HEN3.out.kb hb).c.fl.rd.tail (i + 1) (by omega) (by omega)
          simp only [Option.some.injEq] at ea
          subst ea
          split
          · rename_i h; rw [if_pos h] at hr; exact hr
          · rename_i h; rw [if_neg h] at hr; simpa [Addr.add] using hr
        have FLI : Hid (∀ w1 w2 v2, KB wd w1 → owI 0 w2 v2 (fl.take i ++ fl.drop (i + 1)) → w1.grownBy w2 (some g2) → (v2.ownBlock = some g2 ∨ v2.ownBlock = some w1.heap.size) → ∃ y, ((∃ u, w2.cell? ⟨b, 4, none⟩ = some u) ∧ w2.frozen? ⟨b, 4, none⟩ = false ∧ w2.setCell ⟨b, 4, none⟩ v2 = y) ∧
            Hid (EN w P L.length b r.1 (setA L z r.2) tk (fl.take i ++ fl.drop (i + 1)) x ou cu r.2 lv2 (.map (some m2)) tv2 v2 y)) := Lib.hid fun w1 w2 v2 hb own gr at' => by
          have hen := HEN3.out.kb hb
          obtain ⟨y, hs, hy⟩ := hen.c.fli own gr at'
          exact ⟨y, hs, Lib.hid (hen.step hy.out.1 hy.out.2.1 hy.out.2.2)⟩
        go_region_law (refine step_app_cut rfl (.tmp 67) (.tmp 74) rfl (.slice (some ⟨g2, 0, none⟩) i i) (.slice (if cf2 = i + 1 then some ⟨g2, 0, none⟩ else some ⟨g2, i + 1, none⟩) (fl.length - (i + 1)) (cf2 - (i + 1))) (fl.take i) (fl.drop (i + 1)) n HNN.out (by simp [Act.eval, Act.put]) (by simp [Act.eval, Act.put]) (CUT.out _ (by unfold KB; go_grown)) (TAIL.out _ (by unfold KB; go_grown)) hn2 ?_; intro o1 c1 w2 own2 gr2 at2; obtain ⟨y, ⟨⟨_, s1⟩, s1', s1''⟩, HY⟩ := FLI.out _ _ _ (by unfold KB; go_grown) own2 gr2 at2)
        all_goals
          go_wp2_with fail
        all_goals
          go_meet
          exact ⟨_, HY⟩
      case rest =>
        obtain ⟨v2, HEN4⟩ := hcut
        clear b4 HEN3
        obtain ⟨we, rfl⟩ : ∃ we, we = wc := ⟨_, rfl⟩
        obtain ⟨-, -, -, -, -, e5, e6, e7⟩ := eight_told HEN4.out.box
        obtain ⟨y1, y2, y3, ⟨⟨_, q1⟩, q1', q1''⟩, ⟨⟨_, q2⟩, q2', q2''⟩, ⟨⟨_, q3⟩, q3', q3''⟩, f1, f2, f3, HY⟩ := store_answer HEN4.out.res (.bool r.2.en) (.bool r.2.ok) (.string r.2.ph)
        obtain ⟨z1, z2, z3, ⟨⟨_, p1⟩, p1', p1''⟩, ⟨⟨_, p2⟩, p2', p2''⟩, ⟨⟨_, p3⟩, p3', p3''⟩, k1, k2, k3, HZ2⟩ := store_answer (HEN4.out.kb (drewB1 _ _)).res (.bool r.2.en) (.bool r.2.ok) (.string r.2.ph)
        have HF1 := Lib.hid (HEN4.out.fin HHR2.out HY.out.1)
        have HF2 := Lib.hid ((HEN4.out.kb (drewB1 _ _)).fin HHR2.out HZ2.out.1)
        go_upto_region 12 with fail
        go_cut [6, 8] (fun s6 s8 wx => s6 = .int .i64 z ∧ s8 = .int .i64 0 ∧ wx.cell? ⟨w.heap.size, 0, none⟩ = some (.bool r.2.en) ∧ wx.cell? ⟨w.heap.size, 1, none⟩ = some (.bool r.2.ok) ∧ wx.cell? ⟨w.heap.size, 2, none⟩ = some (.string r.2.ph) ∧ Hid (OnC w P L.length b r.1 (setA L z r.2) tk (fl.take i ++ fl.drop (i + 1)) wx))
        case first =>
          go_region_law (fail)
          all_goals
            go_wp2_with fail
            go_meet
            first
              | exact ⟨rfl, rfl, f1, f2, f3, HF1⟩
              | exact ⟨rfl, rfl, k1, k2, k3, HF2⟩
        case rest =>
          obtain ⟨rfl, rfl, f1, f2, f3, HON⟩ := hcut
          go_wp2_with fail
          refine bodyPost_ret (v := .tuple #[.int .i64 z, .agg #[.bool r.2.en, .bool r.2.ok, .string r.2.ph], .int .i64 0]) (by simp [results, Tryz.results16, go_sem, f1, f2, f3]) rfl ?_
          exact ⟨rfl, by rw [HPP.out]; exact HON.out⟩
end Go.Proofs.YtkigeegahepnaaaGreatDoor

namespace Go.Proofs.YtkigeegahepnaaaGreatDoor
open Go.RowKit

theorem good_zC (n : Nat) : goodC zC n :=
  { len := Nat.zero_le _, okS := ok_zS, fine := fun t ht => absurd (show t ∈ ([] : List Th) from ht) List.not_mem_nil, slen := Nat.le_refl _, made := Int.le_refl _, uniq := List.Pairwise.nil,
    calls := fun p hp => absurd (show p ∈ ([] : List (Cl × An)) from hp) List.not_mem_nil, fl := fun z hz => absurd (show z ∈ ([] : List Int) from hz) List.not_mem_nil, flu := List.nodup_nil, out := fun p hp => absurd (show p ∈ ([] : List (Cl × An)) from hp) List.not_mem_nil }
theorem goodC.fineS {c : CSt} {n : Nat} (h : goodC c n) (hn : n ≤ 1000) : fineS c.s := ⟨by have := h.slen; have := h.len; omega, h.fine⟩
theorem goodC.mono {c : CSt} {n n' : Nat} (h : goodC c n) (hn : n ≤ n') : goodC c n' := ⟨Nat.le_trans h.len hn, h.okS, h.fine, h.slen, h.made, h.uniq, h.calls, h.fl, h.flu, h.out⟩
theorem goodC.find {c : CSt} {n : Nat} (h : goodC c n) {p : Cl × An} (hp : p ∈ c.L) : findC c.L p.1.tok = some p := findC_mem h.uniq hp
theorem good_submit {c : CSt} {n : Nat} {x : Cl} (h : goodC c n) (hx : fineX x) : goodC (submitC c x).1 (n + 1) := by
  unfold submitC
  split
  · rename_i hw
    split
    · exact h.mono (Nat.le_succ n)
    · rename_i hf
      have hf' : findC c.L x.tok = none := by
        cases hff : findC c.L x.tok with
        | none => rfl
        | some p => rw [hff] at hf; exact absurd rfl hf
      have hno := findC_none.1 hf'
      have h1 := h.slen
      have h2 := h.made
      refine ⟨?_, h.okS, h.fine, ?_, ?_, ?_, ?_, ?_, ?_, ?_⟩
      · have := h.len; simp; omega
      · simp; omega
      · simp; omega
      · rw [List.pairwise_append]
        refine ⟨h.uniq, List.pairwise_singleton _ _, fun a ha b hb => ?_⟩
        rw [List.mem_singleton.1 hb]
        exact hno a ha
      · intro p hp
        rcases List.mem_append.1 hp with hp | hp
        · exact h.calls p hp
        · rw [List.mem_singleton.1 hp]; exact ⟨hx, hw⟩
      · intro z hz
        rcases List.mem_append.1 hz with hz | hz
        · obtain ⟨p, h1, h2⟩ := h.fl z hz
          exact ⟨p, List.mem_append_left _ h1, h2⟩
        · rw [List.mem_singleton.1 hz]
          exact ⟨(x, zAn), by simp, rfl, rfl⟩
      · rw [List.nodup_append]
        refine ⟨h.flu, by simp, fun a ha b hb e => ?_⟩
        rw [List.mem_singleton.1 hb] at e
        obtain ⟨p, h1, h2, -⟩ := h.fl a ha
        exact hno p h1 (h2.trans e)
      · intro p hp he
        rcases List.mem_append.1 hp with hp | hp
        · exact List.mem_append_left _ (h.out p hp he)
        · rw [List.mem_singleton.1 hp]; simp
  · exact h.mono (Nat.le_succ n)
/-- What an effect leaves. -/
structure Did (s t : St) : Prop where
  ok : okS t
  fine : ∀ y ∈ t.l, y.ty.size ≤ 400 ∧ fineG y.ps
  len : t.l.length ≤ s.l.length + 1
  made : t.made ≤ s.made + 1
theorem Did.same {s : St} (h1 : okS s) (h2 : ∀ y ∈ s.l, y.ty.size ≤ 400 ∧ fineG y.ps) : Did s s := ⟨h1, h2, Nat.le_succ _, by omega⟩
theorem did_take {s : St} {x : Cl} (hs : fineS s) (ho : okS s) (hx : fineX x) : Did s (takeL s x).1 := by
  have hg := fineG_of hx.1
  unfold takeL
  split
  · rename_i he
    unfold effectL at he ⊢
    split
    · rename_i hk
      rw [if_pos hk] at he
      obtain ⟨hw, hm, hl, -, -⟩ := went_create hs (by have := hx.2.1; omega) hg he
      exact ⟨hw.ok, fun y hy => (hw.mem y hy).elim (hs.2 y) id, hw.len, by rw [hm]; omega⟩
    · rename_i hk
      rw [if_neg hk] at he
      split
      · rename_i hk1
        rw [if_pos hk1] at he
        obtain ⟨hw, hm, hl⟩ := went_update hs hg he
        exact ⟨hw.ok, fun y hy => (hw.mem y hy).elim (hs.2 y) id, hw.len, by show (updateL s x.ph x.ps).1.made ≤ _; rw [hm]; omega⟩
      · rename_i hk1
        rw [if_neg hk1] at he
        obtain ⟨hw, hm, hl, -⟩ := went_delete he
        exact ⟨hw.ok, fun y hy => (hw.mem y hy).elim (hs.2 y) id, hw.len, by show (deleteL s x.ph).1.made ≤ _; rw [hm]; omega⟩
  · exact .same ho hs.2
theorem did_end {s : St} {x : Cl} {well : Bool} (hs : fineS s) (ho : okS s) (hx : fineX x) : Did s (endA s x well).1 := by
  unfold endA
  split
  · exact did_take hs ho hx
  · exact .same ho hs.2
theorem endA_en (s : St) (x : Cl) (well : Bool) : (endA s x well).2.en = true := by
  unfold endA takeL
  split
  · split <;> rfl
  · rfl
/-- The call at a place in flight. -/
theorem goodC.at {c : CSt} {n : Nat} (h : goodC c n) {i : Nat} (hi : i < c.fl.length) : ∃ x, findC c.L c.fl[i] = some (x, zAn) ∧ x.tok = c.fl[i] ∧ (x, zAn) ∈ c.L ∧ fineX x ∧ wrongC x = 0 := by
  obtain ⟨p, h1, h2, h3⟩ := h.fl _ (List.getElem_mem hi)
  obtain ⟨x, a⟩ := p
  dsimp only at h2 h3
  subst h3
  have := h.find h1
  dsimp only at this
  rw [h2] at this
  exact ⟨x, this, h2, h1, h.calls _ h1⟩
theorem endC_good {c : CSt} {n : Nat} (h : goodC c n) {i : Nat} (hi : i < c.fl.length) (well : Bool) {x : Cl} (hx : findC c.L c.fl[i] = some (x, zAn)) :
    endC c i well = (⟨(endA c.s x well).1, setA c.L c.fl[i] (endA c.s x well).2, c.fl.take i ++ c.fl.drop (i + 1)⟩, c.fl[i], (endA c.s x well).2, 0) := by
  unfold endC
  have e1 : c.fl.getD (i : Int).toNat 0 = c.fl[i] := by simp [hi]
  rw [if_pos ⟨by omega, by omega⟩, e1, hx]
  rfl
theorem endC_bad {c : CSt} {k : Int} (hk : ¬ (0 ≤ k ∧ k < c.fl.length)) (well : Bool) : endC c k well = (c, 0, zAn, 4) := by
  unfold endC
  rw [if_neg hk]
theorem mem_cut {l : List Int} (hn : l.Nodup) {i : Nat} (hi : i < l.length) {z : Int} : z ∈ l.take i ++ l.drop (i + 1) ↔ z ∈ l ∧ z ≠ l[i] := by
  have hs : l = l.take i ++ l[i] :: l.drop (i + 1) := by
    rw [List.getElem_cons_drop, List.take_append_drop]
  constructor
  · intro hz
    have hm : z ∈ l := by
      rcases List.mem_append.1 hz with h | h
      · exact List.mem_of_mem_take h
      · exact List.mem_of_mem_drop h
    refine ⟨hm, fun e => ?_⟩
    rw [hs] at hn
    rw [List.nodup_append] at hn
    obtain ⟨-, h2, h3⟩ := hn
    rcases List.mem_append.1 hz with h | h
    · exact h3 z h l[i] List.mem_cons_self e
    · rw [List.nodup_cons] at h2
      exact h2.1 (e ▸ h)
  · rintro ⟨h1, h2⟩
    rw [hs] at h1
    rcases List.mem_append.1 h1 with h | h
    · exact List.mem_append_left _ h
    · rcases List.mem_cons.1 h with h | h
      · exact absurd h h2
      · exact List.mem_append_right _ h
theorem nodup_cut {l : List Int} (hn : l.Nodup) (i : Nat) : (l.take i ++ l.drop (i + 1)).Nodup := by
  have h1 : l = l.take i ++ l.drop i := (List.take_append_drop i l).symm
  have h2 : (l.drop (i + 1)).Sublist (l.drop i) := by
    rw [← List.drop_drop]
    exact List.drop_sublist _ _
  have h3 := List.Sublist.append (List.Sublist.refl (l.take i)) h2
  rw [List.take_append_drop] at h3
  exact hn.sublist h3
theorem mem_setA {L : List (Cl × An)} {z : Int} {a : An} (hu : L.Pairwise (fun p q => p.1.tok ≠ q.1.tok)) {p : Cl × An} : p ∈ setA L z a ↔ (p ∈ L ∧ p.1.tok ≠ z) ∨ (p.1.tok = z ∧ p.2 = a ∧ ∃ q ∈ L, q.1 = p.1) := by
  induction L with
  | nil => simp [setA]
  | cons q t ih =>
    obtain ⟨h1, h2⟩ := List.pairwise_cons.1 hu
    unfold setA
    by_cases hq : q.1.tok = z
    · rw [if_pos hq]
      constructor
      · intro hp
        rcases List.mem_cons.1 hp with rfl | hp
        · exact .inr ⟨hq, rfl, q, by simp, rfl⟩
        · exact .inl ⟨List.mem_cons_of_mem _ hp, fun e => h1 p hp (hq.trans e.symm)⟩
      · rintro (⟨hp, hz⟩ | ⟨hz, ha, r, hr, e⟩)
        · rcases List.mem_cons.1 hp with rfl | hp
          · exact absurd hq hz
          · exact List.mem_cons_of_mem _ hp
        · rcases List.mem_cons.1 hr with rfl | hr
          · obtain ⟨p1, p2⟩ := p
            dsimp only at e ha
            subst e; subst ha
            exact List.mem_cons_self
          · exact absurd (hq.trans (by rw [e, hz])) (h1 r hr)
    · rw [if_neg hq, List.mem_cons, ih h2]
      constructor
      · rintro (rfl | ⟨hp, hz⟩ | ⟨hz, ha, r, hr, e⟩)
        · exact .inl ⟨List.mem_cons_self, hq⟩
        · exact .inl ⟨List.mem_cons_of_mem _ hp, hz⟩
        · exact .inr ⟨hz, ha, r, List.mem_cons_of_mem _ hr, e⟩
      · rintro (⟨hp, hz⟩ | ⟨hz, ha, r, hr, e⟩)
        · rcases List.mem_cons.1 hp with rfl | hp
          · exact .inl rfl
          · exact .inr (.inl ⟨hp, hz⟩)
        · rcases List.mem_cons.1 hr with rfl | hr
          · exact absurd (by rw [e, hz]) hq
          · exact .inr (.inr ⟨hz, ha, r, hr, e⟩)
theorem good_end {c : CSt} {n : Nat} (hn : n ≤ 1000) (h : goodC c n) (k : Int) (well : Bool) : goodC (endC c k well).1 n := by
  by_cases hk : 0 ≤ k ∧ k < c.fl.length
  · obtain ⟨i, rfl⟩ : ∃ i : Nat, k = i := ⟨k.toNat, by omega⟩
    have hi : i < c.fl.length := by omega
    obtain ⟨x, hx, htk, hm, hf, hw⟩ := h.at hi
    rw [endC_good h hi well hx]
    have hd := did_end (well := well) (h.fineS hn) h.okS hf
    have h1 := h.slen
    have h2 := h.made
    have hcl : (c.fl.take i ++ c.fl.drop (i + 1)).length + 1 = c.fl.length := by rw [List.length_append, List.length_take, List.length_drop]; omega
    have hen := endA_en c.s x well
    generalize endA c.s x well = r at *
    refine ⟨?_, hd.ok, hd.fine, ?_, ?_, ?_, ?_, ?_, nodup_cut h.flu i, ?_⟩
    · show (setA _ _ _).length ≤ n
      rw [setA_len]; exact h.len
    · show r.1.l.length + (c.fl.take i ++ c.fl.drop (i + 1)).length ≤ (setA _ _ _).length
      rw [setA_len]
      have := hd.len
      omega
    · show r.1.made + ((c.fl.take i ++ c.fl.drop (i + 1)).length : Int) ≤ ((setA _ _ _).length : Int)
      rw [setA_len]
      have := hd.made
      omega
    · show (setA _ _ _).Pairwise _
      have := h.uniq
      have e := setA_toks c.L c.fl[i] r.2
      have h3 : (c.L.map (·.1)).Pairwise (fun p q : Cl => p.tok ≠ q.tok) := (List.pairwise_map (f := fun q : Cl × An => q.1) (R := fun p q : Cl => p.tok ≠ q.tok)).2 this
      rw [← e] at h3
      exact (List.pairwise_map (f := fun q : Cl × An => q.1) (R := fun p q : Cl => p.tok ≠ q.tok)).1 h3
    · intro p hp
      have hp' : p ∈ setA c.L c.fl[i] r.2 := hp
      rcases (mem_setA h.uniq).1 hp' with ⟨h3, -⟩ | ⟨-, -, q, h3, e⟩
      · exact h.calls p h3
      · rw [← e]; exact h.calls q h3
    · intro z hz
      obtain ⟨hz1, hz2⟩ := (mem_cut h.flu hi).1 hz
      obtain ⟨p, h3, h4, h5⟩ := h.fl z hz1
      exact ⟨p, (mem_setA h.uniq).2 (.inl ⟨h3, by rw [h4]; exact hz2⟩), h4, h5⟩
    · intro p hp he
      have hp' : p ∈ setA c.L c.fl[i] r.2 := hp
      rcases (mem_setA h.uniq).1 hp' with ⟨h3, h4⟩ | ⟨-, h4, -⟩
      · exact (mem_cut h.flu hi).2 ⟨h.out p h3 he, h4⟩
      · rw [h4, hen] at he; cases he
  · rw [endC_bad hk]
    exact h
theorem held_good {c : CSt} {n : Nat} (h : goodC c n) : heldS c.s c.L := ⟨held_of_ok h.okS, fun p hp => held_of_call (h.calls p hp).2⟩
end Go.Proofs.YtkigeegahepnaaaGreatDoor
