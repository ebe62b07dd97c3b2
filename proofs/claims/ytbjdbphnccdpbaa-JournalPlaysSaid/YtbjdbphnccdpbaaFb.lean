/-
  The reference's frames: Scan.
-/
import Derived.Test.YtbjdbphnccdpbaaFa
import Derived.WalkSmall
set_option linter.unusedVariables false
namespace Go.Proofs.Ytbjdbphnccdpbaa
open Go.RowKit Go.Shelf Go.Lib Go.Deep

theorem rd.at {W : World} {x : List UInt8} {o : Option Addr} {n c : Nat} (h : rd W x (.slice o n c)) (hx : 0 < x.length) : ∃ a, o = some a ∧ ∀ j (hj : j < x.length), W.cell? (a.add j) = some (.int .u8 (x[j].toNat : Int)) := by
  obtain ⟨o', a, c', h0, _, _, h4, h5⟩ := h
  cases h0
  refine ⟨a, h4 hx, fun j hj => h5 j _ ?_⟩
  simp [byteCells, List.getElem?_eq_getElem hj]
theorem rd.form {W : World} {x : List UInt8} {v : Value} (h : rd W x v) : ∃ o c, v = .slice o x.length c ∧ x.length ≤ c ∧ c ≤ maxLen := by
  obtain ⟨o, a, c, h0, h1, h2, _⟩ := h
  exact ⟨o, c, h0, h1, h2⟩
theorem addadd (a : Addr) (i j : Nat) : (a.add i).add j = a.add (i + j) := by
  unfold Addr.add
  split <;> split <;> simp_all <;> omega
theorem rd.part {W : World} {x : List UInt8} {a : Addr} {n c : Nat} (h : rd W x (.slice (some a) n c)) (k m c' : Nat) (hk : k + m ≤ x.length) (h1 : m ≤ c') (h2 : c' ≤ maxLen) : rd W ((x.drop k).take m) (.slice (some (a.add k)) m c') := by
  obtain ⟨o', a', c0, h0, _, _, h4, h5⟩ := h
  cases h0
  have hl : ((x.drop k).take m).length = m := by rw [List.length_take, List.length_drop]; omega
  rcases Nat.eq_zero_or_pos m with rfl | hm
  · refine ⟨some (a.add k), a.add k, c', by rw [hl], by omega, h2, fun _ => rfl, fun j u hj => ?_⟩
    have := (List.getElem?_eq_some_iff.1 hj).1
    rw [byteCells_length, hl] at this
    omega
  · have e := h4 (by omega)
    cases e
    refine ⟨some (a.add k), a.add k, c', by rw [hl], by omega, h2, fun _ => rfl, fun j u hj => ?_⟩
    have hjm : j < m := by
      have := (List.getElem?_eq_some_iff.1 hj).1
      rw [byteCells_length, hl] at this
      exact this
    rw [addadd]
    refine h5 (k + j) u ?_
    unfold byteCells at hj ⊢
    rw [List.map_take, List.getElem?_take, if_pos hjm, List.map_drop, List.getElem?_drop] at hj
    exact hj
theorem rd.drop {W : World} {x : List UInt8} {a : Addr} {n c : Nat} (h : rd W x (.slice (some a) n c)) (k : Nat) (hk : k ≤ x.length) : rd W (x.drop k) (.slice (some (if c = k then a else a.add k)) (x.length - k) (c - k)) := by
  have h2 := h
  obtain ⟨o', a', c0, h0, h01, h02, _, _⟩ := h2
  cases h0
  have hp := h.part k (x.length - k) (c - k) (by omega) (by omega) (by omega)
  rw [List.take_of_length_le (by rw [List.length_drop]; omega)] at hp
  by_cases e : c = k
  · rw [if_pos e]
    have hx0 : x.length - k = 0 := by omega
    refine ⟨some a, a, c - k, by rw [List.length_drop], by rw [List.length_drop]; omega, by omega, fun _ => rfl, fun j u hj => ?_⟩
    have := (List.getElem?_eq_some_iff.1 hj).1
    rw [byteCells_length, List.length_drop] at this
    omega
  · rw [if_neg e]
    exact hp

/-- What is read so far: the row of the loads. -/
theorem ow_rd_below {base : Nat} {w w' : World} {v : Value} {x : List UInt8} (h : ow base w v x) (hb : Below w.heap.size w w') : ow base w' v x :=
  h.keep fun k o _ ho => (hb.block k (Array.getElem?_eq_some_iff.1 ho).1).trans ho
def lenOf' : Value → Nat
  | .slice _ n _ => n
  | _ => 0
def SC (w : World) (x : List UInt8) (v : Value) (L : List (List UInt8)) (rest : List UInt8) (bv : Value) (wr : World) : Prop :=
  ∃ xs : List Value, wr.ownsRow w.heap.size 27 1 v L.length xs ∧ (∀ i (h : i < L.length), ∃ c, xs[i]? = some c ∧ ow w.heap.size wr c L[i]) ∧ Below w.heap.size w wr ∧ rd w rest bv ∧ scanL x = (L ++ (scanL rest).1, (scanL rest).2) ∧ (∃ k, rest = x.drop k) ∧ L.length + rest.length ≤ x.length

theorem head_ex (p q r u : UInt8) (t : List UInt8) : ∃ N : Nat, (p.toNat : Int) * 16777216 + (q.toNat : Int) * 65536 + (r.toNat : Int) * 256 + (u.toNat : Int) = (N : Int) ∧ N < 4294967296 ∧ headN (p :: q :: r :: u :: t) = if 1 ≤ N ∧ N ≤ 524288 ∧ 4 + N ≤ (p :: q :: r :: u :: t).length then some N else none := by
  have hp := UInt8.toNat_lt p
  have hq := UInt8.toNat_lt q
  have hr := UInt8.toNat_lt r
  have hu := UInt8.toNat_lt u
  obtain ⟨N, hN⟩ : ∃ N, N = be4 p q r u := ⟨_, rfl⟩
  refine ⟨N, by rw [hN]; unfold be4; omega, by rw [hN]; unfold be4; omega, ?_⟩
  by_cases h : 1 ≤ N ∧ N ≤ 524288 ∧ N ≤ t.length
  · rw [if_pos (by rw [List.length_cons, List.length_cons, List.length_cons, List.length_cons]; omega)]
    exact headN_mk hN.symm h.1 h.2.1 h.2.2
  · rw [if_neg (by rw [List.length_cons, List.length_cons, List.length_cons, List.length_cons]; omega)]
    cases hh : headN (p :: q :: r :: u :: t) with
    | none => rfl
    | some m =>
      obtain ⟨a, b, c, d, t', e, hb, h1, h2, h3⟩ := headN_form hh
      cases e
      rw [hb] at hN
      subst hN
      exact absurd ⟨h1, h2, h3⟩ h
theorem ow_not_row {base base' n : Nat} {W : World} {c v : Value} {x : List UInt8} {xs : List Value} (h : ow base W c x) (h' : W.ownsRow base' 27 1 v n xs) : ∀ k, c.ownBlock = some k → v.ownBlock ≠ some k := fun k hk hk' => by
  obtain ⟨_, _, cur, hc⟩ := h.lt k hk
  rcases h'.2 with ⟨rfl, _⟩ | ⟨g, cap, cur', rfl, _, hg, _⟩
  · cases hk'
  · have : g = k := by simpa [Value.ownBlock] using hk'
    subst this
    rw [hc] at hg
    have := Option.some.inj hg
    simp only [Obj.cells.injEq] at this
    exact absurd this.2.1 (by decide)
theorem SC.below {w : World} {x : List UInt8} {v : Value} {L : List (List UInt8)} {rest : List UInt8} {bv : Value} {W W' : World} (h : SC w x v L rest bv W) (hb : Below W.heap.size W W') : SC w x v L rest bv W' := by
  obtain ⟨xs, s1, s2, s3, s4, s5, s6, s7⟩ := h
  refine ⟨xs, s1.kept (row := none) ⟨hb.os, hb.tape, hb.output, hb.size, fun k hk _ => hb.block k hk⟩ (by rcases v.ownBlock with _ | k; exact .inl rfl; exact .inr (by simp)), fun i hi => ?_, s3.trans (hb.mono s3.size), s4, s5, s6, s7⟩
  obtain ⟨c, q1, q2⟩ := s2 i hi
  exact ⟨c, q1, ow_rd_below q2 hb⟩
/-- Where nothing more is whole. -/
theorem SC.done {w : World} {x : List UInt8} {v : Value} {L : List (List UInt8)} {rest : List UInt8} {bv : Value} {W : World} (h : SC w x v L rest bv W) (hn : headN rest = none) : (scanL x).1 = L ∧ (scanL x).2 = rest.length := by
  obtain ⟨xs, s1, s2, s3, s4, s5, s6, s7⟩ := h
  rw [s5, scan_none hn]
  exact ⟨by simp, rfl⟩
theorem infoSl : (Try.prog.info? 27).map (fun i => (i.zero, i.size, i.bytes)) = some (some (.slice none 0 0), 1, 24) := by kernel_rfl
set_option maxRecDepth 100000 in
set_option maxHeartbeats 8000000 in
theorem rscan_any (x : List UInt8) (v : Value) (w : World) (hx : rd w x v) (hl : x.length ≤ 4000000) : Calls Try.prog 16 #[v] w fun e w' => ∃ v' L, e = .returned (.tuple #[v', .int .i64 ((scanL x).2 : Nat)]) ∧ Hid (L = (scanL x).1 ∧ ∃ rest bv, SC w x v' L rest bv w') := by
  obtain ⟨o, c, rfl, hc1, hc2⟩ := hx.form
  have HX := Lib.hid hx
  clear hx
  go_enter Try.func16, Try.ntmps16
  go_wp2_with fail
  go_loopw [0, 4] (fun bv ov wr => ∃ (rest : List UInt8) (L : List (List UInt8)) (ob : Option Addr) (cb : Nat), bv = .slice ob rest.length cb ∧ Hid (rest.length ≤ x.length) ∧ Hid (SC w x ov L rest (.slice ob rest.length cb) wr)) (fun bv _ _ => lenOf' bv)
  case atStart => exact ⟨x, [], o, c, rfl, Lib.hid (Nat.le_refl _), Lib.hid ⟨[], World.ownsRow_nil _ _ _ _, (fun i h => absurd h (by simp)), Below.refl _ _, HX.out, by simp, ⟨0, rfl⟩, by simp⟩⟩
  case round =>
    obtain ⟨rest, L, ob, cb, rfl, hrl, hS⟩ := hrel
    have hRD := (hS.out.choose_spec.2.2.2.1).below hS.out.choose_spec.2.2.1
    by_cases h4 : 4 ≤ rest.length
    · obtain ⟨ab, rfl, hcell⟩ := hRD.at (by omega)
      match rest, h4 with
      | p :: q :: r :: u :: t, _ =>
        have g0 := hcell 0 (by simp)
        have g1 := hcell 1 (by simp)
        have g2 := hcell 2 (by simp)
        have g3 := hcell 3 (by simp)
        simp only [List.getElem_cons_zero, List.getElem_cons_succ] at g0 g1 g2 g3
        clear hcell
        have hlen : 4 ≤ ((p :: q :: r :: u :: t).length : Int) := by simp; omega
        have i0 : (0 : Int) < ((p :: q :: r :: u :: t).length : Int) := by omega
        have i1 : (1 : Int) < ((p :: q :: r :: u :: t).length : Int) := by omega
        have i2 : (2 : Int) < ((p :: q :: r :: u :: t).length : Int) := by omega
        have i3 : (3 : Int) < ((p :: q :: r :: u :: t).length : Int) := by omega
        have g0' : wr.cell? ab = some (.int .u8 (p.toNat : Int)) := by simpa [Addr.add] using g0
        have g1' : wr.cell? ⟨ab.block, ab.off + 1, none⟩ = some (.int .u8 (q.toNat : Int)) := by simpa [Addr.add] using g1
        have g2' : wr.cell? ⟨ab.block, ab.off + 2, none⟩ = some (.int .u8 (r.toNat : Int)) := by simpa [Addr.add] using g2
        have g3' : wr.cell? ⟨ab.block, ab.off + 3, none⟩ = some (.int .u8 (u.toNat : Int)) := by simpa [Addr.add] using g3
        have n0 : 0 < (p :: q :: r :: u :: t).length := by simp
        have n1 : 1 < (p :: q :: r :: u :: t).length := by simp
        have n2 : 2 < (p :: q :: r :: u :: t).length := by simp
        have n3 : 3 < (p :: q :: r :: u :: t).length := by simp
        have hp := UInt8.toNat_lt p
        have hq := UInt8.toNat_lt q
        have hr := UInt8.toNat_lt r
        have hu := UInt8.toNat_lt u
        have s1 : IntKind.i64.wrap ((p.toNat : Int) * 16777216) = (p.toNat : Int) * 16777216 := by go_unwrap
        obtain ⟨N, hN, hNb, hhd0⟩ := head_ex p q r u t
        have hhd := Lib.hid hhd0
        clear hhd0
        have hnc : (p :: q :: r :: u :: t).length ≤ cb ∧ cb ≤ maxLen := by
          obtain ⟨o2, c2, e2, e3, e4⟩ := hRD.form
          cases e2
          exact ⟨e3, e4⟩
        generalize hll : p :: q :: r :: u :: t = rest at *
        generalize hn : rest.length = n at *
        have Hll := Lib.hid hll
        have Hn := Lib.hid hn
        clear hll hn
        have hwr : IntKind.i64.wrap (4 + (N : Int)) = 4 + (N : Int) := by go_unwrap
        by_cases b1 : N < 1
        · have hh : headN rest = none := by rw [hhd.out, if_neg]; have := Hn.out; omega
          obtain ⟨e1, e2⟩ := hS.out.done hh
          have HE := Lib.hid (And.intro e1.symm (e2.trans Hn.out))
          have t1 : decide ((N : Int) < 1) = true := decide_eq_true (by omega)
          clear e1 e2 hh b1
          go_wp2_with fail
          go_quiet (fail)
          go_wp2_with fail
          go_ret2
          exact ⟨u4, L, by rw [HE.out.2]; rfl, Lib.hid ⟨HE.out.1, _, _, hS.out.below (below_drewN (Below.refl _ _) _)⟩⟩
        have t1 : decide ((N : Int) < 1) = false := decide_eq_false (by omega)
        by_cases b2 : 524288 < N
        · have hh : headN rest = none := by rw [hhd.out, if_neg]; have := Hn.out; omega
          obtain ⟨e1, e2⟩ := hS.out.done hh
          have HE := Lib.hid (And.intro e1.symm (e2.trans Hn.out))
          have t2 : decide (524288 < (N : Int)) = true := decide_eq_true (by omega)
          clear e1 e2 hh b1 b2
          go_wp2_with fail
          go_quiet (fail)
          go_wp2_with fail
          go_ret2
          exact ⟨u4, L, by rw [HE.out.2]; rfl, Lib.hid ⟨HE.out.1, _, _, hS.out.below (below_drewN (Below.refl _ _) _)⟩⟩
        have t2 : decide (524288 < (N : Int)) = false := decide_eq_false (by omega)
        by_cases b3 : n < 4 + N
        · have hh : headN rest = none := by rw [hhd.out, if_neg]; have := Hn.out; omega
          obtain ⟨e1, e2⟩ := hS.out.done hh
          have HE := Lib.hid (And.intro e1.symm (e2.trans Hn.out))
          have t3 : decide ((n : Int) < 4 + (N : Int)) = true := decide_eq_true (by omega)
          clear e1 e2 hh b1 b2 b3
          go_wp2_with fail
          go_quiet (fail)
          go_wp2_with fail
          go_ret2
          exact ⟨u4, L, by rw [HE.out.2]; rfl, Lib.hid ⟨HE.out.1, _, _, hS.out.below (below_drewN (Below.refl _ _) _)⟩⟩
        have t3 : decide ((n : Int) < 4 + (N : Int)) = false := decide_eq_false (by omega)
        have HB := Lib.hid (And.intro b1 (And.intro b2 b3))
        have hc4 : (4 : Int) ≤ 4 + (N : Int) := by omega
        obtain ⟨aa, haa⟩ : ∃ aa, (if cb = 4 + N then ab else ab.add (4 + N)) = aa := ⟨_, rfl⟩
        have HAA := Lib.hid haa
        clear haa
        have hcc : 4 + (N : Int) ≤ (cb : Int) := by omega
        have hne : ¬ cb = 4 := by omega
        have hnn : 4 + (N : Int) ≤ (n : Int) := by omega
        have htn : (4 + (N : Int)).toNat = 4 + N := by omega
        have hsn : 4 + N - 4 = N := by omega
        clear b1 b2 b3 hlen i0 i1 i2 i3
        go_wp2_with fail
        go_quiet (fail)
        have hbw : Below wr.heap.size wr ((wr.drewN nq).alloc (.cells #[] 5)) := (below_drewN (Below.refl _ _) nq).alloc (Nat.le_refl _) _
        have hlo := hS.out.choose_spec.2.2.1.size
        have hw0 : w.heap.size ≤ ((wr.drewN nq).alloc (.cells #[] 5)).heap.size := Nat.le_trans hlo hbw.size
        have hemp : ow w.heap.size ((wr.drewN nq).alloc (.cells #[] 5)) (.slice (some ⟨wr.heap.size, 0, none⟩) 0 0) [] := ow.new (W := wr.drewN nq) [] #[] 0 hlo (Nat.le_refl _) (by unfold maxLen; omega) (Nat.zero_le _) rfl
        have hxl : ((rest.drop 4).take N).length = N := by have := Hn.out; have := HB.out; rw [List.length_take, List.length_drop]; omega
        have hprt : rd ((wr.drewN nq).alloc (.cells #[] 5)) ((rest.drop 4).take N) (.slice (some (ab.add 4)) N (cb - 4)) := (hRD.below hbw).part 4 N (cb - 4) (by have := Hn.out; have := HB.out; omega) (by omega) (by have := hnc.2; omega)
        go_wp2_with (at_builtin; refine wpList_app_ow rfl _ _ rfl w.heap.size (.slice (some ⟨wr.heap.size, 0, none⟩) 0 0) (.slice (some (ab.add 4)) N (cb - 4)) [] ((rest.drop 4).take N) rfl rfl hemp hprt (by rw [hxl, List.length_nil]; have := HB.out; omega) hw0 ?_)
        intro o5 c5 w5 own5 gr5 at5
        have hb5 : Below wr.heap.size wr w5 := hbw.trans ((Fr.grown (B := fun k => k = wr.heap.size) gr5 (fun r hr => by simp [Value.ownBlock] at hr; omega)).below (fun k hk => by omega) hbw.size)
        obtain ⟨xs, s1, s2, s3, s4, s5, s6, s7⟩ := hS.out
        have hown5 : w5.ownsRow w.heap.size 27 1 u4 L.length xs := s1.kept (row := none) ⟨hb5.os, hb5.tape, hb5.output, hb5.size, fun k hk _ => hb5.block k hk⟩ (by rcases hob : u4.ownBlock with _ | k; exact .inl rfl; exact .inr (by simp))
        obtain ⟨ii, hi, hz⟩ := Option.map_eq_some_iff.1 infoSl
        simp only [Prod.mk.injEq] at hz
        obtain ⟨hz1, hz2, hz3⟩ := hz
        have HS7 := Lib.hid s7
        have HOV := Lib.hid hown5
        have HLO := Lib.hid (Nat.le_trans hlo hb5.size)
        have S2 := Lib.hid s2
        have S3 := Lib.hid s3
        have S4 := Lib.hid s4
        have S5 := Lib.hid s5
        have S6 := Lib.hid s6
        have OWN5 := Lib.hid own5
        have HB5 := Lib.hid hb5
        clear s1 s2 s3 s4 s5 s6 s7 hown5 own5 gr5 at5 hemp hprt hw0 hlo hbw g0 g1 g2 g3
        go_wp2_with (at_builtin; refine wpList_append_own_at _ rfl _ _ 28 rfl w.heap.size 27 ii (.slice none 0 0) 1 24 Try.underlying28 hi hz1 hz2 hz3 rfl (by decide) u4 L.length xs rfl (HOV.out.alloc _) ⟨w5.heap.size, 0, none⟩ 1 1 [.slice o5 N c5] rfl rfl (cell_one_new _ _ _) ?c2 ?c3 ?c4 ?c5 ?_)
        case c2 => intro u hu; simp at hu; subst hu; rfl
        case c3 => have := HS7.out; unfold maxLen; omega
        case c4 => have := HS7.out; omega
        case c5 => have := HLO.out; simp; omega
        intro v6 w6 own6 gr6 nil6 at6
        obtain ⟨g6, c6, rfl⟩ : ∃ g cap, v6 = .slice (some ⟨g, 0, none⟩) (L.length + 1) cap := by
          rcases own6.2 with ⟨_, h0⟩ | ⟨g, cap, cur, hv, _⟩
          · omega
          · exact ⟨g, cap, hv⟩
        have hb5a : Below w5.heap.size w5 (w5.alloc (.cells #[.slice o5 N c5] 27)) := (Below.refl _ _).alloc (Nat.le_refl _) _
        have hF6 := Fr.grown (B := fun k => u4.ownBlock = some k) gr6 (fun r hr => hr)
        have hown5a := HOV.out.alloc (.cells #[.slice o5 N c5] 27)
        have KEEP : Hid (∀ c y, ow w.heap.size w5 c y → ow w.heap.size w6 c y) := Lib.hid fun c y hy => by
          have h1 := ow_rd_below hy hb5a
          exact h1.keep fun k ob hk ho => hF6.2 k ob ho (ow_not_row h1 hown5a k hk)
        have HB6 : Hid (Below w.heap.size w w6) := Lib.hid (((S3.out.trans (HB5.out.mono S3.out.size)).trans (hb5a.mono HLO.out)).trans (hF6.below (fun k hk => (hown5a.lt k hk).1) (Nat.le_trans HLO.out hb5a.size)))
        have OWN6 := Lib.hid own6
        clear own6 gr6 nil6 at6 hb5a hF6 hown5a
        go_wp2_with fail
        go_roundw
        case rel =>
          have hh : headN rest = some N := by rw [hhd.out, if_pos]; have := HB.out; have := Hn.out; omega
          have e1 := scan_some hh
          have hdl : (rest.drop (4 + N)).length = n - (4 + N) := by rw [List.length_drop, Hn.out]
          have hnN : 4 + N ≤ n := by have := HB.out; omega
          refine ⟨rest.drop (4 + N), L ++ [(rest.drop 4).take N], some aa, cb - (4 + N), by rw [hdl, ← HAA.out]; by_cases e : cb = 4 + N <;> simp [e], Lib.hid (by have := hrl.out; have := Hn.out; omega), Lib.hid ⟨xs ++ [.slice o5 N c5], by rw [List.length_append]; exact OWN6.out, fun i hi => ?_, HB6.out, ?_, ?_, ?_, ?_⟩⟩
          · by_cases e : i < L.length
            · obtain ⟨c9, q1, q2⟩ := S2.out i e
              refine ⟨c9, by rw [List.getElem?_append_left (List.getElem?_eq_some_iff.1 q1).1]; exact q1, ?_⟩
              rw [List.getElem_append_left e]
              exact KEEP.out _ _ (ow_rd_below q2 HB5.out)
            · have hxsl : xs.length = L.length := by have := HOV.out.1; omega
              have : i = L.length := by simp at hi; omega
              subst this
              refine ⟨.slice o5 N c5, by rw [← hxsl, List.getElem?_append_right (Nat.le_refl _)]; simp, ?_⟩
              rw [List.getElem_append_right (Nat.le_refl _)]
              simp only [Nat.sub_self, List.getElem_cons_zero]
              have := KEEP.out _ _ OWN5.out
              exact this
          · have := S4.out.drop (4 + N) (by have := Hn.out; omega)
            rw [HAA.out, Hn.out] at this
            rw [hdl]
            exact this
          · rw [S5.out, e1]
            simp
          · obtain ⟨k, hk⟩ := S6.out
            exact ⟨k + (4 + N), by rw [hk, List.drop_drop]⟩
          · have h7 := HS7.out
            rw [Hn.out] at h7
            rw [List.length_append, hdl]
            show L.length + 1 + (n - (4 + N)) ≤ x.length
            omega
        case measure => simp [lenOf']; have := HB.out; omega
    · have hh : headN rest = none := by
        match rest, h4 with
        | [], _ => rfl
        | [_], _ => rfl
        | [_, _], _ => rfl
        | [_, _, _], _ => rfl
        | _ :: _ :: _ :: _ :: _, h4 => exact absurd (by simp) h4
      obtain ⟨e1, e2⟩ := hS.out.done hh
      have HE := Lib.hid (And.intro e1.symm e2)
      have t4 : decide ((4 : Int) ≤ (rest.length : Int)) = false := decide_eq_false (by omega)
      have t4' : decide (4 ≤ rest.length) = false := decide_eq_false h4
      clear e1 e2 hh h4 hRD
      go_wp2_with fail
      go_ret2
      exact ⟨u4, L, by rw [HE.out.2]; rfl, Lib.hid ⟨HE.out.1, _, _, hS.out⟩⟩
end Go.Proofs.Ytbjdbphnccdpbaa
