/-
  The program's journal: rows are gone over.
-/
import Derived.Test.YtbjdbphnccdpbaaJf
set_option linter.unusedVariables false
namespace Go.Proofs.Ytbjdbphnccdpbaa
open Go.RowKit Go.Shelf Go.Lib
attribute [local go_sem] Oper.semAt_some

/-- Rows that lie where the rows of values stay; each element is as E says. -/
def rwP (P : Nat → Prop) (E : Value → Prop) (W : World) (L : List (List UInt8)) (v : Value) : Prop :=
  ∃ o a cap, v = .slice o L.length cap ∧ L.length ≤ cap ∧ cap ≤ maxLen ∧ (0 < L.length → o = some a ∧ P a.block) ∧
    ∀ i (h : i < L.length), ∃ ob cb, W.cell? (a.add i) = some (.slice ob L[i].length cb) ∧ E (.slice ob L[i].length cb) ∧ rd W L[i] (.slice ob L[i].length cb) ∧ ∀ a', ob = some a' → 0 < L[i].length → P a'.block
theorem rd.kk {P : Nat → Prop} {W W' : World} {x : List UInt8} {o : Option Addr} {n c : Nat} (h : rd W x (.slice o n c)) (hP : ∀ a', o = some a' → 0 < x.length → P a'.block) (hk : KK P W W') : rd W' x (.slice o n c) := by
  obtain ⟨o, a, c, e, h1, h2, h3, h4⟩ := h
  cases e
  refine ⟨_, a, _, rfl, h1, h2, h3, fun j u hj => ?_⟩
  have hx : 0 < x.length := by
    have := (List.getElem?_eq_some_iff.1 hj).1
    rw [Lib.byteCells_length] at this
    omega
  refine hk.cell _ _ ?_ (h4 j u hj)
  rw [block_add]
  exact hP a (h3 hx) hx
theorem rwP.kk {P : Nat → Prop} {E : Value → Prop} {W W' : World} {L : List (List UInt8)} {v : Value} (h : rwP P E W L v) (hk : KK P W W') : rwP P E W' L v := by
  obtain ⟨o, a, cap, h1, h2, h3, h4, h5⟩ := h
  refine ⟨o, a, cap, h1, h2, h3, h4, fun i hi => ?_⟩
  obtain ⟨ob, cb, q1, q2, q3, q4⟩ := h5 i hi
  exact ⟨ob, cb, hk.cell _ _ (by rw [block_add]; exact (h4 (by omega)).2) q1, q2, q3.kk q4 hk, q4⟩
theorem rd.lt {W : World} {x : List UInt8} {o : Option Addr} {n c : Nat} (h : rd W x (.slice o n c)) : ∀ a', o = some a' → 0 < x.length → a'.block < W.heap.size := fun a' e hx => by
  subst e
  obtain ⟨a2, e2, hc⟩ := h.at hx
  cases e2
  have := World.block_lt_of_cell? W _ (hc 0 hx)
  rwa [block_add] at this
theorem rwP.of {W : World} {L : List (List UInt8)} {v : Value} {P : Nat → Prop} (h : rds W L v) (hP : ∀ k, k < W.heap.size → P k) : rwP P (fun _ => True) W L v := by
  obtain ⟨o, a, cap, h1, h2, h3, h4, h5⟩ := h
  refine ⟨o, a, cap, h1, h2, h3, fun h0 => ⟨h4 h0, ?_⟩, fun i hi => ?_⟩
  · obtain ⟨ob, cb, q1, q2⟩ := h5 0 h0
    have := World.block_lt_of_cell? W _ q1
    rw [block_add] at this
    exact hP _ this
  · obtain ⟨ob, cb, q1, q2⟩ := h5 i hi
    exact ⟨ob, cb, q1, trivial, q2, fun a' e hx => hP _ (q2.lt a' e hx)⟩
theorem rwP.ofz {base : Nat} {W : World} {L : List (List UInt8)} {v : Value} {P : Nat → Prop} (h : rdz base W L v) (hP : ∀ k, k < W.heap.size → P k) : rwP P fit W L v := by
  obtain ⟨o, a, cap, h1, h2, h3, h4, _, h5⟩ := h
  refine ⟨o, a, cap, h1, h2, h3, fun h0 => ⟨(h4 h0).1, ?_⟩, fun i hi => ?_⟩
  · obtain ⟨ob, cb, q1, _, q2⟩ := h5 0 h0
    have := World.block_lt_of_cell? W _ q1
    rw [block_add] at this
    exact hP _ this
  · obtain ⟨ob, cb, q1, _, q2⟩ := h5 i hi
    exact ⟨some ob, cb, q1, .inr ⟨_, _, _, rfl⟩, q2, fun a' e hx => hP _ (q2.lt a' e hx)⟩
/-- What is told of row number st + k. -/
def PreB (E : Value → Prop) (L : List (List UInt8)) (st k : Nat) (v : Value) (W : World) : Prop := (∃ o c, v = .slice o (lk L (st + k)).length c) ∧ E v ∧ rd W (lk L (st + k)) v
def encB (st k : Nat) (v : Value) : Array Value := #[.int .i64 ((st + k : Nat) : Int), v]
theorem behind_in (n : Nat) (o : Option Addr) (m c : Nat) (k : Int) (w : World) :
    CallsIn Fence.wide n Try.prog 62 #[.slice o m c, .int .i64 k] w fun e w' => e = .returned (.func (.func 69) #[] #[.pointer (some ⟨w.heap.size + 1, 0, none⟩), .pointer (some ⟨w.heap.size, 0, none⟩)]) ∧ w' = (w.alloc (.cells #[.slice o m c] 28)).alloc (.cells #[.int .i64 k] 3) := by
  refine callsIn_of_wp Try.func62 rfl trivial ?_ rfl
  simp only [Try.ntmps62, List.size_toArray, List.length_cons, List.length_nil, Nat.reduceAdd, Nat.reduceSub, Array.replicate_succ, Array.replicate_zero, List.push_toArray, List.append_toArray, List.nil_append, List.cons_append]
  gi_wp2
  go_ret
  exact ⟨rfl, rfl⟩
set_option maxRecDepth 100000 in
set_option maxHeartbeats 4000000 in
theorem behind1_in (n : Nat) (hn : 1 ≤ n) (P : Nat → Prop) (E : Value → Prop) (L : List (List UInt8)) (v : Value) (fr : Int) (st : Nat) (hst : (st : Int) = if fr < 0 then 0 else fr) (hs63 : (st : Int) ≤ 9223372036854775807) (l Br Bf : Nat) (J Jx : Nat → World → Prop) (W : World)
    (hb : rwP P E W L v) (hBr : Boxed W Br 28 v) (hBf : Boxed W Bf 3 (.int .i64 fr)) (hPr : P Br) (hPf : P Bf)
    (hY : ∀ k v W1, k < L.length - st → J k W1 → PreB E L st k v W1 → YieldAt Fence.wide (n - 1) Try.prog l (encB st k v) W1 fun e W' => (e = .returned (.bool true) ∧ J (k + 1) W' ∧ KK P W1 W') ∨ (e = .returned (.bool false) ∧ Jx k W'))
    (h0 : J 0 W) :
    CallsIn Fence.wide n Try.prog 69 #[.func (.yield l) #[] #[], .pointer (some ⟨Bf, 0, none⟩), .pointer (some ⟨Br, 0, none⟩)] W fun e W' => (∃ v, e = .returned v) ∧ (J (L.length - st) W' ∨ ∃ k, k < L.length - st ∧ Jx k W') := by
  obtain ⟨o, a, cap, rfl, hc1, hc2, ho, hcell⟩ := id hb
  unfold maxLen at hc2
  have HRW := Lib.hid hb
  have HBR := Lib.hid hBr
  have HO := Lib.hid ho
  have HCL := Lib.hid hcell
  have cF := hBf.cell
  have cR := hBr.cell
  clear hb hBr hBf hcell ho
  refine callsIn_of_wp Try.func69 rfl trivial ?_ rfl
  simp only [Try.ntmps69, List.size_toArray, List.length_cons, List.length_nil, Nat.reduceAdd, Nat.reduceSub, Array.replicate_succ, Array.replicate_zero, List.push_toArray, List.append_toArray, List.nil_append, List.cons_append]
  have hst' := hst.symm
  clear hst
  gi_wp2_with fail
  gi_loopw [4] (fun iv wr => ∃ k, k ≤ L.length - st ∧ iv = .int .i64 ((st + k : Nat) : Int) ∧ Hid (J k wr) ∧ Hid (rwP P E wr L (.slice o L.length cap)) ∧ Hid (Boxed wr Br 28 (.slice o L.length cap))) (fun iv _ => L.length - (intOf iv).toNat)
  case atStart => exact ⟨0, Nat.zero_le _, by simp, Lib.hid h0, HRW, HBR⟩
  case round =>
    obtain ⟨k, hk, rfl, HJ, HB, HX⟩ := hrel
    have cX := HX.out.cell
    by_cases hlt : k < L.length - st
    · have hlt2 : st + k < L.length := by omega
      obtain ⟨ob, cb, q1, q2, q3, q4⟩ : ∃ ob cb, wr.cell? (a.add (st + k)) = some (.slice ob L[st + k].length cb) ∧ E (.slice ob L[st + k].length cb) ∧ rd wr L[st + k] (.slice ob L[st + k].length cb) ∧ ∀ a', ob = some a' → 0 < L[st + k].length → P a'.block := by
        obtain ⟨o2, a2, cap2, e, _, _, ho2, hc2⟩ := HB.out
        simp only [Value.slice.injEq] at e
        obtain ⟨rfl, _, rfl⟩ := e
        obtain ⟨e1, _⟩ := HO.out (by omega)
        obtain ⟨e2, _⟩ := ho2 (by omega)
        rw [e1] at e2
        cases e2
        exact hc2 (st + k) hlt2
      obtain ⟨rfl, _⟩ := HO.out (by omega)
      rw [← lk_get hlt2] at q1 q2 q3
      obtain ⟨fn, tmps, assign, body, hy, hR⟩ := hY k (.slice ob (lk L (st + k)).length cb) wr hlt HJ.out ⟨⟨_, _, rfl⟩, q2, q3⟩
      unfold encB at hy
      have HR := Lib.hid hR
      have HK := Lib.hid (And.intro hk hlt)
      generalize hI : st + k = i at *
      generalize (lk L i).length = m at *
      have hI' := Lib.hid hI
      have hii : (i : Int) < (L.length : Int) := by omega
      clear hR q2 q3 q4 hk hlt hI
      gi_wp2_with fail
      refine HR.out.mono ?_
      clear HR
      rintro e W3 (⟨rfl, hJ3, hk3⟩ | ⟨rfl, hJx3⟩)
      · have H3 := Lib.hid hJ3
        have HB3 := Lib.hid (HB.out.kk hk3)
        have HX3 : Hid (Boxed W3 Br 28 (.slice (some a) L.length cap)) := Lib.hid (hk3.2 _ _ _ _ hPr HX.out)
        clear hJ3 hk3 hy cX q1
        gi_wp2_with fail
        go_roundw
        case rel => exact ⟨k + 1, HK.out.2, by rw [← Nat.add_assoc, hI'.out]; simp, H3, HB3, HX3⟩
        case measure => simp [intOf]; omega
      · have H3 := Lib.hid hJx3
        clear hJx3 hy cX q1
        gi_wp2_with fail
        refine bodyPost_ret (results_none rfl _ _ _) rfl ?_
        exact ⟨⟨_, rfl⟩, .inr ⟨k, HK.out.2, H3.out⟩⟩
    · obtain rfl : k = L.length - st := by omega
      have hlt' : decide (((st + (L.length - st) : Nat) : Int) < (L.length : Int)) = false := decide_eq_false (by omega)
      have hlt'' : decide (st + (L.length - st) < L.length) = false := decide_eq_false (by omega)
      generalize st + (L.length - st) = i at *
      clear hlt hk
      gi_wp2_with fail
      refine bodyPost_end (results_none rfl _ _ _) rfl ?_
      exact ⟨⟨_, rfl⟩, .inl HJ.out⟩
end Go.Proofs.Ytbjdbphnccdpbaa
