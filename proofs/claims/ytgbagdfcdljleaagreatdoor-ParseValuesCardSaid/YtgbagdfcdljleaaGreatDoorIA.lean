/-
  parse.Value: the function that it defers; the whole. · parse.Value. · parse.Parse.
-/
import Derived.Test.YtgbagdfcdljleaaGreatDoorHz
import Derived.Defers
import Derived.Recover
set_option linter.unusedVariables false
set_option linter.unusedSimpArgs false
namespace Go.Proofs.YtgbagdfcdljleaaGreatDoor
open Go.RowKit Go.Maps

set_option maxRecDepth 100000 in
set_option maxHeartbeats 2000000 in
/-- Where nothing has panicked it does nothing. -/
theorem catch_idle (p q r : Addr) (w : World) :
    CallsD Tryz.prog 14 #[.pointer (some p), .pointer (some q), .pointer (some r)] .returning w fun e u' w' => e = .returned (.tuple #[]) ∧ u' = .returning ∧ Below w.heap.size w w' := by
  have hta : (Instr.typeAssert .nilIface 20 39 true).run Tryz.prog w = .ok (.tuple #[.agg #[.int .i64 0, .int .i64 0], .bool false]) w := by kernel_rfl
  refine callsD_of_wpS Tryz.func14 rfl fun c₀ cs hu => ?_
  simp only [Tryz.ntmps14, List.size_toArray, List.length_cons, List.length_nil, Nat.reduceAdd, Nat.reduceSub, Array.replicate_succ, Array.replicate_zero, List.push_toArray, List.append_toArray, List.nil_append, List.cons_append]
  apply wpS_seq
  apply wpS_region
  simp [wpOpsS, go_sem, recoverD, hu, hta, Exit.thenS]
  refine wpS_of_wp ?_
  have hb : Below w.heap.size w (w.alloc (.cells #[.int .i64 0, .int .i64 0] 39)) := (Below.refl _ _).alloc (Nat.le_refl _) _
  have HB := Lib.hid hb
  have HU := Lib.hid hu
  clear hb hu hta
  go_wp2
  refine ⟨rfl, .returning, ?_, .tuple #[], by simp [results, Tryz.results14, go_sem], rfl, rfl, HB.out⟩
  have := HU.out
  cases c₀
  simp_all
theorem os_set (W : World) (a : Addr) (u : Value) : (W.setCell a u).os = W.os := rfl
theorem tape_set (W : World) (a : Addr) (u : Value) : (W.setCell a u).tape = W.tape := rfl
theorem out_set (W : World) (a : Addr) (u : Value) : (W.setCell a u).output = W.output := rfl
theorem Bx.one {W : World} {q : Nat} {t : TypeId} {z : Value} (h : Bx W q #[z] t) (c : Value) : Bx (W.setCell ⟨q, 0, none⟩ c) q #[c] t := heap_setCell_same W q 0 _ t c h
/-- What the stores leave. -/
def FaultW (p q r a c : Nat) (w w' : World) : Prop := Bx w' p zeroC 28 ∧ Bx w' q #[.int .i64 a] 3 ∧ Bx w' r #[.int .i64 c] 29 ∧ w.heap.size ≤ w'.heap.size ∧ w'.os = w.os ∧ w'.tape = w.tape ∧ w'.output = w.output ∧ ∀ j, j < w.heap.size → j ≠ p → j ≠ q → j ≠ r → w'.heap[j]? = w.heap[j]?
theorem FaultW.drew {p q r a c : Nat} {w w' : World} (h : FaultW p q r a c w w') : FaultW p q r a c w w'.drew := h
theorem fault_world {p q r a c : Nat} {w X V : World} {z0 z1 z2 z3 z4 z5 : Value} {y x : Int} (hp : Bx X p #[z0, z1, z2, z3, z4, z5] 28) (hq : Bx X q #[.int .i64 y] 3) (hr : Bx X r #[.int .i64 x] 29) (hpq : p ≠ q) (hpr : p ≠ r) (hqr : q ≠ r)
    (h1 : w.heap.size ≤ X.heap.size) (h2 : X.os = w.os) (h3 : X.tape = w.tape) (h4 : X.output = w.output) (h5 : ∀ j, j < w.heap.size → X.heap[j]? = w.heap[j]?)
    (hV : V = ((((((X.setCell ⟨p, 0, none⟩ (.int .i8 0)).setCell ⟨p, 1, none⟩ (.bool false)).setCell ⟨p, 2, none⟩ (.int .i64 0)).setCell ⟨p, 3, none⟩ (.string ⟨#[]⟩)).setCell ⟨p, 4, none⟩ (.slice none 0 0)).setCell ⟨p, 5, none⟩ (.slice none 0 0))) :
    FaultW p q r a c w ((V.setCell ⟨q, 0, none⟩ (.int .i64 a)).setCell ⟨r, 0, none⟩ (.int .i64 c)) := by
  have Z1 : Bx V p zeroC 28 := by rw [hV]; exact hp.six _ _ _ _ _ _
  have Z2 : Bx V q #[.int .i64 y] 3 := by rw [hV]; exact hq.kp (six_heap _ _ _ _ _ _ _ _ hpq.symm)
  have Z3 : Bx V r #[.int .i64 x] 29 := by rw [hV]; exact hr.kp (six_heap _ _ _ _ _ _ _ _ hpr.symm)
  have K1 : ∀ j, j < w.heap.size → j ≠ p → V.heap[j]? = w.heap[j]? := fun j e1 e2 => by rw [hV, six_heap _ _ _ _ _ _ _ _ e2]; exact h5 j e1
  have S1 : w.heap.size ≤ V.heap.size := by rw [hV, six_size]; exact h1
  have O1 : V.os = w.os := by rw [hV, os_set, os_set, os_set, os_set, os_set, os_set]; exact h2
  have O2 : V.tape = w.tape := by rw [hV, tape_set, tape_set, tape_set, tape_set, tape_set, tape_set]; exact h3
  have O3 : V.output = w.output := by rw [hV, out_set, out_set, out_set, out_set, out_set, out_set]; exact h4
  clear hV hp hq hr
  have Y1 : Bx (V.setCell ⟨q, 0, none⟩ (.int .i64 a)) p zeroC 28 := Z1.set hpq _
  have Y2 : Bx (V.setCell ⟨q, 0, none⟩ (.int .i64 a)) q #[.int .i64 a] 3 := Z2.one _
  have Y3 : Bx (V.setCell ⟨q, 0, none⟩ (.int .i64 a)) r #[.int .i64 x] 29 := Z3.set (Ne.symm hqr) _
  have X1 : Bx ((V.setCell ⟨q, 0, none⟩ (.int .i64 a)).setCell ⟨r, 0, none⟩ (.int .i64 c)) p zeroC 28 := Y1.set hpr _
  have X2 : Bx ((V.setCell ⟨q, 0, none⟩ (.int .i64 a)).setCell ⟨r, 0, none⟩ (.int .i64 c)) q #[.int .i64 a] 3 := Y2.set hqr _
  have X3 : Bx ((V.setCell ⟨q, 0, none⟩ (.int .i64 a)).setCell ⟨r, 0, none⟩ (.int .i64 c)) r #[.int .i64 c] 29 := Y3.one _
  refine ⟨X1, X2, X3, by simpa using S1, by rw [os_set, os_set]; exact O1, by rw [tape_set, tape_set]; exact O2, by rw [out_set, out_set]; exact O3, fun j e1 e2 e3 e4 => ?_⟩
  rw [Below.heap_setCell _ _ _ _ e4, Below.heap_setCell _ _ _ _ e3]
  exact K1 j e1 e2
theorem post_end {P : Program} {fn : Func} {c₀ : Frame} {cs : List Frame} {R : Ending → FrameMode → World → Prop} {a : Act} {w : World} {u : FrameMode} {v : Value} (hd : a.defers = []) (hr : (results fn a.tmps).run P w = .ok v w) (hR : R (.returned v) u w) : bodyPostS P fn c₀ cs R .normal a ({ c₀ with mode := u } :: cs) w := ⟨hd, u, rfl, v, hr, hR⟩
set_option maxRecDepth 100000 in
set_option maxHeartbeats 4000000 in
/-- A fault is taken up. -/
theorem catch_fault (p q r : Nat) (a c : Nat) (w : World) (z0 z1 z2 z3 z4 z5 : Value) (y x : Int) (hp : Bx w p #[z0, z1, z2, z3, z4, z5] 28) (hq : Bx w q #[.int .i64 y] 3) (hr : Bx w r #[.int .i64 x] 29) (hpq : p ≠ q) (hpr : p ≠ r) (hqr : q ≠ r) :
    CallsD Tryz.prog 14 #[.pointer (some ⟨p, 0, none⟩), .pointer (some ⟨q, 0, none⟩), .pointer (some ⟨r, 0, none⟩)] (.panicking [{ v := .iface 39 (.agg #[.int .i64 a, .int .i64 c]), recovered := false }]) w fun e u' w' =>
      e = .returned (.tuple #[]) ∧ u' = .panicking [{ v := .iface 39 (.agg #[.int .i64 a, .int .i64 c]), recovered := true }] ∧ FaultW p q r a c w w' := by
  have hta : (Instr.typeAssert (.iface 39 (.agg #[.int .i64 a, .int .i64 c])) 20 39 true).run Tryz.prog w = .ok (.tuple #[.agg #[.int .i64 a, .int .i64 c], .bool true]) w := by kernel_rfl
  refine callsD_of_wpS Tryz.func14 rfl fun c₀ cs hu => ?_
  simp only [Tryz.ntmps14, List.size_toArray, List.length_cons, List.length_nil, Nat.reduceAdd, Nat.reduceSub, Array.replicate_succ, Array.replicate_zero, List.push_toArray, List.append_toArray, List.nil_append, List.cons_append]
  apply wpS_seq
  apply wpS_region
  simp [wpOpsS, go_sem, recoverD, hu, hta, Exit.thenS]
  refine wpS_of_wp ?_
  have bp := hp.alloc (.cells #[.int .i64 a, .int .i64 c] 39)
  have bq := hq.alloc (.cells #[.int .i64 a, .int .i64 c] 39)
  have br := hr.alloc (.cells #[.int .i64 a, .int .i64 c] 39)
  have bf := Bx.new w #[.int .i64 a, .int .i64 c] 39
  have kx := (Kb.refl w.heap.size w).alloc (.cells #[.int .i64 a, .int .i64 c] 39)
  have hos : (w.alloc (.cells #[.int .i64 a, .int .i64 c] 39)).os = w.os ∧ (w.alloc (.cells #[.int .i64 a, .int .i64 c] 39)).tape = w.tape ∧ (w.alloc (.cells #[.int .i64 a, .int .i64 c] 39)).output = w.output := ⟨rfl, rfl, rfl⟩
  have hpl := hp.lt
  have hql := hq.lt
  have hrl := hr.lt
  have HU := Lib.hid hu
  clear hu hta
  go_wp2_with fail
  obtain ⟨X, hX⟩ : ∃ X, X = w.alloc (.cells #[.int .i64 a, .int .i64 c] 39) := ⟨_, rfl⟩
  rw [← hX] at bp bq br bf kx hos ⊢
  have a0 : X.cell? ⟨p, 0, none⟩ = some z0 := bp.cell 0
  have a1 : X.cell? ⟨p, 1, none⟩ = some z1 := bp.cell 1
  have a2 : X.cell? ⟨p, 2, none⟩ = some z2 := bp.cell 2
  have a3 : X.cell? ⟨p, 3, none⟩ = some z3 := bp.cell 3
  have a4 : X.cell? ⟨p, 4, none⟩ = some z4 := bp.cell 4
  have a5 : X.cell? ⟨p, 5, none⟩ = some z5 := bp.cell 5
  have e0 := bp.frozen 0
  have e1 := bp.frozen 1
  have e2 := bp.frozen 2
  have e3 := bp.frozen 3
  have e4 := bp.frozen 4
  have e5 := bp.frozen 5
  have b0 : X.cell? ⟨q, 0, none⟩ = some (.int .i64 y) := bq.cell 0
  have b1 := bq.frozen 0
  have c0' : X.cell? ⟨r, 0, none⟩ = some (.int .i64 x) := br.cell 0
  have c1' := br.frozen 0
  have f0 : X.cell? ⟨w.heap.size, 0, none⟩ = some (.int .i64 a) := bf.cell 0
  have f1 : X.cell? ⟨w.heap.size, 1, none⟩ = some (.int .i64 c) := bf.cell 1
  have n1 : ¬ p = w.heap.size := by omega
  have n2 : ¬ q = w.heap.size := by omega
  have n3 : ¬ r = w.heap.size := by omega
  have n4 : ¬ w.heap.size = p := by omega
  have n5 : ¬ w.heap.size = q := by omega
  have n6 : ¬ w.heap.size = r := by omega
  have m1 : ¬ p = q := hpq
  have m2 : ¬ p = r := hpr
  have m3 : ¬ q = r := hqr
  have m4 : ¬ q = p := fun e => hpq e.symm
  have m5 : ¬ r = p := fun e => hpr e.symm
  have m6 : ¬ r = q := fun e => hqr e.symm
  have BP := Lib.hid bp
  have BQ := Lib.hid bq
  have BR := Lib.hid br
  have KX := Lib.hid kx
  have HOS := Lib.hid hos
  clear hX bp bq br bf kx hos hp hq hr
  have FW := Lib.hid (fault_world (a := a) (c := c) (w := w) BP.out BQ.out BR.out hpq hpr hqr KX.out.1 HOS.out.1 HOS.out.2.1 HOS.out.2.2 (fun j h => KX.out.2 j h (by omega)) rfl)
  go_region_with (fail)
  all_goals
    go_wp2_with fail
    refine post_end (v := .tuple #[]) rfl (by simp [results, Tryz.results14, go_sem]) ⟨rfl, rfl, ?_⟩
    with_reducible exact FW.out.drew
end Go.Proofs.YtgbagdfcdljleaaGreatDoor

namespace Go.Proofs.YtgbagdfcdljleaaGreatDoor
open Go.RowKit Go.Maps

/-- What parse.Value, parse.Parse answer: a value, a place, an error. -/
def AnsR (w : World) (r : Except Er (V × Nat)) (e : Ending) (w' : World) : Prop :=
  match r with
  | .error r => e = .returned (.tuple #[zeroV, .int .i64 r.1, .int .i64 r.2]) ∧ Below w.heap.size w w'
  | .ok (v, k) => ∃ val S, e = .returned (.tuple #[val, .int .i64 k, .int .i64 0]) ∧ isVa w' S v val ∧ (∀ q, S q → w.heap.size ≤ q) ∧ Below w.heap.size w w'
/-- What the stores of what is answered leave. -/
def RetW (p q r : Nat) (cs : Array Value) (a c : Int) (X Y : World) : Prop := Bx Y p cs 28 ∧ Bx Y q #[.int .i64 a] 3 ∧ Bx Y r #[.int .i64 c] 29 ∧ X.heap.size ≤ Y.heap.size ∧ Y.os = X.os ∧ Y.tape = X.tape ∧ Y.output = X.output ∧ ∀ j, j ≠ p → j ≠ q → j ≠ r → Y.heap[j]? = X.heap[j]?
theorem RetW.drew {p q r : Nat} {cs : Array Value} {a c : Int} {w w' : World} (h : RetW p q r cs a c w w') : RetW p q r cs a c w w'.drew := h
theorem ret_world {p q r : Nat} {a c : Int} {X V : World} {z0 z1 z2 z3 z4 z5 c0 c1 c2 c3 c4 c5 : Value} {y x : Int} (hp : Bx X p #[z0, z1, z2, z3, z4, z5] 28) (hq : Bx X q #[.int .i64 y] 3) (hr : Bx X r #[.int .i64 x] 29) (hpq : p ≠ q) (hpr : p ≠ r) (hqr : q ≠ r)
    (hV : V = ((((((X.setCell ⟨p, 0, none⟩ c0).setCell ⟨p, 1, none⟩ c1).setCell ⟨p, 2, none⟩ c2).setCell ⟨p, 3, none⟩ c3).setCell ⟨p, 4, none⟩ c4).setCell ⟨p, 5, none⟩ c5)) :
    RetW p q r #[c0, c1, c2, c3, c4, c5] a c X ((V.setCell ⟨q, 0, none⟩ (.int .i64 a)).setCell ⟨r, 0, none⟩ (.int .i64 c)) := by
  have Z1 : Bx V p #[c0, c1, c2, c3, c4, c5] 28 := by rw [hV]; exact hp.six _ _ _ _ _ _
  have Z2 : Bx V q #[.int .i64 y] 3 := by rw [hV]; exact hq.kp (six_heap _ _ _ _ _ _ _ _ hpq.symm)
  have Z3 : Bx V r #[.int .i64 x] 29 := by rw [hV]; exact hr.kp (six_heap _ _ _ _ _ _ _ _ hpr.symm)
  have K1 : ∀ j, j ≠ p → V.heap[j]? = X.heap[j]? := fun j e2 => by rw [hV, six_heap _ _ _ _ _ _ _ _ e2]
  have S1 : X.heap.size ≤ V.heap.size := by rw [hV, six_size]; exact Nat.le_refl _
  have O1 : V.os = X.os := by rw [hV, os_set, os_set, os_set, os_set, os_set, os_set]
  have O2 : V.tape = X.tape := by rw [hV, tape_set, tape_set, tape_set, tape_set, tape_set, tape_set]
  have O3 : V.output = X.output := by rw [hV, out_set, out_set, out_set, out_set, out_set, out_set]
  clear hV hp hq hr
  have Y1 : Bx (V.setCell ⟨q, 0, none⟩ (.int .i64 a)) p #[c0, c1, c2, c3, c4, c5] 28 := Z1.set hpq _
  have Y2 : Bx (V.setCell ⟨q, 0, none⟩ (.int .i64 a)) q #[.int .i64 a] 3 := Z2.one _
  have Y3 : Bx (V.setCell ⟨q, 0, none⟩ (.int .i64 a)) r #[.int .i64 x] 29 := Z3.set (Ne.symm hqr) _
  have X1 : Bx ((V.setCell ⟨q, 0, none⟩ (.int .i64 a)).setCell ⟨r, 0, none⟩ (.int .i64 c)) p #[c0, c1, c2, c3, c4, c5] 28 := Y1.set hpr _
  have X2 : Bx ((V.setCell ⟨q, 0, none⟩ (.int .i64 a)).setCell ⟨r, 0, none⟩ (.int .i64 c)) q #[.int .i64 a] 3 := Y2.set hqr _
  have X3 : Bx ((V.setCell ⟨q, 0, none⟩ (.int .i64 a)).setCell ⟨r, 0, none⟩ (.int .i64 c)) r #[.int .i64 c] 29 := Y3.one _
  refine ⟨X1, X2, X3, by simpa using S1, by rw [os_set, os_set]; exact O1, by rw [tape_set, tape_set]; exact O2, by rw [out_set, out_set]; exact O3, fun j e2 e3 e4 => ?_⟩
  rw [Below.heap_setCell _ _ _ _ e4, Below.heap_setCell _ _ _ _ e3]
  exact K1 j e2
set_option maxRecDepth 100000 in
set_option maxHeartbeats 4000000 in
theorem Value_any (s : ByteArray) (k : Nat) (d : Int) (hk : k ≤ s.size) (hs : s.size ≤ 50000) (hd1 : -9223372036854775808 ≤ d) (hd2 : d ≤ 9223372036854775807) (w : World) (hE : Ru.Env w) :
    Calls Tryz.prog 6 #[.string s, .int .i64 k, .int .i64 d] w fun e w' => AnsR w (valM s.data.toList k d) e w' := by
  have hmf : ∀ (fn : Fn) (first cap : Array Value) (w : World), (Instr.makeFunc fn first cap).run Tryz.prog w = .ok (.func fn first cap) w := fun _ _ _ _ => rfl
  obtain ⟨R, hR⟩ : ∃ R, valM s.data.toList k d = R := ⟨_, rfl⟩
  have hrun : RunS s.data.toList d R (.rd k []) := ⟨_, hR ▸ valM_run s.data.toList k d (by rw [toList_length]; exact hk)⟩
  rw [hR]
  obtain ⟨A3, hA3⟩ : ∃ A, A = (((w.alloc (.cells #[.int .i8 0, .bool false, .int .i64 0, .string ⟨#[]⟩, .slice none 0 0, .slice none 0 0] 28)).alloc (.cells #[.int .i64 0] 3)).alloc (.cells #[.int .i64 0] 29)) := ⟨_, rfl⟩
  have hs3 : A3.heap.size = w.heap.size + 3 := by rw [hA3]; simp
  have hb3 : Below w.heap.size w A3 := by rw [hA3]; exact (((Below.refl _ w).alloc (Nat.le_refl _) _).alloc (by simp) _).alloc (by simp; omega) _
  have bp : Bx A3 w.heap.size zeroC 28 := by rw [hA3]; exact ((Bx.new w _ _).alloc _).alloc _
  have bq : Bx A3 (w.heap.size + 1) #[.int .i64 0] 3 := by
    rw [hA3]
    have := Bx.new (w.alloc (.cells #[.int .i8 0, .bool false, .int .i64 0, .string ⟨#[]⟩, .slice none 0 0, .slice none 0 0] 28)) #[.int .i64 0] 3
    simp only [World.size_alloc] at this
    exact this.alloc _
  have br : Bx A3 (w.heap.size + 2) #[.int .i64 0] 29 := by
    rw [hA3]
    have := Bx.new ((w.alloc (.cells #[.int .i8 0, .bool false, .int .i64 0, .string ⟨#[]⟩, .slice none 0 0, .slice none 0 0] 28)).alloc (.cells #[.int .i64 0] 3)) #[.int .i64 0] 29
    simp only [World.size_alloc] at this
    exact this
  have bw : Bx (A3.alloc (.cells #[.string s, .int .i64 k, .int .i64 d, .slice none 0 0] 43)) (w.heap.size + 3) #[.string s, .int .i64 k, .int .i64 d, .slice none 0 0] 43 := by
    have := Bx.new A3 #[.string s, .int .i64 k, .int .i64 d, .slice none 0 0] 43
    rw [hs3] at this
    exact this
  have hpw : PW A3 (w.heap.size + 3) s d k [] (.slice none 0 0) [] (fun _ => False) (A3.alloc (.cells #[.string s, .int .i64 k, .int .i64 d, .slice none 0 0] 43)) :=
    ⟨(Below.refl _ A3).alloc (Nat.le_refl _) _, by omega, bw.cell 0, bw.cell 1, bw.cell 2, bw.cell 3, fun j => bw.frozen j, World.ownsRow_nil _ _ _ _, rfl, fun q e => e.elim, fun e => by cases e⟩
  have hE3 : Ru.Env A3 := hE.below hb3 hE.1
  have HV := Lib.hid (value_any hpw hE3 hk hrun hd1 hd2 hs)
  have HBX := Lib.hid (And.intro bp (And.intro bq br))
  have H3 := Lib.hid (And.intro hs3 hb3)
  clear hpw hE3 hrun bp bq br bw hs3 hb3 hR hE
  go_enter_defers Tryz.func6, Tryz.ntmps6
  go_wp2_with fail
  rw [← hA3]
  refine (show Calls _ _ _ _ _ from ?_)
  refine HV.out.mono ?_
  intro e W5 h5
  clear hA3
  cases R with
  | error er =>
    obtain ⟨a, c⟩ := er
    obtain ⟨rfl, hb5⟩ := h5
    have hlt := H3.out.1
    have cp := HBX.out.1.kp (hb5.block _ HBX.out.1.lt)
    have cq := HBX.out.2.1.kp (hb5.block _ HBX.out.2.1.lt)
    have cr := HBX.out.2.2.kp (hb5.block _ HBX.out.2.2.lt)
    have HB5 := Lib.hid (H3.out.2.trans (hb5.mono (by have := H3.out.1; omega)))
    have HFC := Lib.hid (catch_fault w.heap.size (w.heap.size + 1) (w.heap.size + 1 + 1) a c W5 _ _ _ _ _ _ 0 0 cp cq cr (by omega) (by omega) (by omega))
    have HL5 := Lib.hid (show w.heap.size + 3 ≤ W5.heap.size from by have := hb5.size; omega)
    clear cp cq cr hb5
    unfold faulted
    refine leaves_cons (f := 14) (args := #[.pointer (some ⟨w.heap.size, 0, none⟩), .pointer (some ⟨w.heap.size + 1, 0, none⟩), .pointer (some ⟨w.heap.size + 1 + 1, 0, none⟩)]) (by simp) (by simp [go_sem]) ?_
    refine HFC.out.mono ?_
    rintro e u' w6 ⟨rfl, rfl, fw⟩
    obtain ⟨x1, x2, x3, x4, x5, x6, x7, x8⟩ := fw
    have y0 : w6.cell? ⟨w.heap.size, 0, none⟩ = some (.int .i8 0) := x1.cell 0
    have y1 : w6.cell? ⟨w.heap.size, 1, none⟩ = some (.bool false) := x1.cell 1
    have y2 : w6.cell? ⟨w.heap.size, 2, none⟩ = some (.int .i64 0) := x1.cell 2
    have y3 : w6.cell? ⟨w.heap.size, 3, none⟩ = some (.string ⟨#[]⟩) := x1.cell 3
    have y4 : w6.cell? ⟨w.heap.size, 4, none⟩ = some (.slice none 0 0) := x1.cell 4
    have y5 : w6.cell? ⟨w.heap.size, 5, none⟩ = some (.slice none 0 0) := x1.cell 5
    have y6 : w6.cell? ⟨w.heap.size + 1, 0, none⟩ = some (.int .i64 a) := x2.cell 0
    have y7 : w6.cell? ⟨w.heap.size + 1 + 1, 0, none⟩ = some (.int .i64 c) := x3.cell 0
    have hfin : AnsR w (.error (a, c)) (.returned (.tuple #[zeroV, .int .i64 a, .int .i64 c])) w6 := by
      refine ⟨rfl, HB5.out.trans ⟨x5, x6, x7, x4, fun j hj => x8 j ?_ ?_ ?_ ?_⟩⟩
      · have := HL5.out; omega
      · omega
      · omega
      · omega
    unfold zeroV at hfin
    simp [Leaves, settle, results, Tryz.results6, go_sem, y0, y1, y2, y3, y4, y5, y6, y7]
    exact hfin
  | ok pk =>
    obtain ⟨v, k'⟩ := pk
    obtain ⟨val, S, ov, ys, B, rfl, h7, hva, hS⟩ := h5
    obtain ⟨kd, bo, nu, te, o1, n1, m1, o2, n2, m2, rfl⟩ := isVa_form hva
    have hb5 := h7.kb
    have hlt := H3.out.1
    have cp := HBX.out.1.kp (hb5.block _ HBX.out.1.lt)
    have cq := HBX.out.2.1.kp (hb5.block _ HBX.out.2.1.lt)
    have cr := HBX.out.2.2.kp (hb5.block _ HBX.out.2.2.lt)
    have p0 : W5.cell? ⟨w.heap.size, 0, none⟩ = some (.int .i8 0) := cp.cell 0
    have pf0 := cp.frozen 0
    have p1 : W5.cell? ⟨w.heap.size, 1, none⟩ = some (.bool false) := cp.cell 1
    have pf1 := cp.frozen 1
    have p2 : W5.cell? ⟨w.heap.size, 2, none⟩ = some (.int .i64 0) := cp.cell 2
    have pf2 := cp.frozen 2
    have p3 : W5.cell? ⟨w.heap.size, 3, none⟩ = some (.string ⟨#[]⟩) := cp.cell 3
    have pf3 := cp.frozen 3
    have p4 : W5.cell? ⟨w.heap.size, 4, none⟩ = some (.slice none 0 0) := cp.cell 4
    have pf4 := cp.frozen 4
    have p5 : W5.cell? ⟨w.heap.size, 5, none⟩ = some (.slice none 0 0) := cp.cell 5
    have pf5 := cp.frozen 5
    have H7 := Lib.hid h7
    have HVA := Lib.hid hva
    have HS := Lib.hid hS
    have HC := Lib.hid (And.intro cp (And.intro cq cr))
    have HL5 := Lib.hid (show w.heap.size + 3 ≤ W5.heap.size from by have := hb5.size; omega)
    clear hb5 cp cq cr h7 hva hS
    go_wp2_with fail
    obtain ⟨X, hX⟩ : ∃ X, X = ((((((W5.setCell ⟨w.heap.size, 0, none⟩ (.int .i8 kd)).setCell ⟨w.heap.size, 1, none⟩ (.bool bo)).setCell ⟨w.heap.size, 2, none⟩ (.int .i64 nu)).setCell ⟨w.heap.size, 3, none⟩ (.string te)).setCell ⟨w.heap.size, 4, none⟩ (.slice o1 n1 m1)).setCell ⟨w.heap.size, 5, none⟩ (.slice o2 n2 m2)) := ⟨_, rfl⟩
    have bp : Bx X w.heap.size #[.int .i8 kd, .bool bo, .int .i64 nu, .string te, .slice o1 n1 m1, .slice o2 n2 m2] 28 := by rw [hX]; exact HC.out.1.six _ _ _ _ _ _
    have bq : Bx X (w.heap.size + 1) #[.int .i64 0] 3 := by rw [hX]; exact HC.out.2.1.kp (six_heap _ _ _ _ _ _ _ _ (by omega))
    have br : Bx X (w.heap.size + 1 + 1) #[.int .i64 0] 29 := by rw [hX]; exact HC.out.2.2.kp (six_heap _ _ _ _ _ _ _ _ (by omega))
    have c1 : X.cell? ⟨w.heap.size + 1 + 1 + 1, 1, none⟩ = some (.int .i64 k') := by rw [hX]; exact heap_cell (six_heap _ _ _ _ _ _ _ _ (by show w.heap.size + 1 + 1 + 1 ≠ _; omega)) H7.out.c1
    have hXk : ∀ j, j ≠ w.heap.size → X.heap[j]? = W5.heap[j]? := fun j hj => by rw [hX]; exact six_heap _ _ _ _ _ _ _ _ hj
    have hXs : X.heap.size = W5.heap.size := by rw [hX, six_size]
    have hXo : X.os = W5.os ∧ X.tape = W5.tape ∧ X.output = W5.output := by
      rw [hX]
      exact ⟨by rw [os_set, os_set, os_set, os_set, os_set, os_set], by rw [tape_set, tape_set, tape_set, tape_set, tape_set, tape_set], by rw [out_set, out_set, out_set, out_set, out_set, out_set]⟩
    rw [← hX]
    clear hX p0 p1 p2 p3 p4 p5 pf0 pf1 pf2 pf3 pf4 pf5
    have y0 : X.cell? ⟨w.heap.size, 0, none⟩ = some (.int .i8 kd) := bp.cell 0
    have yf0 := bp.frozen 0
    have y1 : X.cell? ⟨w.heap.size, 1, none⟩ = some (.bool bo) := bp.cell 1
    have yf1 := bp.frozen 1
    have y2 : X.cell? ⟨w.heap.size, 2, none⟩ = some (.int .i64 nu) := bp.cell 2
    have yf2 := bp.frozen 2
    have y3 : X.cell? ⟨w.heap.size, 3, none⟩ = some (.string te) := bp.cell 3
    have yf3 := bp.frozen 3
    have y4 : X.cell? ⟨w.heap.size, 4, none⟩ = some (.slice o1 n1 m1) := bp.cell 4
    have yf4 := bp.frozen 4
    have y5 : X.cell? ⟨w.heap.size, 5, none⟩ = some (.slice o2 n2 m2) := bp.cell 5
    have yf5 := bp.frozen 5
    have b0 : X.cell? ⟨w.heap.size + 1, 0, none⟩ = some (.int .i64 0) := bq.cell 0
    have b1 := bq.frozen 0
    have r0 : X.cell? ⟨w.heap.size + 1 + 1, 0, none⟩ = some (.int .i64 0) := br.cell 0
    have r1 := br.frozen 0
    have RW := Lib.hid (ret_world (a := (k' : Int)) (c := 0) bp bq br (by omega) (by omega) (by omega) rfl : RetW w.heap.size (w.heap.size + 1) (w.heap.size + 1 + 1) #[.int .i8 kd, .bool bo, .int .i64 nu, .string te, .slice o1 n1 m1, .slice o2 n2 m2] (k' : Int) 0 X _)
    have HX := Lib.hid (And.intro hXk (And.intro hXs hXo))
    clear bp bq br hXk hXs hXo
    first | go_region_with (fail) | fail
    all_goals
      go_wp2_with fail
      refine leaves_cons (f := 14) (args := #[.pointer (some ⟨w.heap.size, 0, none⟩), .pointer (some ⟨w.heap.size + 1, 0, none⟩), .pointer (some ⟨w.heap.size + 1 + 1, 0, none⟩)]) (by simp) (by simp [go_sem]) ?_
      refine (catch_idle _ _ _ _).mono ?_
      rintro e u' w6 ⟨rfl, rfl, hb6⟩
      obtain ⟨x1, x2, x3, x4, x5, x6, x7, x8⟩ := RW.out.drew
      have g1 := x1.below hb6
      have g2 := x2.below hb6
      have g3 := x3.below hb6
      have u0 : w6.cell? ⟨w.heap.size, 0, none⟩ = some (.int .i8 kd) := g1.cell 0
      have u1 : w6.cell? ⟨w.heap.size, 1, none⟩ = some (.bool bo) := g1.cell 1
      have u2 : w6.cell? ⟨w.heap.size, 2, none⟩ = some (.int .i64 nu) := g1.cell 2
      have u3 : w6.cell? ⟨w.heap.size, 3, none⟩ = some (.string te) := g1.cell 3
      have u4 : w6.cell? ⟨w.heap.size, 4, none⟩ = some (.slice o1 n1 m1) := g1.cell 4
      have u5 : w6.cell? ⟨w.heap.size, 5, none⟩ = some (.slice o2 n2 m2) := g1.cell 5
      have u6 : w6.cell? ⟨w.heap.size + 1, 0, none⟩ = some (.int .i64 k') := g2.cell 0
      have u7 : w6.cell? ⟨w.heap.size + 1 + 1, 0, none⟩ = some (.int .i64 0) := g3.cell 0
      have hfin : AnsR w (.ok (v, k')) (.returned (.tuple #[.agg #[.int .i8 kd, .bool bo, .int .i64 nu, .string te, .slice o1 n1 m1, .slice o2 n2 m2], .int .i64 k', .int .i64 0])) w6 := by
        have hxs := HX.out.2.1
        have hl5 := HL5.out
        refine ⟨_, S, rfl, isVa_kp HVA.out (S := S) fun q e => ?_, fun q e => by have := (HS.out q e).1; have := H3.out.1; omega, ?_⟩
        · have hq := (HS.out q e).1
          have h30 := H3.out.1
          have hq5 : q < W5.heap.size := (HS.out q e).2
          rw [hb6.block q (by omega), x8 q (by omega) (by omega) (by omega), HX.out.1 q (by omega)]
        · have hbl : Below w.heap.size w W5 := H3.out.2.trans (H7.out.kb.mono (by have := H3.out.1; omega))
          have hbx : Below w.heap.size W5 X := ⟨HX.out.2.2.1, HX.out.2.2.2.1, HX.out.2.2.2.2, by omega, fun j hj => HX.out.1 j (by omega)⟩
          exact (hbl.trans hbx).trans (Below.trans ⟨x5, x6, x7, x4, fun j hj => x8 j (by omega) (by omega) (by omega)⟩ (hb6.mono (by omega)))
      simp [Leaves, settle, results, Tryz.results6, go_sem, u0, u1, u2, u3, u4, u5, u6, u7]
      exact hfin
end Go.Proofs.YtgbagdfcdljleaaGreatDoor

namespace Go.Proofs.YtgbagdfcdljleaaGreatDoor
open Go.RowKit Go.Maps

theorem keyM_err {s : List UInt8} {k : Nat} {f : Fm} {r : Er} (h : keyM s k f = .error r) : r.2 ≠ 0 := by
  unfold keyM at h
  split at h
  · cases h
  split at h
  · cases h; exact (by decide : (40 : Nat) ≠ 0)
  split at h
  · rename_i h1; cases h; exact h1
  split at h
  · cases h; exact (by decide : (41 : Nat) ≠ 0)
  split at h
  · cases h; exact (by decide : (40 : Nat) ≠ 0)
  · cases h
theorem enterM_err {s : List UInt8} {k : Nat} {op : List Fm} {f : Fm} {r : Er} (h : enterM s k op f = .error r) : r.2 ≠ 0 := by
  unfold enterM at h
  split at h
  · cases h
  · split at h
    · rename_i r' h1; cases h; exact keyM_err h1
    · cases h
theorem putM_err {s : List UInt8} {k : Nat} {v : V} {op : List Fm} {f : Fm} {r : Er} (h : putM s v k f op = .error r) : r.2 ≠ 0 := by
  unfold putM at h
  split at h
  · cases h
  split at h
  · cases h; exact (by decide : (40 : Nat) ≠ 0)
  · split at h
    · rename_i r' h1; cases h; exact keyM_err h1
    · cases h
theorem begM_err {s : List UInt8} {d : Int} {k : Nat} {op : List Fm} {r : Er} (h : begM s d k op = .error r) : r.2 ≠ 0 := by
  have hw : ∀ {w v}, wordM s k op w v = .error r → r.2 ≠ 0 := fun {w v} h => by
    unfold wordM at h
    split at h
    · cases h
    · cases h; exact (by decide : (40 : Nat) ≠ 0)
  unfold begM at h
  split at h
  · cases h; exact (by decide : (40 : Nat) ≠ 0)
  rename_i hk
  split at h
  · cases h; exact (by decide : (30 : Nat) ≠ 0)
  split at h
  · exact hw h
  split at h
  · exact hw h
  split at h
  · exact hw h
  split at h
  · unfold numM at h
    split at h
    · cases h
    · rename_i h1
      obtain ⟨n, E, X, e, _⟩ := scan_sign (s := s) (k := k) (by omega)
      rw [e] at h1 h
      cases h
      show ((X : Nat) : Int).toNat ≠ 0
      simp only at h1
      omega
  split at h
  · unfold texM at h
    split at h
    · cases h
    · rename_i h1; cases h; exact h1
  split at h
  · exact enterM_err h
  split at h
  · exact enterM_err h
  · cases h; exact (by decide : (40 : Nat) ≠ 0)
theorem run_err {s : List UInt8} {d : Int} {r : Er} : ∀ (n : Nat) (st : St), runM s d n st = some (.error r) → r.2 ≠ 0
  | 0, st, h => by cases st <;> cases h
  | n + 1, .got v k [], h => by rw [runM] at h; cases h
  | n + 1, .got v k (f :: op), h => by
    rw [runM] at h
    cases e : putM s v k f op with
    | error q => rw [e] at h; cases h; exact putM_err e
    | ok st => rw [e] at h; exact run_err n st h
  | n + 1, .rd k op, h => by
    rw [runM] at h
    cases e : begM s d k op with
    | error q => rw [e] at h; cases h; exact begM_err e
    | ok st => rw [e] at h; exact run_err n st h
theorem valM_err {s : List UInt8} {k : Nat} {d : Int} {r : Er} (hk : k ≤ s.length) (h : valM s k d = .error r) : r.2 ≠ 0 := run_err _ _ (h ▸ valM_run s k d hk)
theorem valM_place {s : List UInt8} {k : Nat} {d : Int} {v : V} {e : Nat} (hk : k ≤ s.length) (h : valM s k d = .ok (v, e)) : k ≤ e ∧ e ≤ s.length := run_le _ (.rd k []) v e hk (h ▸ valM_run s k d hk)
theorem valI_M {s : List UInt8} {k : Nat} {d : Int} (hk : k ≤ s.length) : valI s k d = valM s k d := by
  unfold valI
  by_cases h : ((k : Nat) : Int) < 0 ∨ (s.length : Int) ≤ ((k : Nat) : Int)
  · rw [if_pos h]
    have h1 := valM_run s k d hk
    rw [runM] at h1
    have e : begM s d k [] = .error (s.length, 40) := by unfold begM; rw [if_pos (by omega)]
    rw [e] at h1
    exact Option.some.inj h1
  · rw [if_neg h]; rfl
theorem six_below {w0 W : World} {n q : Nat} (h : Below n w0 W) (hq : n ≤ q) (c0 c1 c2 c3 c4 c5 : Value) : Below n w0 ((((((W.setCell ⟨q, 0, none⟩ c0).setCell ⟨q, 1, none⟩ c1).setCell ⟨q, 2, none⟩ c2).setCell ⟨q, 3, none⟩ c3).setCell ⟨q, 4, none⟩ c4).setCell ⟨q, 5, none⟩ c5) :=
  (((((h.setCell (p := ⟨q, 0, none⟩) hq c0).setCell (p := ⟨q, 1, none⟩) hq c1).setCell (p := ⟨q, 2, none⟩) hq c2).setCell (p := ⟨q, 3, none⟩) hq c3).setCell (p := ⟨q, 4, none⟩) hq c4).setCell (p := ⟨q, 5, none⟩) hq c5
/-- What parse.Parse answers. -/
def ParR (w : World) (r : Except Er V) (e : Ending) (w' : World) : Prop :=
  match r with
  | .error r => e = .returned (.tuple #[zeroV, .int .i64 r.1, .int .i64 r.2]) ∧ Below w.heap.size w w'
  | .ok v => ∃ val, e = .returned (.tuple #[val, .int .i64 0, .int .i64 0]) ∧ isV w' v val ∧ Below w.heap.size w w'
set_option maxRecDepth 100000 in
set_option maxHeartbeats 1000000 in
theorem Parse_any (s : ByteArray) (hs : s.size ≤ 50000) (w : World) (hE : Ru.Env w) :
    Calls Tryz.prog 13 #[.string s] w fun e w' => ParR w (parM s.data.toList) e w' := by
  obtain ⟨r, hr⟩ : ∃ r, parM s.data.toList = r := ⟨_, rfl⟩
  rw [hr]
  unfold parM at hr
  rw [toList_length] at hr
  by_cases hl : 4096 < s.size
  · rw [if_pos hl] at hr
    subst hr
    have g1 : decide ((4096 : Int) < (s.size : Int)) = true := decide_eq_true (by omega)
    have g2 : decide (4096 < s.size) = true := decide_eq_true hl
    clear hs hE
    go_enter Tryz.func13, Tryz.ntmps13
    go_wp2_with fail
    refine bodyPost_ret (v := .tuple #[zeroV, .int .i64 0, .int .i64 3]) (by simp [results, Tryz.results13, go_sem, zeroV]) rfl ?_
    exact ⟨rfl, by go_grown⟩
  rw [if_neg hl] at hr
  obtain ⟨K, hK⟩ : ∃ K, bl s.data.toList 0 = K := ⟨_, rfl⟩
  have hKs : K ≤ s.size := by have := bl_le s.data.toList 0 (Nat.zero_le _); rwa [hK, toList_length] at this
  rw [hK, valI_M (by rw [toList_length]; exact hKs)] at hr
  have hB : ∀ w, Calls Tryz.prog 11 #[.string s, .int .i64 0] w fun e w' => e = .returned (.int .i64 (K : Nat)) ∧ w' = w := fun w => by
    have := Blanks_any s 0 (by omega) w
    rw [show wiN s.size 0 = 0 by unfold wiN; omega, hK] at this
    exact this
  have g1 : decide ((4096 : Int) < (s.size : Int)) = false := decide_eq_false (by omega)
  have g2 : decide (4096 < s.size) = false := decide_eq_false hl
  have hE1 : Ru.Env (w.alloc (.cells zeroC 28)) := hE.below ((Below.refl _ w).alloc (Nat.le_refl _) _) hE.1
  have HV := Lib.hid (Value_any s K 1 hKs hs (by decide) (by decide) _ hE1)
  have HB := Lib.hid hB
  have HR := Lib.hid hr
  have HKS := Lib.hid hKs
  have hbx := Bx.new w zeroC 28
  have HBX := Lib.hid hbx
  unfold zeroC at HV
  have HS := Lib.hid hs
  have HL := Lib.hid hl
  clear hr hB hE hE1 hK hKs hbx hs hl
  go_enter Tryz.func13, Tryz.ntmps13
  go_wp2_with fail
  refine (HB.out _).mono ?_
  rintro e w1 ⟨rfl, rfl⟩
  go_wp2_with fail
  refine HV.out.mono ?_
  intro e w2 h2
  obtain ⟨R, hR⟩ : ∃ R, valM s.data.toList K 1 = R := ⟨_, rfl⟩
  rw [hR] at h2
  have hr := HR.out
  rw [hR] at hr
  cases R with
  | error er =>
    obtain ⟨a, c⟩ := er
    simp only at hr
    subst hr
    obtain ⟨rfl, hb2⟩ := h2
    have hne : c ≠ 0 := valM_err (by rw [toList_length]; exact HKS.out) hR
    have t1 : ((c : Int) == 0) = false := by rw [beq_eq_false_iff_ne]; omega
    have t2 : ((c : Int) != 0) = true := by rw [bne_iff_ne]; omega
    have bx := HBX.out.below hb2
    unfold zeroC at bx
    have q0 : w2.cell? ⟨w.heap.size, 0, none⟩ = some (.int .i8 0) := bx.cell 0
    have q1 : w2.cell? ⟨w.heap.size, 1, none⟩ = some (.bool false) := bx.cell 1
    have q2 : w2.cell? ⟨w.heap.size, 2, none⟩ = some (.int .i64 0) := bx.cell 2
    have q3 : w2.cell? ⟨w.heap.size, 3, none⟩ = some (.string ⟨#[]⟩) := bx.cell 3
    have q4 : w2.cell? ⟨w.heap.size, 4, none⟩ = some (.slice none 0 0) := bx.cell 4
    have q5 : w2.cell? ⟨w.heap.size, 5, none⟩ = some (.slice none 0 0) := bx.cell 5
    have z0 := bx.frozen 0
    have z1 := bx.frozen 1
    have z2 := bx.frozen 2
    have z3 := bx.frozen 3
    have z4 := bx.frozen 4
    have z5 := bx.frozen 5
    have hbw : Below w.heap.size w w2 := ((Below.refl _ w).alloc (Nat.le_refl _) _).trans (hb2.mono (by simp))
    have HBW := Lib.hid hbw
    have HB2 := Lib.hid hb2
    clear HR hR hne bx hb2 hbw
    have HBB := Lib.hid (HBX.out.below HB2.out)
    unfold zeroV
    go_upto_region 4 with fail
    obtain ⟨X, hX⟩ : ∃ X, X = ((((((w2.setCell ⟨w.heap.size, 0, none⟩ (.int .i8 0)).setCell ⟨w.heap.size, 1, none⟩ (.bool false)).setCell ⟨w.heap.size, 2, none⟩ (.int .i64 0)).setCell ⟨w.heap.size, 3, none⟩ (.string ⟨#[]⟩)).setCell ⟨w.heap.size, 4, none⟩ (.slice none 0 0)).setCell ⟨w.heap.size, 5, none⟩ (.slice none 0 0)) := ⟨_, rfl⟩
    have bx : Bx X w.heap.size #[.int .i8 0, .bool false, .int .i64 0, .string ⟨#[]⟩, .slice none 0 0, .slice none 0 0] 28 := by rw [hX]; exact Bx.six HBB.out _ _ _ _ _ _
    have kX : Below w.heap.size w X := by rw [hX]; exact six_below HBW.out (Nat.le_refl _) _ _ _ _ _ _
    rw [← hX]
    have KX := Lib.hid kX
    clear hX kX q0 q1 q2 q3 q4 q5 z0 z1 z2 z3 z4 z5
    have q0 : X.cell? ⟨w.heap.size, 0, none⟩ = some (.int .i8 0) := bx.cell 0
    have qf0 := bx.frozen 0
    have q1 : X.cell? ⟨w.heap.size, 1, none⟩ = some (.bool false) := bx.cell 1
    have qf1 := bx.frozen 1
    have q2 : X.cell? ⟨w.heap.size, 2, none⟩ = some (.int .i64 0) := bx.cell 2
    have qf2 := bx.frozen 2
    have q3 : X.cell? ⟨w.heap.size, 3, none⟩ = some (.string ⟨#[]⟩) := bx.cell 3
    have qf3 := bx.frozen 3
    have q4 : X.cell? ⟨w.heap.size, 4, none⟩ = some (.slice none 0 0) := bx.cell 4
    have qf4 := bx.frozen 4
    have q5 : X.cell? ⟨w.heap.size, 5, none⟩ = some (.slice none 0 0) := bx.cell 5
    have qf5 := bx.frozen 5
    clear bx
    go_wp2_with fail
    refine bodyPost_ret (v := .tuple #[zeroV, .int .i64 a, .int .i64 c]) (by simp [results, Tryz.results13, go_sem, zeroV, q0, q1, q2, q3, q4, q5]) rfl ?_
    exact ⟨rfl, six_below KX.out (Nat.le_refl _) _ _ _ _ _ _⟩
  | ok pk =>
    obtain ⟨v, E⟩ := pk
    obtain ⟨val, S, rfl, hv, hS, hb2⟩ := h2
    have HSS := Lib.hid hS
    clear hS
    have hE2 := (valM_place (by rw [toList_length]; exact HKS.out) hR).2
    rw [toList_length] at hE2
    simp only at hr
    obtain ⟨kd, bo, nu, te, o1, n1, m1, o2, n2, m2, rfl⟩ := isVa_form hv
    have bx := HBX.out.below hb2
    have HBB := Lib.hid bx
    unfold zeroC at bx
    have q0 : w2.cell? ⟨w.heap.size, 0, none⟩ = some (.int .i8 0) := bx.cell 0
    have qf0 := bx.frozen 0
    have q1 : w2.cell? ⟨w.heap.size, 1, none⟩ = some (.bool false) := bx.cell 1
    have qf1 := bx.frozen 1
    have q2 : w2.cell? ⟨w.heap.size, 2, none⟩ = some (.int .i64 0) := bx.cell 2
    have qf2 := bx.frozen 2
    have q3 : w2.cell? ⟨w.heap.size, 3, none⟩ = some (.string ⟨#[]⟩) := bx.cell 3
    have qf3 := bx.frozen 3
    have q4 : w2.cell? ⟨w.heap.size, 4, none⟩ = some (.slice none 0 0) := bx.cell 4
    have qf4 := bx.frozen 4
    have q5 : w2.cell? ⟨w.heap.size, 5, none⟩ = some (.slice none 0 0) := bx.cell 5
    have qf5 := bx.frozen 5
    have hbw : Below w.heap.size w w2 := ((Below.refl _ w).alloc (Nat.le_refl _) _).trans (hb2.mono (by simp))
    have HBW := Lib.hid hbw
    have HVV := Lib.hid hv
    have HRR := Lib.hid hr
    have HE2 := Lib.hid hE2
    have HB2 := Lib.hid hb2
    clear HR hR bx hb2 hbw hv hr hE2
    go_upto_region 4 with fail
    obtain ⟨X, hX⟩ : ∃ X, X = ((((((w2.setCell ⟨w.heap.size, 0, none⟩ (.int .i8 kd)).setCell ⟨w.heap.size, 1, none⟩ (.bool bo)).setCell ⟨w.heap.size, 2, none⟩ (.int .i64 nu)).setCell ⟨w.heap.size, 3, none⟩ (.string te)).setCell ⟨w.heap.size, 4, none⟩ (.slice o1 n1 m1)).setCell ⟨w.heap.size, 5, none⟩ (.slice o2 n2 m2)) := ⟨_, rfl⟩
    have bx : Bx X w.heap.size #[.int .i8 kd, .bool bo, .int .i64 nu, .string te, .slice o1 n1 m1, .slice o2 n2 m2] 28 := by rw [hX]; exact Bx.six HBB.out _ _ _ _ _ _
    have kX : Below w.heap.size w X := by rw [hX]; exact six_below HBW.out (Nat.le_refl _) _ _ _ _ _ _
    have hvX : isVa X S v (.agg #[.int .i8 kd, .bool bo, .int .i64 nu, .string te, .slice o1 n1 m1, .slice o2 n2 m2]) := by
      rw [hX]
      exact isVa_kp HVV.out fun q e => six_heap _ _ _ _ _ _ _ _ (by have := HSS.out q e; simp at this; omega)
    rw [← hX]
    have KX := Lib.hid kX
    have HVX := Lib.hid hvX
    clear hX kX hvX q0 q1 q2 q3 q4 q5 qf0 qf1 qf2 qf3 qf4 qf5
    have q0 : X.cell? ⟨w.heap.size, 0, none⟩ = some (.int .i8 kd) := bx.cell 0
    have qf0 := bx.frozen 0
    have q1 : X.cell? ⟨w.heap.size, 1, none⟩ = some (.bool bo) := bx.cell 1
    have qf1 := bx.frozen 1
    have q2 : X.cell? ⟨w.heap.size, 2, none⟩ = some (.int .i64 nu) := bx.cell 2
    have qf2 := bx.frozen 2
    have q3 : X.cell? ⟨w.heap.size, 3, none⟩ = some (.string te) := bx.cell 3
    have qf3 := bx.frozen 3
    have q4 : X.cell? ⟨w.heap.size, 4, none⟩ = some (.slice o1 n1 m1) := bx.cell 4
    have qf4 := bx.frozen 4
    have q5 : X.cell? ⟨w.heap.size, 5, none⟩ = some (.slice o2 n2 m2) := bx.cell 5
    have qf5 := bx.frozen 5
    clear bx
    go_wp2_with fail
    have hBl := Blanks_any s (E : Nat) (by have := HS.out; omega) X
    rw [wiN_in HE2.out] at hBl
    refine hBl.mono ?_
    rintro e w3 ⟨rfl, rfl⟩
    have hr := HRR.out
    obtain ⟨K2, hK2⟩ : ∃ K2, bl s.data.toList E = K2 := ⟨_, rfl⟩
    rw [hK2] at hr ⊢
    by_cases hlt : K2 < s.size
    · rw [if_pos hlt] at hr
      subst hr
      have g3 : decide ((K2 : Int) < (s.size : Int)) = true := decide_eq_true (by omega)
      have g4 : decide (K2 < s.size) = true := decide_eq_true hlt
      clear hBl hK2 hlt HRR
      go_wp2_with fail
      refine bodyPost_ret (v := .tuple #[zeroV, .int .i64 K2, .int .i64 40]) (by simp [results, Tryz.results13, go_sem, zeroV, q0, q1, q2, q3, q4, q5]) rfl ?_
      exact ⟨rfl, six_below KX.out (Nat.le_refl _) _ _ _ _ _ _⟩
    · rw [if_neg hlt] at hr
      subst hr
      have g3 : decide ((K2 : Int) < (s.size : Int)) = false := decide_eq_false (by omega)
      have g4 : decide (K2 < s.size) = false := decide_eq_false hlt
      clear hBl hK2 hlt HRR
      go_wp2_with fail
      refine bodyPost_ret (v := .tuple #[.agg #[.int .i8 kd, .bool bo, .int .i64 nu, .string te, .slice o1 n1 m1, .slice o2 n2 m2], .int .i64 0, .int .i64 0]) (by simp [results, Tryz.results13, go_sem, q0, q1, q2, q3, q4, q5]) rfl ?_
      exact ⟨_, rfl, isV_of_a _ _ (isVa_kp HVX.out fun q e => six_heap _ _ _ _ _ _ _ _ (by have := HSS.out q e; simp at this; omega)), six_below KX.out (Nat.le_refl _) _ _ _ _ _ _⟩
end Go.Proofs.YtgbagdfcdljleaaGreatDoor
