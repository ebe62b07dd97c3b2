/-
  Parse's walk: a whole value.
-/
import Derived.Test.YtgbagdfcdljleaaGreatDoorHy
import Derived.Deep.LoopGhost
set_option linter.unusedVariables false
set_option linter.unusedSimpArgs false
namespace Go.Proofs.YtgbagdfcdljleaaGreatDoor
open Go.RowKit Go.Maps

/-- How a run goes on from a state. -/
def RunS (s : List UInt8) (d : Int) (R : Except Er (V × Nat)) (st : St) : Prop := ∃ n, runM s d n st = some R
theorem RunS.rd {s : List UInt8} {d : Int} {R : Except Er (V × Nat)} {k : Nat} {op : List Fm} (h : RunS s d R (.rd k op)) :
    (∃ r, begM s d k op = .error r ∧ R = .error r) ∨ ∃ st, begM s d k op = .ok st ∧ RunS s d R st := by
  obtain ⟨n, h⟩ := h
  cases n with
  | zero => cases h
  | succ n =>
    rw [runM] at h
    cases e : begM s d k op with
    | error r => rw [e] at h; cases h; exact .inl ⟨r, rfl, rfl⟩
    | ok st => rw [e] at h; exact .inr ⟨st, rfl, n, h⟩
theorem RunS.got {s : List UInt8} {d : Int} {R : Except Er (V × Nat)} {k : Nat} {v : V} {f : Fm} {op : List Fm} (h : RunS s d R (.got v k (f :: op))) :
    (∃ r, putM s v k f op = .error r ∧ R = .error r) ∨ ∃ st, putM s v k f op = .ok st ∧ RunS s d R st := by
  obtain ⟨n, h⟩ := h
  cases n with
  | zero => cases h
  | succ n =>
    rw [runM] at h
    cases e : putM s v k f op with
    | error r => rw [e] at h; cases h; exact .inl ⟨r, rfl, rfl⟩
    | ok st => rw [e] at h; exact .inr ⟨st, rfl, n, h⟩
theorem RunS.fin {s : List UInt8} {d : Int} {R : Except Er (V × Nat)} {k : Nat} {v : V} (h : RunS s d R (.got v k [])) : R = .ok (v, k) := by
  obtain ⟨n, h⟩ := h
  cases n with
  | zero => cases h
  | succ n => rw [runM] at h; cases h; rfl
/-- How deep the states of a run may be. -/
def okD (d : Int) (op : List Fm) : Prop := op ≠ [] → d + (op.length : Int) ≤ 25
theorem begM_okD {s : List UInt8} {d : Int} {k : Nat} {op : List Fm} {st : St} (h : begM s d k op = .ok st) : okD d st.op := by
  have hd : d + (op.length : Int) ≤ 24 := by
    unfold begM at h
    split at h
    · cases h
    split at h
    · cases h
    · omega
  rcases begM_op h with ⟨u, k', rfl⟩ | ⟨k', f, rfl⟩
  · intro _
    show d + (op.length : Int) ≤ 25
    omega
  · intro _
    show d + ((f :: op).length : Int) ≤ 25
    simp only [List.length_cons]
    omega
theorem putM_op {s : List UInt8} {v : V} {k : Nat} {f : Fm} {op : List Fm} {st : St} (h : putM s v k f op = .ok st) : (∃ u k', st = .got u k' op) ∨ ∃ k' f', st = .rd k' (f' :: op) := by
  unfold putM at h
  split at h
  · cases h; exact .inl ⟨_, _, rfl⟩
  split at h
  · cases h
  · split at h
    · cases h
    · cases h; exact .inr ⟨_, _, rfl⟩
theorem putM_okD {s : List UInt8} {d : Int} {v : V} {k : Nat} {f : Fm} {op : List Fm} {st : St} (h : putM s v k f op = .ok st) (hd : okD d (f :: op)) : okD d st.op := by
  have h1 := hd (by simp)
  simp only [List.length_cons] at h1
  rcases putM_op h with ⟨u, k', rfl⟩ | ⟨k', f', rfl⟩
  · intro _
    show d + (op.length : Int) ≤ 25
    omega
  · intro _
    show d + ((f' :: op).length : Int) ≤ 25
    simp only [List.length_cons]
    omega
def zeroC : Array Value := #[.int .i8 0, .bool false, .int .i64 0, .string ⟨#[]⟩, .slice none 0 0, .slice none 0 0]
section
variable {W0 W W' : World} {b : Nat} {s : ByteArray} {d : Int} {k : Nat} {op : List Fm} {ov : Value} {ys : List Value} {B : Nat → Prop}
/-- A state of the run, in memory: the result's box N, the value's box M. -/
def InI (W0 : World) (b : Nat) (s : ByteArray) (d : Int) (R : Except Er (V × Nat)) (N M : Nat) (st : St) (w4 : Value) (wr : World) : Prop :=
  ∃ ov ys B c0 c1 c2 c3 c4 c5, st.pl ≤ s.size ∧ okOp st.pl st.op ∧ okD d st.op ∧ PW W0 b s d st.pl st.op ov ys B wr ∧ RunS s.data.toList d R st ∧ Off W0 b ov B N ∧ Off W0 b ov B M ∧ N ≠ M ∧ Bx wr N zeroC 28 ∧ Bx wr M #[c0, c1, c2, c3, c4, c5] 28 ∧
    match st with
    | .rd _ _ => w4 = .bool false
    | .got v _ _ => w4 = .bool true ∧ ∃ S, isVa wr S v (.agg #[c0, c1, c2, c3, c4, c5]) ∧ ∀ q, S q → Off W0 b ov B q ∧ q < wr.heap.size ∧ q ≠ N ∧ q ≠ M
def OuI (W0 : World) (b : Nat) (s : ByteArray) (d : Int) (R : Except Er (V × Nat)) (N : Nat) (k : Nat) (op : List Fm) (wr : World) : Prop :=
  ∃ ov ys B, k ≤ s.size ∧ okOp k op ∧ okD d op ∧ PW W0 b s d k op ov ys B wr ∧ RunS s.data.toList d R (.rd k op) ∧ Off W0 b ov B N ∧ Bx wr N zeroC 28
/-- What a step has handed back, put into a new box. -/
theorem StepR.ini {R : Except Er (V × Nat)} {ov0 : Value} {B0 : Nat → Prop} {Wb W2 : World} {e : Ending} {st : St} {N : Nat} (h2 : StepR W0 b s d ov0 B0 Wb (.ok st) e W2) (hN : Off W0 b ov0 B0 N) (bxN : Bx Wb N zeroC 28)
    (hpl : st.pl ≤ s.size) (hok : okOp st.pl st.op) (hdd : okD d st.op) (hrun : RunS s.data.toList d R st) :
    ∃ kd bo nu te o1 n1 m1 o2 n2 m2 wb, e = .returned (.tuple #[.agg #[.int .i8 kd, .bool bo, .int .i64 nu, .string te, .slice o1 n1 m1, .slice o2 n2 m2], .bool wb]) ∧ InI W0 b s d R N W2.heap.size st (.bool wb) (W2.alloc (.cells #[.int .i8 kd, .bool bo, .int .i64 nu, .string te, .slice o1 n1 m1, .slice o2 n2 m2] 28)) := by
  cases st with
  | got v k' op' =>
    obtain ⟨val, S, ov5, ys5, B5, rfl, h7, hva, hS, hF⟩ := h2
    obtain ⟨kd, bo, nu, te, o1, n1, m1, o2, n2, m2, rfl⟩ := isVa_form hva
    have hb2 := hF.2 N bxN.lt hN
    have hbx := bxN.kp hb2.1
    refine ⟨kd, bo, nu, te, o1, n1, m1, o2, n2, m2, true, rfl, _, _, _, _, _, _, _, _, _, hpl, hok, hdd, h7.alloc _, hrun, hb2.2, h7.off _ (Nat.le_refl _), Nat.ne_of_lt hbx.lt, hbx.alloc _, Bx.new _ _ _, rfl, S, isVa_kp hva (fun q e => Below.heap_alloc _ _ _ (hS q e).2.1), fun q e => ⟨(hS q e).1, by have := (hS q e).2.1; simp; omega, fun e' => ?_, Nat.ne_of_lt (hS q e).2.1⟩⟩
    subst e'
    rcases (hS _ e).2.2 with e1 | e1
    · exact hN.2.2.1 e1
    · have := bxN.lt; omega
  | rd k' op' =>
    obtain ⟨ov5, ys5, B5, rfl, h7, hF⟩ := h2
    have hb2 := hF.2 N bxN.lt hN
    have hbx := bxN.kp hb2.1
    exact ⟨0, false, 0, ⟨#[]⟩, none, 0, 0, none, 0, 0, false, rfl, _, _, _, _, _, _, _, _, _, hpl, hok, hdd, h7.alloc _, hrun, hb2.2, h7.off _ (Nat.le_refl _), Nat.ne_of_lt hbx.lt, hbx.alloc _, Bx.new _ _ _, rfl⟩
/-- What a step has handed back, put into the box that there is. -/
theorem StepR.inp {R : Except Er (V × Nat)} {ov0 : Value} {A : Nat → Prop} {Wb W2 : World} {e : Ending} {st : St} {N M : Nat} {z0 z1 z2 z3 z4 z5 : Value} (h2 : StepR W0 b s d ov0 A Wb (.ok st) e W2) (hN : Off W0 b ov0 A N) (hM : Off W0 b ov0 A M) (hNM : N ≠ M) (bxN : Bx Wb N zeroC 28) (bxM : Bx Wb M #[z0, z1, z2, z3, z4, z5] 28)
    (hpl : st.pl ≤ s.size) (hok : okOp st.pl st.op) (hdd : okD d st.op) (hrun : RunS s.data.toList d R st) :
    Bx W2 M #[z0, z1, z2, z3, z4, z5] 28 ∧ ∃ kd bo nu te o1 n1 m1 o2 n2 m2 wb, e = .returned (.tuple #[.agg #[.int .i8 kd, .bool bo, .int .i64 nu, .string te, .slice o1 n1 m1, .slice o2 n2 m2], .bool wb]) ∧ InI W0 b s d R N M st (.bool wb) (((((((W2.setCell ⟨M, 0, none⟩ (.int .i8 kd)).setCell ⟨M, 1, none⟩ (.bool bo)).setCell ⟨M, 2, none⟩ (.int .i64 nu)).setCell ⟨M, 3, none⟩ (.string te)).setCell ⟨M, 4, none⟩ (.slice o1 n1 m1)).setCell ⟨M, 5, none⟩ (.slice o2 n2 m2))) := by
  cases st with
  | got v k' op' =>
    obtain ⟨val, S, ov5, ys5, B5, rfl, h7, hva, hS, hF⟩ := h2
    obtain ⟨kd, bo, nu, te, o1, n1, m1, o2, n2, m2, rfl⟩ := isVa_form hva
    have hb2 := hF.2 N bxN.lt hN
    have hm2 := hF.2 M bxM.lt hM
    have hbx := bxN.kp hb2.1
    have hbm := bxM.kp hm2.1
    have hne : ∀ q, S q → q ≠ N ∧ q ≠ M := fun q e => by
      rcases (hS q e).2.2 with e1 | e1
      · exact ⟨fun e' => hN.2.2.1 (e' ▸ e1), fun e' => hM.2.2.1 (e' ▸ e1)⟩
      · have := bxN.lt
        have := bxM.lt
        exact ⟨by omega, by omega⟩
    refine ⟨hbm, kd, bo, nu, te, o1, n1, m1, o2, n2, m2, true, rfl, _, _, _, _, _, _, _, _, _, hpl, hok, hdd, h7.six hm2.2 _ _ _ _ _ _, hrun, hb2.2, hm2.2, hNM, hbx.kp (six_heap _ _ _ _ _ _ _ _ hNM), hbm.six _ _ _ _ _ _, rfl, S, isVa_kp hva (fun q e => six_heap _ _ _ _ _ _ _ _ (hne q e).2), fun q e => ⟨(hS q e).1, by rw [six_size]; exact (hS q e).2.1, hne q e⟩⟩
  | rd k' op' =>
    obtain ⟨ov5, ys5, B5, rfl, h7, hF⟩ := h2
    have hb2 := hF.2 N bxN.lt hN
    have hm2 := hF.2 M bxM.lt hM
    have hbx := bxN.kp hb2.1
    have hbm := bxM.kp hm2.1
    exact ⟨hbm, 0, false, 0, ⟨#[]⟩, none, 0, 0, none, 0, 0, false, rfl, _, _, _, _, _, _, _, _, _, hpl, hok, hdd, h7.six hm2.2 _ _ _ _ _ _, hrun, hb2.2, hm2.2, hNM, hbx.kp (six_heap _ _ _ _ _ _ _ _ hNM), hbm.six _ _ _ _ _ _, rfl⟩
/-- What value leaves. -/
def ValR (W0 : World) (b : Nat) (s : ByteArray) (d : Int) (R : Except Er (V × Nat)) (e : Ending) (W' : World) : Prop :=
  match R with
  | .error r => e = faulted r.1 r.2 ∧ Below W0.heap.size W0 W'
  | .ok (v, k) => ∃ val S ov ys B, e = .returned val ∧ PW W0 b s d k [] ov ys B W' ∧ isVa W' S v val ∧ ∀ q, S q → W0.heap.size ≤ q ∧ q < W'.heap.size
set_option maxRecDepth 100000 in
set_option maxHeartbeats 4000000 in
theorem value_any {R : Except Er (V × Nat)} (h : PW W0 b s d k [] ov ys B W) (hE : Ru.Env W0) (hk : k ≤ s.size) (hR : RunS s.data.toList d R (.rd k [])) (hd1 : -9223372036854775808 ≤ d) (hd2 : d ≤ 9223372036854775807) (hs : s.size ≤ 50000) :
    Calls Tryz.prog 15 #[.pointer (some ⟨b, 0, none⟩)] W fun e W' => ValR W0 b s d R e W' := by
  have h1 := h.alloc (.cells zeroC 28)
  have HO := Lib.hid (show OuI W0 b s d R W.heap.size k [] (W.alloc (.cells zeroC 28)) from ⟨_, _, _, hk, ⟨Nat.zero_le _, fun f hf => by cases hf⟩, fun e => absurd rfl e, h1, hR, h.off _ (Nat.le_refl _), Bx.new W _ _⟩)
  obtain ⟨N, hN⟩ : ∃ N, N = W.heap.size := ⟨_, rfl⟩
  unfold zeroC at HO
  rw [← hN] at HO
  clear h h1 hR
  go_enter Tryz.func15, Tryz.ntmps15
  go_wp2_with fail
  go_loopg [4] (s.size + 1) (fun gk w4 wr => ∃ k op, Hid (OuI W0 b s d R W.heap.size k op wr) ∧ s.size + 1 - k ≤ gk)
  case atStart => exact ⟨k, [], hN ▸ HO, by omega⟩
  case round =>
    obtain ⟨k1, op1, HI, hgk⟩ := hrel
    obtain ⟨ov1, ys1, B1, i1, i2, i3, i4, i5, i6, i7⟩ := HI.out
    have hop : op1.length < 100000 := by have := i2.1; omega
    have hd3 : d + (op1.length : Int) ≤ 9223372036854775807 := by
      by_cases e : op1 = []
      · subst e; simpa using hd2
      · have := i3 e; omega
    have HGK := Lib.hid hgk
    have HB := Lib.hid (begin_any i4 hE hop hd1 hd3 (by omega))
    have I := Lib.hid (show _ ∧ _ ∧ _ ∧ _ ∧ _ ∧ _ ∧ _ from ⟨i1, i2, i3, i4, i5, i6, i7⟩)
    clear i1 i2 i3 i4 i5 i6 i7 hop hd3 HI hgk HO
    go_wp2_with fail
    refine HB.out.mono ?_
    intro e W2 h2
    obtain ⟨i1, i2, i3, i4, i5, i6, i7⟩ := I.out
    rcases i5.rd with ⟨er, e1, e2⟩ | ⟨st, e1, hrun⟩
    · rw [e1] at h2
      subst e2
      obtain ⟨rfl, hb2⟩ := h2
      have HB2 := Lib.hid hb2
      clear i1 i2 i3 i4 i5 i6 i7 e1 hb2
      exact ⟨rfl, rfl, HB2.out⟩
    · rw [e1] at h2
      have hpl := begM_end e1
      have hok := begM_okOp e1 i2
      have hdd := begM_okD e1
      rw [toList_length] at hpl
      obtain ⟨kd, bo, nu, te, o1, n1, m1, o2, n2, m2, wb, rfl, hini⟩ := StepR.ini (N := W.heap.size) h2 i6 i7 hpl.2 hok hdd hrun
      have HIN := Lib.hid hini
      have HPL := Lib.hid hpl.1
      have hM : ∃ M, M = W2.heap.size := ⟨_, rfl⟩
      clear h2 hini hpl hok hdd hrun e1 i1 i2 i3 i4 i5 i6 i7
      go_wp2_with fail
      obtain ⟨X, hX⟩ : ∃ X, X = W2.alloc (.cells #[.int .i8 kd, .bool bo, .int .i64 nu, .string te, .slice o1 n1 m1, .slice o2 n2 m2] 28) := ⟨_, rfl⟩
      rw [← hX] at HIN ⊢
      have HX := Lib.hid hX
      clear hX
      obtain ⟨gk0, hgk0⟩ : ∃ g, g = gk := ⟨_, rfl⟩
      rw [← hgk0] at HGK
      go_loopg [4] (s.size + 1) (fun gj w4 wr => ∃ st, Hid (InI W0 b s d R W.heap.size W2.heap.size st w4 wr) ∧ Hid (k1 < st.pl) ∧ s.size + 1 - st.pl ≤ gj)
      case atStart => exact ⟨st, HIN, HPL, by omega⟩
      case round =>
        obtain ⟨st2, HI2, HK1, hgj⟩ := hrel
        have HGJ := Lib.hid hgj
        clear hgj HIN HPL
        cases st2 with
        | rd k2 op2 =>
          obtain ⟨ov2, ys2, B2, d0, d1, d2, d3, d4, d5, j1, j2, j3, j4, j5, j6, j7, j8, j9, j10, rfl⟩ := HI2.out
          have HJ := Lib.hid (show OuI W0 b s d R W.heap.size k2 op2 wr from ⟨_, _, _, j1, j2, j3, j4, j5, j6, j9⟩)
          have HJ1 := Lib.hid j1
          clear j1 j2 j3 j4 j5 j6 j7 j8 j9 j10 HI2
          go_wp2_with fail
          go_roundg (s.size + 1 - k2)
          case measure =>
            have h1 : k1 < k2 := HK1.out
            have h2 : k2 ≤ s.size := HJ1.out
            have h3 := HGK.out
            omega
          case rel => exact ⟨k2, op2, HJ, Nat.le_refl _⟩
        | got v k2 op2 =>
          obtain ⟨ov2, ys2, B2, d0, d1, d2, d3, d4, d5, j1, j2, j3, j4, j5, j6, j7, j8, j9, j10, rfl, S, hva, hS⟩ := HI2.out
          obtain ⟨kd2, bo2, nu2, te2, oa, na, ma, ob, nb, mb, heq⟩ := isVa_form hva
          simp only [Value.agg.injEq, Array.mk.injEq, List.cons.injEq, and_true] at heq
          obtain ⟨rfl, rfl, rfl, rfl, rfl, rfl⟩ := heq
          obtain ⟨oo, ad, cc, hov, -, -, -, -, -⟩ := Ow.own_form j4.own
          have c3 := j4.c3
          rw [hov] at c3
          have p0 : wr.cell? ⟨W2.heap.size, 0, none⟩ = some (.int .i8 kd2) := j10.cell 0
          have p1 : wr.cell? ⟨W2.heap.size, 1, none⟩ = some (.bool bo2) := j10.cell 1
          have p2 : wr.cell? ⟨W2.heap.size, 2, none⟩ = some (.int .i64 nu2) := j10.cell 2
          have p3 : wr.cell? ⟨W2.heap.size, 3, none⟩ = some (.string te2) := j10.cell 3
          have p4 : wr.cell? ⟨W2.heap.size, 4, none⟩ = some (.slice oa na ma) := j10.cell 4
          have p5 : wr.cell? ⟨W2.heap.size, 5, none⟩ = some (.slice ob nb mb) := j10.cell 5
          cases op2 with
          | nil =>
            have hfin := j5.fin
            subst hfin
            have c3' : wr.cell? ⟨b, 3, none⟩ = some (.slice oo 0 cc) := c3
            have g0 : decide ((0 : Int) < ((0 : Nat) : Int)) = false := rfl
            have q0 : wr.cell? ⟨W.heap.size, 0, none⟩ = some (.int .i8 0) := j9.cell 0
            have q1 : wr.cell? ⟨W.heap.size, 1, none⟩ = some (.bool false) := j9.cell 1
            have q2 : wr.cell? ⟨W.heap.size, 2, none⟩ = some (.int .i64 0) := j9.cell 2
            have q3 : wr.cell? ⟨W.heap.size, 3, none⟩ = some (.string ⟨#[]⟩) := j9.cell 3
            have q4 : wr.cell? ⟨W.heap.size, 4, none⟩ = some (.slice none 0 0) := j9.cell 4
            have q5 : wr.cell? ⟨W.heap.size, 5, none⟩ = some (.slice none 0 0) := j9.cell 5
            have qf0 := j9.frozen 0
            have qf1 := j9.frozen 1
            have qf2 := j9.frozen 2
            have qf3 := j9.frozen 3
            have qf4 := j9.frozen 4
            have qf5 := j9.frozen 5
            have J4 := Lib.hid j4
            have J6 := Lib.hid j6
            have HVA := Lib.hid hva
            have HS := Lib.hid hS
            clear c3 hov j1 j2 j3 j4 j5 j6 j7 j8 j9 j10 hva hS HI2
            go_wp2_with fail
            refine bodyPost_ret (v := .agg #[.int .i8 kd2, .bool bo2, .int .i64 nu2, .string te2, .slice oa na ma, .slice ob nb mb]) (by simp [results, Tryz.results15, go_sem, q0, q1, q2, q3, q4, q5]) rfl ?_
            exact ⟨_, S, _, _, _, rfl, J4.out.six J6.out _ _ _ _ _ _, isVa_kp HVA.out (fun q e => six_heap _ _ _ _ _ _ _ _ (HS.out q e).2.2.1), fun q e => ⟨(HS.out q e).1.1, by rw [six_size]; exact (HS.out q e).2.1⟩⟩
          | cons f op3 =>
            have hl : (f :: op3).length = op3.length + 1 := rfl
            obtain ⟨m3, hm3⟩ : ∃ m, op3.length = m := ⟨_, rfl⟩
            have c3' : wr.cell? ⟨b, 3, none⟩ = some (.slice oo (m3 + 1) cc) := by rw [← hm3]; exact c3
            have g0 : decide ((0 : Int) < (m3 : Int) + 1) = true := decide_eq_true (by omega)
            have g1 : decide ((0 : Int) < ((m3 + 1 : Nat) : Int)) = true := decide_eq_true (by omega)
            have hop3 : op3.length < 100000 := by
              have h8 : (f :: op3).length ≤ k2 := j2.1
              have h9 : k2 ≤ s.size := j1
              simp only [List.length_cons] at h8
              omega
            have j4' : PW W0 b s d k2 (f :: op3) ov2 ys2 B2 wr := j4
            have hfl := j2.2 f (List.mem_cons_self ..)
            have hj1 : k2 ≤ s.size := j1
            have hfl1 : f.vs.length ≤ 1000000 := by have h8 : f.vs.length ≤ k2 := hfl.1; omega
            have hfl2 : f.ks.length ≤ 1000000 := by have h8 : f.ks.length ≤ k2 := hfl.2; omega
            have HPUT := Lib.hid (put_any (k := k2) j4' hE hop3 hj1 (by omega) hfl1 hfl2 hva (fun q e => ⟨(hS q e).1, (hS q e).2.1⟩))
            have J := Lib.hid (show _ ∧ _ ∧ _ ∧ _ ∧ _ ∧ _ ∧ _ ∧ _ ∧ _ ∧ _ from ⟨j1, j2, j3, j4, j5, j6, j7, j8, j9, j10⟩)
            have HS := Lib.hid hS
            clear c3 hov j1 j2 j3 j4 j5 j6 j7 j8 j9 j10 hva hS HI2 hl hm3 hop3 hfl hj1 hfl1 hfl2 j4'
            go_wp2_with fail
            refine HPUT.out.mono ?_
            intro e W4 h2
            obtain ⟨j1, j2, j3, j4, j5, j6, j7, j8, j9, j10⟩ := J.out
            rcases j5.got with ⟨er, e1, e2⟩ | ⟨st, e1, hrun⟩
            · rw [e1] at h2
              subst e2
              obtain ⟨rfl, hb2⟩ := h2
              have HB2 := Lib.hid hb2
              clear j1 j2 j3 j4 j5 j6 j7 j8 j9 j10 e1 hb2
              exact ⟨rfl, rfl, HB2.out⟩
            · rw [e1] at h2
              have hpl := putM_end (s := s.data.toList) (k := k2) (by rw [toList_length]; exact j1) e1
              rw [toList_length] at hpl
              have hoA : ∀ q, Off W0 b ov2 B2 q → (∀ r, S r → r ≠ q) → Off W0 b ov2 (fun q => B2 q ∨ S q) q := fun q o hq => ⟨o.1, o.2.1, fun e => e.elim o.2.2.1 (fun e => hq q e rfl), o.2.2.2⟩
              obtain ⟨hbm, kd, bo, nu, te, o1, n1, m1, o2, n2, m2, wb, rfl, hini⟩ := StepR.inp (N := W.heap.size) (M := W2.heap.size) h2 (hoA _ j6 fun r e => (HS.out r e).2.2.1) (hoA _ j7 fun r e => (HS.out r e).2.2.2) j8 j9 j10 hpl.2 (putM_okOp (by rw [toList_length]; exact j1) e1 j2) (putM_okD e1 j3) hrun
              have w0 : W4.cell? ⟨W2.heap.size, 0, none⟩ = some (.int .i8 kd2) := hbm.cell 0
              have w1 : W4.cell? ⟨W2.heap.size, 1, none⟩ = some (.bool bo2) := hbm.cell 1
              have w2 : W4.cell? ⟨W2.heap.size, 2, none⟩ = some (.int .i64 nu2) := hbm.cell 2
              have w3 : W4.cell? ⟨W2.heap.size, 3, none⟩ = some (.string te2) := hbm.cell 3
              have w4 : W4.cell? ⟨W2.heap.size, 4, none⟩ = some (.slice oa na ma) := hbm.cell 4
              have w5 : W4.cell? ⟨W2.heap.size, 5, none⟩ = some (.slice ob nb mb) := hbm.cell 5
              have x0 := hbm.frozen 0
              have x1 := hbm.frozen 1
              have x2 := hbm.frozen 2
              have x3 := hbm.frozen 3
              have x4 := hbm.frozen 4
              have x5 := hbm.frozen 5
              have HIN := Lib.hid hini
              have HPL := Lib.hid hpl
              clear h2 hini hpl hoA hbm j1 j2 j3 j4 j5 j6 j7 j8 j9 j10 e1 hrun
              go_wp2_with fail
              go_roundg (s.size + 1 - st.pl)
              case measure =>
                have h1 := HPL.out
                have h3 : s.size + 1 - k2 ≤ gk := HGJ.out
                omega
              case rel => exact ⟨st, HIN, Lib.hid (Nat.lt_trans HK1.out HPL.out.1), Nat.le_refl _⟩
end
end Go.Proofs.YtgbagdfcdljleaaGreatDoor
