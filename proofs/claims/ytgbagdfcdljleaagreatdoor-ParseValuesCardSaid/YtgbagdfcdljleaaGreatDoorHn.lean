/-
  Parse's walk: key, whatever stands there; what a step leaves.
-/
import Derived.Test.YtgbagdfcdljleaaGreatDoorHA
set_option linter.unusedVariables false
set_option linter.unusedSimpArgs false
namespace Go.Proofs.YtgbagdfcdljleaaGreatDoor
open Go.RowKit Go.Maps

theorem uqR_len : ∀ (n : Nat) (l : List UInt8) (q : Nat) (acc : List UInt8), (Ru.uqR n l q acc).1.length ≤ acc.length + 4 * l.length
  | 0, l, q, acc => by rw [Ru.uqR]; simp
  | n + 1, l, q, acc => by
    rw [Ru.uqR]
    by_cases h0 : l = []
    · rw [if_pos h0]; simp
    rw [if_neg h0]
    cases hb : Ru.bad l with
    | true => rw [if_pos rfl]; simp
    | false =>
      rw [if_neg (by simp)]
      have hl := List.length_pos_iff.2 h0
      have hw := Lib.decodeL_width l
      have hle := Lib.decodeL_le l h0
      by_cases h34 : (Lib.decodeL l).1 = 34
      · rw [if_pos h34]; simp
      rw [if_neg h34]
      by_cases h32 : (Lib.decodeL l).1 < 32
      · rw [if_pos h32]; simp
      rw [if_neg h32]
      by_cases h92 : (Lib.decodeL l).1 = 92
      · rw [if_pos h92]
        cases he : Ru.escL l with
        | none => simp
        | some y =>
          obtain ⟨t, ht, _⟩ := Ru.head_ascii h0 hb h92 (by decide)
          obtain ⟨hy1, _, hy3⟩ := Ru.escL_ascii he (fun c hc => by rw [ht] at hc; simp at hc; subst hc; decide)
          have := uqR_len n (l.drop y.2) (q + y.2) (acc ++ Lib.encodeRune y.1)
          have h4 := Ru.enc_le y.1
          rw [List.length_append, List.length_drop] at this
          show (Ru.uqR n (l.drop y.2) (q + y.2) (acc ++ Lib.encodeRune y.1)).1.length ≤ _
          omega
      · rw [if_neg h92]
        have := uqR_len n (l.drop (Lib.decodeL l).2) (q + (Lib.decodeL l).2) (acc ++ Lib.encodeRune (Lib.decodeL l).1)
        have h4 := Ru.enc_le (Lib.decodeL l).1
        rw [List.length_append, List.length_drop] at this
        omega
theorem unqL_len (s : List UInt8) (k : Nat) : (Ru.unqL s k).1.length ≤ 4 * s.length := by
  rw [Ru.unqL_uqR s k s.length (Nat.le_refl _)]
  have := uqR_len (s.length + 1) (s.drop (k + 1)) (k + 1) []
  rw [List.length_drop] at this
  simp only [List.length_nil] at this
  omega
section
variable {W0 W W' : World} {b : Nat} {s : ByteArray} {d : Int} {k : Nat} {op : List Fm} {ov : Value} {ys : List Value} {B : Nat → Prop}
theorem key_any {f : Fm} {t : List Fm} (h : PW W0 b s d k (f :: t) ov ys B W) (hE : Ru.Env W0) (ht : t.length < 1000000) (hk : k ≤ s.size) (hs : s.size ≤ 200000) (hkl : f.ks.length ≤ 1000000) :
    Calls Tryz.prog 46 #[.pointer (some ⟨b, 0, none⟩)] W fun e W' => KeyR W0 b s d t ov B W (keyM s.data.toList k f) e W' := by
  cases hf : f.obj with
  | false =>
    have e : keyM s.data.toList k f = .ok (k, f) := by unfold keyM; rw [if_pos hf]
    rw [e]
    refine (key_list h hf ht).mono ?_
    rintro e W' ⟨rfl, h1, h2⟩
    exact ⟨rfl, _, _, _, h1, Frm.of_kb h2⟩
  | true =>
    by_cases hq : s.data.toList[k]? = some 34
    · by_cases hu : (Ru.unqL s.data.toList k).2.2 = 0
      · exact key_text h hE hf ht (by omega) hq hu hkl (by have := unqL_len s.data.toList k; rw [toList_length] at this; omega)
      · have e : keyM s.data.toList k f = .error ((Ru.unqL s.data.toList k).2.1, (Ru.unqL s.data.toList k).2.2) := by
          unfold keyM
          rw [if_neg (by rw [hf]; decide), if_neg (not_not_intro hq), if_pos hu]
        rw [e]
        refine (key_badtext h hE hf ht (by omega) hq hu).mono ?_
        rintro e W' ⟨rfl, h1⟩
        exact ⟨rfl, h1⟩
    · have e : keyM s.data.toList k f = .error (k, 40) := by
        unfold keyM
        rw [if_neg (by rw [hf]; decide), if_pos hq]
      rw [e]
      refine (key_noquote h hf ht hk (by omega) hq).mono ?_
      rintro e W' ⟨rfl, h1⟩
      exact ⟨rfl, h1⟩
/-- The value of nothing. -/
def zeroV : Value := .agg #[.int .i8 0, .bool false, .int .i64 0, .string ⟨#[]⟩, .slice none 0 0, .slice none 0 0]
/-- What a step leaves. -/
def StepR (W0 : World) (b : Nat) (s : ByteArray) (d : Int) (ov0 : Value) (B0 : Nat → Prop) (W : World) (r : Except Er St) (e : Ending) (W' : World) : Prop :=
  match r with
  | .error r => e = faulted r.1 r.2 ∧ Below W0.heap.size W0 W'
  | .ok (.got v k op) => ∃ val S ov ys B, e = .returned (.tuple #[val, .bool true]) ∧ PW W0 b s d k op ov ys B W' ∧ isVa W' S v val ∧ (∀ q, S q → Off W0 b ov B q ∧ q < W'.heap.size ∧ (B0 q ∨ W.heap.size ≤ q)) ∧ Frm W0 b ov0 B0 W ov B W'
  | .ok (.rd k op) => ∃ ov ys B, e = .returned (.tuple #[zeroV, .bool false]) ∧ PW W0 b s d k op ov ys B W' ∧ Frm W0 b ov0 B0 W ov B W'
theorem StepR.err {r : Er} {e : Ending} (h : e = faulted r.1 r.2) (hb : Below W0.heap.size W0 W') : StepR W0 b s d ov B W (.error r) e W' := ⟨h, hb⟩
theorem isVa_form {S : Nat → Prop} {x : V} {v : Value} (h : isVa W S x v) : ∃ kd bo nu te o1 n1 c1 o2 n2 c2, v = .agg #[.int .i8 kd, .bool bo, .int .i64 nu, .string te, .slice o1 n1 c1, .slice o2 n2 c2] := by
  obtain ⟨k, bo, n, te, l, ks⟩ := x
  unfold isVa at h
  obtain ⟨lv, kv, rfl, _, _, _, ⟨a, cap, ⟨o, rfl, _⟩, _⟩, ⟨a2, cap2, ⟨o2, rfl, _⟩, _⟩⟩ := h
  exact ⟨_, _, _, _, _, _, _, _, _, _, rfl⟩
theorem PW.six (h : PW W0 b s d k op ov ys B W) {q : Nat} (o : Off W0 b ov B q) (c0 c1 c2 c3 c4 c5 : Value) : PW W0 b s d k op ov ys B ((((((W.setCell ⟨q, 0, none⟩ c0).setCell ⟨q, 1, none⟩ c1).setCell ⟨q, 2, none⟩ c2).setCell ⟨q, 3, none⟩ c3).setCell ⟨q, 4, none⟩ c4).setCell ⟨q, 5, none⟩ c5) :=
  (((((h.st' o 0 c0).st' o 1 c1).st' o 2 c2).st' o 3 c3).st' o 4 c4).st' o 5 c5
theorem six_heap (W : World) {q : Nat} (c0 c1 c2 c3 c4 c5 : Value) (r : Nat) (hr : r ≠ q) : ((((((W.setCell ⟨q, 0, none⟩ c0).setCell ⟨q, 1, none⟩ c1).setCell ⟨q, 2, none⟩ c2).setCell ⟨q, 3, none⟩ c3).setCell ⟨q, 4, none⟩ c4).setCell ⟨q, 5, none⟩ c5).heap[r]? = W.heap[r]? := by
  rw [Below.heap_setCell _ _ _ _ hr, Below.heap_setCell _ _ _ _ hr, Below.heap_setCell _ _ _ _ hr, Below.heap_setCell _ _ _ _ hr, Below.heap_setCell _ _ _ _ hr, Below.heap_setCell _ _ _ _ hr]
theorem six_size (W : World) {q : Nat} (c0 c1 c2 c3 c4 c5 : Value) : ((((((W.setCell ⟨q, 0, none⟩ c0).setCell ⟨q, 1, none⟩ c1).setCell ⟨q, 2, none⟩ c2).setCell ⟨q, 3, none⟩ c3).setCell ⟨q, 4, none⟩ c4).setCell ⟨q, 5, none⟩ c5).heap.size = W.heap.size := by simp
theorem Frm.six {ov0 : Value} {A : Nat → Prop} {Wb : World} (h : Frm W0 b ov0 A Wb ov B W) {q : Nat} (hq : Wb.heap.size ≤ q) (c0 c1 c2 c3 c4 c5 : Value) : Frm W0 b ov0 A Wb ov B ((((((W.setCell ⟨q, 0, none⟩ c0).setCell ⟨q, 1, none⟩ c1).setCell ⟨q, 2, none⟩ c2).setCell ⟨q, 3, none⟩ c3).setCell ⟨q, 4, none⟩ c4).setCell ⟨q, 5, none⟩ c5) :=
  ⟨by rw [six_size]; exact h.1, fun r h1 h2 => ⟨by rw [six_heap _ _ _ _ _ _ _ _ (by omega)]; exact (h.2 r h1 h2).1, (h.2 r h1 h2).2⟩⟩
/-- A value is handed back by way of a box. -/
theorem StepR.got6 {ov0 : Value} {A : Nat → Prop} {Wb : World} {v : V} {S : Nat → Prop} {c0 c1 c2 c3 c4 c5 : Value} (h : PW W0 b s d k op ov ys B W) {q0 : Nat} (o : Off W0 b ov B q0) (hva : isVa W S v (.agg #[c0, c1, c2, c3, c4, c5]))
    (hS : ∀ q, S q → Off W0 b ov B q ∧ q < W.heap.size ∧ (A q ∨ Wb.heap.size ≤ q)) (hq : ∀ q, S q → q ≠ q0) (hF : Frm W0 b ov0 A Wb ov B W) (hN : Wb.heap.size ≤ q0) :
    StepR W0 b s d ov0 A Wb (.ok (.got v k op)) (.returned (.tuple #[.agg #[c0, c1, c2, c3, c4, c5], .bool true])) ((((((W.setCell ⟨q0, 0, none⟩ c0).setCell ⟨q0, 1, none⟩ c1).setCell ⟨q0, 2, none⟩ c2).setCell ⟨q0, 3, none⟩ c3).setCell ⟨q0, 4, none⟩ c4).setCell ⟨q0, 5, none⟩ c5) :=
  ⟨_, S, _, _, _, rfl, h.six o _ _ _ _ _ _, isVa_kp hva (fun q e => six_heap _ _ _ _ _ _ _ _ (hq q e)), fun q e => by rw [six_size]; exact hS q e, hF.six hN _ _ _ _ _ _⟩
theorem StepR.rd6 {ov0 : Value} {A : Nat → Prop} {Wb : World} (h : PW W0 b s d k op ov ys B W) {q0 : Nat} (o : Off W0 b ov B q0) (hF : Frm W0 b ov0 A Wb ov B W) (hN : Wb.heap.size ≤ q0) :
    StepR W0 b s d ov0 A Wb (.ok (.rd k op)) (.returned (.tuple #[zeroV, .bool false])) ((((((W.setCell ⟨q0, 0, none⟩ (.int .i8 0)).setCell ⟨q0, 1, none⟩ (.bool false)).setCell ⟨q0, 2, none⟩ (.int .i64 0)).setCell ⟨q0, 3, none⟩ (.string ⟨#[]⟩)).setCell ⟨q0, 4, none⟩ (.slice none 0 0)).setCell ⟨q0, 5, none⟩ (.slice none 0 0)) :=
  ⟨_, _, _, rfl, h.six o _ _ _ _ _ _, hF.six hN _ _ _ _ _ _⟩
theorem gate_of_step {o : Oper} {a : Act} {P : Program} {w : World} {K : Act → World → Prop} {Q : Exit → Act → World → Prop} {ops : Array Oper} {R E : Prop}
    (h : if Region.wanted o (yielded ops a.tmps) = true then Oper.wp P o a w K Q else E) : if Region.wanted o (yielded ops a.tmps) = true then (Oper.wp P o a w K Q ∨ R) else E := by
  split
  · rename_i hw
    rw [if_pos hw] at h
    exact .inl h
  · rename_i hw
    rw [if_neg hw] at h
    exact h
end
end Go.Proofs.YtgbagdfcdljleaaGreatDoor
