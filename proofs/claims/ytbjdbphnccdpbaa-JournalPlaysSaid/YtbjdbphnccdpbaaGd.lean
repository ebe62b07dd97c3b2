/-
  The program's frames as an iterator.
-/
import Derived.Test.YtbjdbphnccdpbaaGc
set_option linter.unusedVariables false
namespace Go.Proofs.Ytbjdbphnccdpbaa
open Go.RowKit Go.Shelf Go.Lib
attribute [local go_sem] Oper.semAt_some

/-- Where the frame of load number k begins. -/
def atL : List (List UInt8) → Nat → Nat
  | _, 0 => 0
  | [], _ + 1 => 0
  | l :: t, k + 1 => 4 + l.length + atL t k
def lk (L : List (List UInt8)) (k : Nat) : List UInt8 := L.getD k []
theorem at_scan : ∀ (k : Nat) (x : List UInt8), k ≤ (scanL x).1.length → atL (scanL x).1 k ≤ x.length ∧ scanL (x.drop (atL (scanL x).1 k)) = ((scanL x).1.drop k, (scanL x).2)
  | 0, x, _ => by simp [atL]
  | k + 1, x, h => by
    cases hh : headN x with
    | none => rw [scan_none hh] at h; simp at h
    | some n =>
      have h1 := headN_some hh
      have e := scan_some hh
      rw [e] at h ⊢
      have hl : ((x.drop 4).take n).length = n := by rw [List.length_take, List.length_drop]; omega
      obtain ⟨i1, i2⟩ := at_scan k (x.drop (4 + n)) (by simpa using h)
      simp only [atL, hl, List.drop_succ_cons]
      rw [List.length_drop] at i1
      exact ⟨by omega, by rw [← i2, List.drop_drop]⟩
theorem atL_succ : ∀ (L : List (List UInt8)) (k : Nat), k < L.length → atL L (k + 1) = atL L k + (4 + (lk L k).length)
  | [], k, h => absurd h (by simp)
  | l :: t, 0, h => by simp [atL, lk]
  | l :: t, k + 1, h => by
    have := atL_succ t k (by simpa using h)
    have e : lk (l :: t) (k + 1) = lk t k := by simp [lk]
    rw [e, atL, this, atL]
    omega
/-- Load number k, as it stands in the bytes. -/
theorem at_load (x : List UInt8) (k : Nat) (h : k < (scanL x).1.length) :
    headN (x.drop (atL (scanL x).1 k)) = some (lk (scanL x).1 k).length ∧ (x.drop (atL (scanL x).1 k + 4)).take (lk (scanL x).1 k).length = lk (scanL x).1 k ∧ 1 ≤ (lk (scanL x).1 k).length ∧ (lk (scanL x).1 k).length ≤ 524288 ∧ atL (scanL x).1 k + 4 + (lk (scanL x).1 k).length ≤ x.length := by
  obtain ⟨h1, h2⟩ := at_scan k x (by omega)
  generalize hy : x.drop (atL (scanL x).1 k) = y at *
  cases hh : headN y with
  | none =>
    rw [scan_none hh] at h2
    have := congrArg (fun p => p.1.length) h2
    simp at this
    omega
  | some n =>
    have h3 := headN_some hh
    rw [scan_some hh] at h2
    have h4 : (scanL x).1.drop k = (y.drop 4).take n :: (scanL (y.drop (4 + n))).1 := (congrArg (·.1) h2).symm
    have h5 : lk (scanL x).1 k = (y.drop 4).take n := by
      unfold lk
      rw [List.getD_eq_getElem?_getD, List.getElem?_eq_getElem h, Option.getD_some]
      have := congrArg (fun l => l[0]?) h4
      simpa [List.getElem?_drop, List.getElem?_eq_getElem h] using this
    have hl : ((y.drop 4).take n).length = n := by rw [List.length_take, List.length_drop]; omega
    have hyl : y.length = x.length - atL (scanL x).1 k := by rw [← hy, List.length_drop]
    rw [h5, hl]
    refine ⟨rfl, ?_, h3.1, h3.2.1, by omega⟩
    rw [← hy, List.drop_drop]
theorem at_end (x : List UInt8) : headN (x.drop (atL (scanL x).1 (scanL x).1.length)) = none ∧ atL (scanL x).1 (scanL x).1.length + (scanL x).2 = x.length := by
  obtain ⟨h1, h2⟩ := at_scan (scanL x).1.length x (Nat.le_refl _)
  generalize hy : x.drop (atL (scanL x).1 (scanL x).1.length) = y at *
  rw [List.drop_length] at h2
  cases hh : headN y with
  | none =>
    rw [scan_none hh] at h2
    have := congrArg (·.2) h2
    simp only at this
    refine ⟨rfl, ?_⟩
    rw [← this, ← hy, List.length_drop]
    omega
  | some n =>
    rw [scan_some hh] at h2
    have := congrArg (·.1) h2
    simp at this
theorem lk_get {L : List (List UInt8)} {k : Nat} (h : k < L.length) : lk L k = L[k] := by
  unfold lk
  rw [List.getD_eq_getElem?_getD, List.getElem?_eq_getElem h, Option.getD_some]
/-- A slice as a program's. -/
def fit (v : Value) : Prop := v = .slice none 0 0 ∨ ∃ a n c, v = .slice (some a) n c
theorem ow.fit {base : Nat} {W : World} {v : Value} {x : List UInt8} (h : ow base W v x) : fit v := by
  rcases h with ⟨rfl, _⟩ | ⟨g, cap, cur, rfl, _⟩
  · exact .inl rfl
  · exact .inr ⟨_, _, _, rfl⟩
/-- Bytes that lie where the rows stay. -/
def buf (P : Nat → Prop) (W : World) (x : List UInt8) (v : Value) : Prop := rd W x v ∧ fit v ∧ ∀ a n c, v = .slice (some a) n c → 0 < x.length → P a.block
theorem KK.cell {P : Nat → Prop} {W W' : World} (h : KK P W W') (a : Addr) (c : Value) (ha : P a.block) (hc : W.cell? a = some c) : W'.cell? a = some c := by
  have hc2 := hc
  unfold World.cell? at hc2
  cases ho : W.heap[a.block]? with
  | none => rw [ho] at hc2; cases hc2
  | some o =>
    rw [ho] at hc2
    cases o with
    | cells cs t ro => exact (World.cell?_of_block (h := (h.2 _ cs t ro ha ho).trans ho.symm)).trans hc
    | _ => simp at hc2
theorem buf.kk {P : Nat → Prop} {W W' : World} {x : List UInt8} {v : Value} (h : buf P W x v) (hk : KK P W W') : buf P W' x v := by
  obtain ⟨⟨o, a, c, rfl, h1, h2, h3, h4⟩, hf, hP⟩ := h
  refine ⟨⟨o, a, c, rfl, h1, h2, h3, fun j u hj => ?_⟩, hf, hP⟩
  have hx : 0 < x.length := by
    have := (List.getElem?_eq_some_iff.1 hj).1
    rw [byteCells_length] at this
    omega
  obtain rfl := h3 hx
  refine hk.cell _ _ ?_ (h4 j u hj)
  have : (a.add j).block = a.block := by unfold Addr.add; split <;> rfl
  rw [this]
  exact hP a _ _ rfl hx
/-- What is told of load number k. -/
def PreF (a : Addr) (L : List (List UInt8)) (k : Nat) (v : Value) (_ : World) : Prop := v = .slice (some (a.add (atL L k + 4))) (lk L k).length (lk L k).length
def encF (L : List (List UInt8)) (k : Nat) (v : Value) : Array Value := #[.int .i64 (atL L k : Nat), v]

set_option maxRecDepth 100000 in
set_option maxHeartbeats 4000000 in
theorem frames1_in (n : Nat) (hn : 1 ≤ n) (P : Nat → Prop) (x : List UInt8) (a : Addr) (c : Nat) (l Bx : Nat) (J Jx : Nat → World → Prop) (W : World)
    (hb : buf P W x (.slice (some a) x.length c)) (hBx : Boxed W Bx 27 (.slice (some a) x.length c)) (hPB : P Bx) (hJ : Free W.heap.size J) (hJx : Free W.heap.size Jx)
    (hY : ∀ k v W1, k < (scanL x).1.length → J k W1 → PreF a (scanL x).1 k v W1 → YieldAt Fence.wide (n - 1) Try.prog l (encF (scanL x).1 k v) W1 fun e W' => (e = .returned (.bool true) ∧ J (k + 1) W' ∧ KK P W1 W') ∨ (e = .returned (.bool false) ∧ Jx k W'))
    (h0 : J 0 W) :
    CallsIn Fence.wide n Try.prog 70 #[.func (.yield l) #[] #[], .pointer (some ⟨Bx, 0, none⟩)] W fun e W' => (∃ v, e = .returned v) ∧ (J (scanL x).1.length W' ∨ ∃ k, k < (scanL x).1.length ∧ Jx k W') := by
  have hc1 : x.length ≤ c ∧ c ≤ maxLen := by
    obtain ⟨o2, c2, e2, e3, e4⟩ := hb.1.form
    cases e2
    exact ⟨e3, e4⟩
  obtain ⟨hc1, hc2⟩ := hc1
  unfold maxLen at hc2
  have HBF := Lib.hid hb
  have HBX := Lib.hid hBx
  clear hb hBx
  refine callsIn_of_wp Try.func70 rfl trivial ?_ rfl
  simp only [Try.ntmps70, List.size_toArray, List.length_cons, List.length_nil, Nat.reduceAdd, Nat.reduceSub, Array.replicate_succ, Array.replicate_zero, List.push_toArray, List.append_toArray, List.nil_append, List.cons_append]
  gi_wp2_with fail
  gi_loopw [3] (fun av wr => ∃ k, k ≤ (scanL x).1.length ∧ av = .int .i64 (atL (scanL x).1 k : Nat) ∧ Hid (J k wr) ∧ Hid (buf P wr x (.slice (some a) x.length c)) ∧ Hid (Boxed wr Bx 27 (.slice (some a) x.length c))) (fun av _ => x.length - (intOf av).toNat)
  case atStart => exact ⟨0, Nat.zero_le _, by simp [atL], Lib.hid h0, HBF, HBX⟩
  case round =>
    obtain ⟨k, hk, rfl, HJ, HB, HX⟩ := hrel
    have cX := HX.out.cell
    obtain ⟨hat, hsc⟩ := at_scan k x hk
    by_cases hlt : k < (scanL x).1.length
    · obtain ⟨q1, q2, q3, q4, q5⟩ := at_load x k hlt
      have qs := atL_succ (scanL x).1 k hlt
      obtain ⟨fn, tmps, assign, body, hy, hR⟩ := hY k (.slice (some (a.add (atL (scanL x).1 k + 4))) (lk (scanL x).1 k).length (lk (scanL x).1 k).length) wr hlt HJ.out rfl
      have hfr : firstN (x.drop (atL (scanL x).1 k)) = 4 + (lk (scanL x).1 k).length := first_some q1
      have hrd := HB.out.1.drop (atL (scanL x).1 k) hat
      unfold encF at hy
      generalize hA : atL (scanL x).1 k = A at *
      generalize hM : (lk (scanL x).1 k).length = m at *
      rw [if_neg (show ¬ c = A by omega)] at hrd
      have hF := first_any _ _ wr hrd
      rw [hfr] at hF
      have HF := Lib.hid hF
      have HR := Lib.hid hR
      have HK := Lib.hid (And.intro hk (And.intro hlt qs))
      have hAi : (A : Int) ≤ (x.length : Int) := by omega
      have hw1 : IntKind.i64.wrap ((A : Int) + 4) = (A : Int) + 4 := by go_unwrap
      have hw2 : IntKind.i64.wrap ((A : Int) + (4 + (m : Int))) = (A : Int) + (4 + (m : Int)) := by go_unwrap
      have hcA : ¬ c = A := by omega
      have hcA4 : ¬ A + (4 + m) = A + 4 := by omega
      have hs1 : A + (4 + m) - (A + 4) = m := by omega
      have hz : (4 + (m : Int) == 0) = false := by rw [beq_eq_false_iff_ne]; omega
      have hadd : a.add (A + 4) = ⟨a.block, a.off + (A + 3 + 1), none⟩ := by
        unfold Addr.add
        split <;> simp_all
      rw [hadd] at hy
      have hAn : ((A : Int) + 4).toNat = A + 4 := by omega
      have hAn2 : ((A : Int) + (4 + (m : Int))).toNat = A + (4 + m) := by omega
      have hle1 : (A : Int) + 4 ≤ (A : Int) + (4 + (m : Int)) := by omega
      have hle2 : (A : Int) + (4 + (m : Int)) ≤ (c : Int) := by omega
      have HQ := Lib.hid (And.intro q5 (And.intro q3 q4))
      clear hF hR hA hM q1 q2 q3 q4 q5 qs hrd hfr hsc hk hlt
      gi_wp2_with first
        | (refine ⟨trivial, ?_⟩; refine (callsIn_wide.2 HF.out).mono ?_; rintro e w0 ⟨rfl, rfl⟩)
      refine HR.out.mono ?_
      clear HR HF
      rintro e W3 (⟨rfl, hJ3, hk3⟩ | ⟨rfl, hJx3⟩)
      · have H3 := Lib.hid hJ3
        have HB3 := Lib.hid (HB.out.kk hk3)
        have HX3 : Hid (Boxed W3 Bx 27 (.slice (some a) x.length c)) := Lib.hid (hk3.2 _ _ _ _ hPB HX.out)
        clear hJ3 hk3 hy cX
        gi_wp2_with fail
        go_roundw
        case rel => exact ⟨k + 1, HK.out.2.1, by rw [HK.out.2.2]; rfl, H3, HB3, HX3⟩
        case measure => simp [intOf]; have := HQ.out; omega
      · have H3 := Lib.hid hJx3
        clear hJx3 hy cX
        gi_wp2_with fail
        refine bodyPost_ret (results_none rfl _ _ _) rfl ?_
        exact ⟨⟨_, rfl⟩, .inr ⟨k, HK.out.2.1, H3.out⟩⟩
    · obtain rfl : k = (scanL x).1.length := by omega
      obtain ⟨q1, q2⟩ := at_end x
      have hfr : firstN (x.drop (atL (scanL x).1 (scanL x).1.length)) = 0 := first_none q1
      have hrd := HB.out.1.drop (atL (scanL x).1 (scanL x).1.length) hat
      generalize hA : atL (scanL x).1 (scanL x).1.length = A at *
      have hF := first_any _ _ wr hrd
      rw [hfr] at hF
      have HF := Lib.hid hF
      have hAi : (A : Int) ≤ (x.length : Int) := by omega
      clear hF hA q1 q2 hrd hfr hsc hk hlt
      by_cases hcA : c = A
      · rw [if_pos hcA] at HF
        have hx0 : x.length - A = 0 := by omega
        have hc0 : c - A = 0 := by omega
        rw [hx0, hc0] at HF
        gi_wp2_with fail
        refine ⟨trivial, ?_⟩
        refine (callsIn_wide.2 HF.out).mono ?_
        rintro e w0 ⟨rfl, rfl⟩
        gi_wp2_with fail
        refine ⟨fun f h => (by cases h), ?_⟩
        gi_wp2_with fail
        refine bodyPost_ret (results_none rfl _ _ _) rfl ?_
        exact ⟨⟨_, rfl⟩, .inl HJ.out⟩
      · rw [if_neg hcA] at HF
        gi_wp2_with first
          | (refine ⟨trivial, ?_⟩; refine (callsIn_wide.2 HF.out).mono ?_; rintro e w0 ⟨rfl, rfl⟩)
        refine ⟨fun f h => (by cases h), ?_⟩
        gi_wp2_with fail
        refine bodyPost_ret (results_none rfl _ _ _) rfl ?_
        exact ⟨⟨_, rfl⟩, .inl HJ.out⟩
end Go.Proofs.Ytbjdbphnccdpbaa
