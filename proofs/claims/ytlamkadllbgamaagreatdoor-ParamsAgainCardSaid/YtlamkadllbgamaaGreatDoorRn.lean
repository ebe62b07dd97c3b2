/-
  A region that draws its order: still operations in any order up to a gate, the gate (a call), and so on; at last still ones in any order.
-/
import Derived.StillTailTactics
set_option linter.unusedVariables false
set_option linter.unusedSimpArgs false
namespace Go.Proofs.YtlamkadllbgamaaGreatDoor.Rn
open Go

section
variable {P : Program} {ops : Array Oper} {md : Region.Mode} {w : World} {Q : Exit → Act → World → Prop}
/-- The first k are done. -/
def upTo (m k : Nat) : Array Bool := (Array.range m).map fun i => decide (i < k)
theorem upTo_size (m k : Nat) : (upTo m k).size = m := by simp [upTo]
theorem upTo_get (m k i : Nat) (b : Bool) : (upTo m k).getD i b = if i < m then decide (i < k) else b := by
  unfold upTo
  by_cases h : i < m
  · simp [h]
  · simp [h]
/-- How many of the first n are not done. -/
def cnt (n : Nat) (listed : Array Bool) : Nat := (List.range n).countP fun i => !listed.getD i true
theorem cnt_one {α : Type} [DecidableEq α] (p q : α → Bool) (x : α) : ∀ (l : List α), l.Nodup → x ∈ l → p x = true → q x = false → (∀ y, y ≠ x → q y = p y) → l.countP q + 1 = l.countP p
  | a :: t, hn, hx, hp, hq, he => by
    have hn' := List.nodup_cons.1 hn
    by_cases h : a = x
    · subst h
      have : t.countP q = t.countP p := List.countP_congr fun y hy => by rw [he y (fun e => hn'.1 (e ▸ hy))]
      rw [List.countP_cons_of_neg (by simp [hq]), List.countP_cons_of_pos hp, this]
    · have ih := cnt_one p q x t hn'.2 ((List.mem_cons.1 hx).resolve_left (Ne.symm h)) hp hq he
      rw [List.countP_cons, List.countP_cons, he a h]
      omega
theorem set_get {listed : Array Bool} {i : Nat} (hi : i < listed.size) (j : Nat) : (listed.setIfInBounds i true).getD j true = if i = j then true else listed.getD j true := by
  by_cases h : i = j
  · subst h; simp [hi]
  · rw [if_neg h]; exact getD_set_ne true h
theorem cnt_set {n i : Nat} {listed : Array Bool} (hi : i < n) (hs : i < listed.size) (hu : listed.getD i true = false) : cnt n (listed.setIfInBounds i true) + 1 = cnt n listed :=
  cnt_one _ _ i _ List.nodup_range (List.mem_range.2 hi) (by simp [hu]) (by simp only [set_get hs, if_true, Bool.not_true]) (fun y hy => by simp only [set_get hs]; rw [if_neg (Ne.symm hy)])
/-- The check: edges lead down, guards too; what is ahead of the gate is waited for by something up to the gate, what is behind it by something from the gate on. -/
def gateB (md : Region.Mode) (ops : Array Oper) (n : Nat) : Bool :=
  (decide (n < ops.size) && (List.range (n + 1)).all fun i => match ops[i]? with
    | some o => (o.after.all fun e => !Region.binds md e || decide (e.on < i)) && (match o.guard with | some g => decide (g.1 < n) | none => true)
    | none => false) &&
  ((List.range n).all fun i => (List.range (n + 1)).any fun j => decide (i < j) && Region.waitsFor md ops j i) &&
  ((List.range ops.size).all fun t => decide (t ≤ n) || (List.range t).any fun j => decide (n ≤ j) && Region.waitsFor md ops t j)
structure Gate (md : Region.Mode) (ops : Array Oper) (n : Nat) : Prop where
  lt : n < ops.size
  low : ∀ i o, i ≤ n → ops[i]? = some o → ∀ e ∈ o.after, Region.binds md e = true → e.on < i
  grd : ∀ i o, i ≤ n → ops[i]? = some o → ∀ g, o.guard = some g → g.1 < n
  sink : ∀ i, i < n → ∃ j, i < j ∧ j ≤ n ∧ Region.waitsFor md ops j i = true
  tail : ∀ t, n < t → t < ops.size → ∃ j, n ≤ j ∧ j < t ∧ Region.waitsFor md ops t j = true
theorem gate_of {n : Nat} (h : gateB md ops n = true) : Gate md ops n := by
  unfold gateB at h
  simp only [Bool.and_eq_true, decide_eq_true_eq, List.all_eq_true, List.mem_range, Bool.or_eq_true, List.any_eq_true] at h
  obtain ⟨⟨⟨h1, h2⟩, h3⟩, h4⟩ := h
  refine ⟨h1, fun i o hi ho e he hb => ?_, fun i o hi ho g hg => ?_, fun i hi => ?_, fun t ht ht' => ?_⟩
  · have := h2 i (by omega)
    rw [ho] at this
    simp only [Bool.and_eq_true] at this
    have h5 := Array.all_eq_true_iff_forall_mem.1 this.1 e he
    rw [hb] at h5
    simpa using h5
  · have := h2 i (by omega)
    rw [ho] at this
    simp only [Bool.and_eq_true] at this
    have h5 := this.2
    rw [hg] at h5
    simpa using h5
  · obtain ⟨j, hj, h5, h6⟩ := h3 i hi
    exact ⟨j, h5, by omega, h6⟩
  · rcases h4 t ht' with h5 | ⟨j, hj, h5, h6⟩
    · omega
    · exact ⟨j, h5, hj, h6⟩
/-- What holds on the way. -/
structure Inv (md : Region.Mode) (ops : Array Oper) (n : Nat) (listed : Array Bool) : Prop where
  size : listed.size = ops.size
  closed : ∀ j oj, ops[j]? = some oj → listed.getD j true = true → j < ops.size → ∀ e ∈ oj.after, Region.binds md e = true → listed.getD e.on false = true
  tail : ∀ t, n ≤ t → t < ops.size → listed.getD t true = false
theorem get_tf {listed : Array Bool} {i : Nat} (h : listed.getD i true = false) : listed.getD i false = false := by
  by_cases hi : i < listed.size
  · simpa [hi] using h
  · simp [hi]
theorem get_ft {listed : Array Bool} {i : Nat} (h : listed.getD i false = true) : listed.getD i true = true := by
  by_cases hi : i < listed.size
  · simpa [hi] using h
  · simp [hi] at h
theorem not_ready {n : Nat} {listed : Array Bool} (hG : Gate md ops n) (hI : Inv md ops n listed) : ∀ (d i : Nat), n - i = d → i < n → listed.getD i true = false → n ∉ Region.ready md ops listed := by
  intro d
  induction d using Nat.strongRecOn with
  | _ d ih =>
    intro i hd hi hu hr
    obtain ⟨j, hij, hjn, hw⟩ := hG.sink i hi
    obtain ⟨oj, hoj, e, he, hb, hon⟩ := Region.waitsFor_spec hw
    by_cases hj : j = n
    · subst hj
      obtain ⟨_, o, ho, hall⟩ := mem_ready.1 hr
      obtain rfl : oj = o := Option.some.inj (hoj.symm.trans ho)
      have := hall e he hb
      rw [hon, get_tf hu] at this
      cases this
    · cases hl : listed.getD j true with
      | false => exact ih (n - j) (by omega) j rfl (by omega) hl hr
      | true =>
        have := hI.closed j oj hoj hl (by have := hG.lt; omega) e he hb
        rw [hon, get_tf hu] at this
        cases this
theorem not_behind {n t : Nat} {listed : Array Bool} (hG : Gate md ops n) (hI : Inv md ops n listed) (ht : n < t) : t ∉ Region.ready md ops listed := fun hr => by
  obtain ⟨_, o, ho, hall⟩ := mem_ready.1 hr
  have htl := (Array.getElem?_eq_some_iff.1 ho).1
  obtain ⟨j, h1, h2, hw⟩ := hG.tail t ht htl
  obtain ⟨oj, hoj, e, he, hb, hon⟩ := Region.waitsFor_spec hw
  obtain rfl : oj = o := Option.some.inj (hoj.symm.trans ho)
  have := hall e he hb
  rw [hon, get_tf (hI.tail j h1 (by omega))] at this
  cases this
/-- The least that is not done may go. -/
theorem least_ready {n : Nat} {listed : Array Bool} (hG : Gate md ops n) : ∀ i, i ≤ n → listed.getD i true = false → ∃ j, j ≤ i ∧ j ∈ Region.ready md ops listed := by
  intro i
  induction i using Nat.strongRecOn with
  | _ i ih =>
    intro hi hu
    obtain ⟨o, ho⟩ : ∃ o, ops[i]? = some o := ⟨_, Array.getElem?_eq_getElem (by have := hG.lt; omega)⟩
    by_cases hx : ∃ j, j < i ∧ listed.getD j true = false
    · obtain ⟨j, hj, hju⟩ := hx
      obtain ⟨k, hk, hr⟩ := ih j hj (by omega) hju
      exact ⟨k, by omega, hr⟩
    · refine ⟨i, Nat.le_refl _, mem_ready.2 ⟨hu, o, ho, fun e he hb => ?_⟩⟩
      have h1 := hG.low i o hi ho e he hb
      have hsz : i < listed.size := by
        by_cases h : i < listed.size
        · exact h
        · simp [h] at hu
      cases h2 : listed.getD e.on false with
      | true => rfl
      | false => exact absurd ⟨e.on, h1, getD_in (by omega) h2⟩ hx
theorem inv_set {n i : Nat} {listed : Array Bool} (hI : Inv md ops n listed) (hr : i ∈ Region.ready md ops listed) (hi : i < n) : Inv md ops n (listed.setIfInBounds i true) := by
  obtain ⟨hu, o, ho, hall⟩ := mem_ready.1 hr
  have hil := (Array.getElem?_eq_some_iff.1 ho).1
  refine ⟨by simp [hI.size], fun j oj hj hl hjl e he hb => ?_, fun t h1 h2 => by rw [getD_set_ne true (by omega)]; exact hI.tail t h1 h2⟩
  by_cases hij : i = j
  · subst hij
    obtain rfl : o = oj := Option.some.inj (ho.symm.trans hj)
    exact getD_set_true (hall e he hb)
  · rw [getD_set_ne true hij] at hl
    exact getD_set_true (hI.closed j oj hj hl hjl e he hb)
theorem ex_get {n : Nat} {listed : Array Bool} (hn : n ≤ listed.size) {i : Nat} (hi : i < n) (b : Bool) : (listed.extract 0 n).getD i b = listed.getD i b := by
  have h1 : i < (listed.extract 0 n).size := by simp; omega
  have h2 : i < listed.size := by omega
  simp only [Array.getD, dif_pos h1, dif_pos h2, Array.getInternal_eq_getElem, Array.getElem_extract, Nat.zero_add]
theorem ex_ops {n i : Nat} (hi : i < n) : (ops.extract 0 n)[i]? = ops[i]? := by
  rw [Array.getElem?_extract]
  by_cases h : i < ops.size
  · rw [if_pos (by omega), Nat.zero_add]
  · rw [if_neg (by omega), Array.getElem?_eq_none (by omega)]
theorem ready_ex {n i : Nat} {listed : Array Bool} (hG : Gate md ops n) (hI : Inv md ops n listed) (hr : i ∈ Region.ready md ops listed) (hi : i < n) : i ∈ Region.ready md (ops.extract 0 n) (listed.extract 0 n) := by
  obtain ⟨hu, o, ho, hall⟩ := mem_ready.1 hr
  have hn : n ≤ listed.size := by rw [hI.size]; have := hG.lt; omega
  refine mem_ready.2 ⟨by rw [ex_get hn hi]; exact hu, o, by rw [ex_ops hi]; exact ho, fun e he hb => ?_⟩
  have h1 := hG.low i o (by omega) ho e he hb
  rw [ex_get hn (by omega)]
  exact hall e he hb
theorem wanted_ex {n i : Nat} {o : Oper} (hG : Gate md ops n) (hi : i < n) (ho : ops[i]? = some o) (a : Act) : Region.wanted o (yielded (ops.extract 0 n) a.tmps) = Region.wanted o (yielded ops a.tmps) := by
  unfold Region.wanted
  cases hg : o.guard with
  | none => rfl
  | some g =>
    have h1 := hG.grd i o (by omega) ho g hg
    obtain ⟨g1, g2⟩ := g
    have : yielded (ops.extract 0 n) a.tmps g1 = yielded ops a.tmps g1 := by
      unfold yielded
      rw [ex_ops h1]
    simp only [this]
/-- Still operations in any order, up to the gate. -/
theorem any_pre {n g : Nat} {L : Act → Prop} (hG : Gate md ops n) (hL : ∀ a, L a → wpAny P md ops Q g (upTo ops.size n) a w) :
    ∀ (f : Nat) (listed : Array Bool) (a : Act), cnt n listed = f → Inv md ops n listed → wpAnyS P md (ops.extract 0 n) w L f (listed.extract 0 n) a → wpAny P md ops Q (f + g) listed a w
  | 0, listed, a, hc, hI, h => by
    have : listed = upTo ops.size n := Array.ext (by rw [hI.size, upTo_size]) fun i h1 h2 => by
      have h3 : listed.getD i true = (upTo ops.size n).getD i true := by
        rw [upTo_get, if_pos (by rw [← hI.size]; exact h1)]
        by_cases hi : i < n
        · rw [decide_eq_true hi]
          have h4 := List.countP_eq_zero.1 hc i (List.mem_range.2 hi)
          simpa using h4
        · rw [decide_eq_false hi]
          exact hI.tail i (by omega) (by rw [← hI.size]; exact h1)
      simpa [h1, h2] using h3
    rw [this, Nat.zero_add]
    exact hL a h.2
  | f + 1, listed, a, hc, hI, h => by
    have hu : ∃ i, i < n ∧ listed.getD i true = false := by
      have : 0 < cnt n listed := by omega
      obtain ⟨i, hi, hp⟩ := List.countP_pos_iff.1 this
      exact ⟨i, List.mem_range.1 hi, by simpa using hp⟩
    obtain ⟨i0, hi0, hu0⟩ := hu
    rw [show f + 1 + g = (f + g) + 1 by omega]
    refine ⟨fun h0 => ?_, fun i hi => ?_⟩
    · obtain ⟨j, _, hj⟩ := least_ready hG i0 (by omega) hu0
      rw [h0] at hj
      cases hj
    · have hin : i < n := by
        rcases Nat.lt_trichotomy i n with h1 | h1 | h1
        · exact h1
        · subst h1; exact absurd hi (not_ready hG hI _ i0 rfl hi0 hu0)
        · exact absurd hi (not_behind hG hI h1)
      obtain ⟨hui, o, ho, _⟩ := mem_ready.1 hi
      have hil := (Array.getElem?_eq_some_iff.1 ho).1
      have h1 := h.2 i (ready_ex hG hI hi hin)
      have e1 : (listed.extract 0 n).setIfInBounds i true = (listed.setIfInBounds i true).extract 0 n := by
        apply Array.ext_getElem?
        intro j
        simp only [Array.getElem?_setIfInBounds, Array.getElem?_extract, Array.size_extract, Array.size_setIfInBounds, Nat.zero_add, Nat.sub_zero]
        repeat' split
        all_goals first | rfl | (exfalso; omega)
      rw [e1] at h1
      have h2 : stOp P ops w i (wpAnyS P md (ops.extract 0 n) w L f ((listed.setIfInBounds i true).extract 0 n)) a := by
        unfold stOp at h1 ⊢
        rw [ex_ops hin] at h1
        rw [ho] at h1 ⊢
        simp only at h1 ⊢
        rw [wanted_ex hG hin ho] at h1
        exact h1
      have hc2 := cnt_set hin (by rw [hI.size]; exact hil) hui
      exact wpOp_of_stOp (fun a' h' => any_pre hG hL f _ a' (by omega) (inv_set hI hi hin) h') h2
theorem cnt_upTo {m k n : Nat} (hk : k ≤ n) (hn : n ≤ m) : cnt n (upTo m k) = n - k := by
  unfold cnt
  have h1 : ∀ d, k ≤ d → d ≤ m → ((List.range d).countP fun i => !(upTo m k).getD i true) = d - k := by
    intro d
    induction d with
    | zero => intro h2 _; simp
    | succ d ih =>
      intro h2 h3
      rw [List.range_succ, List.countP_append]
      by_cases h4 : k ≤ d
      · rw [ih h4 (by omega)]
        have : (upTo m k).getD d true = false := by rw [upTo_get, if_pos (by omega)]; exact decide_eq_false (by omega)
        rw [List.countP_cons_of_pos (by simp only [this, Bool.not_false]), List.countP_nil]
        omega
      · have h5 : k = d + 1 := by omega
        have h6 : ∀ i ∈ List.range d, ¬ (!(upTo m k).getD i true) = true := fun i hi => by
          have := List.mem_range.1 hi
          rw [upTo_get]
          split
          · simp; omega
          · simp
        have h7 : ((List.range d).countP fun i => !(upTo m k).getD i true) = 0 := List.countP_eq_zero.2 h6
        have h8 : (upTo m k).getD d true = true := by rw [upTo_get]; split <;> simp; omega
        rw [h7, List.countP_cons_of_neg (by simp only [h8, Bool.not_true, Bool.false_eq_true, not_false_iff]), List.countP_nil]
        omega
  exact h1 n hk hn
/-- wpStill, shut: else each 'refine' lays all passed-over operations open. -/
structure WS (P : Program) (ops : Array Oper) (w : World) (Q : Act → Prop) (l : List Oper) (a : Act) : Prop where
  out : wpStill P ops w Q l a
theorem ws_one {Q : Act → Prop} {a : Act} {o : Oper} {rest : List Oper} (h : ∀ K : Act → Prop, (∀ a, WS P ops w Q rest a → K a) → if Region.wanted o (yielded ops a.tmps) then o.still P a w K else K (a.put o.dst undef)) : WS P ops w Q (o :: rest) a :=
  ⟨wpStill_step fun K hK => h K fun a ha => hK a ha.out⟩
theorem ws_nil {Q : Act → Prop} {a : Act} (h : Q a) : WS P ops w Q [] a := ⟨wpStill_nil h⟩
/-- The checks of a segment: the first k are done, the gate is n. -/
def segB (md : Region.Mode) (ops : Array Oper) (k n : Nat) : Bool :=
  gateB md ops n && decide (k ≤ n) && Region.noSelect (ops.extract 0 n) && Region.lexFrom md (ops.extract 0 n) (n - k) k ((upTo ops.size k).extract 0 n) &&
  ((List.range k).all fun i => match ops[i]? with
    | some o => o.after.all fun e => !Region.binds md e || decide (e.on < k)
    | none => true) && decide (Region.ready md ops (upTo ops.size n) = [n])
/-- The rest, from here on. -/
structure AnyFrom (P : Program) (md : Region.Mode) (ops : Array Oper) (Q : Exit → Act → World → Prop) (k : Nat) (a : Act) (w : World) : Prop where
  out : wpAny P md ops Q (ops.size - k) (upTo ops.size k) a w
/-- What is asked of the gate. -/
def GateK (P : Program) (md : Region.Mode) (ops : Array Oper) (Q : Exit → Act → World → Prop) (n : Nat) (w : World) (o : Oper) (a : Act) : Prop :=
  ∀ K : Act → World → Prop, (∀ a2 w2, AnyFrom P md ops Q (n + 1) a2 w2 → K a2 w2) →
    if Region.wanted o (yielded ops a.tmps) then o.wp P a w K Q ∨ (o.asks P a w ∧ LetsOut Q) else K (a.put o.dst undef) w
theorem any_seg {a : Act} {t : List Oper} {o : Oper} (k n : Nat) (hB : segB md t.toArray k n = true) (ho : t[n]? = some o)
    (h : WS P (t.take n).toArray w (GateK P md t.toArray Q n w o) ((t.take n).drop k) a) : AnyFrom P md t.toArray Q k a w := by
  obtain ⟨ops, hops⟩ : ∃ ops, t.toArray = ops := ⟨_, rfl⟩
  have ho' : ops[n]? = some o := by rw [← hops]; simpa using ho
  have htk : (t.take n).toArray = ops.extract 0 n := by rw [← hops]; simp
  rw [hops] at hB h ⊢
  rw [htk] at h
  simp only [segB, Bool.and_eq_true, decide_eq_true_eq] at hB
  obtain ⟨⟨⟨⟨⟨hg, hk⟩, hs⟩, hx⟩, hc⟩, hrn⟩ := hB
  have hG := gate_of hg
  have hlt := hG.lt
  have hln : ((t.take n).drop k).length = n - k := by
    have : ops.size = t.length := by rw [← hops]; simp
    simp
    omega
  have h1 := wpAnyS_lex (md := md) hs ((t.take n).drop k) k ((upTo ops.size k).extract 0 n) a (fun j => by
    rw [List.getElem?_drop, ← htk]
    simp) (by rw [hln]; exact hx) h.out
  rw [hln] at h1
  have hI : Inv md ops n (upTo ops.size k) := ⟨upTo_size _ _, fun j oj hj hl hjl e he hb => by
      rw [upTo_get, if_pos hjl, decide_eq_true_eq] at hl
      have h2 := List.all_eq_true.1 hc j (List.mem_range.2 hl)
      rw [hj] at h2
      have h3 := Array.all_eq_true_iff_forall_mem.1 h2 e he
      rw [hb] at h3
      simp only [Bool.not_true, Bool.false_or, decide_eq_true_eq] at h3
      rw [upTo_get, if_pos (by omega)]
      exact decide_eq_true h3, fun t h2 h3 => by
      rw [upTo_get, if_pos h3]
      exact decide_eq_false (by omega)⟩
  refine ⟨?_⟩
  have h4 := any_pre (P := P) (Q := Q) (w := w) (g := ops.size - n) hG (fun a' h' => ?_) (n - k) (upTo ops.size k) a (cnt_upTo hk (by omega)) hI h1
  · rw [show n - k + (ops.size - n) = ops.size - k by omega] at h4
    exact h4
  · rw [show ops.size - n = (ops.size - (n + 1)) + 1 by omega]
    refine ⟨fun h0 => (by rw [hrn] at h0; cases h0), fun i hi => ?_⟩
    rw [hrn] at hi
    obtain rfl : i = n := by simpa using hi
    have e1 : (upTo ops.size i).setIfInBounds i true = upTo ops.size (i + 1) := by
      apply Array.ext
      · simp [upTo_size]
      · intro j h5 h6
        have h7 : j < ops.size := by simpa [upTo_size] using h6
        rw [Array.getElem_setIfInBounds (by rw [upTo_size]; exact h7)]
        simp only [upTo, Array.getElem_map, Array.getElem_range]
        by_cases h8 : i = j
        · subst h8; simp
        · rw [if_neg h8]
          exact decide_eq_decide.2 (by omega)
    rw [e1]
    have h9 := h' (wpAny P md ops Q (ops.size - (i + 1)) (upTo ops.size (i + 1))) (fun a2 w2 h => h.out)
    unfold wpOp
    simp only [ho']
    exact h9
/-- The end: the rest is still, in any order. -/
def endB (md : Region.Mode) (ops : Array Oper) (k : Nat) : Bool := Region.noSelect ops && Region.lexFrom md ops (ops.size - k) k (upTo ops.size k)
theorem any_end {a : Act} {t : List Oper} (k : Nat) (hB : endB md t.toArray k = true) (h : WS P t.toArray w (fun a' => Q .normal a' w) (t.drop k) a) : AnyFrom P md t.toArray Q k a w := by
  simp only [endB, Bool.and_eq_true] at hB
  have hln : (t.drop k).length = t.toArray.size - k := by simp
  refine ⟨wpAny_of_still (Q := fun a' => Q .normal a' w) (fun _ h => h) _ _ _ ?_⟩
  have := wpAnyS_lex (md := md) hB.1 (t.drop k) k (upTo t.toArray.size k) a (fun j => by rw [List.getElem?_drop]; simp) (by rw [hln]; exact hB.2) h.out
  rw [hln] at this
  exact this
theorem region_any {id : Nat} {a : Act} {t : List Oper} (hm : P.follows .mixedOrders = true) (h : AnyFrom P .any t.toArray Q 0 a w.drew) : (Code.region id t.toArray true).wp P Q a w := by
  refine wp_region_any hm ?_
  have e : Array.replicate t.toArray.size false = upTo t.toArray.size 0 := by
    apply Array.ext
    · simp [upTo_size]
    · intro i h1 h2
      simp [upTo]
  rw [e]
  exact h.out
end
end Go.Proofs.YtlamkadllbgamaaGreatDoor.Rn
