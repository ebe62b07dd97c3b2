/-
  Expressions as trees: what an argument of type []Expr reads as.
-/
import Derived.Test.YtjnoomefppncoaaDoorLb
import Derived.Deep.Slices
import Derived.Deep.Fields
import Derived.SizedLaws
set_option linter.unusedVariables false
namespace Go.Proofs.YtjnoomefppncoaaDoor
open Go.RowKit Go.ChangeShapes Go.WideShapes Go.Deep

/-- An expression, as a tree. -/
inductive E where
  | mk (kind : Int) (text : ByteArray) (num : Int) (name attr : ByteArray) (list : List E)
def E.kind : E → Int | .mk k _ _ _ _ _ => k
def E.text : E → ByteArray | .mk _ t _ _ _ _ => t
def E.num : E → Int | .mk _ _ n _ _ _ => n
def E.name : E → ByteArray | .mk _ _ _ m _ _ => m
def E.attr : E → ByteArray | .mk _ _ _ _ a _ => a
def E.list : E → List E | .mk _ _ _ _ _ l => l
instance : Inhabited E := ⟨.mk 0 ⟨#[]⟩ 0 ⟨#[]⟩ ⟨#[]⟩ []⟩

/-- A slice of so many elements, at an address. -/
def slv (v : Value) (n : Nat) (a : Addr) (cap : Nat) : Prop := ∃ o, v = .slice o n cap ∧ n ≤ cap ∧ cap ≤ maxLen ∧ (0 < n → o = some a)
mutual
def isE (W : World) : E → Value → Prop
  | .mk k t n m a l, v => ∃ lv, v = .agg #[.int .i8 k, .string t, .int .i64 n, .string m, .string a, lv] ∧ (-128 ≤ k ∧ k ≤ 127) ∧ (-9223372036854775808 ≤ n ∧ n ≤ 9223372036854775807) ∧ t.size ≤ reachBytes ∧ m.size ≤ reachBytes ∧ a.size ≤ reachBytes ∧ (∃ ad cap, slv lv l.length ad cap ∧ isEs W l ad)
def isEs (W : World) : List E → Addr → Prop
  | [], _ => True
  | x :: t, a => (∃ c0 c1 c2 c3 c4 c5, W.cell? a = some c0 ∧ W.cell? (a.add 1) = some c1 ∧ W.cell? (a.add 2) = some c2 ∧ W.cell? (a.add 3) = some c3 ∧ W.cell? (a.add 4) = some c4 ∧ W.cell? (a.add 5) = some c5 ∧ isE W x (.agg #[c0, c1, c2, c3, c4, c5])) ∧ isEs W t (a.add 6)
end
mutual
theorem isE_keep {W W' : World} (hc : ∀ a c, W.cell? a = some c → W'.cell? a = some c) : ∀ (x : E) (v : Value), isE W x v → isE W' x v
  | .mk k t n m a l, v, h => by
    unfold isE at h ⊢
    obtain ⟨lv, h1, h2, h3, h4, h5, h6, ⟨ad, cap, h7, h8⟩⟩ := h
    exact ⟨lv, h1, h2, h3, h4, h5, h6, ⟨ad, cap, h7, isEs_keep hc l ad h8⟩⟩
theorem isEs_keep {W W' : World} (hc : ∀ a c, W.cell? a = some c → W'.cell? a = some c) : ∀ (l : List E) (a : Addr), isEs W l a → isEs W' l a
  | [], _, _ => by unfold isEs; trivial
  | x :: t, a, h => by
    unfold isEs at h ⊢
    obtain ⟨⟨c0, c1, c2, c3, c4, c5, g0, g1, g2, g3, g4, g5, hx⟩, ht⟩ := h
    exact ⟨⟨c0, c1, c2, c3, c4, c5, hc _ _ g0, hc _ _ g1, hc _ _ g2, hc _ _ g3, hc _ _ g4, hc _ _ g5, isE_keep hc x _ hx⟩, isEs_keep hc t _ ht⟩
end
theorem cell_below {W W' : World} (hb : Below W.heap.size W W') : ∀ a c, W.cell? a = some c → W'.cell? a = some c := fun a c h => by
  have hl := World.block_lt_of_cell? W a h
  exact (hb.cell (p := a) hl).trans h
theorem isE_below {W W' : World} (hb : Below W.heap.size W W') {x : E} {v : Value} (h : isE W x v) : isE W' x v := isE_keep (cell_below hb) x v h
theorem isEs_below {W W' : World} (hb : Below W.heap.size W W') {l : List E} {a : Addr} (h : isEs W l a) : isEs W' l a := isEs_keep (cell_below hb) l a h
theorem add_add (a : Addr) (i j : Nat) : (a.add i).add j = a.add (i + j) := by
  unfold Addr.add
  by_cases h1 : i = 0 <;> by_cases h2 : j = 0 <;> simp [h1, h2, Nat.add_assoc]
theorem isEs_get {W : World} : ∀ (l : List E) (a : Addr) (i : Nat) (h : i < l.length), isEs W l a →
    ∃ c0 c1 c2 c3 c4 c5, W.cell? (a.add (i * 6)) = some c0 ∧ W.cell? (a.add (i * 6 + 1)) = some c1 ∧ W.cell? (a.add (i * 6 + 2)) = some c2 ∧ W.cell? (a.add (i * 6 + 3)) = some c3 ∧ W.cell? (a.add (i * 6 + 4)) = some c4 ∧ W.cell? (a.add (i * 6 + 5)) = some c5 ∧ isE W l[i] (.agg #[c0, c1, c2, c3, c4, c5])
  | x :: t, a, 0, _, h => by
    unfold isEs at h
    obtain ⟨⟨c0, c1, c2, c3, c4, c5, g0, g1, g2, g3, g4, g5, hx⟩, ht⟩ := h
    have e : a.add 0 = a := by simp [Addr.add]
    refine ⟨c0, c1, c2, c3, c4, c5, ?_, ?_, ?_, ?_, ?_, ?_, hx⟩
    all_goals simp only [Nat.zero_mul, Nat.zero_add, e]; assumption
  | x :: t, a, i + 1, hi, h => by
    unfold isEs at h
    obtain ⟨_, ht⟩ := h
    obtain ⟨c0, c1, c2, c3, c4, c5, g0, g1, g2, g3, g4, g5, hx⟩ := isEs_get t (a.add 6) i (by simpa using hi) ht
    simp only [add_add] at g0 g1 g2 g3 g4 g5
    refine ⟨c0, c1, c2, c3, c4, c5, ?_, ?_, ?_, ?_, ?_, ?_, hx⟩
    · rw [show (i + 1) * 6 = 6 + i * 6 by omega]; exact g0
    · rw [show (i + 1) * 6 + 1 = 6 + (i * 6 + 1) by omega]; exact g1
    · rw [show (i + 1) * 6 + 2 = 6 + (i * 6 + 2) by omega]; exact g2
    · rw [show (i + 1) * 6 + 3 = 6 + (i * 6 + 3) by omega]; exact g3
    · rw [show (i + 1) * 6 + 4 = 6 + (i * 6 + 4) by omega]; exact g4
    · rw [show (i + 1) * 6 + 5 = 6 + (i * 6 + 5) by omega]; exact g5
theorem add_succ (a : Addr) (i j : Nat) (hj : j ≠ 0) : a.add (i + j) = ⟨(a.add i).block, (a.add i).off + j, none⟩ := by
  rw [← add_add]
  show (if j = 0 then a.add i else { a.add i with off := (a.add i).off + j, spot := none }) = _
  rw [if_neg hj]
/-- The six cells of an element, as a load reads them. -/
theorem isEs_at {W : World} (l : List E) (a : Addr) (i : Nat) (h : i < l.length) (hs : isEs W l a) :
    ∃ c0 c1 c2 c3 c4 c5, W.cell? (a.add (i * 6)) = some c0 ∧ W.cell? ⟨(a.add (i * 6)).block, (a.add (i * 6)).off + 1, none⟩ = some c1 ∧ W.cell? ⟨(a.add (i * 6)).block, (a.add (i * 6)).off + 2, none⟩ = some c2 ∧ W.cell? ⟨(a.add (i * 6)).block, (a.add (i * 6)).off + 3, none⟩ = some c3 ∧ W.cell? ⟨(a.add (i * 6)).block, (a.add (i * 6)).off + 4, none⟩ = some c4 ∧ W.cell? ⟨(a.add (i * 6)).block, (a.add (i * 6)).off + 5, none⟩ = some c5 ∧ isE W l[i] (.agg #[c0, c1, c2, c3, c4, c5]) := by
  obtain ⟨c0, c1, c2, c3, c4, c5, g0, g1, g2, g3, g4, g5, hx⟩ := isEs_get l a i h hs
  rw [add_succ _ _ _ (by decide)] at g1 g2 g3 g4 g5
  exact ⟨c0, c1, c2, c3, c4, c5, g0, g1, g2, g3, g4, g5, hx⟩
theorem isEs_of {W : World} : ∀ (l : List E) (a : Addr), (∀ i (h : i < l.length), ∃ c0 c1 c2 c3 c4 c5, W.cell? (a.add (i * 6)) = some c0 ∧ W.cell? (a.add (i * 6 + 1)) = some c1 ∧ W.cell? (a.add (i * 6 + 2)) = some c2 ∧ W.cell? (a.add (i * 6 + 3)) = some c3 ∧ W.cell? (a.add (i * 6 + 4)) = some c4 ∧ W.cell? (a.add (i * 6 + 5)) = some c5 ∧ isE W l[i] (.agg #[c0, c1, c2, c3, c4, c5])) → isEs W l a
  | [], _, _ => by unfold isEs; trivial
  | x :: t, a, h => by
    unfold isEs
    have e : a.add 0 = a := by simp [Addr.add]
    refine ⟨?_, isEs_of t (a.add 6) (fun i hi => ?_)⟩
    · obtain ⟨c0, c1, c2, c3, c4, c5, g0, g1, g2, g3, g4, g5, hx⟩ := h 0 (by simp)
      simp only [Nat.zero_mul, Nat.zero_add, e] at g0 g1 g2 g3 g4 g5
      exact ⟨c0, c1, c2, c3, c4, c5, g0, g1, g2, g3, g4, g5, hx⟩
    · obtain ⟨c0, c1, c2, c3, c4, c5, g0, g1, g2, g3, g4, g5, hx⟩ := h (i + 1) (by simpa using hi)
      refine ⟨c0, c1, c2, c3, c4, c5, ?_, ?_, ?_, ?_, ?_, ?_, hx⟩
      · rw [add_add, show 6 + i * 6 = (i + 1) * 6 by omega]; exact g0
      · rw [add_add, show 6 + (i * 6 + 1) = (i + 1) * 6 + 1 by omega]; exact g1
      · rw [add_add, show 6 + (i * 6 + 2) = (i + 1) * 6 + 2 by omega]; exact g2
      · rw [add_add, show 6 + (i * 6 + 3) = (i + 1) * 6 + 3 by omega]; exact g3
      · rw [add_add, show 6 + (i * 6 + 4) = (i + 1) * 6 + 4 by omega]; exact g4
      · rw [add_add, show 6 + (i * 6 + 5) = (i + 1) * 6 + 5 by omega]; exact g5
theorem list_of {α : Type} [Inhabited α] (n : Nat) (P : Nat → α → Prop) (h : ∀ i, i < n → ∃ x, P i x) : ∃ l : List α, l.length = n ∧ ∀ i (hi : i < l.length), P i l[i] := by
  induction n with
  | zero => exact ⟨[], rfl, fun i hi => absurd hi (by simp)⟩
  | succ n ih =>
    obtain ⟨l, hl, hp⟩ := ih (fun i hi => h i (by omega))
    obtain ⟨x, hx⟩ := h n (by omega)
    refine ⟨l ++ [x], by simp [hl], fun i hi => ?_⟩
    by_cases e : i < l.length
    · rw [List.getElem_append_left e]; exact hp i e
    · have : i = l.length := by simp at hi; omega
      subst this
      rw [List.getElem_append_right (Nat.le_refl _)]
      simp only [Nat.sub_self, List.getElem_cons_zero]
      rw [hl]; exact hx

theorem weightsAll_mem {H : Type} {P : Program} {e : TypeId} : ∀ {l : List (DataW H)} {d : DataW H}, d ∈ l → ∀ n ∈ d.weights P e, n ∈ DataW.weightsAll P e l
  | [], _, h => by cases h
  | y :: t, d, h => fun n hn => by
    simp only [DataW.weightsAll, List.mem_append]
    rcases List.mem_cons.1 h with rfl | h
    · exact .inl hn
    · exact .inr (weightsAll_mem h n hn)
theorem fieldsE : ∃ fs, Tryd.prog.underlying 36 = some (.struct fs) ∧ oneCellFields Tryd.prog fs = true ∧ fs.size = 6 ∧ fs.toList.map (·.type) = [34, 9, 3, 9, 9, 23] :=
  ⟨_, Tryd.underlying36, by kernel_rfl, by kernel_rfl, by kernel_rfl⟩

set_option maxRecDepth 100000 in
set_option maxHeartbeats 2000000 in
theorem open_val {H : Type} {enc : TypeId × Value → H} {w : World} {base : Nat} {spare : Nat → Bool} {held : Bool} (N : Nat) : ∀ (fuel : Nat) (cs : List Value) (x : DataW H × List MemPlace), fuel ≤ N → DataW.trod enc Tryd.prog w base spare held fuel 36 cs = some x → (∀ n ∈ x.1.weights Tryd.prog 36, n ≤ reachBytes) → ∃ X, isE w X (.agg cs.toArray) := by
  induction N with
  | zero =>
    intro fuel cs x hN h
    obtain ⟨xs, n, hf, _⟩ := DataW.trod_struct Tryd.underlying36 h
    omega
  | succ N ih =>
    intro fuel cs x hN h hwt
    obtain ⟨fs, hu, h1c, hsz, hty⟩ := fieldsE
    obtain ⟨xs, n, hfu, hx, hlen, hxl, hf⟩ := DataW.trod_struct hu h
    have hone := hone_of h1c
    have h6 : cs.length = 6 := hlen.trans (by kernel_rfl)
    have hg : ∀ (i t : Nat) (c : Value), [34, 9, 3, 9, 9, 23][i]? = some t → cs[i]? = some c → ∃ y, DataW.trod enc Tryd.prog w base spare held n t [c] = some y ∧ ∀ q ∈ y.1.weights Tryd.prog t, q ≤ reachBytes := fun i t c ht hc => by
      have ht0 := ht
      rw [← hty, List.getElem?_map] at ht
      obtain ⟨f, hfi, rfl⟩ := Option.map_eq_some_iff.1 ht
      have hfi' : fs[i]? = some f := by rw [← Array.getElem?_toList]; exact hfi
      have e1 := hf i f hfi'
      obtain ⟨ho, hk⟩ := hone i f hfi'
      rw [ho, hk] at e1
      have hil := (List.getElem?_eq_some_iff.1 hc).1
      rw [List.drop_eq_getElem_cons hil, (List.getElem?_eq_some_iff.1 hc).2] at e1
      have hxi : i < xs.length := by
        rw [hxl]; exact (Array.getElem?_eq_some_iff.1 hfi').1
      refine ⟨xs[i], by rw [List.getElem?_eq_getElem hxi] at e1; exact e1, fun q hq => hwt q ?_⟩
      rw [hx]
      simp only [DataW.weights, hu, hty]
      exact DataW.weights_mem_each ht0 (by rw [List.getElem?_map, List.getElem?_eq_getElem hxi]; rfl) q hq
    match cs, h6 with
    | [c0, c1, c2, c3, c4, c5], _ =>
      obtain ⟨y0, e0, w0⟩ := hg 0 _ c0 rfl rfl
      obtain ⟨y1, e1, w1⟩ := hg 1 _ c1 rfl rfl
      obtain ⟨y2, e2, w2⟩ := hg 2 _ c2 rfl rfl
      obtain ⟨y3, e3, w3⟩ := hg 3 _ c3 rfl rfl
      obtain ⟨y4, e4, w4⟩ := hg 4 _ c4 rfl rfl
      obtain ⟨y5, e5, w5⟩ := hg 5 _ c5 rfl rfl
      obtain ⟨k, hk, _, wk⟩ := DataW.trod_int Tryd.underlying34 e0
      obtain ⟨t, ht, rfl, wt⟩ := DataW.trod_string Tryd.underlying9 e1
      obtain ⟨m, hm, _, wm⟩ := DataW.trod_int Tryd.underlying3 e2
      obtain ⟨s, hs, rfl, ws⟩ := DataW.trod_string Tryd.underlying9 e3
      obtain ⟨r, hr, rfl, wr⟩ := DataW.trod_string Tryd.underlying9 e4
      obtain rfl : c0 = .int .i8 k := by simpa using hk
      obtain rfl : c1 = .string t := by simpa using ht
      obtain rfl : c2 = .int .i64 m := by simpa using hm
      obtain rfl : c3 = .string s := by simpa using hs
      obtain rfl : c4 = .string r := by simpa using hr
      have hk2 : -128 ≤ k ∧ k ≤ 127 := by simp [Lit.wf, IntKind.min, IntKind.max, IntKind.bits, IntKind.signed] at wk; omega
      have hm2 : -9223372036854775808 ≤ m ∧ m ≤ 9223372036854775807 := by simp [Lit.wf, IntKind.min, IntKind.max, IntKind.bits, IntKind.signed] at wm; omega
      have st : t.size ≤ reachBytes := by have := w1 t.data.toList.length (by simp [DataW.weights]); rwa [toList_length] at this
      have ss : s.size ≤ reachBytes := by have := w3 s.data.toList.length (by simp [DataW.weights]); rwa [toList_length] at this
      have sr : r.size ≤ reachBytes := by have := w4 r.data.toList.length (by simp [DataW.weights]); rwa [toList_length] at this
      have hL : ∃ (l : List E) (a : Addr) (cap : Nat), slv c5 l.length a cap ∧ isEs w l a := by
        rcases DataW.trod_slice Tryd.underlying23 e5 with ⟨h0, _⟩ | ⟨a, len, cap, elems, rest, n', hn', h0, hy5, _, hlc, hcm, hel, hall, _⟩
        · exact ⟨[], ⟨0, 0, none⟩, 0, ⟨none, by simpa using h0, Nat.le_refl _, by unfold maxLen; omega, fun h => absurd h (by decide)⟩, by unfold isEs; trivial⟩
        · obtain ⟨l, hl, hp⟩ := list_of len (fun i X => ∃ c0 c1 c2 c3 c4 c5, w.cell? (a.add (i * 6)) = some c0 ∧ w.cell? (a.add (i * 6 + 1)) = some c1 ∧ w.cell? (a.add (i * 6 + 2)) = some c2 ∧ w.cell? (a.add (i * 6 + 3)) = some c3 ∧ w.cell? (a.add (i * 6 + 4)) = some c4 ∧ w.cell? (a.add (i * 6 + 5)) = some c5 ∧ isE w X (.agg #[c0, c1, c2, c3, c4, c5])) (fun i hi => by
            have hi2 := hall i hi
            rw [List.getElem?_eq_getElem (by omega)] at hi2
            obtain ⟨ds, hd1, hd2⟩ := Option.bind_eq_some_iff.1 hi2
            rw [show Tryd.prog.cellsOf 36 = 6 by kernel_rfl] at hd1
            obtain ⟨_, hdl, hdc⟩ := World.cells?_some hd1
            obtain ⟨X, hX⟩ := ih n' ds _ (by omega) hd2 (fun q hq => w5 q (by
              rw [hy5]
              simp only [DataW.weights, Tryd.underlying23, List.mem_cons, List.mem_append]
              exact .inr (.inl (weightsAll_mem (List.mem_map.2 ⟨_, List.getElem_mem _, rfl⟩) q hq))))
            match ds, hdl with
            | [d0, d1, d2, d3, d4, d5], _ =>
              have g0 := hdc 0 (by omega)
              have g1 := hdc 1 (by omega)
              have g2 := hdc 2 (by omega)
              have g3 := hdc 3 (by omega)
              have g4 := hdc 4 (by omega)
              have g5 := hdc 5 (by omega)
              rw [add_add] at g0 g1 g2 g3 g4 g5
              exact ⟨X, d0, d1, d2, d3, d4, d5, g0, g1, g2, g3, g4, g5, hX⟩)
          subst hl
          exact ⟨l, a, cap, ⟨some a, by simpa using h0, hlc, hcm, fun _ => rfl⟩, isEs_of l a hp⟩
      obtain ⟨l, a, cap, hl1, hl2⟩ := hL
      refine ⟨.mk k t m s r l, ?_⟩
      unfold isE
      exact ⟨c5, rfl, hk2, hm2, st, ss, sr, ⟨a, cap, hl1, hl2⟩⟩

set_option maxHeartbeats 1000000 in
/-- An argument of type []Expr. -/
theorem open_arg_e {H : Type} {enc : TypeId × Value → H} {r : Reach} {b0 : Nat} {w : World} {base : Nat} {spare : Nat → Bool} {held : Bool} {v : Value} {d : DataW H} {ps : List MemPlace} (hv : Value.okWide Tryd.prog w r b0 23 v) (h : DataW.Trod enc Tryd.prog w base spare held 23 v d ps) (hwt : ∀ n ∈ d.weights Tryd.prog 23, n ≤ reachBytes) : ∃ l : List E, ∃ a cap, slv v l.length a cap ∧ isEs w l a := by
  obtain ⟨o, n0, c0, rfl⟩ := okWide_slice Tryd.underlying23 hv
  obtain ⟨fuel, hf⟩ := h
  have e4 : DataW.trod enc Tryd.prog w base spare held fuel 23 [.slice o n0 c0] = some (d, ps) := by simpa [Value.cells] using hf
  rcases DataW.trod_slice Tryd.underlying23 e4 with ⟨h0, _⟩ | ⟨a, len, cap, elems, rest, n', hn', h0, hy5, _, hlc, hcm, hel, hall, _⟩
  · exact ⟨[], ⟨0, 0, none⟩, 0, ⟨none, by simpa using h0, Nat.le_refl _, by unfold maxLen; omega, fun h => absurd h (by decide)⟩, by unfold isEs; trivial⟩
  · obtain ⟨l, hl, hp⟩ := list_of len (fun i X => ∃ c0 c1 c2 c3 c4 c5, w.cell? (a.add (i * 6)) = some c0 ∧ w.cell? (a.add (i * 6 + 1)) = some c1 ∧ w.cell? (a.add (i * 6 + 2)) = some c2 ∧ w.cell? (a.add (i * 6 + 3)) = some c3 ∧ w.cell? (a.add (i * 6 + 4)) = some c4 ∧ w.cell? (a.add (i * 6 + 5)) = some c5 ∧ isE w X (.agg #[c0, c1, c2, c3, c4, c5])) (fun i hi => by
      have hi2 := hall i hi
      rw [List.getElem?_eq_getElem (by omega)] at hi2
      obtain ⟨ds, hd1, hd2⟩ := Option.bind_eq_some_iff.1 hi2
      rw [show Tryd.prog.cellsOf 36 = 6 by kernel_rfl] at hd1
      obtain ⟨_, hdl, hdc⟩ := World.cells?_some hd1
      obtain ⟨X, hX⟩ := open_val _ n' ds _ (Nat.le_refl _) hd2 (fun q hq => hwt q (by
        have hd : d = .slice (elems.map (·.1)) (rest.map (·.1)) := congrArg Prod.fst hy5
        rw [hd]
        simp only [DataW.weights, Tryd.underlying23, List.mem_cons, List.mem_append]
        exact .inr (.inl (weightsAll_mem (List.mem_map.2 ⟨_, List.getElem_mem _, rfl⟩) q hq))))
      match ds, hdl with
      | [d0, d1, d2, d3, d4, d5], _ =>
        have g0 := hdc 0 (by omega)
        have g1 := hdc 1 (by omega)
        have g2 := hdc 2 (by omega)
        have g3 := hdc 3 (by omega)
        have g4 := hdc 4 (by omega)
        have g5 := hdc 5 (by omega)
        rw [add_add] at g0 g1 g2 g3 g4 g5
        exact ⟨X, d0, d1, d2, d3, d4, d5, g0, g1, g2, g3, g4, g5, hX⟩)
    subst hl
    exact ⟨l, a, cap, ⟨some a, by simpa using h0, hlc, hcm, fun _ => rfl⟩, isEs_of l a hp⟩
end Go.Proofs.YtjnoomefppncoaaDoor
