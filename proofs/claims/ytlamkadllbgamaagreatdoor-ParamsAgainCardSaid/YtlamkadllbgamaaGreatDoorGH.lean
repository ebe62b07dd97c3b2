/-
  The program's sorted.
-/
import Derived.Test.YtlamkadllbgamaaGreatDoorGG
import Derived.Test.YtlamkadllbgamaaGreatDoorGD
import Derived.Deep.RegionWith
set_option linter.unusedVariables false
set_option linter.unusedSimpArgs false
namespace Go.Proofs.YtlamkadllbgamaaGreatDoor
open Go.RowKit Go.Shelf

/-- The second is the first, sorted at every depth. -/
inductive SortR : V → V → Prop
  | mk (k : Int) (b : Bool) (n : Int) (s : ByteArray) (l : List V) (ks : List ByteArray) (l' : List V) (ks' : List ByteArray) (ps : List Nat) (ho : isOrd (.mk k b n s l ks) ps) (hl : l'.length = ps.length)
      (hs : ∀ i (h : i < l'.length), SortR (l.getD (ps.getD i 0) default) l'[i]) (hk : ks' = if k = 5 then ps.map (fun p => ks.getD p ⟨#[]⟩) else ks) : SortR (.mk k b n s l ks) (.mk k b n s l' ks')

theorem getD_lt {α : Type} (l : List α) (i : Nat) (d : α) (h : i < l.length) : l.getD i d = l[i] := by
  rw [List.getD, List.getElem?_eq_getElem h]; rfl
/-- What lies there throughout: the value's box, the result's cell, the places. -/
def FX (w : World) (cs zs : Array Value) (gP : Nat) (ps : List Nat) (wr : World) : Prop :=
  Below w.heap.size w wr ∧ wr.heap[w.heap.size]? = some (.cells cs 33 (0, 0)) ∧ wr.heap[w.heap.size + 1]? = some (.cells zs 33 (0, 0)) ∧ ∀ j (hj : j < ps.length), wr.cell? ⟨gP, j, none⟩ = some (.int .i64 ps[j])
theorem FX.grown {w wr wr' : World} {cs zs : Array Value} {gP : Nat} {ps : List Nat} {row : Option Nat} (h : FX w cs zs gP ps wr) (hg : wr.grownBy wr' row) (hr : ∀ r, row = some r → w.heap.size + 1 < r ∧ r ≠ gP) : FX w cs zs gP ps wr' := by
  obtain ⟨h1, h2, h3, h4⟩ := h
  refine ⟨h1.grown hg h1.size (fun r e => by have := hr r e; omega), ?_, ?_, fun j hj => hg.cell (h4 j hj) (fun e => (hr _ e.symm).2 rfl)⟩
  · exact (hg.block _ (Array.getElem?_eq_some_iff.1 h2).1 (fun e => by have := hr _ e.symm; omega)).trans h2
  · exact (hg.block _ (Array.getElem?_eq_some_iff.1 h3).1 (fun e => by have := hr _ e.symm; omega)).trans h3
/-- A list's row of the call's own, of which so many parts are set. -/
def LR (B : Nat → Prop) (l : List V) (ps : List Nat) (gL cap : Nat) (j : Nat) (wr : World) : Prop :=
  0 < l.length → ∃ f, wr.rowIs gL 33 (cap * 6) f ∧ ∀ i, i < j → ∃ y, SortR (l.getD (ps.getD i 0) default) y ∧ isVa wr B y (.agg #[f (i * 6), f (i * 6 + 1), f (i * 6 + 2), f (i * 6 + 3), f (i * 6 + 4), f (i * 6 + 5)])
/-- The keys' row. -/
def KR (k : Int) (ks : List ByteArray) (ps : List Nat) (gK cap : Nat) (j : Nat) (wr : World) : Prop :=
  0 < ks.length → ∃ f, wr.rowIs gK 9 cap f ∧ if k = 5 then ∀ i, i < j → f i = .string (ks.getD (ps.getD i 0) ⟨#[]⟩) else ∀ i, i < ks.length → f i = .string (ks.getD i ⟨#[]⟩)
theorem rowIs_grown {w w' : World} {b n : Nat} {t : TypeId} {f : Nat → Value} {row : Option Nat} (h : w.rowIs b t n f) (hg : w.grownBy w' row) (hb : some b ≠ row) : w'.rowIs b t n f := h.of_block (hg.block b h.lt hb)
theorem LR.grown {B : Nat → Prop} {l : List V} {ps : List Nat} {gL cap j : Nat} {wr wr' : World} {row : Option Nat} (h : LR B l ps gL cap j wr) (hg : wr.grownBy wr' row) (hr : some gL ≠ row) (hB : ∀ q, B q → some q ≠ row) : LR B l ps gL cap j wr' := fun h0 => by
  obtain ⟨f, h1, h2⟩ := h h0
  refine ⟨f, rowIs_grown h1 hg hr, fun i hi => ?_⟩
  obtain ⟨y, hy, hv⟩ := h2 i hi
  exact ⟨y, hy, isVa_grown hg hB hv⟩
theorem KR.grown {k : Int} {ks : List ByteArray} {ps : List Nat} {gK cap j : Nat} {wr wr' : World} {row : Option Nat} (h : KR k ks ps gK cap j wr) (hg : wr.grownBy wr' row) (hr : some gK ≠ row) : KR k ks ps gK cap j wr' := fun h0 => by
  obtain ⟨f, h1, h2⟩ := h h0
  exact ⟨f, rowIs_grown h1 hg hr, h2⟩
theorem store_row {w : World} {b n : Nat} {t : TypeId} {f : Nat → Value} (h : w.rowIs b t n f) (i : Nat) (hi : i < n) (v : Value) (hv : v.oneCell' = true) : (store ⟨b, i, none⟩ v).run Tryz.prog w = .ok () (w.setCell ⟨b, i, none⟩ v) := by
  rw [run_store _ _ _ _ _ hv, h.cell hi]
  simp [h.frozen i]
theorem grown_set (W : World) (b i : Nat) (v : Value) : W.grownBy (W.setCell ⟨b, i, none⟩ v) (some b) :=
  ⟨rfl, rfl, rfl, by simp, fun k _ hne => Deep.blk_setCell_other _ _ _ _ (fun e => hne (by rw [e]))⟩
theorem grown_trans {a b c : World} {row : Option Nat} (h : a.grownBy b row) (k : b.grownBy c row) : a.grownBy c row :=
  World.grownBy.andThen h k (fun j e => .inr e)
/-- A struct of six cells is stored into a row: cell by cell. -/
theorem store_six {w : World} {b n : Nat} {t : TypeId} {f : Nat → Value} (h : w.rowIs b t n f) (p : Nat) (hp : p + 5 < n) (c0 c1 c2 c3 c4 c5 : Value) (hc : ∀ u ∈ [c0, c1, c2, c3, c4, c5], u.oneCell' = true) :
    ∃ w1 w2 w3 w4 w5 w6 f', ((∃ u, w.cell? ⟨b, p, none⟩ = some u) ∧ w.frozen? ⟨b, p, none⟩ = false ∧ w.setCell ⟨b, p, none⟩ c0 = w1) ∧ ((∃ u, w1.cell? ⟨b, p + 1, none⟩ = some u) ∧ w1.frozen? ⟨b, p + 1, none⟩ = false ∧ w1.setCell ⟨b, p + 1, none⟩ c1 = w2) ∧ ((∃ u, w2.cell? ⟨b, p + 2, none⟩ = some u) ∧ w2.frozen? ⟨b, p + 2, none⟩ = false ∧ w2.setCell ⟨b, p + 2, none⟩ c2 = w3) ∧ ((∃ u, w3.cell? ⟨b, p + 3, none⟩ = some u) ∧ w3.frozen? ⟨b, p + 3, none⟩ = false ∧ w3.setCell ⟨b, p + 3, none⟩ c3 = w4) ∧ ((∃ u, w4.cell? ⟨b, p + 4, none⟩ = some u) ∧ w4.frozen? ⟨b, p + 4, none⟩ = false ∧ w4.setCell ⟨b, p + 4, none⟩ c4 = w5) ∧ ((∃ u, w5.cell? ⟨b, p + 5, none⟩ = some u) ∧ w5.frozen? ⟨b, p + 5, none⟩ = false ∧ w5.setCell ⟨b, p + 5, none⟩ c5 = w6) ∧
      w6.rowIs b t n f' ∧ w.grownBy w6 (some b) ∧ f' p = c0 ∧ f' (p + 1) = c1 ∧ f' (p + 2) = c2 ∧ f' (p + 3) = c3 ∧ f' (p + 4) = c4 ∧ f' (p + 5) = c5 ∧ ∀ i, i < p → f' i = f i := by
  have h1 := h.set p c0
  have h2 := h1.set (p + 1) c1
  have h3 := h2.set (p + 2) c2
  have h4 := h3.set (p + 3) c3
  have h5 := h4.set (p + 4) c4
  have h6 := h5.set (p + 5) c5
  refine ⟨_, _, _, _, _, _, _, ⟨⟨_, h.cell (show p < n by omega)⟩, h.frozen _, rfl⟩, ⟨⟨_, h1.cell (show p + 1 < n by omega)⟩, h1.frozen _, rfl⟩, ⟨⟨_, h2.cell (show p + 2 < n by omega)⟩, h2.frozen _, rfl⟩, ⟨⟨_, h3.cell (show p + 3 < n by omega)⟩, h3.frozen _, rfl⟩, ⟨⟨_, h4.cell (show p + 4 < n by omega)⟩, h4.frozen _, rfl⟩, ⟨⟨_, h5.cell (show p + 5 < n by omega)⟩, h5.frozen _, rfl⟩, h6, ?_, ?_, ?_, ?_, ?_, ?_, ?_, ?_⟩
  · exact grown_trans (grown_trans (grown_trans (grown_trans (grown_trans (grown_set _ _ _ _) (grown_set _ _ _ _)) (grown_set _ _ _ _)) (grown_set _ _ _ _)) (grown_set _ _ _ _)) (grown_set _ _ _ _)
  all_goals try (simp; done)
  intro i hi
  rw [if_neg (by omega), if_neg (by omega), if_neg (by omega), if_neg (by omega), if_neg (by omega), if_neg (by omega)]
theorem rowIs_six {w : World} {b : Nat} {c0 c1 c2 c3 c4 c5 : Value} {t : TypeId} (h : w.heap[b]? = some (.cells #[c0, c1, c2, c3, c4, c5] t (0, 0))) : w.rowIs b t 6 (fun i => (#[c0, c1, c2, c3, c4, c5][i]?).getD undef) :=
  ⟨_, h, rfl, fun i hi => by
    match i, hi with
    | 0, _ => rfl
    | 1, _ => rfl
    | 2, _ => rfl
    | 3, _ => rfl
    | 4, _ => rfl
    | 5, _ => rfl⟩
/-- Two fields of a struct in a block are set. -/
theorem box_set {w : World} {b : Nat} {c0 c1 c2 c3 c4 c5 : Value} {t : TypeId} (u4 u5 : Value) (h : w.heap[b]? = some (.cells #[c0, c1, c2, c3, c4, c5] t (0, 0))) :
    ∃ y1 y2, ((∃ u, w.cell? ⟨b, 4, none⟩ = some u) ∧ w.frozen? ⟨b, 4, none⟩ = false ∧ w.setCell ⟨b, 4, none⟩ u4 = y1) ∧ ((∃ u, y1.cell? ⟨b, 5, none⟩ = some u) ∧ y1.frozen? ⟨b, 5, none⟩ = false ∧ y1.setCell ⟨b, 5, none⟩ u5 = y2) ∧
      y2.heap[b]? = some (.cells #[c0, c1, c2, c3, u4, u5] t (0, 0)) ∧ w.grownBy y2 (some b) := by
  have h1 : (w.setCell ⟨b, 4, none⟩ u4).heap[b]? = some (.cells #[c0, c1, c2, c3, u4, c5] t (0, 0)) := by simp [World.setCell, Array.getElem?_modify, h]
  have h2 : ((w.setCell ⟨b, 4, none⟩ u4).setCell ⟨b, 5, none⟩ u5).heap[b]? = some (.cells #[c0, c1, c2, c3, u4, u5] t (0, 0)) := by
    generalize w.setCell ⟨b, 4, none⟩ u4 = y at h1
    simp [World.setCell, Array.getElem?_modify, h1]
  have g1 := rowIs_six h
  have g2 := rowIs_six h1
  exact ⟨_, _, ⟨⟨_, g1.cell (show 4 < 6 by decide)⟩, g1.frozen _, rfl⟩, ⟨⟨_, g2.cell (show 5 < 6 by decide)⟩, g2.frozen _, rfl⟩, h2, grown_trans (grown_set _ _ _ _) (grown_set _ _ _ _)⟩
/-- A row that was cloned. -/
theorem clone_row {w : World} {base n sz : Nat} {e : TypeId} {v : Value} {xs : List Value} (h : w.ownsRow base e sz v n xs) : ∃ o g cap, v = .slice o n cap ∧ n ≤ cap ∧ cap ≤ maxLen ∧ (0 < n → o = some ⟨g, 0, none⟩ ∧ base ≤ g ∧ g < w.heap.size ∧ ∃ f, w.rowIs g e (cap * sz) f ∧ ∀ j u, xs[j]? = some u → f j = u) := by
  obtain ⟨h1, ⟨rfl, rfl⟩ | ⟨g, cap, cur, rfl, q2, q3, q4, q5, q6, q7⟩⟩ := h
  · exact ⟨none, 0, 0, rfl, Nat.le_refl _, Nat.zero_le _, fun h => absurd h (by omega)⟩
  · refine ⟨_, g, cap, rfl, q4, q5, fun _ => ⟨rfl, q2, (Array.getElem?_eq_some_iff.1 q3).1, fun i => (cur[i]?).getD undef, ⟨cur, q3, q6, fun i hi => ?_⟩, fun j u hj => ?_⟩⟩
    · have hi2 : i < cur.size := by omega
      simp [hi2]
    · rw [← q7, List.getElem?_take] at hj
      split at hj
      · rw [Array.getElem?_toList] at hj
        show (cur[j]?).getD undef = u
        rw [hj]; rfl
      · cases hj

/-- The cells of a list of values, one behind the other. -/
theorem cells_of {W : World} : ∀ (l : List V) (a : Addr), isVs W l a → ∃ news : List Value, news.length = l.length * 6 ∧ (∀ j u, news[j]? = some u → W.cell? (a.add j) = some u) ∧ (∀ u ∈ news, u.oneCell' = true)
  | [], a, _ => ⟨[], rfl, (fun j u h => by simp at h), (fun u h => by simp at h)⟩
  | x :: t, a, h => by
    unfold isVs at h
    obtain ⟨⟨c0, c1, c2, c3, c4, c5, g0, g1, g2, g3, g4, g5, hx⟩, ht⟩ := h
    obtain ⟨news, h1, h2, h3⟩ := cells_of t (a.add 6) ht
    refine ⟨c0 :: c1 :: c2 :: c3 :: c4 :: c5 :: news, by simp only [List.length_cons]; omega, fun j u hj => ?_, fun u hu => ?_⟩
    · match j, hj with
      | 0, hj => cases hj; simpa [Addr.add] using g0
      | 1, hj => cases hj; exact g1
      | 2, hj => cases hj; exact g2
      | 3, hj => cases hj; exact g3
      | 4, hj => cases hj; exact g4
      | 5, hj => cases hj; exact g5
      | j + 6, hj =>
        have := h2 j u (by simpa using hj)
        rw [add_add, show 6 + j = j + 6 by omega] at this
        exact this
    · rcases List.mem_append.1 (show u ∈ [c0, c1, c2, c3, c4, c5] ++ news from hu) with hu | hu
      · exact isV_one hx u hu
      · exact h3 u hu

theorem isVas_get {W : World} {B : Nat → Prop} : ∀ (l : List V) (a : Addr) (i : Nat) (h : i < l.length), isVas W B l a →
    ∃ c0 c1 c2 c3 c4 c5, W.cell? (a.add (i * 6)) = some c0 ∧ W.cell? (a.add (i * 6 + 1)) = some c1 ∧ W.cell? (a.add (i * 6 + 2)) = some c2 ∧ W.cell? (a.add (i * 6 + 3)) = some c3 ∧ W.cell? (a.add (i * 6 + 4)) = some c4 ∧ W.cell? (a.add (i * 6 + 5)) = some c5 ∧ isVa W B l[i] (.agg #[c0, c1, c2, c3, c4, c5])
  | x :: t, a, 0, _, h => by
    unfold isVas at h
    obtain ⟨⟨c0, c1, c2, c3, c4, c5, g0, g1, g2, g3, g4, g5, hx⟩, ht⟩ := h
    have e : a.add 0 = a := by simp [Addr.add]
    refine ⟨c0, c1, c2, c3, c4, c5, ?_, ?_, ?_, ?_, ?_, ?_, hx⟩
    all_goals simp only [Nat.zero_mul, Nat.zero_add, e]; assumption
  | x :: t, a, i + 1, hi, h => by
    unfold isVas at h
    obtain ⟨_, ht⟩ := h
    obtain ⟨c0, c1, c2, c3, c4, c5, g0, g1, g2, g3, g4, g5, hx⟩ := isVas_get t (a.add 6) i (by simpa using hi) ht
    simp only [add_add] at g0 g1 g2 g3 g4 g5
    refine ⟨c0, c1, c2, c3, c4, c5, ?_, ?_, ?_, ?_, ?_, ?_, hx⟩
    · rw [show (i + 1) * 6 = 6 + i * 6 by omega]; exact g0
    · rw [show (i + 1) * 6 + 1 = 6 + (i * 6 + 1) by omega]; exact g1
    · rw [show (i + 1) * 6 + 2 = 6 + (i * 6 + 2) by omega]; exact g2
    · rw [show (i + 1) * 6 + 3 = 6 + (i * 6 + 3) by omega]; exact g3
    · rw [show (i + 1) * 6 + 4 = 6 + (i * 6 + 4) by omega]; exact g4
    · rw [show (i + 1) * 6 + 5 = 6 + (i * 6 + 5) by omega]; exact g5
/-- An element's cells, written out, and the value that they are. -/
theorem isVas_sl {W : World} {B : Nat → Prop} (l : List V) (a : Addr) (i : Nat) (h : i < l.length) (hs : isVas W B l a) :
    ∃ (k : Int) (b : Bool) (n : Int) (s : ByteArray) (o : Option Addr) (m c : Nat) (o2 : Option Addr) (m2 c2 : Nat), W.cell? (a.add (i * 6)) = some (.int .i8 k) ∧ W.cell? ⟨(a.add (i * 6)).block, (a.add (i * 6)).off + 1, none⟩ = some (.bool b) ∧ W.cell? ⟨(a.add (i * 6)).block, (a.add (i * 6)).off + 2, none⟩ = some (.int .i64 n) ∧ W.cell? ⟨(a.add (i * 6)).block, (a.add (i * 6)).off + 3, none⟩ = some (.string s) ∧ W.cell? ⟨(a.add (i * 6)).block, (a.add (i * 6)).off + 4, none⟩ = some (.slice o m c) ∧ W.cell? ⟨(a.add (i * 6)).block, (a.add (i * 6)).off + 5, none⟩ = some (.slice o2 m2 c2) ∧ isVa W B l[i] (.agg #[.int .i8 k, .bool b, .int .i64 n, .string s, .slice o m c, .slice o2 m2 c2]) := by
  obtain ⟨c0, c1, c2, c3, c4, c5, g0, g1, g2, g3, g4, g5, hx⟩ := isVas_get l a i h hs
  rw [add_succ _ _ _ (by decide)] at g1 g2 g3 g4 g5
  obtain ⟨k, b, n, s, o, m, c, o2, m2, p2, he⟩ := isV_six (isV_of_a _ _ hx)
  cases he
  exact ⟨_, _, _, _, _, _, _, _, _, _, g0, g1, g2, g3, g4, g5, hx⟩
theorem isVas_mk {W : World} {B : Nat → Prop} : ∀ (l : List V) (a : Addr), (∀ i (h : i < l.length), ∃ c0 c1 c2 c3 c4 c5, W.cell? (a.add (i * 6)) = some c0 ∧ W.cell? (a.add (i * 6 + 1)) = some c1 ∧ W.cell? (a.add (i * 6 + 2)) = some c2 ∧ W.cell? (a.add (i * 6 + 3)) = some c3 ∧ W.cell? (a.add (i * 6 + 4)) = some c4 ∧ W.cell? (a.add (i * 6 + 5)) = some c5 ∧ isVa W B l[i] (.agg #[c0, c1, c2, c3, c4, c5])) → isVas W B l a
  | [], _, _ => by unfold isVas; trivial
  | x :: t, a, h => by
    unfold isVas
    have e : a.add 0 = a := by simp [Addr.add]
    refine ⟨?_, isVas_mk t (a.add 6) (fun i hi => ?_)⟩
    · obtain ⟨c0, c1, c2, c3, c4, c5, g0, g1, g2, g3, g4, g5, hx⟩ := h 0 (by simp)
      simp only [Nat.zero_mul, Nat.zero_add, e] at g0 g1 g2 g3 g4 g5
      exact ⟨c0, c1, c2, c3, c4, c5, g0, g1, g2, g3, g4, g5, hx⟩
    · obtain ⟨c0, c1, c2, c3, c4, c5, g0, g1, g2, g3, g4, g5, hx⟩ := h (i + 1) (by simpa using hi)
      refine ⟨c0, c1, c2, c3, c4, c5, ?_, ?_, ?_, ?_, ?_, ?_, hx⟩
      · rw [add_add, show 6 + i * 6 = (i + 1) * 6 by omega]; exact g0
      · rw [add_add, show 6 + (i * 6 + 1) = (i + 1) * 6 + 1 by omega]; exact g1
      · rw [add_add, show 6 + (i * 6 + 2) = (i + 1) * 6 + 2 by omega]; exact g2
      · rw [add_add, show 6 + (i * 6 + 3) = (i + 1) * 6 + 3 by omega]; exact g3
      · rw [add_add, show 6 + (i * 6 + 4) = (i + 1) * 6 + 4 by omega]; exact g4
      · rw [add_add, show 6 + (i * 6 + 5) = (i + 1) * 6 + 5 by omega]; exact g5
theorem add_offs (g n : Nat) : (⟨g, 0, none⟩ : Addr).add n = ⟨g, n, none⟩ := by
  unfold Addr.add
  by_cases h : n = 0 <;> simp [h]
/-- One more part is set. -/
theorem LR.step {B : Nat → Prop} {l : List V} {ps : List Nat} {gL cap j : Nat} {w w' w2 : World} {f f' : Nat → Value} {y : V} (hold : ∀ i, i < j → ∃ y, SortR (l.getD (ps.getD i 0) default) y ∧ isVa w B y (.agg #[f (i * 6), f (i * 6 + 1), f (i * 6 + 2), f (i * 6 + 3), f (i * 6 + 4), f (i * 6 + 5)]))
    (hb : Below w.heap.size w w') (hg : w'.grownBy w2 (some gL)) (hB : ∀ q, B q → q ≠ gL) (hr : w2.rowIs gL 33 (cap * 6) f') (he : ∀ i, i < j * 6 → f' i = f i) (hs : SortR (l.getD (ps.getD j 0) default) y) (hv : isVa w' B y (.agg #[f' (j * 6), f' (j * 6 + 1), f' (j * 6 + 2), f' (j * 6 + 3), f' (j * 6 + 4), f' (j * 6 + 5)])) : LR B l ps gL cap (j + 1) w2 := fun _ => by
  refine ⟨f', hr, fun i hi => ?_⟩
  by_cases e : i = j
  · subst e
    exact ⟨y, hs, isVa_grown hg (fun q hq e => hB q hq (Option.some.inj e)) hv⟩
  · obtain ⟨z, hz, hvz⟩ := hold i (by omega)
    refine ⟨z, hz, ?_⟩
    rw [he _ (by omega), he _ (by omega), he _ (by omega), he _ (by omega), he _ (by omega), he _ (by omega)]
    exact isVa_grown hg (fun q hq e => hB q hq (Option.some.inj e)) (isVa_grown (grown_bel hb) (fun q hq e => by cases e) hvz)
theorem walk_part {x y : V} {l : List V} (hy : y ∈ l) (hx : x.list = l) : ∀ z ∈ walkV y, z ∈ walkV x := by
  subst hx
  obtain ⟨k, b, n, s, l, ks⟩ := x
  have : ∀ (l : List V), y ∈ l → ∀ z ∈ walkV y, z ∈ walkVs l := by
    intro l
    induction l with
    | nil => intro h; cases h
    | cons a t ih =>
      intro h z hz
      rw [walkVs]
      rcases List.mem_cons.1 h with rfl | h
      · exact List.mem_append.2 (.inl hz)
      · exact List.mem_append.2 (.inr (ih h z hz))
  intro z hz
  rw [walkV]
  exact List.mem_cons_of_mem _ (this l hy z hz)

set_option maxRecDepth 100000 in
set_option maxHeartbeats 8000000 in
theorem psorted_any : ∀ (N : Nat) (x : V) (v : Value) (w : World) (B : Nat → Prop), sizeV x ≤ N → N ≤ 1000000 → fineV x → okV x → isVa w B x v → (∀ q, B q → q < w.heap.size) →
    Calls Tryz.prog 92 #[v] w fun e w' => ∃ y v', e = .returned v' ∧ SortR x y ∧ isVa w' (fun q => B q ∨ w.heap.size ≤ q) y v' ∧ Below w.heap.size w w'
  | 0, x, v, w, B, hN, _, _, _, h, _ => absurd (sizeV_pos x) (by omega)
  | N + 1, x, v, w, B, hN, hM, hF, hok, ha, hBq => by
    have h := isV_of_a x v ha
    have HX := Lib.hid h
    obtain ⟨kk, b, n, s, l, ks⟩ := x
    unfold isVa at ha
    obtain ⟨lv, kv, rfl, hkk, hn, hs, ⟨a, cap, ⟨o, rfl, hc1, hc2, ho⟩, hBa, hvas⟩, ⟨a2, cap2, ⟨o2, rfl, hc3, hc4, ho2⟩, hBk, hks⟩⟩ := ha
    have hvs := isVs_of_a l a hvas
    have HVA := Lib.hid hvas
    have HBA := Lib.hid (And.intro hBa hBk)
    have HMK := Lib.hid (And.intro hkk (And.intro hn hs))
    unfold maxLen at hs hc2 hc4
    have hll : l.length ≤ 1000000 := by have := sizeVs_len l; rw [sizeV] at hN; omega
    have hkl : ks.length ≤ 3000 := hF (.mk kk b n s l ks) (by rw [walkV]; exact List.mem_cons_self)
    obtain ⟨news, hw1, hw2, hw3⟩ := cells_of l a hvs
    have CL : Hid (∀ w1, KB w w1 → Calls Tryz.prog 61 #[.slice o l.length cap] w1 fun e w' => ∃ v', e = .returned v' ∧ w'.ownsRow w1.heap.size 33 6 v' l.length news ∧ Below w1.heap.size w1 w') := Lib.hid fun w1 hK => cloneV_any o a l.length cap ho hll news w1 hw1 (fun j u h => cell_below hK _ _ (hw2 j u h)) hw3
    have CK : Hid (∀ w1, KB w w1 → Calls Tryz.prog 62 #[.slice o2 ks.length cap2] w1 fun e w' => ∃ v', e = .returned v' ∧ w'.ownsRow w1.heap.size 9 1 v' ks.length (ks.map Value.string) ∧ Below w1.heap.size w1 w') := Lib.hid fun w1 hK => cloneS_any o2 a2 ks.length cap2 ho2 (by omega) (ks.map Value.string) w1 (by simp) (fun j u h => by
      rw [List.getElem?_map] at h
      obtain ⟨z, hz, rfl⟩ := Option.map_eq_some_iff.1 h
      obtain ⟨hj, rfl⟩ := List.getElem?_eq_some_iff.1 hz
      exact cell_below hK _ _ (hks j hj).1) (fun u hu => by obtain ⟨z, _, rfl⟩ := List.mem_map.1 hu; rfl)
    have CO : Hid (∀ w1, KB w w1 → Calls Tryz.prog 102 #[.agg #[.int .i8 kk, .bool b, .int .i64 n, .string s, .slice o l.length cap, .slice o2 ks.length cap2]] w1 fun e w' => ∃ (g : Nat) (ps : List Nat), e = .returned (.slice (some ⟨g, 0, none⟩) l.length l.length) ∧ w1.heap.size ≤ g ∧ isOrd (.mk kk b n s l ks) ps ∧ (∀ j (hj : j < ps.length), w'.cell? ⟨g, j, none⟩ = some (.int .i64 ps[j])) ∧ Below w1.heap.size w1 w') := Lib.hid fun w1 hK => order_any (.mk kk b n s l ks) _ w1 hll (by unfold okV at hok; exact hok.1) (isV_below hK HX.out)
    have hB0 : KB w ((w.alloc (.cells #[.int .i8 kk, .bool b, .int .i64 n, .string s, .slice o l.length cap, .slice o2 ks.length cap2] 33)).alloc (.cells #[.int .i8 0, .bool false, .int .i64 0, .string ⟨#[]⟩, .slice none 0 0, .slice none 0 0] 33)) := by unfold KB; go_grown
    have bX : ((w.alloc (.cells #[.int .i8 kk, .bool b, .int .i64 n, .string s, .slice o l.length cap, .slice o2 ks.length cap2] 33)).alloc (.cells #[.int .i8 0, .bool false, .int .i64 0, .string ⟨#[]⟩, .slice none 0 0, .slice none 0 0] 33)).heap[w.heap.size]? = some (.cells #[.int .i8 kk, .bool b, .int .i64 n, .string s, .slice o l.length cap, .slice o2 ks.length cap2] 33 (0, 0)) := (Below.heap_alloc _ _ _ (by simp)).trans (World.alloc_heap_new w _)
    have bR := World.alloc_heap_new (w.alloc (.cells #[.int .i8 kk, .bool b, .int .i64 n, .string s, .slice o l.length cap, .slice o2 ks.length cap2] 33)) (.cells #[.int .i8 0, .bool false, .int .i64 0, .string ⟨#[]⟩, .slice none 0 0, .slice none 0 0] 33)
    have hsz : ((w.alloc (.cells #[.int .i8 kk, .bool b, .int .i64 n, .string s, .slice o l.length cap, .slice o2 ks.length cap2] 33)).alloc (.cells #[.int .i8 0, .bool false, .int .i64 0, .string ⟨#[]⟩, .slice none 0 0, .slice none 0 0] 33)).heap.size = w.heap.size + 2 := by simp
    rw [World.size_alloc] at bR
    have HV := Lib.hid hvs
    have HKS := Lib.hid hks
    have HOO := Lib.hid ho2
    have hF0 := Lib.hid hF
    have hok0 : Hid (okVs l) := Lib.hid (by unfold okV at hok; exact hok.2)
    clear hvs hks hw1 hw2 hw3 hkk hn ho2 hvas hBa hBk h
    go_enter Tryz.func92, Tryz.ntmps92
    go_wp2_with fail
    generalize hW1 : (w.alloc (.cells #[.int .i8 kk, .bool b, .int .i64 n, .string s, .slice o l.length cap, .slice o2 ks.length cap2] 33)).alloc (.cells #[.int .i8 0, .bool false, .int .i64 0, .string ⟨#[]⟩, .slice none 0 0, .slice none 0 0] 33) = W1 at *
    clear hW1
    obtain ⟨r0, r1, r2, r3, r4, r5⟩ := six_cells bX
    go_region_with (first
      | (go_at_call 61; refine (CL.out _ ?_).mono ?_; exact hB0.drew; rintro e w3 ⟨lv, rfl, hol, hb3⟩; have r5 := cell_below hb3 _ _ (show W1.drew.cell? ⟨w.heap.size, 5, none⟩ = _ from r5))
      | (go_at_call 62; refine (CK.out _ ?_).mono ?_; exact hB0.drew.trans (hb3.mono hB0.drew.size); rintro e w4 ⟨kv, rfl, hok4, hb4⟩))
    all_goals
      obtain ⟨ol, gL, capL, rfl, cl1, cl2, hL⟩ := clone_row hol
      obtain ⟨okk, gK, capK, rfl, cq1, cq2, hK⟩ := clone_row hok4
      have hbW3 : Below W1.heap.size W1 w3 := below_drew_of hb3
      have hb14 : Below W1.heap.size W1 w4 := hbW3.trans (hb4.mono hbW3.size)
      have bX4 := (hb14.block w.heap.size (by omega)).trans bX
      have bR4 := (hb14.block (w.heap.size + 1) (by omega)).trans bR
      have hz3 := hbW3.size
      have hz4 := hb4.size
      obtain ⟨r0, r1, r2, r3, r4, r5'⟩ := six_cells bX4
      have hB4 : KB w w4 := hB0.trans (hb14.mono hB0.size)
      have HL := Lib.hid hL
      have HK := Lib.hid hK
      have HB4 := Lib.hid hb4
      have BX4 := Lib.hid bX4
      have BR4 := Lib.hid bR4
      unfold maxLen at cl2 cq2
      clear hol hok4 hb3 hL hK bX bR r5 hb14 hbW3 hb4 bX4 bR4
      go_wp2_with fail
      refine (CO.out _ hB4).mono ?_
      clear CO CL CK r0 r1 r2 r3 r4 r5'
      rintro e w5 ⟨gP, ps, rfl, hgP, hord, hpl, hb5⟩
      have hps : ps.length = l.length := by have := hord.1.length_eq; simpa [V.list] using this
      have HORD := Lib.hid hord
      have hplw := Lib.hid hpl
      clear hord hpl
      go_wp2_with fail
      have hz5 := hb5.size
      have hfx : FX w #[.int .i8 kk, .bool b, .int .i64 n, .string s, .slice o l.length cap, .slice o2 ks.length cap2] #[.int .i8 0, .bool false, .int .i64 0, .string ⟨#[]⟩, .slice none 0 0, .slice none 0 0] gP ps w5 := ⟨hB4.trans (hb5.mono hB4.size), (hb5.block w.heap.size (by omega)).trans BX4.out, (hb5.block (w.heap.size + 1) (by omega)).trans BR4.out, hplw.out⟩
      have HFX := Lib.hid hfx
      have hlr : LR (fun q => B q ∨ w5.heap.size ≤ q) l ps gL capL 0 w5 := fun h0 => by
        obtain ⟨_, _, _, f, h4, _⟩ := HL.out h0
        exact ⟨f, rowIs_grown (rowIs_grown h4 (grown_bel HB4.out) (by simp)) (grown_bel hb5) (by simp), fun i hi => absurd hi (by omega)⟩
      have hkr : KR kk ks ps gK capK 0 w5 := fun h0 => by
        obtain ⟨_, _, _, f, h4, h5⟩ := HK.out h0
        rw [Nat.mul_one] at h4
        refine ⟨f, rowIs_grown h4 (grown_bel hb5) (by simp), ?_⟩
        split
        · exact fun i hi => absurd hi (by omega)
        · intro i hi
          rw [h5 i (.string (ks.getD i ⟨#[]⟩)) (by rw [List.getElem?_map, List.getElem?_eq_getElem hi]; simp [hi])]
      have HLR := Lib.hid hlr
      have HKR := Lib.hid hkr
      have HQ : Hid ((0 < l.length → ol = some ⟨gL, 0, none⟩ ∧ w.heap.size + 1 < gL ∧ gL ≠ gP ∧ gL < w3.heap.size) ∧ (0 < ks.length → okk = some ⟨gK, 0, none⟩ ∧ w.heap.size + 1 < gK ∧ gK ≠ gP ∧ w3.heap.size ≤ gK ∧ gK < w4.heap.size)) := Lib.hid ⟨fun h0 => by
        obtain ⟨h1, h2, h3, _⟩ := HL.out h0
        have h2' : W1.heap.size ≤ gL := h2
        exact ⟨h1, by omega, by omega, h3⟩, fun h0 => by
        obtain ⟨h1, h2, h3, _⟩ := HK.out h0
        exact ⟨h1, by omega, by omega, h2, h3⟩⟩
      have HZ5 : Hid (w.heap.size ≤ w5.heap.size ∧ w3.heap.size ≤ w4.heap.size ∧ w4.heap.size ≤ w5.heap.size) := Lib.hid ⟨by omega, by omega, by omega⟩
      clear hfx hlr hkr HL HK HB4 BX4 BR4 hplw hb5 hB4
      go_loopw [16] (fun i wr => ∃ j : Nat, j ≤ l.length ∧ i = .int .i64 j ∧ Hid (FX w #[.int .i8 kk, .bool b, .int .i64 n, .string s, .slice o l.length cap, .slice o2 ks.length cap2] #[.int .i8 0, .bool false, .int .i64 0, .string ⟨#[]⟩, .slice none 0 0, .slice none 0 0] gP ps wr ∧ w5.heap.size ≤ wr.heap.size) ∧ Hid (LR (fun q => B q ∨ w5.heap.size ≤ q) l ps gL capL j wr) ∧ Hid (KR kk ks ps gK capK j wr)) (fun i _ => l.length - (intOf i).toNat)
      case atStart => exact ⟨0, by omega, rfl, Lib.hid ⟨HFX.out, Nat.le_refl _⟩, HLR, HKR⟩
      case round =>
        obtain ⟨j, hj, rfl, hF, hLR, hKR⟩ := hrel
        by_cases hlt : j < l.length
        · obtain rfl := ho (by omega)
          obtain ⟨rfl, hg1, hg2, hg3⟩ := HQ.out.1 (by omega)
          have hpj : ps.getD j 0 < l.length := by
            have h1 : ps[j]'(by omega) ∈ ps := List.getElem_mem _
            have h2 := (HORD.out.1.mem_iff.1 h1)
            rw [getD_lt _ _ _ (by omega)]
            simpa [V.list] using h2
          have cp := hF.out.1.2.2.2 j (by omega)
          rw [show ps[j]'(by omega) = ps.getD j 0 from by rw [getD_lt _ _ _ (by omega)]] at cp
          obtain ⟨b0, b1, b2, b3, b4, b5⟩ := six_cells hF.out.1.2.1
          obtain ⟨k', b', n', s', o1, m1, p1, o3, m3, p3, g0, g1, g2, g3, g4, g5, hxe⟩ := isVas_sl l a (ps.getD j 0) hpj HVA.out
          have e0 := cell_below hF.out.1.1 _ _ g0
          have e1 := cell_below hF.out.1.1 _ _ g1
          have e2 := cell_below hF.out.1.1 _ _ g2
          have e3 := cell_below hF.out.1.1 _ _ g3
          have e4 := cell_below hF.out.1.1 _ _ g4
          have e5 := cell_below hF.out.1.1 _ _ g5
          have hzr := hF.out.1.1.size
          have HI := Lib.hid (psorted_any N l[ps.getD j 0] _ wr B (by have := sizeVs_get l _ hpj; rw [sizeV] at hN; omega) (by omega) (fun z hz => hF0.out z (walk_part (List.getElem_mem hpj) rfl z hz)) (okVs_get l _ hpj hok0.out) (isVa_keep (fun q c _ hc => cell_below hF.out.1.1 _ _ hc) _ _ hxe) (fun q hq => by have := hBq q hq; omega))
          have HGD : Hid (l[ps.getD j 0] = l.getD (ps.getD j 0) default) := Lib.hid (by rw [getD_lt _ _ _ hpj])
          clear g0 g1 g2 g3 g4 g5 hxe
          generalize l[ps.getD j 0] = xe at *
          obtain ⟨pj, hpje⟩ : ∃ pj, ps.getD j 0 = pj := ⟨_, rfl⟩
          rw [hpje] at cp e0 e1 e2 e3 e4 e5 hpj HGD
          have HPJ := Lib.hid hpje
          clear hpje
          go_wp2_with fail
          refine HI.out.mono ?_
          clear HI cp e0 e1 e2 e3 e4 e5 b0 b1 b2 b3 b4 b5
          rintro e w6 ⟨y, v6, rfl, hsr, hva, hb6⟩
          obtain ⟨k6, b6, n6, s6, o6, m6, p6, o7, m7, p7, rfl⟩ := isV_six (isV_of_a _ _ hva)
          obtain ⟨f, hf1, hf2⟩ := hLR.out (by omega)
          have hf6 := rowIs_grown hf1 (grown_bel hb6) (by simp)
          obtain ⟨x1, x2, x3, x4, x5, x6, f', ⟨⟨_, q1⟩, q1', q1''⟩, ⟨⟨_, q2⟩, q2', q2''⟩, ⟨⟨_, q3⟩, q3', q3''⟩, ⟨⟨_, q4⟩, q4', q4''⟩, ⟨⟨_, q5⟩, q5', q5''⟩, ⟨⟨_, q6⟩, q6', q6''⟩, hf7, hg7, e0, e1, e2, e3, e4, e5, hold⟩ := store_six hf6 (j * 6) (by omega) (.int .i8 k6) (.bool b6) (.int .i64 n6) (.string s6) (.slice o6 m6 p6) (.slice o7 m7 p7) (by intro u hu; simp only [List.mem_cons, List.not_mem_nil, or_false] at hu; rcases hu with rfl | rfl | rfl | rfl | rfl | rfl <;> rfl)
          have HF7 := Lib.hid (And.intro hf7 (And.intro hg7 (And.intro e0 (And.intro e1 (And.intro e2 (And.intro e3 (And.intro e4 (And.intro e5 hold))))))))
          clear hf7 hg7 e0 e1 e2 e3 e4 e5 hold
          have hzr6 := hb6.size
          have hF6 : FX w #[.int .i8 kk, .bool b, .int .i64 n, .string s, .slice (some a) l.length cap, .slice o2 ks.length cap2] #[.int .i8 0, .bool false, .int .i64 0, .string ⟨#[]⟩, .slice none 0 0, .slice none 0 0] gP ps x6 := (hF.out.1.grown (grown_bel hb6) (fun r e => by cases e)).grown HF7.out.2.1 (fun r e => by cases e; exact ⟨by omega, by omega⟩)
          have hLR6 : LR (fun q => B q ∨ w5.heap.size ≤ q) l ps gL capL (j + 1) x6 := by
            obtain ⟨hf7, hg7, e0, e1, e2, e3, e4, e5, hold⟩ := HF7.out
            refine LR.step (y := y) hf2 hb6 hg7 (fun q hq => ?_) hf7 (fun i hi => hold i hi) (by rw [HPJ.out, ← HGD.out]; exact hsr) ?_
            · have h1 := hF.out.2
              have h2 := HZ5.out
              rcases hq with hq | hq
              · have := hBq q hq; omega
              · omega
            · rw [e0, e1, e2, e3, e4, e5]
              exact isVa_mono (fun q hq => hq.imp id (fun h => Nat.le_trans hF.out.2 h)) _ _ hva
          have hKR6 : KR kk ks ps gK capK j x6 := fun h0 => by
            have hne : gK ≠ gL := by
              obtain ⟨_, _, _, h4, _⟩ := HQ.out.2 h0
              omega
            exact ((hKR.out.grown (grown_bel hb6) (by simp)).grown HF7.out.2.1 (fun e => hne (Option.some.inj e))) h0
          have hsz6 : w5.heap.size ≤ x6.heap.size := by
            have h1 := hF.out.2
            have h2 := HF7.out.2.1.size
            omega
          obtain ⟨b0, b1, b2, b3, b4, b5⟩ := six_cells hF6.2.1
          have HF6 := Lib.hid (And.intro hF6 hsz6)
          have HLR6 := Lib.hid hLR6
          have HKR6 := Lib.hid hKR6
          clear hf1 hf2 hf6 hva hsr hb6 hF6 hLR6 hKR6 hsz6 hzr6
          by_cases h5 : kk = 5
          · subst h5
            have hkl5 : ks.length = l.length := by unfold okV at hok; exact hok.1 rfl
            obtain ⟨rfl, hk1, hk2, hk3, hk4⟩ := HQ.out.2 (by omega)
            obtain rfl := HOO.out (by omega)
            obtain ⟨fk, hfk1, hfk2⟩ := HKR6.out (by omega)
            rw [if_pos rfl] at hfk2
            obtain ⟨key, hkey⟩ : ∃ key, ks[pj]'(by omega) = key := ⟨_, rfl⟩
            have ckey := cell_below HF6.out.1.1 _ _ (HKS.out pj (by omega)).1
            rw [hkey] at ckey
            have csk := hfk1.cell (show j < capK by omega)
            have fsk := hfk1.frozen j
            obtain ⟨x7, hx7⟩ : ∃ x7, x6.setCell ⟨gK, j, none⟩ (.string key) = x7 := ⟨_, rfl⟩
            have hg8 : x6.grownBy x7 (some gK) := by rw [← hx7]; exact grown_set _ _ _ _
            have hF7 : FX w #[.int .i8 5, .bool b, .int .i64 n, .string s, .slice (some a) l.length cap, .slice (some a2) ks.length cap2] #[.int .i8 0, .bool false, .int .i64 0, .string ⟨#[]⟩, .slice none 0 0, .slice none 0 0] gP ps x7 := HF6.out.1.grown hg8 (fun r e => by cases e; exact ⟨by omega, by omega⟩)
            have hLR7 : LR (fun q => B q ∨ w5.heap.size ≤ q) l ps gL capL (j + 1) x7 := HLR6.out.grown hg8 (fun e => by have := Option.some.inj e; omega) (fun q hq e => by
              have h1 := Option.some.inj e
              have h2 := HZ5.out
              rcases hq with hq | hq
              · have := hBq q hq; omega
              · omega)
            have hKR7 : KR 5 ks ps gK capK (j + 1) x7 := fun h0 => by
              refine ⟨_, by rw [← hx7]; exact hfk1.set j (.string key), ?_⟩
              rw [if_pos rfl]
              intro i hi
              by_cases e : i = j
              · subst e
                rw [if_pos rfl, HPJ.out, getD_lt _ _ _ (by omega), hkey]
              · rw [if_neg e]; exact hfk2 i (by omega)
            have hsz7 : w5.heap.size ≤ x7.heap.size := by
              have h1 := HF6.out.2
              have h2 := hg8.size
              omega
            have HF77 := Lib.hid (And.intro hF7 hsz7)
            have HLR7 := Lib.hid hLR7
            have HKR7 := Lib.hid hKR7
            clear hfk1 hfk2 hF7 hLR7 hKR7 hsz7 hg8 hok hF hkey
            have hpk : pj < ks.length := by omega
            have hjk : j < ks.length := by omega
            clear hkl5
            go_wp2_with fail
            go_roundw
            case rel => exact ⟨j + 1, by omega, by go_num, HF77, HLR7, HKR7⟩
            case measure => simp [intOf]; omega
          · have k5 : (kk == 5) = false := beqI h5
            have HKR7 : Hid (KR kk ks ps gK capK (j + 1) x6) := Lib.hid (fun h0 => by
              obtain ⟨fk, h1, h2⟩ := HKR6.out h0
              rw [if_neg h5] at h2
              exact ⟨fk, h1, by rw [if_neg h5]; exact h2⟩)
            clear h5
            go_wp2_with fail
            go_roundw
            case rel => exact ⟨j + 1, by omega, by go_num, HF6, HLR6, HKR7⟩
            case measure => simp [intOf]; omega
        · obtain rfl : j = l.length := by omega
          obtain ⟨b0, b1, b2, b3, b4, b5⟩ := six_cells hF.out.1.2.1
          obtain ⟨y1, y2, ⟨⟨_, q1⟩, q1', q1''⟩, ⟨⟨_, q2⟩, q2', q2''⟩, hy2, hgy⟩ := box_set (.slice ol l.length capL) (.slice okk ks.length capK) hF.out.1.2.1
          have hn1 := (hgy.block (w.heap.size + 1) (Array.getElem?_eq_some_iff.1 hF.out.1.2.2.1).1 (fun e => by have := Option.some.inj e; omega)).trans hF.out.1.2.2.1
          obtain ⟨m0, m1, m2, m3, m4, m5⟩ := six_cells hy2
          obtain ⟨x1, x2, x3, x4, x5, x6, f', ⟨⟨_, t1⟩, t1', t1''⟩, ⟨⟨_, t2⟩, t2', t2''⟩, ⟨⟨_, t3⟩, t3', t3''⟩, ⟨⟨_, t4⟩, t4', t4''⟩, ⟨⟨_, t5⟩, t5', t5''⟩, ⟨⟨_, t6⟩, t6', t6''⟩, hf7, hg7, e0, e1, e2, e3, e4, e5, -⟩ := store_six (rowIs_six hn1) 0 (by decide) (.int .i8 kk) (.bool b) (.int .i64 n) (.string s) (.slice ol l.length capL) (.slice okk ks.length capK) (by intro u hu; simp only [List.mem_cons, List.not_mem_nil, or_false] at hu; rcases hu with rfl | rfl | rfl | rfl | rfl | rfl <;> rfl)
          simp only [Nat.zero_add] at t2 t2' t2'' t3 t3' t3'' t4 t4' t4'' t5 t5' t5'' t6 t6' t6'' e1 e2 e3 e4 e5
          have d0 := hf7.cell (show 0 < 6 by decide)
          have d1 := hf7.cell (show 1 < 6 by decide)
          have d2 := hf7.cell (show 2 < 6 by decide)
          have d3 := hf7.cell (show 3 < 6 by decide)
          have d4 := hf7.cell (show 4 < 6 by decide)
          have d5 := hf7.cell (show 5 < 6 by decide)
          rw [e0] at d0
          rw [e1] at d1
          rw [e2] at d2
          rw [e3] at d3
          rw [e4] at d4
          rw [e5] at d5
          have HD := Lib.hid (And.intro d0 (And.intro d1 (And.intro d2 (And.intro d3 (And.intro d4 d5)))))
          have hbel : Below w.heap.size w x6 := (hF.out.1.1.grown hgy hF.out.1.1.size (fun r e => by cases e; exact Nat.le_refl _)).grown hg7 (by have h1 := hF.out.1.1.size; have h2 := hgy.size; omega) (fun r e => by cases e; omega)
          have hLR6 : LR (fun q => B q ∨ w5.heap.size ≤ q) l ps gL capL l.length x6 := fun h0 => by
            obtain ⟨_, hg1, hg2, hg3⟩ := HQ.out.1 h0
            have hB1 : ∀ q, (B q ∨ w5.heap.size ≤ q) → q < w.heap.size ∨ w5.heap.size ≤ q := fun q hq => hq.imp (hBq q) id
            have h2 := HZ5.out
            exact ((hLR.out.grown hgy (fun e => by have := Option.some.inj e; omega) (fun q hq e => by have := Option.some.inj e; have := hB1 q hq; omega)).grown hg7 (fun e => by have := Option.some.inj e; omega) (fun q hq e => by have := Option.some.inj e; have := hB1 q hq; omega)) h0
          have hKR6 : KR kk ks ps gK capK l.length x6 := fun h0 => by
            obtain ⟨_, hg1, hg2, hg3, _⟩ := HQ.out.2 h0
            exact ((hKR.out.grown hgy (fun e => by have := Option.some.inj e; omega)).grown hg7 (fun e => by have := Option.some.inj e; omega)) h0
          have HEND := Lib.hid (And.intro hbel (And.intro hLR6 hKR6))
          clear hbel hLR6 hKR6 hf7 hg7 hgy hy2 hn1 e0 e1 e2 e3 e4 e5 d0 d1 d2 d3 d4 d5 hF hLR hKR
          go_wp2_with fail
          obtain ⟨d0, d1, d2, d3, d4, d5⟩ := HD.out
          refine bodyPost_ret (v := .agg #[.int .i8 kk, .bool b, .int .i64 n, .string s, .slice ol l.length capL, .slice okk ks.length capK]) (by simp [results, Tryz.results92, go_sem, d0, d1, d2, d3, d4, d5]) rfl ?_
          obtain ⟨hbel, hLR6, hKR6⟩ := HEND.out
          clear d0 d1 d2 d3 d4 d5
          have hZ := HZ5.out
          have hM' : ∀ q, (B q ∨ w5.heap.size ≤ q) → (B q ∨ w.heap.size ≤ q) := fun q hq => hq.imp id (fun h => by omega)
          -- the parts
          have hlist : ∃ l' : List V, l'.length = l.length ∧ (∀ i (h : i < l'.length), SortR (l.getD (ps.getD i 0) default) l'[i]) ∧ isVas x6 (fun q => B q ∨ w.heap.size ≤ q) l' ⟨gL, 0, none⟩ := by
            rcases Nat.eq_zero_or_pos l.length with h0 | h0
            · exact ⟨[], by rw [h0]; rfl, fun i h => absurd h (by simp), by unfold isVas; trivial⟩
            · obtain ⟨f, hf1, hf2⟩ := hLR6 h0
              obtain ⟨l', hl1, hl2⟩ := list_of l.length (fun i y => SortR (l.getD (ps.getD i 0) default) y ∧ isVa x6 (fun q => B q ∨ w5.heap.size ≤ q) y (.agg #[f (i * 6), f (i * 6 + 1), f (i * 6 + 2), f (i * 6 + 3), f (i * 6 + 4), f (i * 6 + 5)])) hf2
              refine ⟨l', hl1, fun i h => (hl2 i h).1, isVas_mk l' _ (fun i h => ?_)⟩
              refine ⟨_, _, _, _, _, _, ?_, ?_, ?_, ?_, ?_, ?_, isVa_mono hM' _ _ (hl2 i h).2⟩
              all_goals rw [add_offs]; exact hf1.cell (by omega)
          obtain ⟨l', hl1, hl2, hl3⟩ := hlist
          -- the keys
          obtain ⟨ks', hks'⟩ : ∃ ks' : List ByteArray, ks' = if kk = 5 then ps.map (fun p => ks.getD p ⟨#[]⟩) else ks := ⟨_, rfl⟩
          have hkl5 : kk = 5 → ks.length = l.length := by unfold okV at hok; exact hok.1
          have hkl' : ks'.length = ks.length := by
            rw [hks']; split
            · rename_i h; rw [List.length_map, hps, hkl5 h]
            · rfl
          have hkeys : isKa x6 (fun q => B q ∨ w.heap.size ≤ q) ks' (.slice okk ks.length capK) := by
            refine ⟨⟨gK, 0, none⟩, capK, ⟨okk, by rw [hkl'], by rw [hkl']; exact cq1, by unfold maxLen; exact cq2, fun h => (HQ.out.2 (by omega)).1⟩, fun h => .inr ?_, fun i hi => ?_⟩
            · have := (HQ.out.2 (by omega)).2.1
              show w.heap.size ≤ gK
              omega
            · obtain ⟨f, hf1, hf2⟩ := hKR6 (by omega)
              have hki : f i = .string ks'[i] ∧ ∃ p, ∃ (h : p < ks.length), ks'[i] = ks[p] := by
                by_cases h5 : kk = 5
                · rw [if_pos h5] at hf2
                  have hil : i < l.length := by have := hkl5 h5; omega
                  have hp : ps.getD i 0 < ks.length := by
                    have h1 : ps[i]'(by omega) ∈ ps := List.getElem_mem _
                    have h2 := (HORD.out.1.mem_iff.1 h1)
                    rw [getD_lt _ _ _ (by omega), hkl5 h5]
                    simpa [V.list] using h2
                  have e : ks'[i] = ks.getD (ps.getD i 0) ⟨#[]⟩ := by
                    subst hks'
                    simp only [if_pos h5, List.getElem_map]
                    rw [getD_lt ps i 0 (by omega)]
                  exact ⟨by rw [hf2 i hil, e], _, hp, by rw [e, getD_lt _ _ _ hp]⟩
                · rw [if_neg h5] at hf2
                  have hik : i < ks.length := by omega
                  have e : ks'[i] = ks[i] := by subst hks'; simp only [if_neg h5]
                  exact ⟨by rw [hf2 i hik, e, getD_lt _ _ _ hik], i, hik, e⟩
              obtain ⟨hk1, p, hp, hk2⟩ := hki
              rw [add_offs, hf1.cell (show i < capK by omega), hk1]
              refine ⟨rfl, ?_⟩
              rw [hk2]
              exact (HKS.out p hp).2
          refine ⟨.mk kk b n s l' ks', _, rfl, SortR.mk kk b n s l ks l' ks' ps HORD.out (by omega) hl2 hks', ?_, hbel⟩
          unfold isVa
          obtain ⟨h1, h2, h3⟩ := HMK.out
          refine ⟨_, _, rfl, h1, h2, h3, ⟨⟨gL, 0, none⟩, capL, ⟨ol, by rw [hl1], by rw [hl1]; exact cl1, by unfold maxLen; exact cl2, fun h => (HQ.out.1 (by omega)).1⟩, fun h => .inr ?_, hl3⟩, hkeys⟩
          have := (HQ.out.1 (by omega)).2.1
          show w.heap.size ≤ gL
          omega
end Go.Proofs.YtlamkadllbgamaaGreatDoor
