/-
  The reader of package sub: a closure that takes parts and holds those read so far in a row of its own.
-/
import Derived.Test.YtjnoomefppncoaaDoorLb
import Derived.Test.YtjnoomefppncoaaDoorRo
import Derived.Handy
import Derived.WalkSpells
import Derived.Deep.Cut
set_option linter.unusedVariables false
namespace Go.Proofs.YtjnoomefppncoaaDoor
open Go.RowKit Go.Shelf

theorem infoX : (Tryd.prog.info? 36).map (fun i => (i.zero, i.size, i.bytes)) = some (some zeroX, 6, 88) := by kernel_rfl

/-- The cells of parts, in a row. -/
def xcells (l : List X) : List Value := (l.map X.cs).flatten
theorem xcells_len : ∀ (l : List X), (xcells l).length = l.length * 6
  | [] => rfl
  | x :: t => by
    have := xcells_len t
    unfold xcells at this ⊢
    simp only [List.map_cons, List.flatten_cons, List.length_append, this, List.length_cons]
    show 6 + _ = _
    omega
theorem xcells_snoc (l : List X) (x : X) : xcells (l ++ [x]) = xcells l ++ x.cs := by
  unfold xcells
  rw [List.map_append, List.flatten_append]
  simp
/-- The closure's cell at P, and the row, at B or above, that holds the parts (the last one first in L). -/
def PR (P B : Nat) (L : List X) (v : Value) (W : World) : Prop :=
  W.heap[P]? = some (.cells #[v] 23 (0, 0)) ∧ W.ownsRow B 36 6 v L.length (xcells L.reverse)
theorem PR.below {P B : Nat} {L : List X} {v : Value} {W W' : World} (h : PR P B L v W) (hb : Below W.heap.size W W') : PR P B L v W' :=
  ⟨(hb.block P (Array.getElem?_eq_some_iff.1 h.1).1).trans h.1, h.2.kept (row := none) ⟨hb.os, hb.tape, hb.output, hb.size, fun k hk _ => hb.block k hk⟩ (by cases v.ownBlock <;> simp)⟩
/-- All below B stands but for block P. -/
def Kp (P B : Nat) (W W' : World) : Prop := (W'.os = W.os ∧ W'.tape = W.tape ∧ W'.output = W.output ∧ W.heap.size ≤ W'.heap.size) ∧ ∀ k o, k < B → k ≠ P → W.heap[k]? = some o → W'.heap[k]? = some o
theorem Kp.refl (P B : Nat) (W : World) : Kp P B W W := ⟨⟨rfl, rfl, rfl, Nat.le_refl _⟩, fun _ _ _ _ h => h⟩
theorem Kp.trans {P B : Nat} {X Y Z : World} (h : Kp P B X Y) (k : Kp P B Y Z) : Kp P B X Z :=
  ⟨⟨k.1.1.trans h.1.1, k.1.2.1.trans h.1.2.1, k.1.2.2.1.trans h.1.2.2.1, Nat.le_trans h.1.2.2.2 k.1.2.2.2⟩, fun j o h1 h2 hj => k.2 j o h1 h2 (h.2 j o h1 h2 hj)⟩
theorem Kp.of_below {P B : Nat} {W W' : World} (h : Below W.heap.size W W') : Kp P B W W' :=
  ⟨⟨h.os, h.tape, h.output, h.size⟩, fun k o _ _ hk => (h.block k (Array.getElem?_eq_some_iff.1 hk).1).trans hk⟩
theorem Kp.grown {P B : Nat} {W W' : World} {row : Option Nat} (hg : W.grownBy W' row) (hr : ∀ r, row = some r → B ≤ r ∨ r = P) : Kp P B W W' :=
  ⟨⟨hg.os, hg.tape, hg.output, hg.size⟩, fun k o h1 h2 hk => (hg.block k (Array.getElem?_eq_some_iff.1 hk).1 (fun e => by rcases hr k e.symm with h | h <;> omega)).trans hk⟩
theorem Kp.below {P B : Nat} {W W' : World} (h : Kp P B W W') (hPB : P < B) (hP : P ≤ W.heap.size) : Below P W W' :=
  ⟨h.1.1, h.1.2.1, h.1.2.2.1, h.1.2.2.2, fun k hk => by
    have hl : k < W.heap.size := by omega
    have e := Array.getElem?_eq_getElem hl
    rw [e]
    exact h.2 k _ (by omega) (by omega) e⟩

set_option maxRecDepth 100000 in
set_option maxHeartbeats 4000000 in
theorem preader_any (w : World) : Calls Tryd.prog 37 #[] w fun e w' => e = .returned (.func (.func 51) #[] #[.pointer (some ⟨w.heap.size, 0, none⟩)]) ∧ w' = w.alloc (.cells #[.slice none 0 0] 23) := by
  go_enter Tryd.func37, Tryd.ntmps37
  go_wp2_with fail
  go_ret
  exact ⟨rfl, rfl⟩

def zcells : List Value := [.int .i8 0, .string ⟨#[]⟩, .int .i64 0, .string ⟨#[]⟩, .string ⟨#[]⟩, .slice none 0 0]
/-- What is left of 'parts = append(parts, x)' behind the append, in either order. -/
theorem read_step (x : X) (L : List X) (P B n : Nat) (u v' : Value) (w3 : World) (hn : L.length = n) (hP : w3.heap[P]? = some (.cells #[u] 23 (0, 0))) (hPB : P < B)
    (hown : w3.ownsRow B 36 6 v' (n + 1) (xcells L.reverse ++ zcells)) :
    ∃ g c, v' = .slice (some ⟨g, 0, none⟩) (n + 1) c ∧ n + 1 ≤ c ∧ c ≤ maxLen ∧
      (∃ y1 y2 y3 y4 y5 y6 z, ((∃ u, w3.cell? ⟨g, n * 6, none⟩ = some u) ∧ w3.frozen? ⟨g, n * 6, none⟩ = false ∧ w3.setCell ⟨g, n * 6, none⟩ (.int .i8 x.k) = y1) ∧ ((∃ u, y1.cell? ⟨g, n * 6 + 1, none⟩ = some u) ∧ y1.frozen? ⟨g, n * 6 + 1, none⟩ = false ∧ y1.setCell ⟨g, n * 6 + 1, none⟩ (.string (bs x.t)) = y2) ∧ ((∃ u, y2.cell? ⟨g, n * 6 + 2, none⟩ = some u) ∧ y2.frozen? ⟨g, n * 6 + 2, none⟩ = false ∧ y2.setCell ⟨g, n * 6 + 2, none⟩ (.int .i64 0) = y3) ∧ ((∃ u, y3.cell? ⟨g, n * 6 + 3, none⟩ = some u) ∧ y3.frozen? ⟨g, n * 6 + 3, none⟩ = false ∧ y3.setCell ⟨g, n * 6 + 3, none⟩ (.string (bs x.m)) = y4) ∧ ((∃ u, y4.cell? ⟨g, n * 6 + 4, none⟩ = some u) ∧ y4.frozen? ⟨g, n * 6 + 4, none⟩ = false ∧ y4.setCell ⟨g, n * 6 + 4, none⟩ (.string (bs x.a)) = y5) ∧ ((∃ u, y5.cell? ⟨g, n * 6 + 5, none⟩ = some u) ∧ y5.frozen? ⟨g, n * 6 + 5, none⟩ = false ∧ y5.setCell ⟨g, n * 6 + 5, none⟩ (.slice none 0 0) = y6) ∧ ((∃ u, y6.cell? ⟨P, 0, none⟩ = some u) ∧ y6.frozen? ⟨P, 0, none⟩ = false ∧ y6.setCell ⟨P, 0, none⟩ v' = z) ∧ Hid (z.cell? ⟨P, 0, none⟩ = some v' ∧ PR P B (x :: L) v' z ∧ Kp P B w3 z)) ∧
      (∃ z z1 z2 z3 z4 z5 z6, ((∃ u, w3.cell? ⟨P, 0, none⟩ = some u) ∧ w3.frozen? ⟨P, 0, none⟩ = false ∧ w3.setCell ⟨P, 0, none⟩ v' = z) ∧ ((∃ u, z.cell? ⟨g, n * 6, none⟩ = some u) ∧ z.frozen? ⟨g, n * 6, none⟩ = false ∧ z.setCell ⟨g, n * 6, none⟩ (.int .i8 x.k) = z1) ∧ ((∃ u, z1.cell? ⟨g, n * 6 + 1, none⟩ = some u) ∧ z1.frozen? ⟨g, n * 6 + 1, none⟩ = false ∧ z1.setCell ⟨g, n * 6 + 1, none⟩ (.string (bs x.t)) = z2) ∧ ((∃ u, z2.cell? ⟨g, n * 6 + 2, none⟩ = some u) ∧ z2.frozen? ⟨g, n * 6 + 2, none⟩ = false ∧ z2.setCell ⟨g, n * 6 + 2, none⟩ (.int .i64 0) = z3) ∧ ((∃ u, z3.cell? ⟨g, n * 6 + 3, none⟩ = some u) ∧ z3.frozen? ⟨g, n * 6 + 3, none⟩ = false ∧ z3.setCell ⟨g, n * 6 + 3, none⟩ (.string (bs x.m)) = z4) ∧ ((∃ u, z4.cell? ⟨g, n * 6 + 4, none⟩ = some u) ∧ z4.frozen? ⟨g, n * 6 + 4, none⟩ = false ∧ z4.setCell ⟨g, n * 6 + 4, none⟩ (.string (bs x.a)) = z5) ∧ ((∃ u, z5.cell? ⟨g, n * 6 + 5, none⟩ = some u) ∧ z5.frozen? ⟨g, n * 6 + 5, none⟩ = false ∧ z5.setCell ⟨g, n * 6 + 5, none⟩ (.slice none 0 0) = z6) ∧ Hid (z6.cell? ⟨P, 0, none⟩ = some v' ∧ PR P B (x :: L) v' z6 ∧ Kp P B w3 z6)) := by
  obtain ⟨o, ad, c, rfl, hf1, hf2, hf3, hf4, -⟩ := own_form hown
  rcases hown.2 with ⟨_, h0⟩ | ⟨g, cap, cur, hv, hgB, _⟩
  · omega
  simp only [Value.slice.injEq, true_and] at hv
  obtain ⟨rfl, rfl⟩ := hv
  have hgP : g ≠ P := by omega
  have fin : ∀ W : World, W.ownsRow B 36 6 (.slice (some ⟨g, 0, none⟩) (n + 1) c) (n + 1) ((((((((xcells L.reverse ++ zcells).set (n * 6) (.int .i8 x.k)).set (n * 6 + 1) (.string (bs x.t))).set (n * 6 + 2) (.int .i64 0)).set (n * 6 + 3) (.string (bs x.m))).set (n * 6 + 4) (.string (bs x.a))).set (n * 6 + 5) (.slice none 0 0))) →
      W.ownsRow B 36 6 (.slice (some ⟨g, 0, none⟩) (n + 1) c) (x :: L).length (xcells (x :: L).reverse) := fun W hW => by
    rw [show xcells L.reverse ++ zcells = xcells L.reverse ++ [.int .i8 0, .string ⟨#[]⟩, .int .i64 0, .string ⟨#[]⟩, .string ⟨#[]⟩, .slice none 0 0] from rfl, set_six _ _ _ _ _ _ _ _ _ _ _ _ _ _ (by rw [xcells_len, List.length_reverse, hn])] at hW
    rw [List.reverse_cons, xcells_snoc, List.length_cons, hn]
    exact hW
  have pset : ∀ W : World, W.heap[P]? = some (.cells #[u] 23 (0, 0)) → ((∃ u, W.cell? ⟨P, 0, none⟩ = some u) ∧ W.frozen? ⟨P, 0, none⟩ = false) ∧ (W.setCell ⟨P, 0, none⟩ (.slice (some ⟨g, 0, none⟩) (n + 1) c)).heap[P]? = some (.cells #[.slice (some ⟨g, 0, none⟩) (n + 1) c] 23 (0, 0)) ∧ W.grownBy (W.setCell ⟨P, 0, none⟩ (.slice (some ⟨g, 0, none⟩) (n + 1) c)) (some P) := fun W hW =>
    ⟨⟨⟨u, cell_of_row W P 0 _ _ (0, 0) hW⟩, frozen_of_row W P 0 _ _ hW⟩, heap_setCell_same W P 0 _ _ _ hW, ⟨rfl, rfl, rfl, by simp, fun k _ hk => heap_setCell_other W ⟨P, 0, none⟩ k _ (fun e => hk (by simp [e]))⟩⟩
  refine ⟨g, c, rfl, hf1, hf2, ?_, ?_⟩
  · obtain ⟨y1, y2, y3, y4, y5, y6, f1, f2, f3, f4, f5, f6, o6, g6⟩ := own_six hown (n * 6) (by omega) (.int .i8 x.k) (.string (bs x.t)) (.int .i64 0) (.string (bs x.m)) (.string (bs x.a)) (.slice none 0 0)
    have hP6 : y6.heap[P]? = some (.cells #[u] 23 (0, 0)) := (g6.block P (Array.getElem?_eq_some_iff.1 hP).1 (by simp; omega)).trans hP
    obtain ⟨⟨p1, p2⟩, p3, p4⟩ := pset y6 hP6
    exact ⟨y1, y2, y3, y4, y5, y6, _, f1, f2, f3, f4, f5, f6, ⟨p1, p2, rfl⟩, Lib.hid ⟨cell_of_row _ P 0 _ _ (0, 0) p3, ⟨p3, fin _ (o6.kept p4 (.inr (by simp [Value.ownBlock]; omega)))⟩, (Kp.grown g6 (fun r e => by cases e; exact .inl hgB)).trans (Kp.grown p4 (fun r e => by cases e; exact .inr rfl))⟩⟩
  · obtain ⟨⟨p1, p2⟩, p3, p4⟩ := pset w3 hP
    obtain ⟨z1, z2, z3, z4, z5, z6, f1, f2, f3, f4, f5, f6, o6, g6⟩ := own_six (hown.kept p4 (.inr (by simp [Value.ownBlock]; omega))) (n * 6) (by omega) (.int .i8 x.k) (.string (bs x.t)) (.int .i64 0) (.string (bs x.m)) (.string (bs x.a)) (.slice none 0 0)
    have hP6 : z6.heap[P]? = some (.cells #[.slice (some ⟨g, 0, none⟩) (n + 1) c] 23 (0, 0)) := (g6.block P (Array.getElem?_eq_some_iff.1 p3).1 (by simp; omega)).trans p3
    exact ⟨_, z1, z2, z3, z4, z5, z6, ⟨p1, p2, rfl⟩, f1, f2, f3, f4, f5, f6, Lib.hid ⟨cell_of_row _ P 0 _ _ (0, 0) hP6, ⟨hP6, fin _ o6⟩, (Kp.grown p4 (fun r e => by cases e; exact .inr rfl)).trans (Kp.grown g6 (fun r e => by cases e; exact .inl hgB))⟩⟩

theorem news_six {w : World} {t : TypeId} : ∀ j u, zcells[j]? = some u → (w.alloc (.cells #[.int .i8 0, .string ⟨#[]⟩, .int .i64 0, .string ⟨#[]⟩, .string ⟨#[]⟩, .slice none 0 0] t)).cell? ((⟨w.heap.size, 0, none⟩ : Addr).add j) = some u := fun j u hj => by
  have hlt : j < 6 := by
    have := (List.getElem?_eq_some_iff.1 hj).1
    exact this
  have e : (⟨w.heap.size, 0, none⟩ : Addr).add j = ⟨w.heap.size, j, none⟩ := by unfold Addr.add; split <;> simp_all
  rw [e]
  have : (w.alloc (.cells #[.int .i8 0, .string ⟨#[]⟩, .int .i64 0, .string ⟨#[]⟩, .string ⟨#[]⟩, .slice none 0 0] t)).heap[w.heap.size]? = some (.cells #[.int .i8 0, .string ⟨#[]⟩, .int .i64 0, .string ⟨#[]⟩, .string ⟨#[]⟩, .slice none 0 0] t (0, 0)) := heap_alloc_new w _
  rw [cell_of_row _ _ j _ _ (0, 0) this, ← Array.getElem?_toList]
  exact hj
theorem ones_six : ∀ u ∈ zcells, u.oneCell' = true := by
  intro u hu
  simp only [zcells, List.mem_cons, List.not_mem_nil, or_false] at hu
  rcases hu with rfl | rfl | rfl | rfl | rfl | rfl <;> rfl

set_option maxRecDepth 100000 in
set_option maxHeartbeats 4000000 in
theorem pread_nontext (x : X) (hx : x.isT = false) (L : List X) (v : Value) (P B : Nat) (w : World) (h : PR P B L v w) (hPB : P < B) (hB : B ≤ w.heap.size) (hL : L.length ≤ 1000000) :
    Calls Tryd.prog 51 #[x.val, .pointer (some ⟨P, 0, none⟩)] w fun e w' => ∃ v', e = .returned v' ∧ PR P B (x :: L) v' w' ∧ Kp P B w w' := by
  obtain ⟨i0, hi, hz0, hz1, hz2⟩ := info_parts infoX
  obtain ⟨n, hn⟩ : ∃ n, L.length = n := ⟨_, rfl⟩
  have hbk : Below w.heap.size w (w.alloc (.cells #[.int .i8 x.k, .string (bs x.t), .int .i64 0, .string (bs x.m), .string (bs x.a), .slice none 0 0] 36)) := (Below.refl _ _).alloc (Nat.le_refl _) _
  obtain ⟨o, ad, c, rfl, -, -, -, -, -⟩ := own_form h.2
  have HX : Hid (∀ W : World, Below (w.heap.size + 1) (w.alloc (.cells #[.int .i8 x.k, .string (bs x.t), .int .i64 0, .string (bs x.m), .string (bs x.a), .slice none 0 0] 36)) W → PR P B L (.slice o L.length c) W ∧ Kp P B w W) := Lib.hid fun W hb => by
    have hb2 := hbk.trans (hb.mono (Nat.le_succ _))
    exact ⟨h.below hb2, Kp.of_below hb2⟩
  have hPa : (w.alloc (.cells #[.int .i8 x.k, .string (bs x.t), .int .i64 0, .string (bs x.m), .string (bs x.a), .slice none 0 0] 36)).cell? ⟨P, 0, none⟩ = some (.slice o L.length c) := cell_of_row _ P 0 _ _ (0, 0) (h.below hbk).1
  rw [hn] at hPa HX
  have hk : ((x.k : Int) == 0) = false := by cases x <;> first | rfl | cases hx
  unfold X.val
  clear h hx hbk
  go_enter Tryd.func51, Tryd.ntmps51
  go_wp2_with (go_at_call 25; refine (pisText_any _ _ _ _ _ _ _).mono ?_; rintro e w1 ⟨rfl, hb1⟩; rw [hk])
  have hz : (w.alloc (.cells #[.int .i8 x.k, .string (bs x.t), .int .i64 0, .string (bs x.m), .string (bs x.a), .slice none 0 0] 36)).heap.size = w.heap.size + 1 := by simp
  rw [hz] at hb1
  have HR := Lib.hid (HX.out w1 hb1)
  have hcell : ∀ i u, (w.alloc (.cells #[.int .i8 x.k, .string (bs x.t), .int .i64 0, .string (bs x.m), .string (bs x.a), .slice none 0 0] 36)).cell? ⟨w.heap.size, i, none⟩ = some u → w1.cell? ⟨w.heap.size, i, none⟩ = some u ∧ ∀ ob, (w1.alloc ob).cell? ⟨w.heap.size, i, none⟩ = some u := fun i u hu => by
    have h1 := (hb1.cell (p := ⟨w.heap.size, i, none⟩) (by simp)).trans hu
    exact ⟨h1, fun ob => (((Below.refl w1.heap.size w1).alloc (Nat.le_refl _) ob).cell (p := ⟨w.heap.size, i, none⟩) (by have := hb1.size; simp at this ⊢; omega)).trans h1⟩
  obtain ⟨c0, c0a⟩ := hcell 0 (.int .i8 x.k) (cell_of_row _ _ 0 _ _ (0, 0) (heap_alloc_new w _))
  obtain ⟨c1, c1a⟩ := hcell 1 (.string (bs x.t)) (cell_of_row _ _ 1 _ _ (0, 0) (heap_alloc_new w _))
  obtain ⟨c2, c2a⟩ := hcell 2 (.int .i64 0) (cell_of_row _ _ 2 _ _ (0, 0) (heap_alloc_new w _))
  obtain ⟨c3, c3a⟩ := hcell 3 (.string (bs x.m)) (cell_of_row _ _ 3 _ _ (0, 0) (heap_alloc_new w _))
  obtain ⟨c4, c4a⟩ := hcell 4 (.string (bs x.a)) (cell_of_row _ _ 4 _ _ (0, 0) (heap_alloc_new w _))
  obtain ⟨c5, c5a⟩ := hcell 5 (.slice none 0 0) (cell_of_row _ _ 5 _ _ (0, 0) (heap_alloc_new w _))
  have hP1 : w1.cell? ⟨P, 0, none⟩ = some (.slice o n c) := cell_of_row _ P 0 _ _ (0, 0) HR.out.1.1
  have hP1a : ∀ ob, (w1.alloc ob).cell? ⟨P, 0, none⟩ = some (.slice o n c) := fun ob => (((Below.refl w1.heap.size w1).alloc (Nat.le_refl _) ob).cell (p := ⟨P, 0, none⟩) (World.block_lt_of_cell? w1 _ hP1)).trans hP1
  have hn1 : n ≤ 1000000 := by omega
  have STEP := Lib.hid fun (W w3 : World) (v' : Value) (hb : Below w1.heap.size w1 W) (hg : W.grownBy w3 (Value.slice o n c).ownBlock) (hown : w3.ownsRow B 36 6 v' (n + 1) (xcells L.reverse ++ zcells)) => by
    have hPW := HR.out.1.below hb
    have hK := HR.out.2.trans (Kp.of_below hb)
    have hP3 : w3.heap[P]? = some (.cells #[.slice o n c] 23 (0, 0)) := (hg.block P (Array.getElem?_eq_some_iff.1 hPW.1).1 (fun e => by have := (hPW.2.lt P e.symm).1; omega)).trans hPW.1
    have hg2 : Kp P B W w3 := Kp.grown hg (fun r e => .inl (hPW.2.lt r e).1)
    exact And.intro (hK.trans hg2) (read_step x L P B n (.slice o n c) v' w3 hn hP3 hPB hown)
  have OWN : Hid (∀ W, Below w1.heap.size w1 W → W.ownsRow B 36 6 (.slice o n c) n (xcells L.reverse)) := Lib.hid fun W hb => by have := (HR.out.1.below hb).2; rw [hn] at this; exact this
  have HB1 : Hid (B ≤ w1.heap.size) := Lib.hid (by have := hb1.size; simp at this; omega)
  have hnlt : (n : Int) < (n : Int) + 1 := by omega
  clear hz hcell hb1 HX hPa hL hn hk
  go_region_law (refine step_append_row rfl (.tmp 18) (.tmp 21) 23 rfl B 36 i0 zeroX 6 88 Tryd.underlying23 hi hz0 hz1 hz2 rfl (by decide) (.slice o n c) n (xcells L.reverse) (by simp [Act.eval, Act.put]) (OWN.out _ (by go_grown)) (some ⟨w1.heap.size, 0, none⟩) ⟨w1.heap.size, 0, none⟩ 1 1 zcells (by simp [Act.eval, Act.put]) (fun _ => rfl) rfl news_six ones_six (by unfold maxLen; omega) (by omega) (by have := HB1.out; simp; omega) ?_; intro o2 c2 w3 own3 gr3 at3; obtain ⟨hK3, g, c3, hv, hc1, hc2, ⟨y1, y2, y3, y4, y5, y6, yz, ⟨⟨_, q0⟩, q0', q0''⟩, ⟨⟨_, q1⟩, q1', q1''⟩, ⟨⟨_, q2⟩, q2', q2''⟩, ⟨⟨_, q3⟩, q3', q3''⟩, ⟨⟨_, q4⟩, q4', q4''⟩, ⟨⟨_, q5⟩, q5', q5''⟩, ⟨⟨_, q6⟩, q6', q6''⟩, HY⟩, ⟨zz, z1, z2, z3, z4, z5, z6, ⟨⟨_, r6⟩, r6', r6''⟩, ⟨⟨_, r0⟩, r0', r0''⟩, ⟨⟨_, r1⟩, r1', r1''⟩, ⟨⟨_, r2⟩, r2', r2''⟩, ⟨⟨_, r3⟩, r3', r3''⟩, ⟨⟨_, r4⟩, r4', r4''⟩, ⟨⟨_, r5⟩, r5', r5''⟩, HZ⟩⟩ := STEP.out _ _ _ (by go_grown) gr3 own3; simp only [Value.slice.injEq, true_and] at hv; obtain ⟨rfl, rfl⟩ := hv)
  all_goals
    have pz := HY.out.1
    have pz2 := HZ.out.1
    clear q0 q0' q0'' q1 q1' q1'' q2 q2' q2'' q3 q3' q3'' q4 q4' q4'' q5 q5' q5'' q6 q6' q6'' r0 r0' r0'' r1 r1' r1'' r2 r2' r2'' r3 r3' r3'' r4 r4' r4'' r5 r5' r5'' r6 r6' r6''
    go_wp2_with fail
    go_ret
    first | exact ⟨_, rfl, HY.out.2.1, hK3.trans HY.out.2.2⟩ | exact ⟨_, rfl, HZ.out.2.1, hK3.trans HZ.out.2.2⟩
end Go.Proofs.YtjnoomefppncoaaDoor
