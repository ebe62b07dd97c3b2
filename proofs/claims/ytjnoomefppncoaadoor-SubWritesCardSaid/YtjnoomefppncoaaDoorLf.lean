/-
  The reader's closure at the empty text, and at any part.
-/
import Derived.Test.YtjnoomefppncoaaDoorLd
set_option linter.unusedVariables false
namespace Go.Proofs.YtjnoomefppncoaaDoor
open Go.RowKit Go.Shelf

set_option maxRecDepth 100000 in
set_option maxHeartbeats 4000000 in
theorem pread_empty (x : X) (hx : x.isT = true) (hx2 : x.t = []) (L : List X) (v : Value) (P B : Nat) (w : World) (h : PR P B L v w) (hPB : P < B) (hB : B ≤ w.heap.size) (hL : L.length ≤ 1000000) :
    Calls Tryd.prog 51 #[x.val, .pointer (some ⟨P, 0, none⟩)] w fun e w' => ∃ v', e = .returned v' ∧ PR P B (L) v' w' ∧ Kp P B w w' := by
  obtain ⟨i0, hi, hz0, hz1, hz2⟩ := info_parts infoX
  obtain ⟨n, hn⟩ : ∃ n, L.length = n := ⟨_, rfl⟩
  have hbk : Below w.heap.size w (w.alloc (.cells #[.int .i8 x.k, .string (bs x.t), .int .i64 0, .string (bs x.m), .string (bs x.a), .slice none 0 0] 36)) := (Below.refl _ _).alloc (Nat.le_refl _) _
  obtain ⟨o, ad, c, rfl, -, -, -, -, -⟩ := own_form h.2
  have HX : Hid (∀ W : World, Below (w.heap.size + 1) (w.alloc (.cells #[.int .i8 x.k, .string (bs x.t), .int .i64 0, .string (bs x.m), .string (bs x.a), .slice none 0 0] 36)) W → PR P B L (.slice o L.length c) W ∧ Kp P B w W) := Lib.hid fun W hb => by
    have hb2 := hbk.trans (hb.mono (Nat.le_succ _))
    exact ⟨h.below hb2, Kp.of_below hb2⟩
  have hPa : (w.alloc (.cells #[.int .i8 x.k, .string (bs x.t), .int .i64 0, .string (bs x.m), .string (bs x.a), .slice none 0 0] 36)).cell? ⟨P, 0, none⟩ = some (.slice o L.length c) := cell_of_row _ P 0 _ _ (0, 0) (h.below hbk).1
  rw [hn] at hPa HX
  have hk : ((x.k : Int) == 0) = true := by cases x <;> first | rfl | cases hx
  have hte : x.t.isEmpty = true := by rw [hx2]; rfl
  unfold X.val
  clear h hx hx2 hbk
  go_enter Tryd.func51, Tryd.ntmps51
  go_wp2_with fail
  go_at_call 25
  refine (pisText_any _ _ _ _ _ _ _).mono ?_
  rintro e w1 ⟨rfl, hb1⟩
  rw [hk]
  have hz : (w.alloc (.cells #[.int .i8 x.k, .string (bs x.t), .int .i64 0, .string (bs x.m), .string (bs x.a), .slice none 0 0] 36)).heap.size = w.heap.size + 1 := by simp
  rw [hz] at hb1
  have HR := Lib.hid (HX.out w1 hb1)
  have hcell : ∀ i u, (w.alloc (.cells #[.int .i8 x.k, .string (bs x.t), .int .i64 0, .string (bs x.m), .string (bs x.a), .slice none 0 0] 36)).cell? ⟨w.heap.size, i, none⟩ = some u → w1.cell? ⟨w.heap.size, i, none⟩ = some u ∧ ∀ ob, (w1.alloc ob).cell? ⟨w.heap.size, i, none⟩ = some u := fun i u hu => by
    have h1 := (hb1.cell (p := ⟨w.heap.size, i, none⟩) (by simp)).trans hu
    exact ⟨h1, fun ob => (((Below.refl w1.heap.size w1).alloc (Nat.le_refl _) ob).cell (p := ⟨w.heap.size, i, none⟩) (by have := hb1.size; simp at this ⊢; omega)).trans h1⟩
  obtain ⟨c0, c0a⟩ := hcell 0 (.int .i8 x.k) (cell_of_row _ _ 0 _ _ (0, 0) (heap_alloc_new w _))
  obtain ⟨c1, c1a⟩ := hcell 1 (.string (bs x.t)) (cell_of_row _ _ 1 _ _ (0, 0) (heap_alloc_new w _))
  obtain ⟨c2, c2a⟩ := hcell 2 (.int .i64 0) (cell_of_row _ _ 2 _ _ (0, 0) (heap_alloc_new w _))
  obtain ⟨c3, c3a⟩ := hcell 3 (.string (bs x.m)) (cell_of_row _ _ 3 _ _ (0, 0) (heap_alloc_new w _))
  obtain ⟨c4, c4a⟩ := hcell 4 (.string (bs x.a)) (cell_of_row _ _ 4 _ _ (0, 0) (heap_alloc_new w _))
  obtain ⟨c5, c5a⟩ := hcell 5 (.slice none 0 0) (cell_of_row _ _ 5 _ _ (0, 0) (heap_alloc_new w _))
  have hP1 : w1.cell? ⟨P, 0, none⟩ = some (.slice o n c) := cell_of_row _ P 0 _ _ (0, 0) HR.out.1.1
  have hP1a : ∀ ob, (w1.alloc ob).cell? ⟨P, 0, none⟩ = some (.slice o n c) := fun ob => (((Below.refl w1.heap.size w1).alloc (Nat.le_refl _) ob).cell (p := ⟨P, 0, none⟩) (World.block_lt_of_cell? w1 _ hP1)).trans hP1
  clear hz hcell hb1 HX hPa hk
  go_wp2_with fail
  go_ret
  have hR := HR.out
  rw [← hn] at hR ⊢
  exact ⟨_, rfl, hR.1, hR.2⟩
/-- A part is read. -/
theorem pread_any (x : X) (L : List X) (v : Value) (P B : Nat) (w : World) (h : PR P B L v w) (hPB : P < B) (hB : B ≤ w.heap.size) (hL : L.length ≤ 1000000) (hs : (L.map fun y => y.t.length).sum + x.t.length ≤ 1000000) :
    Calls Tryd.prog 51 #[x.val, .pointer (some ⟨P, 0, none⟩)] w fun e w' => ∃ v', e = .returned v' ∧ PR P B (addR x L) v' w' ∧ Kp P B w w' := by
  cases hx : x.isT with
  | false =>
    have e : addR x L = x :: L := by cases x <;> first | rfl | cases hx
    rw [e]
    exact pread_nontext x hx L v P B w h hPB hB hL
  | true =>
    obtain ⟨t, rfl⟩ : ∃ t, x = .text t := by cases x with | text t => exact ⟨t, rfl⟩ | ref _ => cases hx | att _ _ => cases hx
    by_cases ht : t = []
    · rw [show addR (.text t) L = L by rw [ht, addR_nil]]
      exact pread_empty (.text t) rfl ht L v P B w h hPB hB hL
    · cases hLc : L with
      | nil =>
        rw [show addR (.text t) [] = [.text t] by simp [addR, ht]]
        exact hLc ▸ pread_first (.text t) rfl ht L hLc v P B w h hPB hB hL
      | cons y M =>
        cases hy : y.isT with
        | false =>
          have e : addR (.text t) (y :: M) = .text t :: y :: M := by cases y <;> first | (simp [addR, ht]; done) | cases hy
          rw [e]
          exact hLc ▸ pread_next (.text t) rfl ht y M L hLc hy v P B w h hPB hB hL
        | true =>
          have e : addR (.text t) (y :: M) = .text (y.t ++ t) :: M := by cases y <;> first | (simp [addR, ht, X.t]; done) | cases hy
          rw [e]
          refine pread_join (.text t) rfl ht y M L hLc hy ?_ v P B w h hPB hB hL
          rw [hLc] at hs
          simp only [List.map_cons, List.sum_cons] at hs
          omega
end Go.Proofs.YtjnoomefppncoaaDoor
