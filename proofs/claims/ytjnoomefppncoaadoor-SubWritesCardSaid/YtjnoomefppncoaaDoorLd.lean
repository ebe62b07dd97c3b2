/-
  The reader's closure at a text.
-/
import Derived.Test.YtjnoomefppncoaaDoorLc
import Derived.Deep.RegionWith
set_option linter.unusedVariables false
namespace Go.Proofs.YtjnoomefppncoaaDoor
open Go.RowKit Go.Shelf

theorem bs_app (a b : List UInt8) : bs a ++ bs b = bs (a ++ b) := by
  apply ByteArray.ext
  simp [bs]
theorem last_six {P B m : Nat} {y : X} {M L : List X} {o : Option Addr} {c : Nat} {W : World} (h : PR P B L (.slice o (m + 1) c) W) (hL : L = y :: M) (hn : L.length = m + 1) :
    ∃ g, o = some ⟨g, 0, none⟩ ∧ W.cell? ⟨g, m * 6, none⟩ = some (.int .i8 y.k) ∧ W.cell? ⟨g, m * 6 + 1, none⟩ = some (.string (bs y.t)) ∧ W.cell? ⟨g, m * 6 + 2, none⟩ = some (.int .i64 0) ∧ W.cell? ⟨g, m * 6 + 3, none⟩ = some (.string (bs y.m)) ∧ W.cell? ⟨g, m * 6 + 4, none⟩ = some (.string (bs y.a)) ∧ W.cell? ⟨g, m * 6 + 5, none⟩ = some (.slice none 0 0) := by
  subst hL
  have hown := h.2
  rw [hn] at hown
  rcases hown.2 with ⟨h0, _⟩ | ⟨g, cap, cur, hv, _⟩
  · simp at h0
  simp only [Value.slice.injEq, true_and] at hv
  obtain ⟨rfl, rfl⟩ := hv
  have hM : (xcells M.reverse).length = m * 6 := by rw [xcells_len, List.length_reverse]; simp only [List.length_cons] at hn; omega
  have hx : xcells (y :: M).reverse = xcells M.reverse ++ y.cs := by rw [List.reverse_cons, xcells_snoc]
  have key : ∀ i u, i < 6 → y.cs[i]? = some u → W.cell? ⟨g, m * 6 + i, none⟩ = some u := fun i u hi hu => by
    rw [hown.cellAt (m * 6 + i) (by omega), hx, List.getElem?_append_right (by omega), hM, Nat.add_sub_cancel_left]
    exact hu
  exact ⟨g, rfl, key 0 _ (by omega) rfl, key 1 _ (by omega) rfl, key 2 _ (by omega) rfl, key 3 _ (by omega) rfl, key 4 _ (by omega) rfl, key 5 _ (by omega) rfl⟩

set_option maxRecDepth 100000 in
set_option maxHeartbeats 4000000 in
theorem pread_first (x : X) (hx : x.isT = true) (hx2 : x.t ≠ []) (L : List X) (hL0 : L = []) (v : Value) (P B : Nat) (w : World) (h : PR P B L v w) (hPB : P < B) (hB : B ≤ w.heap.size) (hL : L.length ≤ 1000000) :
    Calls Tryd.prog 51 #[x.val, .pointer (some ⟨P, 0, none⟩)] w fun e w' => ∃ v', e = .returned v' ∧ PR P B (x :: L) v' w' ∧ Kp P B w w' := by
  obtain ⟨i0, hi, hz0, hz1, hz2⟩ := info_parts infoX
  obtain ⟨n, hn⟩ : ∃ n, L.length = n := ⟨_, rfl⟩
  have hbk : Below w.heap.size w (w.alloc (.cells #[.int .i8 x.k, .string (bs x.t), .int .i64 0, .string (bs x.m), .string (bs x.a), .slice none 0 0] 36)) := (Below.refl _ _).alloc (Nat.le_refl _) _
  obtain ⟨o, ad, c, rfl, -, -, -, -, -⟩ := own_form h.2
  have HX : Hid (∀ W : World, Below (w.heap.size + 1) (w.alloc (.cells #[.int .i8 x.k, .string (bs x.t), .int .i64 0, .string (bs x.m), .string (bs x.a), .slice none 0 0] 36)) W → PR P B L (.slice o L.length c) W ∧ Kp P B w W) := Lib.hid fun W hb => by
    have hb2 := hbk.trans (hb.mono (Nat.le_succ _))
    exact ⟨h.below hb2, Kp.of_below hb2⟩
  have hPa : (w.alloc (.cells #[.int .i8 x.k, .string (bs x.t), .int .i64 0, .string (bs x.m), .string (bs x.a), .slice none 0 0] 36)).cell? ⟨P, 0, none⟩ = some (.slice o L.length c) := cell_of_row _ P 0 _ _ (0, 0) (h.below hbk).1
  rw [hn] at hPa HX
  have hk : ((x.k : Int) == 0) = true := by cases x <;> first | rfl | cases hx
  have hte : x.t.isEmpty = false := by cases h : x.t with | nil => exact absurd h hx2 | cons _ _ => rfl
  unfold X.val
  have hneg : ¬ ((0 : Int) ≤ (n : Int) - 1) := by
    have : n = 0 := by rw [← hn, hL0]; rfl
    omega
  clear h hx hbk
  go_enter Tryd.func51, Tryd.ntmps51
  go_wp2_with fail
  go_at_call 25
  refine (pisText_any _ _ _ _ _ _ _).mono ?_
  rintro e w1 ⟨rfl, hb1⟩
  rw [hk]
  have hz : (w.alloc (.cells #[.int .i8 x.k, .string (bs x.t), .int .i64 0, .string (bs x.m), .string (bs x.a), .slice none 0 0] 36)).heap.size = w.heap.size + 1 := by simp
  rw [hz] at hb1
  have HR := Lib.hid (HX.out w1 hb1)
  have hcell : ∀ i u, (w.alloc (.cells #[.int .i8 x.k, .string (bs x.t), .int .i64 0, .string (bs x.m), .string (bs x.a), .slice none 0 0] 36)).cell? ⟨w.heap.size, i, none⟩ = some u → w1.cell? ⟨w.heap.size, i, none⟩ = some u ∧ ∀ ob, (w1.alloc ob).cell? ⟨w.heap.size, i, none⟩ = some u := fun i u hu => by
    have h1 := (hb1.cell (p := ⟨w.heap.size, i, none⟩) (by simp)).trans hu
    exact ⟨h1, fun ob => (((Below.refl w1.heap.size w1).alloc (Nat.le_refl _) ob).cell (p := ⟨w.heap.size, i, none⟩) (by have := hb1.size; simp at this ⊢; omega)).trans h1⟩
  obtain ⟨c0, c0a⟩ := hcell 0 (.int .i8 x.k) (cell_of_row _ _ 0 _ _ (0, 0) (heap_alloc_new w _))
  obtain ⟨c1, c1a⟩ := hcell 1 (.string (bs x.t)) (cell_of_row _ _ 1 _ _ (0, 0) (heap_alloc_new w _))
  obtain ⟨c2, c2a⟩ := hcell 2 (.int .i64 0) (cell_of_row _ _ 2 _ _ (0, 0) (heap_alloc_new w _))
  obtain ⟨c3, c3a⟩ := hcell 3 (.string (bs x.m)) (cell_of_row _ _ 3 _ _ (0, 0) (heap_alloc_new w _))
  obtain ⟨c4, c4a⟩ := hcell 4 (.string (bs x.a)) (cell_of_row _ _ 4 _ _ (0, 0) (heap_alloc_new w _))
  obtain ⟨c5, c5a⟩ := hcell 5 (.slice none 0 0) (cell_of_row _ _ 5 _ _ (0, 0) (heap_alloc_new w _))
  have hP1 : w1.cell? ⟨P, 0, none⟩ = some (.slice o n c) := cell_of_row _ P 0 _ _ (0, 0) HR.out.1.1
  have hP1a : ∀ ob, (w1.alloc ob).cell? ⟨P, 0, none⟩ = some (.slice o n c) := fun ob => (((Below.refl w1.heap.size w1).alloc (Nat.le_refl _) ob).cell (p := ⟨P, 0, none⟩) (World.block_lt_of_cell? w1 _ hP1)).trans hP1
  have hn1 : n ≤ 1000000 := by omega
  have STEP := Lib.hid fun (W w3 : World) (v' : Value) (hb : Below w1.heap.size w1 W) (hg : W.grownBy w3 (Value.slice o n c).ownBlock) (hown : w3.ownsRow B 36 6 v' (n + 1) (xcells L.reverse ++ zcells)) => by
    have hPW := HR.out.1.below hb
    have hK := HR.out.2.trans (Kp.of_below hb)
    have hP3 : w3.heap[P]? = some (.cells #[.slice o n c] 23 (0, 0)) := (hg.block P (Array.getElem?_eq_some_iff.1 hPW.1).1 (fun e => by have := (hPW.2.lt P e.symm).1; omega)).trans hPW.1
    have hg2 : Kp P B W w3 := Kp.grown hg (fun r e => .inl (hPW.2.lt r e).1)
    exact And.intro (hK.trans hg2) (read_step x L P B n (.slice o n c) v' w3 hn hP3 hPB hown)
  have OWN : Hid (∀ W, Below w1.heap.size w1 W → W.ownsRow B 36 6 (.slice o n c) n (xcells L.reverse)) := Lib.hid fun W hb => by have := (HR.out.1.below hb).2; rw [hn] at this; exact this
  have HB1 : Hid (B ≤ w1.heap.size) := Lib.hid (by have := hb1.size; simp at this; omega)
  have hnlt : (n : Int) < (n : Int) + 1 := by omega
  clear hz hcell hb1 HX hPa hL hn hk
  go_wp2_with fail
  go_region_law (refine step_append_row rfl (.tmp 8) (.tmp 11) 23 rfl B 36 i0 zeroX 6 88 Tryd.underlying23 hi hz0 hz1 hz2 rfl (by decide) (.slice o n c) n (xcells L.reverse) (by simp [Act.eval, Act.put]) (OWN.out _ (by go_grown)) (some ⟨w1.heap.size, 0, none⟩) ⟨w1.heap.size, 0, none⟩ 1 1 zcells (by simp [Act.eval, Act.put]) (fun _ => rfl) rfl news_six ones_six (by unfold maxLen; omega) (by omega) (by have := HB1.out; simp; omega) ?_; intro o2 c2 w3 own3 gr3 at3; obtain ⟨hK3, g, c3, hv, hc1, hc2, ⟨y1, y2, y3, y4, y5, y6, yz, ⟨⟨_, q0⟩, q0', q0''⟩, ⟨⟨_, q1⟩, q1', q1''⟩, ⟨⟨_, q2⟩, q2', q2''⟩, ⟨⟨_, q3⟩, q3', q3''⟩, ⟨⟨_, q4⟩, q4', q4''⟩, ⟨⟨_, q5⟩, q5', q5''⟩, ⟨⟨_, q6⟩, q6', q6''⟩, HY⟩, ⟨zz, z1, z2, z3, z4, z5, z6, ⟨⟨_, r6⟩, r6', r6''⟩, ⟨⟨_, r0⟩, r0', r0''⟩, ⟨⟨_, r1⟩, r1', r1''⟩, ⟨⟨_, r2⟩, r2', r2''⟩, ⟨⟨_, r3⟩, r3', r3''⟩, ⟨⟨_, r4⟩, r4', r4''⟩, ⟨⟨_, r5⟩, r5', r5''⟩, HZ⟩⟩ := STEP.out _ _ _ (by go_grown) gr3 own3; simp only [Value.slice.injEq, true_and] at hv; obtain ⟨rfl, rfl⟩ := hv)
  all_goals
    have pz := HY.out.1
    have pz2 := HZ.out.1
    clear q0 q0' q0'' q1 q1' q1'' q2 q2' q2'' q3 q3' q3'' q4 q4' q4'' q5 q5' q5'' q6 q6' q6'' r0 r0' r0'' r1 r1' r1'' r2 r2' r2'' r3 r3' r3'' r4 r4' r4'' r5 r5' r5'' r6 r6' r6''
    go_wp2_with fail
    go_ret
    first | exact ⟨_, rfl, HY.out.2.1, hK3.trans HY.out.2.2⟩ | exact ⟨_, rfl, HZ.out.2.1, hK3.trans HZ.out.2.2⟩

set_option maxRecDepth 100000 in
set_option maxHeartbeats 4000000 in
theorem pread_next (x : X) (hx : x.isT = true) (hx2 : x.t ≠ []) (y : X) (M L : List X) (hL0 : L = y :: M) (hy : y.isT = false) (v : Value) (P B : Nat) (w : World) (h : PR P B L v w) (hPB : P < B) (hB : B ≤ w.heap.size) (hL : L.length ≤ 1000000) :
    Calls Tryd.prog 51 #[x.val, .pointer (some ⟨P, 0, none⟩)] w fun e w' => ∃ v', e = .returned v' ∧ PR P B (x :: L) v' w' ∧ Kp P B w w' := by
  obtain ⟨i0, hi, hz0, hz1, hz2⟩ := info_parts infoX
  obtain ⟨n, hn⟩ : ∃ n, L.length = n := ⟨_, rfl⟩
  have hbk : Below w.heap.size w (w.alloc (.cells #[.int .i8 x.k, .string (bs x.t), .int .i64 0, .string (bs x.m), .string (bs x.a), .slice none 0 0] 36)) := (Below.refl _ _).alloc (Nat.le_refl _) _
  obtain ⟨o, ad, c, rfl, -, -, -, -, -⟩ := own_form h.2
  have HX : Hid (∀ W : World, Below (w.heap.size + 1) (w.alloc (.cells #[.int .i8 x.k, .string (bs x.t), .int .i64 0, .string (bs x.m), .string (bs x.a), .slice none 0 0] 36)) W → PR P B L (.slice o L.length c) W ∧ Kp P B w W) := Lib.hid fun W hb => by
    have hb2 := hbk.trans (hb.mono (Nat.le_succ _))
    exact ⟨h.below hb2, Kp.of_below hb2⟩
  have hPa : (w.alloc (.cells #[.int .i8 x.k, .string (bs x.t), .int .i64 0, .string (bs x.m), .string (bs x.a), .slice none 0 0] 36)).cell? ⟨P, 0, none⟩ = some (.slice o L.length c) := cell_of_row _ P 0 _ _ (0, 0) (h.below hbk).1
  rw [hn] at hPa HX
  have hk : ((x.k : Int) == 0) = true := by cases x <;> first | rfl | cases hx
  have hte : x.t.isEmpty = false := by cases h : x.t with | nil => exact absurd h hx2 | cons _ _ => rfl
  unfold X.val
  have hky : ((y.k : Int) == 0) = false := by cases y <;> first | rfl | cases hy
  obtain ⟨m, rfl⟩ : ∃ m, n = m + 1 := ⟨M.length, by rw [← hn, hL0]; rfl⟩
  clear h hx hbk
  go_enter Tryd.func51, Tryd.ntmps51
  go_wp2_with fail
  go_at_call 25
  refine (pisText_any _ _ _ _ _ _ _).mono ?_
  rintro e w1 ⟨rfl, hb1⟩
  rw [hk]
  have hz : (w.alloc (.cells #[.int .i8 x.k, .string (bs x.t), .int .i64 0, .string (bs x.m), .string (bs x.a), .slice none 0 0] 36)).heap.size = w.heap.size + 1 := by simp
  rw [hz] at hb1
  have c1 : w1.cell? ⟨w.heap.size, 1, none⟩ = some (.string (bs x.t)) := (hb1.cell (p := ⟨w.heap.size, 1, none⟩) (by simp)).trans (cell_of_row _ _ 1 _ _ (0, 0) (heap_alloc_new w _))
  have hP1 : w1.cell? ⟨P, 0, none⟩ = some (.slice o (m + 1) c) := cell_of_row _ P 0 _ _ (0, 0) (HX.out w1 hb1).1.1
  obtain ⟨g, hog, d0, d1, d2, d3, d4, d5⟩ := last_six (HX.out w1 hb1).1 hL0 hn
  subst hog
  have HB1 := Lib.hid hb1
  have HP := Lib.hid hPa
  clear hb1 hPa
  go_wp2_with fail
  go_at_call 25
  refine (pisText_any _ _ _ _ _ _ _).mono ?_
  rintro e w2 ⟨rfl, hb2⟩
  rw [hky]
  have hPa := HP.out
  have hb1 := HB1.out.trans (hb2.mono (by have := HB1.out.size; simpa using this))
  clear HP HB1 c1 hP1 d0 d1 d2 d3 d4 d5 hb2 hz
  have hz : (w.alloc (.cells #[.int .i8 x.k, .string (bs x.t), .int .i64 0, .string (bs x.m), .string (bs x.a), .slice none 0 0] 36)).heap.size = w.heap.size + 1 := by simp
  have HR := Lib.hid (HX.out w2 hb1)
  have hcell : ∀ i u, (w.alloc (.cells #[.int .i8 x.k, .string (bs x.t), .int .i64 0, .string (bs x.m), .string (bs x.a), .slice none 0 0] 36)).cell? ⟨w.heap.size, i, none⟩ = some u → w2.cell? ⟨w.heap.size, i, none⟩ = some u ∧ ∀ ob, (w2.alloc ob).cell? ⟨w.heap.size, i, none⟩ = some u := fun i u hu => by
    have h1 := (hb1.cell (p := ⟨w.heap.size, i, none⟩) (by simp)).trans hu
    exact ⟨h1, fun ob => (((Below.refl w2.heap.size w2).alloc (Nat.le_refl _) ob).cell (p := ⟨w.heap.size, i, none⟩) (by have := hb1.size; simp at this ⊢; omega)).trans h1⟩
  obtain ⟨c0, c0a⟩ := hcell 0 (.int .i8 x.k) (cell_of_row _ _ 0 _ _ (0, 0) (heap_alloc_new w _))
  obtain ⟨c1, c1a⟩ := hcell 1 (.string (bs x.t)) (cell_of_row _ _ 1 _ _ (0, 0) (heap_alloc_new w _))
  obtain ⟨c2, c2a⟩ := hcell 2 (.int .i64 0) (cell_of_row _ _ 2 _ _ (0, 0) (heap_alloc_new w _))
  obtain ⟨c3, c3a⟩ := hcell 3 (.string (bs x.m)) (cell_of_row _ _ 3 _ _ (0, 0) (heap_alloc_new w _))
  obtain ⟨c4, c4a⟩ := hcell 4 (.string (bs x.a)) (cell_of_row _ _ 4 _ _ (0, 0) (heap_alloc_new w _))
  obtain ⟨c5, c5a⟩ := hcell 5 (.slice none 0 0) (cell_of_row _ _ 5 _ _ (0, 0) (heap_alloc_new w _))
  have hP1 : w2.cell? ⟨P, 0, none⟩ = some (.slice (some ⟨g, 0, none⟩) (m + 1) c) := cell_of_row _ P 0 _ _ (0, 0) HR.out.1.1
  have hP1a : ∀ ob, (w2.alloc ob).cell? ⟨P, 0, none⟩ = some (.slice (some ⟨g, 0, none⟩) (m + 1) c) := fun ob => (((Below.refl w2.heap.size w2).alloc (Nat.le_refl _) ob).cell (p := ⟨P, 0, none⟩) (World.block_lt_of_cell? w2 _ hP1)).trans hP1
  have hn1 : m + 1 ≤ 1000000 := by omega
  have STEP := Lib.hid fun (W w3 : World) (v' : Value) (hb : Below w2.heap.size w2 W) (hg : W.grownBy w3 (Value.slice (some ⟨g, 0, none⟩) (m + 1) c).ownBlock) (hown : w3.ownsRow B 36 6 v' ((m + 1) + 1) (xcells L.reverse ++ zcells)) => by
    have hPW := HR.out.1.below hb
    have hK := HR.out.2.trans (Kp.of_below hb)
    have hP3 : w3.heap[P]? = some (.cells #[.slice (some ⟨g, 0, none⟩) (m + 1) c] 23 (0, 0)) := (hg.block P (Array.getElem?_eq_some_iff.1 hPW.1).1 (fun e => by have := (hPW.2.lt P e.symm).1; omega)).trans hPW.1
    have hg2 : Kp P B W w3 := Kp.grown hg (fun r e => .inl (hPW.2.lt r e).1)
    exact And.intro (hK.trans hg2) (read_step x L P B (m + 1) (.slice (some ⟨g, 0, none⟩) (m + 1) c) v' w3 hn hP3 hPB hown)
  have OWN : Hid (∀ W, Below w2.heap.size w2 W → W.ownsRow B 36 6 (.slice (some ⟨g, 0, none⟩) (m + 1) c) (m + 1) (xcells L.reverse)) := Lib.hid fun W hb => by have := (HR.out.1.below hb).2; rw [hn] at this; exact this
  have HB1 : Hid (B ≤ w2.heap.size) := Lib.hid (by have := hb1.size; simp at this; omega)
  have hnlt : ((m + 1) : Int) < ((m + 1) : Int) + 1 := by omega
  have h0m : (0 : Int) ≤ (m : Int) + 1 := by omega
  clear hz hcell hb1 HX hPa hL hn hk
  go_wp2_with fail
  go_region_law (refine step_append_row rfl (.tmp 8) (.tmp 11) 23 rfl B 36 i0 zeroX 6 88 Tryd.underlying23 hi hz0 hz1 hz2 rfl (by decide) (.slice (some ⟨g, 0, none⟩) (m + 1) c) (m + 1) (xcells L.reverse) (by simp [Act.eval, Act.put]) (OWN.out _ (by go_grown)) (some ⟨w2.heap.size, 0, none⟩) ⟨w2.heap.size, 0, none⟩ 1 1 zcells (by simp [Act.eval, Act.put]) (fun _ => rfl) rfl news_six ones_six (by unfold maxLen; omega) (by omega) (by have := HB1.out; simp; omega) ?_; intro o2 c2 w3 own3 gr3 at3; obtain ⟨hK3, g2, c3, hv, hc1, hc2, ⟨y1, y2, y3, y4, y5, y6, yz, ⟨⟨_, q0⟩, q0', q0''⟩, ⟨⟨_, q1⟩, q1', q1''⟩, ⟨⟨_, q2⟩, q2', q2''⟩, ⟨⟨_, q3⟩, q3', q3''⟩, ⟨⟨_, q4⟩, q4', q4''⟩, ⟨⟨_, q5⟩, q5', q5''⟩, ⟨⟨_, q6⟩, q6', q6''⟩, HY⟩, ⟨zz, z1, z2, z3, z4, z5, z6, ⟨⟨_, r6⟩, r6', r6''⟩, ⟨⟨_, r0⟩, r0', r0''⟩, ⟨⟨_, r1⟩, r1', r1''⟩, ⟨⟨_, r2⟩, r2', r2''⟩, ⟨⟨_, r3⟩, r3', r3''⟩, ⟨⟨_, r4⟩, r4', r4''⟩, ⟨⟨_, r5⟩, r5', r5''⟩, HZ⟩⟩ := STEP.out _ _ _ (by go_grown) gr3 own3; simp only [Value.slice.injEq, true_and] at hv; obtain ⟨rfl, rfl⟩ := hv)
  all_goals
    have pz := HY.out.1
    have pz2 := HZ.out.1
    clear q0 q0' q0'' q1 q1' q1'' q2 q2' q2'' q3 q3' q3'' q4 q4' q4'' q5 q5' q5'' q6 q6' q6'' r0 r0' r0'' r1 r1' r1'' r2 r2' r2'' r3 r3' r3'' r4 r4' r4'' r5 r5' r5'' r6 r6' r6''
    go_wp2_with fail
    go_ret
    first | exact ⟨_, rfl, HY.out.2.1, hK3.trans HY.out.2.2⟩ | exact ⟨_, rfl, HZ.out.2.1, hK3.trans HZ.out.2.2⟩

set_option maxRecDepth 100000 in
set_option maxHeartbeats 4000000 in
theorem pread_join (x : X) (hx : x.isT = true) (hx2 : x.t ≠ []) (y : X) (M L : List X) (hL0 : L = y :: M) (hy : y.isT = true) (hsum : y.t.length + x.t.length ≤ 1000000) (v : Value) (P B : Nat) (w : World) (h : PR P B L v w) (hPB : P < B) (hB : B ≤ w.heap.size) (hL : L.length ≤ 1000000) :
    Calls Tryd.prog 51 #[x.val, .pointer (some ⟨P, 0, none⟩)] w fun e w' => ∃ v', e = .returned v' ∧ PR P B (.text (y.t ++ x.t) :: M) v' w' ∧ Kp P B w w' := by
  obtain ⟨i0, hi, hz0, hz1, hz2⟩ := info_parts infoX
  obtain ⟨n, hn⟩ : ∃ n, L.length = n := ⟨_, rfl⟩
  have hbk : Below w.heap.size w (w.alloc (.cells #[.int .i8 x.k, .string (bs x.t), .int .i64 0, .string (bs x.m), .string (bs x.a), .slice none 0 0] 36)) := (Below.refl _ _).alloc (Nat.le_refl _) _
  obtain ⟨o, ad, c, rfl, -, -, -, -, -⟩ := own_form h.2
  have HX : Hid (∀ W : World, Below (w.heap.size + 1) (w.alloc (.cells #[.int .i8 x.k, .string (bs x.t), .int .i64 0, .string (bs x.m), .string (bs x.a), .slice none 0 0] 36)) W → PR P B L (.slice o L.length c) W ∧ Kp P B w W) := Lib.hid fun W hb => by
    have hb2 := hbk.trans (hb.mono (Nat.le_succ _))
    exact ⟨h.below hb2, Kp.of_below hb2⟩
  have hPa : (w.alloc (.cells #[.int .i8 x.k, .string (bs x.t), .int .i64 0, .string (bs x.m), .string (bs x.a), .slice none 0 0] 36)).cell? ⟨P, 0, none⟩ = some (.slice o L.length c) := cell_of_row _ P 0 _ _ (0, 0) (h.below hbk).1
  rw [hn] at hPa HX
  have hk : ((x.k : Int) == 0) = true := by cases x <;> first | rfl | cases hx
  have hte : x.t.isEmpty = false := by cases h : x.t with | nil => exact absurd h hx2 | cons _ _ => rfl
  unfold X.val
  have hky : ((y.k : Int) == 0) = true := by cases y <;> first | rfl | cases hy
  obtain ⟨m, rfl⟩ : ∃ m, n = m + 1 := ⟨M.length, by rw [← hn, hL0]; rfl⟩
  clear h hx hbk
  go_enter Tryd.func51, Tryd.ntmps51
  go_wp2_with fail
  go_at_call 25
  refine (pisText_any _ _ _ _ _ _ _).mono ?_
  rintro e w1 ⟨rfl, hb1⟩
  rw [hk]
  have hz : (w.alloc (.cells #[.int .i8 x.k, .string (bs x.t), .int .i64 0, .string (bs x.m), .string (bs x.a), .slice none 0 0] 36)).heap.size = w.heap.size + 1 := by simp
  rw [hz] at hb1
  have c1 : w1.cell? ⟨w.heap.size, 1, none⟩ = some (.string (bs x.t)) := (hb1.cell (p := ⟨w.heap.size, 1, none⟩) (by simp)).trans (cell_of_row _ _ 1 _ _ (0, 0) (heap_alloc_new w _))
  have hP1 : w1.cell? ⟨P, 0, none⟩ = some (.slice o (m + 1) c) := cell_of_row _ P 0 _ _ (0, 0) (HX.out w1 hb1).1.1
  obtain ⟨g, hog, d0, d1, d2, d3, d4, d5⟩ := last_six (HX.out w1 hb1).1 hL0 hn
  subst hog
  have HB1 := Lib.hid hb1
  have HP := Lib.hid hPa
  clear hb1 hPa
  go_wp2_with fail
  go_at_call 25
  refine (pisText_any _ _ _ _ _ _ _).mono ?_
  rintro e w2 ⟨rfl, hb2⟩
  rw [hky]
  have hPa := HP.out
  have hb1 := HB1.out.trans (hb2.mono (by have := HB1.out.size; simpa using this))
  clear HP HB1 c1 hP1 d0 d1 d2 d3 d4 d5 hb2 hz
  have hz : (w.alloc (.cells #[.int .i8 x.k, .string (bs x.t), .int .i64 0, .string (bs x.m), .string (bs x.a), .slice none 0 0] 36)).heap.size = w.heap.size + 1 := by simp
  have HR := Lib.hid (HX.out w2 hb1)
  have hcell : ∀ i u, (w.alloc (.cells #[.int .i8 x.k, .string (bs x.t), .int .i64 0, .string (bs x.m), .string (bs x.a), .slice none 0 0] 36)).cell? ⟨w.heap.size, i, none⟩ = some u → w2.cell? ⟨w.heap.size, i, none⟩ = some u ∧ ∀ ob, (w2.alloc ob).cell? ⟨w.heap.size, i, none⟩ = some u := fun i u hu => by
    have h1 := (hb1.cell (p := ⟨w.heap.size, i, none⟩) (by simp)).trans hu
    exact ⟨h1, fun ob => (((Below.refl w2.heap.size w2).alloc (Nat.le_refl _) ob).cell (p := ⟨w.heap.size, i, none⟩) (by have := hb1.size; simp at this ⊢; omega)).trans h1⟩
  obtain ⟨c0, c0a⟩ := hcell 0 (.int .i8 x.k) (cell_of_row _ _ 0 _ _ (0, 0) (heap_alloc_new w _))
  obtain ⟨c1, c1a⟩ := hcell 1 (.string (bs x.t)) (cell_of_row _ _ 1 _ _ (0, 0) (heap_alloc_new w _))
  obtain ⟨c2, c2a⟩ := hcell 2 (.int .i64 0) (cell_of_row _ _ 2 _ _ (0, 0) (heap_alloc_new w _))
  obtain ⟨c3, c3a⟩ := hcell 3 (.string (bs x.m)) (cell_of_row _ _ 3 _ _ (0, 0) (heap_alloc_new w _))
  obtain ⟨c4, c4a⟩ := hcell 4 (.string (bs x.a)) (cell_of_row _ _ 4 _ _ (0, 0) (heap_alloc_new w _))
  obtain ⟨c5, c5a⟩ := hcell 5 (.slice none 0 0) (cell_of_row _ _ 5 _ _ (0, 0) (heap_alloc_new w _))
  have hP1 : w2.cell? ⟨P, 0, none⟩ = some (.slice (some ⟨g, 0, none⟩) (m + 1) c) := cell_of_row _ P 0 _ _ (0, 0) HR.out.1.1
  have hP1a : ∀ ob, (w2.alloc ob).cell? ⟨P, 0, none⟩ = some (.slice (some ⟨g, 0, none⟩) (m + 1) c) := fun ob => (((Below.refl w2.heap.size w2).alloc (Nat.le_refl _) ob).cell (p := ⟨P, 0, none⟩) (World.block_lt_of_cell? w2 _ hP1)).trans hP1
  obtain ⟨g', hog, d0, d1, d2, d3, d4, d5⟩ := last_six HR.out.1 hL0 hn
  obtain rfl : g = g' := by simpa using hog
  have hown := HR.out.1.2
  rw [hn] at hown
  obtain ⟨y1, ⟨_, f2, f3⟩, f4, f5⟩ := own_store hown (m * 6 + 1) (by omega) (.string (bs y.t ++ bs x.t))
  have HF : Hid (y1.cell? ⟨P, 0, none⟩ = some (.slice (some ⟨g, 0, none⟩) (m + 1) c) ∧ PR P B (.text (y.t ++ x.t) :: M) (.slice (some ⟨g, 0, none⟩) (m + 1) c) y1 ∧ Kp P B w y1) := Lib.hid (by
    have hgB : B ≤ g ∧ g < w2.heap.size := hown.lt g rfl
    have hPy : y1.heap[P]? = some (.cells #[.slice (some ⟨g, 0, none⟩) (m + 1) c] 23 (0, 0)) := (f5.block P (Array.getElem?_eq_some_iff.1 HR.out.1.1).1 (by simp; omega)).trans HR.out.1.1
    refine ⟨cell_of_row _ P 0 _ _ (0, 0) hPy, ⟨hPy, ?_⟩, HR.out.2.trans (Kp.grown f5 (fun r e => by cases e; exact .inl hgB.1))⟩
    have e : xcells (X.text (y.t ++ x.t) :: M).reverse = (xcells L.reverse).set (m * 6 + 1) (.string (bs y.t ++ bs x.t)) := by
      rw [hL0, List.reverse_cons, xcells_snoc, List.reverse_cons, xcells_snoc]
      have hM : (xcells M.reverse).length = m * 6 := by rw [xcells_len, List.length_reverse]; rw [hL0] at hn; simp only [List.length_cons] at hn; omega
      rw [List.set_append_right _ _ (by omega), hM, Nat.add_sub_cancel_left]
      congr 1
      cases y with
      | text u => simp [X.cs, X.k, X.t, X.m, X.a, bs_app]
      | ref _ => cases hy
      | att _ _ => cases hy
    rw [e, List.length_cons, show M.length + 1 = m + 1 by rw [← hn, hL0]; rfl]
    exact f4)
  have hsz : (bs y.t).size + (bs x.t).size ≤ 9223372036854775807 := by rw [bs_size, bs_size]; omega
  have pz := HF.out.1
  clear hz hcell hb1 HX hPa hL hn hk hown f4 f5 hsum
  go_wp2_with fail
  go_region
  all_goals
    go_wp2_with fail
    go_ret
    exact ⟨_, rfl, HF.out.2.1, HF.out.2.2⟩
end Go.Proofs.YtjnoomefppncoaaDoor
