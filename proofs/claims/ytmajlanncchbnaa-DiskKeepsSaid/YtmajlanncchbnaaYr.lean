/-
  does: an act on both.
-/
import Derived.Test.YtmajlanncchbnaaYq
set_option linter.unusedVariables false
namespace Go.Proofs.Ytmajlanncchbnaa
open Go.RowKit Go.Shelf Go.Lib Go.Deep

/-- An act. -/
def opD (s : DS) (X : AC) : Int × DS :=
  if X.d = 0 then appD s X.b else if X.d = 1 then swapD s X.b else if X.d = 2 then cutD s X.n else if X.d = 3 then armD s X.n else if X.d = 4 then crashD s else upD s

theorem rd_far {t : TypeId} {base b : Nat} {s : DS} {v u : Value} {x : List UInt8} {W0 w : World} (hx : rd W0 x u) (hb0 : W0.heap.size = base) (h : Dk t base b s v w) (hb : Below base W0 w) : ∀ W, Fr (fun k => k = b) w W → rd W x u := fun W hF =>
  hx.below (by
    rw [hb0]
    exact hb.trans (hF.below (fun k e => by subst e; exact h.2.1) (by have := hb.size; omega)))


set_option maxRecDepth 100000 in
set_option maxHeartbeats 8000000 in
theorem does_app {W0 : World} {bp br : Nat} {s : DS} {vp vr : Value} (x : List UInt8) (n : Int) (c1 : Value) (W : World) (h : J W0 bp br s s vp vr W) (hx : rd W0 x c1) :
    Calls Try.prog 15 #[.pointer (some ⟨bp, 0, none⟩), .pointer (some ⟨br, 0, none⟩), .agg #[.int .i64 0, c1, .int .i64 n]] W fun e w' => e = .returned (.bool true) ∧ Hid (JE W0 bp br (FP bp br vp vr) W (appD s x).2 (appD s x).2 w') := by
  have hB : Below W.heap.size W (W.alloc (.cells #[.int .i64 0, c1, .int .i64 n] 31)) := (Below.refl _ _).alloc (Nat.le_refl _) _
  have hn : (W.alloc (.cells #[.int .i64 0, c1, .int .i64 n] 31)).heap[W.heap.size]? = some (.cells #[.int .i64 0, c1, .int .i64 n] 31 (0, 0)) := heap_alloc_new W _
  have h1 := h.below hB
  have hsz := h.2.2.2.size
  have CELLS : ∀ sp sr w2, JE W0 bp br (FP bp br vp vr) (W.alloc (.cells #[.int .i64 0, c1, .int .i64 n] 31)) sp sr w2 → w2.cell? ⟨W.heap.size, 0, none⟩ = some (.int .i64 0) ∧ w2.cell? ⟨W.heap.size, 1, none⟩ = some c1 ∧ w2.cell? ⟨W.heap.size, 2, none⟩ = some (.int .i64 n) := fun sp sr w2 ⟨_, _, _, hF, _⟩ => by
    have := hF.2 _ _ hn (fun hk => by have := (h.low _ hk).2; omega)
    exact ⟨by simp [World.cell?, this], by simp [World.cell?, this], by simp [World.cell?, this]⟩
  have FIN : Hid (∀ sp sr w2, Hid (JE W0 bp br (FP bp br vp vr) (W.alloc (.cells #[.int .i64 0, c1, .int .i64 n] 31)) sp sr w2) → Hid (JE W0 bp br (FP bp br vp vr) W sp sr w2)) := Lib.hid fun sp sr w2 hj => Lib.hid (hj.out.from hB)
  obtain ⟨o, a, c, rfl, hr1, hr2, _⟩ := id hx
  obtain ⟨PA, PB⟩ := pair_op 17 35 #[.pointer (some ⟨bp, 0, none⟩), .slice o x.length c] #[.pointer (some ⟨br, 0, none⟩), .slice o x.length c] (fun s => appD s x) h1
    (fun w1 v hk hb => append_any w1 hk hb.size (hx.below hb)) (fun w1 v hk hb => rapp_any w1 hk hb.size (rd_far hx rfl hk hb))
  generalize appD s x = r at PA PB ⊢
  have CE := Lib.hid CELLS

  clear h h1 hB hn hsz CELLS hx hr1 hr2
  go_enter Try.func15, Try.ntmps15
  go_wp2_with fail
  go_region_with (first
    | (go_at_call 17; refine (PA.out _ (Below.refl _ _).drew).mono ?_; rintro e w2 ⟨rfl, hj⟩; obtain ⟨x0, x1, x2⟩ := CE.out _ _ _ hj.out)
    | (go_at_call 35; refine (PB.out _ (by assumption)).mono ?_; rintro e w3 ⟨rfl, hj3⟩; obtain ⟨y0, y1, y2⟩ := CE.out _ _ _ hj3.out))
  all_goals go_wp2_with fail
  all_goals go_ret
  all_goals exact ⟨rfl, FIN.out _ _ _ (by assumption)⟩

set_option maxRecDepth 100000 in
set_option maxHeartbeats 8000000 in
theorem does_swap {W0 : World} {bp br : Nat} {s : DS} {vp vr : Value} (x : List UInt8) (n : Int) (c1 : Value) (W : World) (h : J W0 bp br s s vp vr W) (hx : rd W0 x c1) :
    Calls Try.prog 15 #[.pointer (some ⟨bp, 0, none⟩), .pointer (some ⟨br, 0, none⟩), .agg #[.int .i64 1, c1, .int .i64 n]] W fun e w' => e = .returned (.bool true) ∧ Hid (JE W0 bp br (FP bp br vp vr) W (swapD s x).2 (swapD s x).2 w') := by
  have hB : Below W.heap.size W (W.alloc (.cells #[.int .i64 1, c1, .int .i64 n] 31)) := (Below.refl _ _).alloc (Nat.le_refl _) _
  have hn : (W.alloc (.cells #[.int .i64 1, c1, .int .i64 n] 31)).heap[W.heap.size]? = some (.cells #[.int .i64 1, c1, .int .i64 n] 31 (0, 0)) := heap_alloc_new W _
  have h1 := h.below hB
  have hsz := h.2.2.2.size
  have CELLS : ∀ sp sr w2, JE W0 bp br (FP bp br vp vr) (W.alloc (.cells #[.int .i64 1, c1, .int .i64 n] 31)) sp sr w2 → w2.cell? ⟨W.heap.size, 0, none⟩ = some (.int .i64 1) ∧ w2.cell? ⟨W.heap.size, 1, none⟩ = some c1 ∧ w2.cell? ⟨W.heap.size, 2, none⟩ = some (.int .i64 n) := fun sp sr w2 ⟨_, _, _, hF, _⟩ => by
    have := hF.2 _ _ hn (fun hk => by have := (h.low _ hk).2; omega)
    exact ⟨by simp [World.cell?, this], by simp [World.cell?, this], by simp [World.cell?, this]⟩
  have FIN : Hid (∀ sp sr w2, Hid (JE W0 bp br (FP bp br vp vr) (W.alloc (.cells #[.int .i64 1, c1, .int .i64 n] 31)) sp sr w2) → Hid (JE W0 bp br (FP bp br vp vr) W sp sr w2)) := Lib.hid fun sp sr w2 hj => Lib.hid (hj.out.from hB)
  obtain ⟨o, a, c, rfl, hr1, hr2, _⟩ := id hx
  obtain ⟨PA, PB⟩ := pair_op 13 36 #[.pointer (some ⟨bp, 0, none⟩), .slice o x.length c] #[.pointer (some ⟨br, 0, none⟩), .slice o x.length c] (fun s => swapD s x) h1
    (fun w1 v hk hb => swap_any w1 hk hb.size (hx.below hb)) (fun w1 v hk hb => rswap_any w1 hk hb.size (rd_far hx rfl hk hb))
  generalize swapD s x = r at PA PB ⊢
  have CE := Lib.hid CELLS

  clear h h1 hB hn hsz CELLS hx hr1 hr2
  go_enter Try.func15, Try.ntmps15
  go_wp2_with fail
  go_region_with (first
    | (go_at_call 13; refine (PA.out _ (Below.refl _ _).drew).mono ?_; rintro e w2 ⟨rfl, hj⟩; obtain ⟨x0, x1, x2⟩ := CE.out _ _ _ hj.out)
    | (go_at_call 36; refine (PB.out _ (by assumption)).mono ?_; rintro e w3 ⟨rfl, hj3⟩; obtain ⟨y0, y1, y2⟩ := CE.out _ _ _ hj3.out))
  all_goals go_wp2_with fail
  all_goals go_ret
  all_goals exact ⟨rfl, FIN.out _ _ _ (by assumption)⟩

set_option maxRecDepth 100000 in
set_option maxHeartbeats 8000000 in
theorem does_cut {W0 : World} {bp br : Nat} {s : DS} {vp vr : Value} (x : List UInt8) (n : Int) (c1 : Value) (W : World) (h : J W0 bp br s s vp vr W) (hx : rd W0 x c1) :
    Calls Try.prog 15 #[.pointer (some ⟨bp, 0, none⟩), .pointer (some ⟨br, 0, none⟩), .agg #[.int .i64 2, c1, .int .i64 n]] W fun e w' => e = .returned (.bool true) ∧ Hid (JE W0 bp br (FP bp br vp vr) W (cutD s n).2 (cutD s n).2 w') := by
  have hB : Below W.heap.size W (W.alloc (.cells #[.int .i64 2, c1, .int .i64 n] 31)) := (Below.refl _ _).alloc (Nat.le_refl _) _
  have hn : (W.alloc (.cells #[.int .i64 2, c1, .int .i64 n] 31)).heap[W.heap.size]? = some (.cells #[.int .i64 2, c1, .int .i64 n] 31 (0, 0)) := heap_alloc_new W _
  have h1 := h.below hB
  have hsz := h.2.2.2.size
  have CELLS : ∀ sp sr w2, JE W0 bp br (FP bp br vp vr) (W.alloc (.cells #[.int .i64 2, c1, .int .i64 n] 31)) sp sr w2 → w2.cell? ⟨W.heap.size, 0, none⟩ = some (.int .i64 2) ∧ w2.cell? ⟨W.heap.size, 1, none⟩ = some c1 ∧ w2.cell? ⟨W.heap.size, 2, none⟩ = some (.int .i64 n) := fun sp sr w2 ⟨_, _, _, hF, _⟩ => by
    have := hF.2 _ _ hn (fun hk => by have := (h.low _ hk).2; omega)
    exact ⟨by simp [World.cell?, this], by simp [World.cell?, this], by simp [World.cell?, this]⟩
  have FIN : Hid (∀ sp sr w2, Hid (JE W0 bp br (FP bp br vp vr) (W.alloc (.cells #[.int .i64 2, c1, .int .i64 n] 31)) sp sr w2) → Hid (JE W0 bp br (FP bp br vp vr) W sp sr w2)) := Lib.hid fun sp sr w2 hj => Lib.hid (hj.out.from hB)
  obtain ⟨o, a, c, rfl, hr1, hr2, _⟩ := id hx
  obtain ⟨PA, PB⟩ := pair_op 18 37 #[.pointer (some ⟨bp, 0, none⟩), .int .i64 n] #[.pointer (some ⟨br, 0, none⟩), .int .i64 n] (fun s => cutD s n) h1
    (fun w1 v hk hb => cut_any n w1 hk) (fun w1 v hk hb => rcut_any n w1 hk hb.size)
  generalize cutD s n = r at PA PB ⊢
  have CE := Lib.hid CELLS

  clear h h1 hB hn hsz CELLS hx hr1 hr2
  go_enter Try.func15, Try.ntmps15
  go_wp2_with fail
  go_region_with (first
    | (go_at_call 18; refine (PA.out _ (Below.refl _ _).drew).mono ?_; rintro e w2 ⟨rfl, hj⟩; obtain ⟨x0, x1, x2⟩ := CE.out _ _ _ hj.out)
    | (go_at_call 37; refine (PB.out _ (by assumption)).mono ?_; rintro e w3 ⟨rfl, hj3⟩; obtain ⟨y0, y1, y2⟩ := CE.out _ _ _ hj3.out))
  all_goals go_wp2_with fail
  all_goals go_ret
  all_goals exact ⟨rfl, FIN.out _ _ _ (by assumption)⟩

set_option maxRecDepth 100000 in
set_option maxHeartbeats 8000000 in
theorem does_arm {W0 : World} {bp br : Nat} {s : DS} {vp vr : Value} (x : List UInt8) (n : Int) (c1 : Value) (W : World) (h : J W0 bp br s s vp vr W) (hx : rd W0 x c1) :
    Calls Try.prog 15 #[.pointer (some ⟨bp, 0, none⟩), .pointer (some ⟨br, 0, none⟩), .agg #[.int .i64 3, c1, .int .i64 n]] W fun e w' => e = .returned (.bool true) ∧ Hid (JE W0 bp br (FP bp br vp vr) W (armD s n).2 (armD s n).2 w') := by
  have hB : Below W.heap.size W (W.alloc (.cells #[.int .i64 3, c1, .int .i64 n] 31)) := (Below.refl _ _).alloc (Nat.le_refl _) _
  have hn : (W.alloc (.cells #[.int .i64 3, c1, .int .i64 n] 31)).heap[W.heap.size]? = some (.cells #[.int .i64 3, c1, .int .i64 n] 31 (0, 0)) := heap_alloc_new W _
  have h1 := h.below hB
  have hsz := h.2.2.2.size
  have CELLS : ∀ sp sr w2, JE W0 bp br (FP bp br vp vr) (W.alloc (.cells #[.int .i64 3, c1, .int .i64 n] 31)) sp sr w2 → w2.cell? ⟨W.heap.size, 0, none⟩ = some (.int .i64 3) ∧ w2.cell? ⟨W.heap.size, 1, none⟩ = some c1 ∧ w2.cell? ⟨W.heap.size, 2, none⟩ = some (.int .i64 n) := fun sp sr w2 ⟨_, _, _, hF, _⟩ => by
    have := hF.2 _ _ hn (fun hk => by have := (h.low _ hk).2; omega)
    exact ⟨by simp [World.cell?, this], by simp [World.cell?, this], by simp [World.cell?, this]⟩
  have FIN : Hid (∀ sp sr w2, Hid (JE W0 bp br (FP bp br vp vr) (W.alloc (.cells #[.int .i64 3, c1, .int .i64 n] 31)) sp sr w2) → Hid (JE W0 bp br (FP bp br vp vr) W sp sr w2)) := Lib.hid fun sp sr w2 hj => Lib.hid (hj.out.from hB)
  obtain ⟨o, a, c, rfl, hr1, hr2, _⟩ := id hx
  obtain ⟨PA, PB⟩ := pair_op 19 38 #[.pointer (some ⟨bp, 0, none⟩), .int .i64 n] #[.pointer (some ⟨br, 0, none⟩), .int .i64 n] (fun s => armD s n) h1
    (fun w1 v hk hb => arm_any n w1 hk) (fun w1 v hk hb => rarm_any n w1 hk)
  generalize armD s n = r at PA PB ⊢
  have CE := Lib.hid CELLS

  clear h h1 hB hn hsz CELLS hx hr1 hr2
  go_enter Try.func15, Try.ntmps15
  go_wp2_with fail
  go_region_with (first
    | (go_at_call 19; refine (PA.out _ (Below.refl _ _).drew).mono ?_; rintro e w2 ⟨rfl, hj⟩; obtain ⟨x0, x1, x2⟩ := CE.out _ _ _ hj.out)
    | (go_at_call 38; refine (PB.out _ (by assumption)).mono ?_; rintro e w3 ⟨rfl, hj3⟩; obtain ⟨y0, y1, y2⟩ := CE.out _ _ _ hj3.out))
  all_goals go_wp2_with fail
  all_goals go_ret
  all_goals exact ⟨rfl, FIN.out _ _ _ (by assumption)⟩

set_option maxRecDepth 100000 in
set_option maxHeartbeats 8000000 in
theorem does_crash {W0 : World} {bp br : Nat} {s : DS} {vp vr : Value} (x : List UInt8) (n : Int) (c1 : Value) (W : World) (h : J W0 bp br s s vp vr W) (hx : rd W0 x c1) :
    Calls Try.prog 15 #[.pointer (some ⟨bp, 0, none⟩), .pointer (some ⟨br, 0, none⟩), .agg #[.int .i64 4, c1, .int .i64 n]] W fun e w' => e = .returned (.bool true) ∧ Hid (JE W0 bp br (FP bp br vp vr) W (crashD s).2 (crashD s).2 w') := by
  have hB : Below W.heap.size W (W.alloc (.cells #[.int .i64 4, c1, .int .i64 n] 31)) := (Below.refl _ _).alloc (Nat.le_refl _) _
  have hn : (W.alloc (.cells #[.int .i64 4, c1, .int .i64 n] 31)).heap[W.heap.size]? = some (.cells #[.int .i64 4, c1, .int .i64 n] 31 (0, 0)) := heap_alloc_new W _
  have h1 := h.below hB
  have hsz := h.2.2.2.size
  have CELLS : ∀ sp sr w2, JE W0 bp br (FP bp br vp vr) (W.alloc (.cells #[.int .i64 4, c1, .int .i64 n] 31)) sp sr w2 → w2.cell? ⟨W.heap.size, 0, none⟩ = some (.int .i64 4) ∧ w2.cell? ⟨W.heap.size, 1, none⟩ = some c1 ∧ w2.cell? ⟨W.heap.size, 2, none⟩ = some (.int .i64 n) := fun sp sr w2 ⟨_, _, _, hF, _⟩ => by
    have := hF.2 _ _ hn (fun hk => by have := (h.low _ hk).2; omega)
    exact ⟨by simp [World.cell?, this], by simp [World.cell?, this], by simp [World.cell?, this]⟩
  have FIN : Hid (∀ sp sr w2, Hid (JE W0 bp br (FP bp br vp vr) (W.alloc (.cells #[.int .i64 4, c1, .int .i64 n] 31)) sp sr w2) → Hid (JE W0 bp br (FP bp br vp vr) W sp sr w2)) := Lib.hid fun sp sr w2 hj => Lib.hid (hj.out.from hB)
  obtain ⟨o, a, c, rfl, hr1, hr2, _⟩ := id hx
  obtain ⟨PA, PB⟩ := pair_op 14 39 #[.pointer (some ⟨bp, 0, none⟩)] #[.pointer (some ⟨br, 0, none⟩)] (fun s => crashD s) h1
    (fun w1 v hk hb => crash_any w1 hk) (fun w1 v hk hb => rcrash_any w1 hk)
  generalize crashD s = r at PA PB ⊢
  have CE := Lib.hid CELLS

  clear h h1 hB hn hsz CELLS hx hr1 hr2
  go_enter Try.func15, Try.ntmps15
  go_wp2_with (go_at_call 14; refine (PA.out _ (Below.refl _ _)).mono ?_)
  rintro e w2 ⟨rfl, hj⟩
  go_wp2_with (go_at_call 39; refine (PB.out _ hj).mono ?_)
  rintro e w3 ⟨rfl, hj3⟩
  go_wp2_with fail
  go_ret
  exact ⟨rfl, FIN.out _ _ _ hj3⟩

set_option maxRecDepth 100000 in
set_option maxHeartbeats 8000000 in
theorem does_up {W0 : World} {bp br : Nat} {s : DS} {vp vr : Value} (d : Int) (x : List UInt8) (n : Int) (c1 : Value) (W : World) (h : J W0 bp br s s vp vr W) (hx : rd W0 x c1) (g0 : d ≠ 0) (g1 : d ≠ 1) (g2 : d ≠ 2) (g3 : d ≠ 3) (g4 : d ≠ 4) :
    Calls Try.prog 15 #[.pointer (some ⟨bp, 0, none⟩), .pointer (some ⟨br, 0, none⟩), .agg #[.int .i64 d, c1, .int .i64 n]] W fun e w' => e = .returned (.bool true) ∧ Hid (JE W0 bp br (FP bp br vp vr) W (upD s).2 (upD s).2 w') := by
  have hB : Below W.heap.size W (W.alloc (.cells #[.int .i64 d, c1, .int .i64 n] 31)) := (Below.refl _ _).alloc (Nat.le_refl _) _
  have hn : (W.alloc (.cells #[.int .i64 d, c1, .int .i64 n] 31)).heap[W.heap.size]? = some (.cells #[.int .i64 d, c1, .int .i64 n] 31 (0, 0)) := heap_alloc_new W _
  have h1 := h.below hB
  have hsz := h.2.2.2.size
  have CELLS : ∀ sp sr w2, JE W0 bp br (FP bp br vp vr) (W.alloc (.cells #[.int .i64 d, c1, .int .i64 n] 31)) sp sr w2 → w2.cell? ⟨W.heap.size, 0, none⟩ = some (.int .i64 d) ∧ w2.cell? ⟨W.heap.size, 1, none⟩ = some c1 ∧ w2.cell? ⟨W.heap.size, 2, none⟩ = some (.int .i64 n) := fun sp sr w2 ⟨_, _, _, hF, _⟩ => by
    have := hF.2 _ _ hn (fun hk => by have := (h.low _ hk).2; omega)
    exact ⟨by simp [World.cell?, this], by simp [World.cell?, this], by simp [World.cell?, this]⟩
  have FIN : Hid (∀ sp sr w2, Hid (JE W0 bp br (FP bp br vp vr) (W.alloc (.cells #[.int .i64 d, c1, .int .i64 n] 31)) sp sr w2) → Hid (JE W0 bp br (FP bp br vp vr) W sp sr w2)) := Lib.hid fun sp sr w2 hj => Lib.hid (hj.out.from hB)
  obtain ⟨o, a, c, rfl, hr1, hr2, _⟩ := id hx
  obtain ⟨PA, PB⟩ := pair_op 20 40 #[.pointer (some ⟨bp, 0, none⟩)] #[.pointer (some ⟨br, 0, none⟩)] (fun s => upD s) h1
    (fun w1 v hk hb => up_any w1 hk) (fun w1 v hk hb => rup_any w1 hk)
  generalize upD s = r at PA PB ⊢
  have CE := Lib.hid CELLS

  have t0 : (d == 0) = false := by simpa using g0
  have t1 : (d == 1) = false := by simpa using g1
  have t2 : (d == 2) = false := by simpa using g2
  have t3 : (d == 3) = false := by simpa using g3
  have t4 : (d == 4) = false := by simpa using g4
  clear h h1 hB hn hsz CELLS hx hr1 hr2 g0 g1 g2 g3 g4
  go_enter Try.func15, Try.ntmps15
  go_wp2_with (go_at_call 20; refine (PA.out _ (Below.refl _ _)).mono ?_)
  rintro e w2 ⟨rfl, hj⟩
  go_wp2_with (go_at_call 40; refine (PB.out _ hj).mono ?_)
  rintro e w3 ⟨rfl, hj3⟩
  go_wp2_with fail
  go_ret
  exact ⟨rfl, FIN.out _ _ _ hj3⟩

theorem does_any {W0 : World} {bp br : Nat} {s : DS} {vp vr : Value} (X : AC) (c1 : Value) (W : World) (h : J W0 bp br s s vp vr W) (hx : rd W0 X.b c1) :
    Calls Try.prog 15 #[.pointer (some ⟨bp, 0, none⟩), .pointer (some ⟨br, 0, none⟩), .agg #[.int .i64 X.d, c1, .int .i64 X.n]] W fun e w' => e = .returned (.bool true) ∧ Hid (JE W0 bp br (FP bp br vp vr) W (opD s X).2 (opD s X).2 w') := by
  obtain ⟨d, x, n⟩ := X
  unfold opD
  dsimp only at hx ⊢
  by_cases g0 : d = 0
  · subst g0; exact does_app x n c1 W h hx
  rw [if_neg g0]
  by_cases g1 : d = 1
  · subst g1; exact does_swap x n c1 W h hx
  rw [if_neg g1]
  by_cases g2 : d = 2
  · subst g2; exact does_cut x n c1 W h hx
  rw [if_neg g2]
  by_cases g3 : d = 3
  · subst g3; exact does_arm x n c1 W h hx
  rw [if_neg g3]
  by_cases g4 : d = 4
  · subst g4; exact does_crash x n c1 W h hx
  rw [if_neg g4]
  exact does_up d x n c1 W h hx g0 g1 g2 g3 g4
end Go.Proofs.Ytmajlanncchbnaa
