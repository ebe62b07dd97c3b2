/-
  The program's Walk: what it answers.
-/
import Derived.Test.YtdbfpojgaalfmaaDoorDWs
import Derived.Test.YtdbfpojgaalfmaaDoorDGL
import Derived.Deep.RegionHeld3
set_option linter.unusedVariables false
namespace Go.Proofs.YtdbfpojgaalfmaaDoor
open Go.RowKit Go.Shelf

mutual
theorem isVa_lt {W : World} {B : Nat → Prop} : ∀ (x : V) (v : Value), isVa W B x v → isVa W (fun q => B q ∧ q < W.heap.size) x v
  | .mk k b n s l ks, v, h => by
    unfold isVa at h ⊢
    obtain ⟨lv, kv, h1, h2, h3, h4, ⟨a, cap, h5, h6, h7⟩, ⟨a2, cap2, k1, k2, k3⟩⟩ := h
    refine ⟨lv, kv, h1, h2, h3, h4, ⟨a, cap, h5, fun h0 => ⟨h6 h0, ?_⟩, isVas_lt l a h7⟩, ⟨a2, cap2, k1, fun h0 => ⟨k2 h0, ?_⟩, k3⟩⟩
    · obtain ⟨c0, _, _, _, _, _, g0, _⟩ := isVs_at l a 0 h0 (isVs_of_a l a h7)
      have := World.block_lt_of_cell? W _ g0
      rw [add_block] at this
      exact this
    · have := World.block_lt_of_cell? W _ (k3 0 h0).1
      rw [add_block] at this
      exact this
theorem isVas_lt {W : World} {B : Nat → Prop} : ∀ (l : List V) (a : Addr), isVas W B l a → isVas W (fun q => B q ∧ q < W.heap.size) l a
  | [], _, _ => by unfold isVas; trivial
  | x :: t, a, h => by
    unfold isVas at h ⊢
    obtain ⟨⟨c0, c1, c2, c3, c4, c5, g0, g1, g2, g3, g4, g5, hx⟩, ht⟩ := h
    exact ⟨⟨c0, c1, c2, c3, c4, c5, g0, g1, g2, g3, g4, g5, isVa_lt x _ hx⟩, isVas_lt t _ ht⟩
end
theorem six_row {w : World} {b : Nat} {t : TypeId} {f : Nat → Value} {c0 c1 c2 c3 c4 c5 : Value} (h : w.rowIs b t 6 f) (e0 : f 0 = c0) (e1 : f 1 = c1) (e2 : f 2 = c2) (e3 : f 3 = c3) (e4 : f 4 = c4) (e5 : f 5 = c5) : w.heap[b]? = some (.cells #[c0, c1, c2, c3, c4, c5] t (0, 0)) := by
  obtain ⟨c, h1, h2, h3⟩ := h
  have : c = #[c0, c1, c2, c3, c4, c5] := by
    apply Array.ext_getElem?
    intro i
    by_cases hi : i < 6
    · rw [h3 i hi]
      match i, hi with
      | 0, _ => rw [e0]; rfl
      | 1, _ => rw [e1]; rfl
      | 2, _ => rw [e2]; rfl
      | 3, _ => rw [e3]; rfl
      | 4, _ => rw [e4]; rfl
      | 5, _ => rw [e5]; rfl
    · rw [Array.getElem?_eq_none (by omega), Array.getElem?_eq_none (by simp; omega)]
  rw [h1, this]
theorem store_box {w : World} {b : Nat} {t : TypeId} {z0 z1 z2 z3 z4 z5 : Value} (h : w.heap[b]? = some (.cells #[z0, z1, z2, z3, z4, z5] t (0, 0))) (c0 c1 c2 c3 c4 c5 : Value) (hc : ∀ u ∈ [c0, c1, c2, c3, c4, c5], u.oneCell' = true) :
    ∃ w1 w2 w3 w4 w5 w6, ((∃ u, w.cell? ⟨b, 0, none⟩ = some u) ∧ w.frozen? ⟨b, 0, none⟩ = false ∧ w.setCell ⟨b, 0, none⟩ c0 = w1) ∧ ((∃ u, w1.cell? ⟨b, 1, none⟩ = some u) ∧ w1.frozen? ⟨b, 1, none⟩ = false ∧ w1.setCell ⟨b, 1, none⟩ c1 = w2) ∧ ((∃ u, w2.cell? ⟨b, 2, none⟩ = some u) ∧ w2.frozen? ⟨b, 2, none⟩ = false ∧ w2.setCell ⟨b, 2, none⟩ c2 = w3) ∧ ((∃ u, w3.cell? ⟨b, 3, none⟩ = some u) ∧ w3.frozen? ⟨b, 3, none⟩ = false ∧ w3.setCell ⟨b, 3, none⟩ c3 = w4) ∧ ((∃ u, w4.cell? ⟨b, 4, none⟩ = some u) ∧ w4.frozen? ⟨b, 4, none⟩ = false ∧ w4.setCell ⟨b, 4, none⟩ c4 = w5) ∧ ((∃ u, w5.cell? ⟨b, 5, none⟩ = some u) ∧ w5.frozen? ⟨b, 5, none⟩ = false ∧ w5.setCell ⟨b, 5, none⟩ c5 = w6) ∧
      w6.heap[b]? = some (.cells #[c0, c1, c2, c3, c4, c5] t (0, 0)) ∧ w.grownBy w6 (some b) := by
  obtain ⟨x1, x2, x3, x4, x5, x6, f', ⟨t1, t1', t1''⟩, ⟨t2, t2', t2''⟩, ⟨t3, t3', t3''⟩, ⟨t4, t4', t4''⟩, ⟨t5, t5', t5''⟩, ⟨t6, t6', t6''⟩, hf7, hg7, e0, e1, e2, e3, e4, e5, -⟩ := store_six (rowIs_six h) 0 (by decide) c0 c1 c2 c3 c4 c5 hc
  simp only [Nat.zero_add] at t2 t2' t2'' t3 t3' t3'' t4 t4' t4'' t5 t5' t5'' t6 t6' t6'' e1 e2 e3 e4 e5
  exact ⟨x1, x2, x3, x4, x5, x6, ⟨t1, t1', t1''⟩, ⟨t2, t2', t2''⟩, ⟨t3, t3', t3''⟩, ⟨t4, t4', t4''⟩, ⟨t5, t5', t5''⟩, ⟨t6, t6', t6''⟩, six_row hf7 e0 e1 e2 e3 e4 e5, hg7⟩

set_option maxRecDepth 100000 in
set_option maxHeartbeats 16000000 in
theorem pwalk_any (x : V) (v : Value) (w : World) (hS : sizeV x ≤ 1000000) (hd : depthV x ≤ 1000) (hF : fineV x) (h : isV w x v) :
    Calls Tryd.prog 34 #[v] w fun e w' => ∃ gk gd cs, e = .returned (.func (.func 55) #[] #[.pointer (some ⟨gk, 0, none⟩), .pointer (some ⟨gd, 0, none⟩)]) ∧ w'.heap[gk]? = some (.cells cs 26 (0, 0)) ∧ isV w' x (.agg cs) ∧ Boxed w' gd 4 (.bool false) ∧ Below w.heap.size w w' := by
  have ha := isVa_of x v h
  obtain ⟨k, b, n, s, o, m, c, o2, m2, c2, rfl⟩ := isV_six h
  have hB0 : KB w (w.alloc (.cells #[.int .i8 k, .bool b, .int .i64 n, .string s, .slice o m c, .slice o2 m2 c2] 26)) := kbA
  have bX := World.alloc_heap_new w (.cells #[.int .i8 k, .bool b, .int .i64 n, .string s, .slice o m c, .slice o2 m2 c2] 26)
  have hsz : (w.alloc (.cells #[.int .i8 k, .bool b, .int .i64 n, .string s, .slice o m c, .slice o2 m2 c2] 26)).heap.size = w.heap.size + 1 := by simp
  have HC : Hid (∀ w1, KB (w.alloc (.cells #[.int .i8 k, .bool b, .int .i64 n, .string s, .slice o m c, .slice o2 m2 c2] 26)) w1 → Calls Tryd.prog 44 #[.agg #[.int .i8 k, .bool b, .int .i64 n, .string s, .slice o m c, .slice o2 m2 c2]] w1 fun e w' => ∃ v', e = .returned v' ∧ isVa w' (fun q => q < w.heap.size ∨ w1.heap.size ≤ q) x v' ∧ Below w1.heap.size w1 w') := Lib.hid fun w1 hK => copied_any x _ w1 (fun q => q < w.heap.size) hS hF (isVa_at hK (isVa_at hB0 ha)) (fun q hq => by have h1 := hK.size; omega)
  obtain ⟨dn, hdn⟩ : ∃ dn : Int, ((min (depthV x) 1001 : Nat) : Int) = dn := ⟨_, rfl⟩
  have HD : Hid (∀ w1, KB (w.alloc (.cells #[.int .i8 k, .bool b, .int .i64 n, .string s, .slice o m c, .slice o2 m2 c2] 26)) w1 → Calls Tryd.prog 19 #[.agg #[.int .i8 k, .bool b, .int .i64 n, .string s, .slice o m c, .slice o2 m2 c2]] w1 fun e w' => e = .returned (.int .i64 dn) ∧ Below w1.heap.size w1 w') := Lib.hid fun w1 hK => hdn ▸ pDepth_any x _ w1 hS (isV_below hK (isV_below hB0 h))
  have hdd : decide ((1000 : Int) < dn) = false := decide_eq_false (by omega)
  have HB0 := Lib.hid hB0
  have HSZ := Lib.hid hsz
  clear h ha hS hd hF hB0 hdn hsz
  go_enter Tryd.func34, Tryd.ntmps34
  go_wp2_with fail
  generalize hW0 : w.alloc (.cells #[.int .i8 k, .bool b, .int .i64 n, .string s, .slice o m c, .slice o2 m2 c2] 26) = W0 at *
  clear hW0
  obtain ⟨r0, r1, r2, r3, r4, r5⟩ := six_cells bX
  clear bX
  refine wp_region_held_drew (S := fun w' => w'.cell? ⟨w.heap.size, 0, none⟩ = some (.int .i8 k) ∧ w'.cell? ⟨w.heap.size, 1, none⟩ = some (.bool b) ∧ w'.cell? ⟨w.heap.size, 2, none⟩ = some (.int .i64 n) ∧ w'.cell? ⟨w.heap.size, 3, none⟩ = some (.string s) ∧ w'.cell? ⟨w.heap.size, 4, none⟩ = some (.slice o m c) ∧ w'.cell? ⟨w.heap.size, 5, none⟩ = some (.slice o2 m2 c2)) (by kernel_rfl) ?_ (fun hHeld => ?_)
  · exact ⟨cell_below (drewB1 _ _) _ _ r0, cell_below (drewB1 _ _) _ _ r1, cell_below (drewB1 _ _) _ _ r2, cell_below (drewB1 _ _) _ _ r3, cell_below (drewB1 _ _) _ _ r4, cell_below (drewB1 _ _) _ _ r5⟩
  have kb0 : KB W0 W0.drew := drewB1 _ _
  generalize W0.drew = c0 at *
  refine' wpAnyH_take (i := 0) (oi := { dst := some 5, op := Go.Op.load 26 (Go.Operand.tmp 1), type := 26, pos := "tree.go:62", after := #[], guard := none }) (v := _) rfl (by kernel_rfl) (by kernel_rfl) (by kernel_rfl) (fun _ _ _ h => h) (Or.inl ⟨by rfl, ?yy1⟩) (by assumption) ?rr1
  case yy1 => (intro w' hSw; (try dsimp only at hSw); go_simp; try with_reducible rfl)
  (try simp only [Act.put, List.setIfInBounds_toArray, List.set_cons_zero, List.set_cons_succ])
  refine' wpAnyH_take (i := 2) (oi := { dst := some 7, op := Go.Op.load 26 (Go.Operand.tmp 1), type := 26, pos := "tree.go:62", after := #[], guard := none }) (v := _) rfl (by kernel_rfl) (by kernel_rfl) (by kernel_rfl) (fun _ _ _ h => h) (Or.inl ⟨by rfl, ?yy2⟩) (by assumption) ?rr2
  case yy2 => (intro w' hSw; (try dsimp only at hSw); go_simp; try with_reducible rfl)
  (try simp only [Act.put, List.setIfInBounds_toArray, List.set_cons_zero, List.set_cons_succ])
  refine wpAnyH_ready (rs := [1, 5, 6]) (by kernel_rfl) (by simp) ?_
  refine AllReadyH.cons (o := { dst := some 6, op := Go.Op.call { callee := Go.Callee.value (Go.Operand.func 44), args := #[Go.Operand.tmp 5], argTypes := #[26] }, type := 26, pos := "tree.go:62", after := #[{ on := 0, ground := Go.Ground.data }], guard := none }) rfl (fun K hK => ?_) ?_
  ·
    go_simp
    refine (HC.out _ (kb0)).mono ?_
    rintro e w1 ⟨v5, rfl, hv1, hb1⟩
    obtain ⟨k6, b6, n6, s6, o6, m6, p6, o7, m7, p7, rfl⟩ := isV_six (isV_of_a _ _ hv1)
    have kb1 : KB W0 w1 := kbt (kb0) hb1
    have HZ1 := Lib.hid (And.intro (kb0).size hb1.size)
    have hv1 := isVa_lt _ _ hv1
    refine hK.out _ _ ?_ (fun hHeld => ?_)
    · exact ⟨cell_below (kb1) _ _ r0, cell_below (kb1) _ _ r1, cell_below (kb1) _ _ r2, cell_below (kb1) _ _ r3, cell_below (kb1) _ _ r4, cell_below (kb1) _ _ r5⟩
    clear hK K
    (try simp only [Act.put, List.setIfInBounds_toArray, List.set_cons_zero, List.set_cons_succ])
    refine wpAnyH_ready (rs := [3, 5, 6]) (by kernel_rfl) (by simp) ?_
    refine AllReadyH.cons (o := { dst := some 8, op := Go.Op.call { callee := Go.Callee.value (Go.Operand.func 19), args := #[Go.Operand.tmp 7], argTypes := #[26] }, type := 3, pos := "tree.go:62", after := #[{ on := 2, ground := Go.Ground.data }, { on := 1, ground := Go.Ground.chain }], guard := none }) rfl (fun K hK => ?_) ?_
    ·
      go_simp
      refine (HD.out _ (kb1)).mono ?_
      rintro e w3 ⟨rfl, hb3⟩
      have kb3 : KB W0 w3 := kbt (kb1) hb3
      have HZ3 := Lib.hid hb3.size
      refine hK.out _ _ ?_ (fun hHeld => ?_)
      · exact ⟨cell_below (kb3) _ _ r0, cell_below (kb3) _ _ r1, cell_below (kb3) _ _ r2, cell_below (kb3) _ _ r3, cell_below (kb3) _ _ r4, cell_below (kb3) _ _ r5⟩
      clear hK K
      (try simp only [Act.put, List.setIfInBounds_toArray, List.set_cons_zero, List.set_cons_succ])
      refine' wpAnyH_take (i := 4) (oi := { dst := some 9, op := Go.Op.binOp Go.BinOp.gtr 3 (Go.Operand.tmp 8) (Go.Operand.const (Go.Value.int Go.IntKind.i64 1000)) 3, type := 4, pos := "tree.go:62", after := #[{ on := 3, ground := Go.Ground.data }, { on := 7, ground := Go.Ground.gcOnly Go.Departure.lateStores }], guard := none }) (v := _) rfl (by kernel_rfl) (by kernel_rfl) (by kernel_rfl) (fun _ _ _ h => h) (Or.inl ⟨by rfl, ?yy3⟩) (by assumption) ?rr3
      case yy3 => (intro w' hSw; (try dsimp only at hSw); go_simp; try with_reducible rfl)
      (try simp only [Act.put, List.setIfInBounds_toArray, List.set_cons_zero, List.set_cons_succ])
      refine wpAnyH_ready (rs := [5, 6]) (by kernel_rfl) (by simp) ?_
      refine AllReadyH.cons (o := { dst := some 3, op := Go.Op.alloc 26, type := 0, pos := "tree.go:62", after := #[], guard := none }) rfl (fun K hK => ?_) ?_
      ·
        go_simp
        obtain ⟨w5, hw5, hb5, hg5, hz5⟩ : ∃ q, (w3).alloc (.cells #[.int .i8 0, .bool false, .int .i64 0, .string ⟨#[]⟩, .slice none 0 0, .slice none 0 0] 26) = q ∧ KB (w3) q ∧ q.heap[(w3).heap.size]? = some (.cells #[.int .i8 0, .bool false, .int .i64 0, .string ⟨#[]⟩, .slice none 0 0, .slice none 0 0] 26 (0, 0)) ∧ q.heap.size = (w3).heap.size + 1 := ⟨_, rfl, kbA, World.alloc_heap_new _ _, by simp⟩
        rw [hw5]
        clear hw5
        obtain ⟨gk, hn5⟩ : ∃ q, (w3).heap.size = q := ⟨_, rfl⟩
        have kb5 : KB W0 w5 := kbt (kb3) hb5
        rw [hn5] at hg5
        try rw [hn5]
        have HZ5 := Lib.hid (And.intro hn5 (And.intro hz5 (kb3).size))
        clear hn5 hz5
        refine hK.out _ _ ?_ (fun hHeld => ?_)
        · exact ⟨cell_below (kb5) _ _ r0, cell_below (kb5) _ _ r1, cell_below (kb5) _ _ r2, cell_below (kb5) _ _ r3, cell_below (kb5) _ _ r4, cell_below (kb5) _ _ r5⟩
        clear hK K
        (try simp only [Act.put, List.setIfInBounds_toArray, List.set_cons_zero, List.set_cons_succ])
        refine wpAnyH_ready (rs := [6]) (by kernel_rfl) (by simp) ?_
        refine AllReadyH.cons (o := { dst := some 4, op := Go.Op.alloc 4, type := 0, pos := "tree.go:62", after := #[], guard := none }) rfl (fun K hK => ?_) ?_
        ·
          go_simp
          obtain ⟨w6, hw6, hb6, hg6, hz6⟩ : ∃ q, (w5).alloc (.cells #[.bool false] 4) = q ∧ KB (w5) q ∧ q.heap[(w5).heap.size]? = some (.cells #[.bool false] 4 (0, 0)) ∧ q.heap.size = (w5).heap.size + 1 := ⟨_, rfl, kbA, World.alloc_heap_new _ _, by simp⟩
          rw [hw6]
          clear hw6
          obtain ⟨gd, hn6⟩ : ∃ q, (w5).heap.size = q := ⟨_, rfl⟩
          have kb6 : KB W0 w6 := kbt (kb5) hb6
          rw [hn6] at hg6
          try rw [hn6]
          have HZ6 := Lib.hid (And.intro hn6 (And.intro hz6 (kb5).size))
          clear hn6 hz6
          refine hK.out _ _ ?_ (fun hHeld => ?_)
          · exact ⟨cell_below (kb6) _ _ r0, cell_below (kb6) _ _ r1, cell_below (kb6) _ _ r2, cell_below (kb6) _ _ r3, cell_below (kb6) _ _ r4, cell_below (kb6) _ _ r5⟩
          clear hK K
          (try simp only [Act.put, List.setIfInBounds_toArray, List.set_cons_zero, List.set_cons_succ])
          refine wpAnyH_ready (rs := [7]) (by kernel_rfl) (by simp) ?_
          refine AllReadyH.cons (o := { dst := none, op := Go.Op.store 26 (Go.Operand.tmp 3) (Go.Operand.tmp 6), type := 0, pos := "tree.go:62", after := #[{ on := 5, ground := Go.Ground.data }, { on := 1, ground := Go.Ground.data }, { on := 3, ground := Go.Ground.chain }, { on := 0, ground := Go.Ground.phase }, { on := 1, ground := Go.Ground.phase }, { on := 2, ground := Go.Ground.textOnly Go.Departure.lateStores }, { on := 3, ground := Go.Ground.textOnly Go.Departure.lateStoresUnsure }, { on := 4, ground := Go.Ground.textOnly Go.Departure.lateStores }, { on := 5, ground := Go.Ground.phase }, { on := 6, ground := Go.Ground.phase }], guard := none }) rfl (fun K hK => ?_) ?_
          ·
            have hgk := (((hb6).block _ (Array.getElem?_eq_some_iff.1 hg5).1).trans hg5)
            have hgd : Boxed (w6) gd 4 (.bool false) := hg6
            have hv7 := isVa_at (kbt (kbt (hb3) hb5) hb6) hv1
            obtain ⟨x1, x2, x3, x4, x5, w7, ⟨⟨_, t1⟩, t1', t1''⟩, ⟨⟨_, t2⟩, t2', t2''⟩, ⟨⟨_, t3⟩, t3', t3''⟩, ⟨⟨_, t4⟩, t4', t4''⟩, ⟨⟨_, t5⟩, t5', t5''⟩, ⟨⟨_, t6⟩, t6', t6''⟩, hK7, hg7⟩ := store_box hgk (.int .i8 k6) (.bool b6) (.int .i64 n6) (.string s6) (.slice o6 m6 p6) (.slice o7 m7 p7) (by intro u hu; simp only [List.mem_cons, List.not_mem_nil, or_false] at hu; rcases hu with rfl | rfl | rfl | rfl | rfl | rfl <;> rfl)
            have hv7 := isVa_grown hg7 (fun q hq e => by have h1 := Option.some.inj e; obtain ⟨hq1, hq2⟩ := hq; have zz := HSZ.out; have zHZ1 := HZ1.out; have zHZ3 := HZ3.out; have zHZ5 := HZ5.out; have zHZ6 := HZ6.out; rcases hq1 with hq1 | hq1 <;> omega) hv7
            have hgd : Boxed w7 gd 4 (.bool false) := Boxed.kept hgd hg7 (fun e => by have h1 := Option.some.inj e; have zz := HSZ.out; have zHZ1 := HZ1.out; have zHZ3 := HZ3.out; have zHZ5 := HZ5.out; have zHZ6 := HZ6.out; omega)
            have kb7 : KB W0 w7 := Below.grown (kb6) hg7 (by have := (kb6).size; omega) (fun r e => by cases e; have zz := HSZ.out; have zHZ1 := HZ1.out; have zHZ3 := HZ3.out; have zHZ5 := HZ5.out; have zHZ6 := HZ6.out; omega)
            clear hgk
            go_simp
            refine hK.out _ _ ?_ (fun hHeld => ?_)
            · exact ⟨cell_below (kb7) _ _ r0, cell_below (kb7) _ _ r1, cell_below (kb7) _ _ r2, cell_below (kb7) _ _ r3, cell_below (kb7) _ _ r4, cell_below (kb7) _ _ r5⟩
            clear hK K
            (try simp only [Act.put, List.setIfInBounds_toArray, List.set_cons_zero, List.set_cons_succ])
            refine wpAnyH_ready (rs := [8]) (by kernel_rfl) (by simp) ?_
            refine AllReadyH.cons (o := { dst := none, op := Go.Op.store 4 (Go.Operand.tmp 4) (Go.Operand.tmp 9), type := 0, pos := "tree.go:62", after := #[{ on := 6, ground := Go.Ground.data }, { on := 4, ground := Go.Ground.data }, { on := 7, ground := Go.Ground.chain }, { on := 0, ground := Go.Ground.phase }, { on := 1, ground := Go.Ground.phase }, { on := 2, ground := Go.Ground.phase }, { on := 3, ground := Go.Ground.phase }, { on := 4, ground := Go.Ground.phase }, { on := 5, ground := Go.Ground.phase }, { on := 6, ground := Go.Ground.phase }, { on := 7, ground := Go.Ground.phase }], guard := none }) rfl (fun K hK => ?_) ?_
            ·
              have hc8 := hgd.cell
              have hf8 := hgd.frozen
              have hD8 := hgd.set (.bool false)
              have hg8 := grownBy_setCell' w7 gd (.bool false)
              have hK8 := (hg8.block gk (Array.getElem?_eq_some_iff.1 hK7).1 (fun e => by have h1 := Option.some.inj e; have zz := HSZ.out; have zHZ1 := HZ1.out; have zHZ3 := HZ3.out; have zHZ5 := HZ5.out; have zHZ6 := HZ6.out; omega)).trans hK7
              have hV8 : isV (w7.setCell ⟨gd, 0, none⟩ (.bool false)) x (.agg #[.int .i8 k6, .bool b6, .int .i64 n6, .string s6, .slice o6 m6 p6, .slice o7 m7 p7]) := isV_of_a _ _ (isVa_grown hg8 (fun q hq e => by have h1 := Option.some.inj e; obtain ⟨hq1, hq2⟩ := hq; have zz := HSZ.out; have zHZ1 := HZ1.out; have zHZ3 := HZ3.out; have zHZ5 := HZ5.out; have zHZ6 := HZ6.out; rcases hq1 with hq1 | hq1 <;> omega) hv7)
              have kb8 : KB W0 (w7.setCell ⟨gd, 0, none⟩ (.bool false)) := Below.grown kb7 hg8 (by have := kb7.size; omega) (fun r e => by cases e; have zz := HSZ.out; have zHZ1 := HZ1.out; have zHZ3 := HZ3.out; have zHZ5 := HZ5.out; have zHZ6 := HZ6.out; omega)
              go_simp
              have hB8 : KB w (w7.setCell ⟨gd, 0, none⟩ (.bool false)) := kbt HB0.out kb8
              clear hK7 hv7
              have hK7 := hK8
              have hV7 := hV8
              clear hK8 hV8
              refine hK.out _ _ ?_ (fun hHeld => ?_)
              · exact ⟨cell_below (kb8) _ _ r0, cell_below (kb8) _ _ r1, cell_below (kb8) _ _ r2, cell_below (kb8) _ _ r3, cell_below (kb8) _ _ r4, cell_below (kb8) _ _ r5⟩
              clear hK K
              (try simp only [Act.put, List.setIfInBounds_toArray, List.set_cons_zero, List.set_cons_succ])
              refine wpAnyH_done (by kernel_rfl) ?_ _
              have HE := Lib.hid (And.intro hK7 (And.intro hV7 (And.intro hD8 hB8)))
              clear hHeld r0 r1 r2 r3 r4 r5 hK7 hV7 hD8 hB8
              go_wp2_with fail
              go_ret
              exact ⟨gk, gd, _, rfl, HE.out.1, HE.out.2.1, HE.out.2.2.1, HE.out.2.2.2⟩
            exact AllReadyH.nil
          exact AllReadyH.nil
        exact AllReadyH.nil
      refine AllReadyH.cons (o := { dst := some 4, op := Go.Op.alloc 4, type := 0, pos := "tree.go:62", after := #[], guard := none }) rfl (fun K hK => ?_) ?_
      ·
        go_simp
        obtain ⟨w6, hw6, hb6, hg6, hz6⟩ : ∃ q, (w3).alloc (.cells #[.bool false] 4) = q ∧ KB (w3) q ∧ q.heap[(w3).heap.size]? = some (.cells #[.bool false] 4 (0, 0)) ∧ q.heap.size = (w3).heap.size + 1 := ⟨_, rfl, kbA, World.alloc_heap_new _ _, by simp⟩
        rw [hw6]
        clear hw6
        obtain ⟨gd, hn6⟩ : ∃ q, (w3).heap.size = q := ⟨_, rfl⟩
        have kb6 : KB W0 w6 := kbt (kb3) hb6
        rw [hn6] at hg6
        try rw [hn6]
        have HZ6 := Lib.hid (And.intro hn6 (And.intro hz6 (kb3).size))
        clear hn6 hz6
        refine hK.out _ _ ?_ (fun hHeld => ?_)
        · exact ⟨cell_below (kb6) _ _ r0, cell_below (kb6) _ _ r1, cell_below (kb6) _ _ r2, cell_below (kb6) _ _ r3, cell_below (kb6) _ _ r4, cell_below (kb6) _ _ r5⟩
        clear hK K
        (try simp only [Act.put, List.setIfInBounds_toArray, List.set_cons_zero, List.set_cons_succ])
        refine wpAnyH_ready (rs := [5]) (by kernel_rfl) (by simp) ?_
        refine AllReadyH.cons (o := { dst := some 3, op := Go.Op.alloc 26, type := 0, pos := "tree.go:62", after := #[], guard := none }) rfl (fun K hK => ?_) ?_
        ·
          go_simp
          obtain ⟨w5, hw5, hb5, hg5, hz5⟩ : ∃ q, (w6).alloc (.cells #[.int .i8 0, .bool false, .int .i64 0, .string ⟨#[]⟩, .slice none 0 0, .slice none 0 0] 26) = q ∧ KB (w6) q ∧ q.heap[(w6).heap.size]? = some (.cells #[.int .i8 0, .bool false, .int .i64 0, .string ⟨#[]⟩, .slice none 0 0, .slice none 0 0] 26 (0, 0)) ∧ q.heap.size = (w6).heap.size + 1 := ⟨_, rfl, kbA, World.alloc_heap_new _ _, by simp⟩
          rw [hw5]
          clear hw5
          obtain ⟨gk, hn5⟩ : ∃ q, (w6).heap.size = q := ⟨_, rfl⟩
          have kb5 : KB W0 w5 := kbt (kb6) hb5
          rw [hn5] at hg5
          try rw [hn5]
          have HZ5 := Lib.hid (And.intro hn5 (And.intro hz5 (kb6).size))
          clear hn5 hz5
          refine hK.out _ _ ?_ (fun hHeld => ?_)
          · exact ⟨cell_below (kb5) _ _ r0, cell_below (kb5) _ _ r1, cell_below (kb5) _ _ r2, cell_below (kb5) _ _ r3, cell_below (kb5) _ _ r4, cell_below (kb5) _ _ r5⟩
          clear hK K
          (try simp only [Act.put, List.setIfInBounds_toArray, List.set_cons_zero, List.set_cons_succ])
          refine wpAnyH_ready (rs := [7]) (by kernel_rfl) (by simp) ?_
          refine AllReadyH.cons (o := { dst := none, op := Go.Op.store 26 (Go.Operand.tmp 3) (Go.Operand.tmp 6), type := 0, pos := "tree.go:62", after := #[{ on := 5, ground := Go.Ground.data }, { on := 1, ground := Go.Ground.data }, { on := 3, ground := Go.Ground.chain }, { on := 0, ground := Go.Ground.phase }, { on := 1, ground := Go.Ground.phase }, { on := 2, ground := Go.Ground.textOnly Go.Departure.lateStores }, { on := 3, ground := Go.Ground.textOnly Go.Departure.lateStoresUnsure }, { on := 4, ground := Go.Ground.textOnly Go.Departure.lateStores }, { on := 5, ground := Go.Ground.phase }, { on := 6, ground := Go.Ground.phase }], guard := none }) rfl (fun K hK => ?_) ?_
          ·
            have hgk := hg5
            have hgd : Boxed (w5) gd 4 (.bool false) := (((hb5).block _ (Array.getElem?_eq_some_iff.1 hg6).1).trans hg6)
            have hv7 := isVa_at (kbt (kbt (hb3) hb6) hb5) hv1
            obtain ⟨x1, x2, x3, x4, x5, w7, ⟨⟨_, t1⟩, t1', t1''⟩, ⟨⟨_, t2⟩, t2', t2''⟩, ⟨⟨_, t3⟩, t3', t3''⟩, ⟨⟨_, t4⟩, t4', t4''⟩, ⟨⟨_, t5⟩, t5', t5''⟩, ⟨⟨_, t6⟩, t6', t6''⟩, hK7, hg7⟩ := store_box hgk (.int .i8 k6) (.bool b6) (.int .i64 n6) (.string s6) (.slice o6 m6 p6) (.slice o7 m7 p7) (by intro u hu; simp only [List.mem_cons, List.not_mem_nil, or_false] at hu; rcases hu with rfl | rfl | rfl | rfl | rfl | rfl <;> rfl)
            have hv7 := isVa_grown hg7 (fun q hq e => by have h1 := Option.some.inj e; obtain ⟨hq1, hq2⟩ := hq; have zz := HSZ.out; have zHZ1 := HZ1.out; have zHZ3 := HZ3.out; have zHZ6 := HZ6.out; have zHZ5 := HZ5.out; rcases hq1 with hq1 | hq1 <;> omega) hv7
            have hgd : Boxed w7 gd 4 (.bool false) := Boxed.kept hgd hg7 (fun e => by have h1 := Option.some.inj e; have zz := HSZ.out; have zHZ1 := HZ1.out; have zHZ3 := HZ3.out; have zHZ6 := HZ6.out; have zHZ5 := HZ5.out; omega)
            have kb7 : KB W0 w7 := Below.grown (kb5) hg7 (by have := (kb5).size; omega) (fun r e => by cases e; have zz := HSZ.out; have zHZ1 := HZ1.out; have zHZ3 := HZ3.out; have zHZ6 := HZ6.out; have zHZ5 := HZ5.out; omega)
            clear hgk
            go_simp
            refine hK.out _ _ ?_ (fun hHeld => ?_)
            · exact ⟨cell_below (kb7) _ _ r0, cell_below (kb7) _ _ r1, cell_below (kb7) _ _ r2, cell_below (kb7) _ _ r3, cell_below (kb7) _ _ r4, cell_below (kb7) _ _ r5⟩
            clear hK K
            (try simp only [Act.put, List.setIfInBounds_toArray, List.set_cons_zero, List.set_cons_succ])
            refine wpAnyH_ready (rs := [8]) (by kernel_rfl) (by simp) ?_
            refine AllReadyH.cons (o := { dst := none, op := Go.Op.store 4 (Go.Operand.tmp 4) (Go.Operand.tmp 9), type := 0, pos := "tree.go:62", after := #[{ on := 6, ground := Go.Ground.data }, { on := 4, ground := Go.Ground.data }, { on := 7, ground := Go.Ground.chain }, { on := 0, ground := Go.Ground.phase }, { on := 1, ground := Go.Ground.phase }, { on := 2, ground := Go.Ground.phase }, { on := 3, ground := Go.Ground.phase }, { on := 4, ground := Go.Ground.phase }, { on := 5, ground := Go.Ground.phase }, { on := 6, ground := Go.Ground.phase }, { on := 7, ground := Go.Ground.phase }], guard := none }) rfl (fun K hK => ?_) ?_
            ·
              have hc8 := hgd.cell
              have hf8 := hgd.frozen
              have hD8 := hgd.set (.bool false)
              have hg8 := grownBy_setCell' w7 gd (.bool false)
              have hK8 := (hg8.block gk (Array.getElem?_eq_some_iff.1 hK7).1 (fun e => by have h1 := Option.some.inj e; have zz := HSZ.out; have zHZ1 := HZ1.out; have zHZ3 := HZ3.out; have zHZ6 := HZ6.out; have zHZ5 := HZ5.out; omega)).trans hK7
              have hV8 : isV (w7.setCell ⟨gd, 0, none⟩ (.bool false)) x (.agg #[.int .i8 k6, .bool b6, .int .i64 n6, .string s6, .slice o6 m6 p6, .slice o7 m7 p7]) := isV_of_a _ _ (isVa_grown hg8 (fun q hq e => by have h1 := Option.some.inj e; obtain ⟨hq1, hq2⟩ := hq; have zz := HSZ.out; have zHZ1 := HZ1.out; have zHZ3 := HZ3.out; have zHZ6 := HZ6.out; have zHZ5 := HZ5.out; rcases hq1 with hq1 | hq1 <;> omega) hv7)
              have kb8 : KB W0 (w7.setCell ⟨gd, 0, none⟩ (.bool false)) := Below.grown kb7 hg8 (by have := kb7.size; omega) (fun r e => by cases e; have zz := HSZ.out; have zHZ1 := HZ1.out; have zHZ3 := HZ3.out; have zHZ6 := HZ6.out; have zHZ5 := HZ5.out; omega)
              go_simp
              have hB8 : KB w (w7.setCell ⟨gd, 0, none⟩ (.bool false)) := kbt HB0.out kb8
              clear hK7 hv7
              have hK7 := hK8
              have hV7 := hV8
              clear hK8 hV8
              refine hK.out _ _ ?_ (fun hHeld => ?_)
              · exact ⟨cell_below (kb8) _ _ r0, cell_below (kb8) _ _ r1, cell_below (kb8) _ _ r2, cell_below (kb8) _ _ r3, cell_below (kb8) _ _ r4, cell_below (kb8) _ _ r5⟩
              clear hK K
              (try simp only [Act.put, List.setIfInBounds_toArray, List.set_cons_zero, List.set_cons_succ])
              refine wpAnyH_done (by kernel_rfl) ?_ _
              have HE := Lib.hid (And.intro hK7 (And.intro hV7 (And.intro hD8 hB8)))
              clear hHeld r0 r1 r2 r3 r4 r5 hK7 hV7 hD8 hB8
              go_wp2_with fail
              go_ret
              exact ⟨gk, gd, _, rfl, HE.out.1, HE.out.2.1, HE.out.2.2.1, HE.out.2.2.2⟩
            exact AllReadyH.nil
          exact AllReadyH.nil
        exact AllReadyH.nil
      exact AllReadyH.nil
    refine AllReadyH.cons (o := { dst := some 3, op := Go.Op.alloc 26, type := 0, pos := "tree.go:62", after := #[], guard := none }) rfl (fun K hK => ?_) ?_
    ·
      go_simp
      obtain ⟨w5, hw5, hb5, hg5, hz5⟩ : ∃ q, (w1).alloc (.cells #[.int .i8 0, .bool false, .int .i64 0, .string ⟨#[]⟩, .slice none 0 0, .slice none 0 0] 26) = q ∧ KB (w1) q ∧ q.heap[(w1).heap.size]? = some (.cells #[.int .i8 0, .bool false, .int .i64 0, .string ⟨#[]⟩, .slice none 0 0, .slice none 0 0] 26 (0, 0)) ∧ q.heap.size = (w1).heap.size + 1 := ⟨_, rfl, kbA, World.alloc_heap_new _ _, by simp⟩
      rw [hw5]
      clear hw5
      obtain ⟨gk, hn5⟩ : ∃ q, (w1).heap.size = q := ⟨_, rfl⟩
      have kb5 : KB W0 w5 := kbt (kb1) hb5
      rw [hn5] at hg5
      try rw [hn5]
      have HZ5 := Lib.hid (And.intro hn5 (And.intro hz5 (kb1).size))
      clear hn5 hz5
      refine hK.out _ _ ?_ (fun hHeld => ?_)
      · exact ⟨cell_below (kb5) _ _ r0, cell_below (kb5) _ _ r1, cell_below (kb5) _ _ r2, cell_below (kb5) _ _ r3, cell_below (kb5) _ _ r4, cell_below (kb5) _ _ r5⟩
      clear hK K
      (try simp only [Act.put, List.setIfInBounds_toArray, List.set_cons_zero, List.set_cons_succ])
      refine wpAnyH_ready (rs := [3, 6]) (by kernel_rfl) (by simp) ?_
      refine AllReadyH.cons (o := { dst := some 8, op := Go.Op.call { callee := Go.Callee.value (Go.Operand.func 19), args := #[Go.Operand.tmp 7], argTypes := #[26] }, type := 3, pos := "tree.go:62", after := #[{ on := 2, ground := Go.Ground.data }, { on := 1, ground := Go.Ground.chain }], guard := none }) rfl (fun K hK => ?_) ?_
      ·
        go_simp
        refine (HD.out _ (kb5)).mono ?_
        rintro e w3 ⟨rfl, hb3⟩
        have kb3 : KB W0 w3 := kbt (kb5) hb3
        have HZ3 := Lib.hid hb3.size
        refine hK.out _ _ ?_ (fun hHeld => ?_)
        · exact ⟨cell_below (kb3) _ _ r0, cell_below (kb3) _ _ r1, cell_below (kb3) _ _ r2, cell_below (kb3) _ _ r3, cell_below (kb3) _ _ r4, cell_below (kb3) _ _ r5⟩
        clear hK K
        (try simp only [Act.put, List.setIfInBounds_toArray, List.set_cons_zero, List.set_cons_succ])
        refine' wpAnyH_take (i := 4) (oi := { dst := some 9, op := Go.Op.binOp Go.BinOp.gtr 3 (Go.Operand.tmp 8) (Go.Operand.const (Go.Value.int Go.IntKind.i64 1000)) 3, type := 4, pos := "tree.go:62", after := #[{ on := 3, ground := Go.Ground.data }, { on := 7, ground := Go.Ground.gcOnly Go.Departure.lateStores }], guard := none }) (v := _) rfl (by kernel_rfl) (by kernel_rfl) (by kernel_rfl) (fun _ _ _ h => h) (Or.inl ⟨by rfl, ?yy4⟩) (by assumption) ?rr4
        case yy4 => (intro w' hSw; (try dsimp only at hSw); go_simp; try with_reducible rfl)
        (try simp only [Act.put, List.setIfInBounds_toArray, List.set_cons_zero, List.set_cons_succ])
        refine wpAnyH_ready (rs := [6]) (by kernel_rfl) (by simp) ?_
        refine AllReadyH.cons (o := { dst := some 4, op := Go.Op.alloc 4, type := 0, pos := "tree.go:62", after := #[], guard := none }) rfl (fun K hK => ?_) ?_
        ·
          go_simp
          obtain ⟨w6, hw6, hb6, hg6, hz6⟩ : ∃ q, (w3).alloc (.cells #[.bool false] 4) = q ∧ KB (w3) q ∧ q.heap[(w3).heap.size]? = some (.cells #[.bool false] 4 (0, 0)) ∧ q.heap.size = (w3).heap.size + 1 := ⟨_, rfl, kbA, World.alloc_heap_new _ _, by simp⟩
          rw [hw6]
          clear hw6
          obtain ⟨gd, hn6⟩ : ∃ q, (w3).heap.size = q := ⟨_, rfl⟩
          have kb6 : KB W0 w6 := kbt (kb3) hb6
          rw [hn6] at hg6
          try rw [hn6]
          have HZ6 := Lib.hid (And.intro hn6 (And.intro hz6 (kb3).size))
          clear hn6 hz6
          refine hK.out _ _ ?_ (fun hHeld => ?_)
          · exact ⟨cell_below (kb6) _ _ r0, cell_below (kb6) _ _ r1, cell_below (kb6) _ _ r2, cell_below (kb6) _ _ r3, cell_below (kb6) _ _ r4, cell_below (kb6) _ _ r5⟩
          clear hK K
          (try simp only [Act.put, List.setIfInBounds_toArray, List.set_cons_zero, List.set_cons_succ])
          refine wpAnyH_ready (rs := [7]) (by kernel_rfl) (by simp) ?_
          refine AllReadyH.cons (o := { dst := none, op := Go.Op.store 26 (Go.Operand.tmp 3) (Go.Operand.tmp 6), type := 0, pos := "tree.go:62", after := #[{ on := 5, ground := Go.Ground.data }, { on := 1, ground := Go.Ground.data }, { on := 3, ground := Go.Ground.chain }, { on := 0, ground := Go.Ground.phase }, { on := 1, ground := Go.Ground.phase }, { on := 2, ground := Go.Ground.textOnly Go.Departure.lateStores }, { on := 3, ground := Go.Ground.textOnly Go.Departure.lateStoresUnsure }, { on := 4, ground := Go.Ground.textOnly Go.Departure.lateStores }, { on := 5, ground := Go.Ground.phase }, { on := 6, ground := Go.Ground.phase }], guard := none }) rfl (fun K hK => ?_) ?_
          ·
            have hgk := (((hb6).block _ (Array.getElem?_eq_some_iff.1 (((hb3).block _ (Array.getElem?_eq_some_iff.1 hg5).1).trans hg5)).1).trans (((hb3).block _ (Array.getElem?_eq_some_iff.1 hg5).1).trans hg5))
            have hgd : Boxed (w6) gd 4 (.bool false) := hg6
            have hv7 := isVa_at (kbt (kbt (hb5) hb3) hb6) hv1
            obtain ⟨x1, x2, x3, x4, x5, w7, ⟨⟨_, t1⟩, t1', t1''⟩, ⟨⟨_, t2⟩, t2', t2''⟩, ⟨⟨_, t3⟩, t3', t3''⟩, ⟨⟨_, t4⟩, t4', t4''⟩, ⟨⟨_, t5⟩, t5', t5''⟩, ⟨⟨_, t6⟩, t6', t6''⟩, hK7, hg7⟩ := store_box hgk (.int .i8 k6) (.bool b6) (.int .i64 n6) (.string s6) (.slice o6 m6 p6) (.slice o7 m7 p7) (by intro u hu; simp only [List.mem_cons, List.not_mem_nil, or_false] at hu; rcases hu with rfl | rfl | rfl | rfl | rfl | rfl <;> rfl)
            have hv7 := isVa_grown hg7 (fun q hq e => by have h1 := Option.some.inj e; obtain ⟨hq1, hq2⟩ := hq; have zz := HSZ.out; have zHZ1 := HZ1.out; have zHZ5 := HZ5.out; have zHZ3 := HZ3.out; have zHZ6 := HZ6.out; rcases hq1 with hq1 | hq1 <;> omega) hv7
            have hgd : Boxed w7 gd 4 (.bool false) := Boxed.kept hgd hg7 (fun e => by have h1 := Option.some.inj e; have zz := HSZ.out; have zHZ1 := HZ1.out; have zHZ5 := HZ5.out; have zHZ3 := HZ3.out; have zHZ6 := HZ6.out; omega)
            have kb7 : KB W0 w7 := Below.grown (kb6) hg7 (by have := (kb6).size; omega) (fun r e => by cases e; have zz := HSZ.out; have zHZ1 := HZ1.out; have zHZ5 := HZ5.out; have zHZ3 := HZ3.out; have zHZ6 := HZ6.out; omega)
            clear hgk
            go_simp
            refine hK.out _ _ ?_ (fun hHeld => ?_)
            · exact ⟨cell_below (kb7) _ _ r0, cell_below (kb7) _ _ r1, cell_below (kb7) _ _ r2, cell_below (kb7) _ _ r3, cell_below (kb7) _ _ r4, cell_below (kb7) _ _ r5⟩
            clear hK K
            (try simp only [Act.put, List.setIfInBounds_toArray, List.set_cons_zero, List.set_cons_succ])
            refine wpAnyH_ready (rs := [8]) (by kernel_rfl) (by simp) ?_
            refine AllReadyH.cons (o := { dst := none, op := Go.Op.store 4 (Go.Operand.tmp 4) (Go.Operand.tmp 9), type := 0, pos := "tree.go:62", after := #[{ on := 6, ground := Go.Ground.data }, { on := 4, ground := Go.Ground.data }, { on := 7, ground := Go.Ground.chain }, { on := 0, ground := Go.Ground.phase }, { on := 1, ground := Go.Ground.phase }, { on := 2, ground := Go.Ground.phase }, { on := 3, ground := Go.Ground.phase }, { on := 4, ground := Go.Ground.phase }, { on := 5, ground := Go.Ground.phase }, { on := 6, ground := Go.Ground.phase }, { on := 7, ground := Go.Ground.phase }], guard := none }) rfl (fun K hK => ?_) ?_
            ·
              have hc8 := hgd.cell
              have hf8 := hgd.frozen
              have hD8 := hgd.set (.bool false)
              have hg8 := grownBy_setCell' w7 gd (.bool false)
              have hK8 := (hg8.block gk (Array.getElem?_eq_some_iff.1 hK7).1 (fun e => by have h1 := Option.some.inj e; have zz := HSZ.out; have zHZ1 := HZ1.out; have zHZ5 := HZ5.out; have zHZ3 := HZ3.out; have zHZ6 := HZ6.out; omega)).trans hK7
              have hV8 : isV (w7.setCell ⟨gd, 0, none⟩ (.bool false)) x (.agg #[.int .i8 k6, .bool b6, .int .i64 n6, .string s6, .slice o6 m6 p6, .slice o7 m7 p7]) := isV_of_a _ _ (isVa_grown hg8 (fun q hq e => by have h1 := Option.some.inj e; obtain ⟨hq1, hq2⟩ := hq; have zz := HSZ.out; have zHZ1 := HZ1.out; have zHZ5 := HZ5.out; have zHZ3 := HZ3.out; have zHZ6 := HZ6.out; rcases hq1 with hq1 | hq1 <;> omega) hv7)
              have kb8 : KB W0 (w7.setCell ⟨gd, 0, none⟩ (.bool false)) := Below.grown kb7 hg8 (by have := kb7.size; omega) (fun r e => by cases e; have zz := HSZ.out; have zHZ1 := HZ1.out; have zHZ5 := HZ5.out; have zHZ3 := HZ3.out; have zHZ6 := HZ6.out; omega)
              go_simp
              have hB8 : KB w (w7.setCell ⟨gd, 0, none⟩ (.bool false)) := kbt HB0.out kb8
              clear hK7 hv7
              have hK7 := hK8
              have hV7 := hV8
              clear hK8 hV8
              refine hK.out _ _ ?_ (fun hHeld => ?_)
              · exact ⟨cell_below (kb8) _ _ r0, cell_below (kb8) _ _ r1, cell_below (kb8) _ _ r2, cell_below (kb8) _ _ r3, cell_below (kb8) _ _ r4, cell_below (kb8) _ _ r5⟩
              clear hK K
              (try simp only [Act.put, List.setIfInBounds_toArray, List.set_cons_zero, List.set_cons_succ])
              refine wpAnyH_done (by kernel_rfl) ?_ _
              have HE := Lib.hid (And.intro hK7 (And.intro hV7 (And.intro hD8 hB8)))
              clear hHeld r0 r1 r2 r3 r4 r5 hK7 hV7 hD8 hB8
              go_wp2_with fail
              go_ret
              exact ⟨gk, gd, _, rfl, HE.out.1, HE.out.2.1, HE.out.2.2.1, HE.out.2.2.2⟩
            exact AllReadyH.nil
          exact AllReadyH.nil
        exact AllReadyH.nil
      refine AllReadyH.cons (o := { dst := some 4, op := Go.Op.alloc 4, type := 0, pos := "tree.go:62", after := #[], guard := none }) rfl (fun K hK => ?_) ?_
      ·
        go_simp
        obtain ⟨w6, hw6, hb6, hg6, hz6⟩ : ∃ q, (w5).alloc (.cells #[.bool false] 4) = q ∧ KB (w5) q ∧ q.heap[(w5).heap.size]? = some (.cells #[.bool false] 4 (0, 0)) ∧ q.heap.size = (w5).heap.size + 1 := ⟨_, rfl, kbA, World.alloc_heap_new _ _, by simp⟩
        rw [hw6]
        clear hw6
        obtain ⟨gd, hn6⟩ : ∃ q, (w5).heap.size = q := ⟨_, rfl⟩
        have kb6 : KB W0 w6 := kbt (kb5) hb6
        rw [hn6] at hg6
        try rw [hn6]
        have HZ6 := Lib.hid (And.intro hn6 (And.intro hz6 (kb5).size))
        clear hn6 hz6
        refine hK.out _ _ ?_ (fun hHeld => ?_)
        · exact ⟨cell_below (kb6) _ _ r0, cell_below (kb6) _ _ r1, cell_below (kb6) _ _ r2, cell_below (kb6) _ _ r3, cell_below (kb6) _ _ r4, cell_below (kb6) _ _ r5⟩
        clear hK K
        (try simp only [Act.put, List.setIfInBounds_toArray, List.set_cons_zero, List.set_cons_succ])
        refine wpAnyH_ready (rs := [3]) (by kernel_rfl) (by simp) ?_
        refine AllReadyH.cons (o := { dst := some 8, op := Go.Op.call { callee := Go.Callee.value (Go.Operand.func 19), args := #[Go.Operand.tmp 7], argTypes := #[26] }, type := 3, pos := "tree.go:62", after := #[{ on := 2, ground := Go.Ground.data }, { on := 1, ground := Go.Ground.chain }], guard := none }) rfl (fun K hK => ?_) ?_
        ·
          go_simp
          refine (HD.out _ (kb6)).mono ?_
          rintro e w3 ⟨rfl, hb3⟩
          have kb3 : KB W0 w3 := kbt (kb6) hb3
          have HZ3 := Lib.hid hb3.size
          refine hK.out _ _ ?_ (fun hHeld => ?_)
          · exact ⟨cell_below (kb3) _ _ r0, cell_below (kb3) _ _ r1, cell_below (kb3) _ _ r2, cell_below (kb3) _ _ r3, cell_below (kb3) _ _ r4, cell_below (kb3) _ _ r5⟩
          clear hK K
          (try simp only [Act.put, List.setIfInBounds_toArray, List.set_cons_zero, List.set_cons_succ])
          refine' wpAnyH_take (i := 4) (oi := { dst := some 9, op := Go.Op.binOp Go.BinOp.gtr 3 (Go.Operand.tmp 8) (Go.Operand.const (Go.Value.int Go.IntKind.i64 1000)) 3, type := 4, pos := "tree.go:62", after := #[{ on := 3, ground := Go.Ground.data }, { on := 7, ground := Go.Ground.gcOnly Go.Departure.lateStores }], guard := none }) (v := _) rfl (by kernel_rfl) (by kernel_rfl) (by kernel_rfl) (fun _ _ _ h => h) (Or.inl ⟨by rfl, ?yy5⟩) (by assumption) ?rr5
          case yy5 => (intro w' hSw; (try dsimp only at hSw); go_simp; try with_reducible rfl)
          (try simp only [Act.put, List.setIfInBounds_toArray, List.set_cons_zero, List.set_cons_succ])
          refine wpAnyH_ready (rs := [7]) (by kernel_rfl) (by simp) ?_
          refine AllReadyH.cons (o := { dst := none, op := Go.Op.store 26 (Go.Operand.tmp 3) (Go.Operand.tmp 6), type := 0, pos := "tree.go:62", after := #[{ on := 5, ground := Go.Ground.data }, { on := 1, ground := Go.Ground.data }, { on := 3, ground := Go.Ground.chain }, { on := 0, ground := Go.Ground.phase }, { on := 1, ground := Go.Ground.phase }, { on := 2, ground := Go.Ground.textOnly Go.Departure.lateStores }, { on := 3, ground := Go.Ground.textOnly Go.Departure.lateStoresUnsure }, { on := 4, ground := Go.Ground.textOnly Go.Departure.lateStores }, { on := 5, ground := Go.Ground.phase }, { on := 6, ground := Go.Ground.phase }], guard := none }) rfl (fun K hK => ?_) ?_
          ·
            have hgk := (((hb3).block _ (Array.getElem?_eq_some_iff.1 (((hb6).block _ (Array.getElem?_eq_some_iff.1 hg5).1).trans hg5)).1).trans (((hb6).block _ (Array.getElem?_eq_some_iff.1 hg5).1).trans hg5))
            have hgd : Boxed (w3) gd 4 (.bool false) := (((hb3).block _ (Array.getElem?_eq_some_iff.1 hg6).1).trans hg6)
            have hv7 := isVa_at (kbt (kbt (hb5) hb6) hb3) hv1
            obtain ⟨x1, x2, x3, x4, x5, w7, ⟨⟨_, t1⟩, t1', t1''⟩, ⟨⟨_, t2⟩, t2', t2''⟩, ⟨⟨_, t3⟩, t3', t3''⟩, ⟨⟨_, t4⟩, t4', t4''⟩, ⟨⟨_, t5⟩, t5', t5''⟩, ⟨⟨_, t6⟩, t6', t6''⟩, hK7, hg7⟩ := store_box hgk (.int .i8 k6) (.bool b6) (.int .i64 n6) (.string s6) (.slice o6 m6 p6) (.slice o7 m7 p7) (by intro u hu; simp only [List.mem_cons, List.not_mem_nil, or_false] at hu; rcases hu with rfl | rfl | rfl | rfl | rfl | rfl <;> rfl)
            have hv7 := isVa_grown hg7 (fun q hq e => by have h1 := Option.some.inj e; obtain ⟨hq1, hq2⟩ := hq; have zz := HSZ.out; have zHZ1 := HZ1.out; have zHZ5 := HZ5.out; have zHZ6 := HZ6.out; have zHZ3 := HZ3.out; rcases hq1 with hq1 | hq1 <;> omega) hv7
            have hgd : Boxed w7 gd 4 (.bool false) := Boxed.kept hgd hg7 (fun e => by have h1 := Option.some.inj e; have zz := HSZ.out; have zHZ1 := HZ1.out; have zHZ5 := HZ5.out; have zHZ6 := HZ6.out; have zHZ3 := HZ3.out; omega)
            have kb7 : KB W0 w7 := Below.grown (kb3) hg7 (by have := (kb3).size; omega) (fun r e => by cases e; have zz := HSZ.out; have zHZ1 := HZ1.out; have zHZ5 := HZ5.out; have zHZ6 := HZ6.out; have zHZ3 := HZ3.out; omega)
            clear hgk
            go_simp
            refine hK.out _ _ ?_ (fun hHeld => ?_)
            · exact ⟨cell_below (kb7) _ _ r0, cell_below (kb7) _ _ r1, cell_below (kb7) _ _ r2, cell_below (kb7) _ _ r3, cell_below (kb7) _ _ r4, cell_below (kb7) _ _ r5⟩
            clear hK K
            (try simp only [Act.put, List.setIfInBounds_toArray, List.set_cons_zero, List.set_cons_succ])
            refine wpAnyH_ready (rs := [8]) (by kernel_rfl) (by simp) ?_
            refine AllReadyH.cons (o := { dst := none, op := Go.Op.store 4 (Go.Operand.tmp 4) (Go.Operand.tmp 9), type := 0, pos := "tree.go:62", after := #[{ on := 6, ground := Go.Ground.data }, { on := 4, ground := Go.Ground.data }, { on := 7, ground := Go.Ground.chain }, { on := 0, ground := Go.Ground.phase }, { on := 1, ground := Go.Ground.phase }, { on := 2, ground := Go.Ground.phase }, { on := 3, ground := Go.Ground.phase }, { on := 4, ground := Go.Ground.phase }, { on := 5, ground := Go.Ground.phase }, { on := 6, ground := Go.Ground.phase }, { on := 7, ground := Go.Ground.phase }], guard := none }) rfl (fun K hK => ?_) ?_
            ·
              have hc8 := hgd.cell
              have hf8 := hgd.frozen
              have hD8 := hgd.set (.bool false)
              have hg8 := grownBy_setCell' w7 gd (.bool false)
              have hK8 := (hg8.block gk (Array.getElem?_eq_some_iff.1 hK7).1 (fun e => by have h1 := Option.some.inj e; have zz := HSZ.out; have zHZ1 := HZ1.out; have zHZ5 := HZ5.out; have zHZ6 := HZ6.out; have zHZ3 := HZ3.out; omega)).trans hK7
              have hV8 : isV (w7.setCell ⟨gd, 0, none⟩ (.bool false)) x (.agg #[.int .i8 k6, .bool b6, .int .i64 n6, .string s6, .slice o6 m6 p6, .slice o7 m7 p7]) := isV_of_a _ _ (isVa_grown hg8 (fun q hq e => by have h1 := Option.some.inj e; obtain ⟨hq1, hq2⟩ := hq; have zz := HSZ.out; have zHZ1 := HZ1.out; have zHZ5 := HZ5.out; have zHZ6 := HZ6.out; have zHZ3 := HZ3.out; rcases hq1 with hq1 | hq1 <;> omega) hv7)
              have kb8 : KB W0 (w7.setCell ⟨gd, 0, none⟩ (.bool false)) := Below.grown kb7 hg8 (by have := kb7.size; omega) (fun r e => by cases e; have zz := HSZ.out; have zHZ1 := HZ1.out; have zHZ5 := HZ5.out; have zHZ6 := HZ6.out; have zHZ3 := HZ3.out; omega)
              go_simp
              have hB8 : KB w (w7.setCell ⟨gd, 0, none⟩ (.bool false)) := kbt HB0.out kb8
              clear hK7 hv7
              have hK7 := hK8
              have hV7 := hV8
              clear hK8 hV8
              refine hK.out _ _ ?_ (fun hHeld => ?_)
              · exact ⟨cell_below (kb8) _ _ r0, cell_below (kb8) _ _ r1, cell_below (kb8) _ _ r2, cell_below (kb8) _ _ r3, cell_below (kb8) _ _ r4, cell_below (kb8) _ _ r5⟩
              clear hK K
              (try simp only [Act.put, List.setIfInBounds_toArray, List.set_cons_zero, List.set_cons_succ])
              refine wpAnyH_done (by kernel_rfl) ?_ _
              have HE := Lib.hid (And.intro hK7 (And.intro hV7 (And.intro hD8 hB8)))
              clear hHeld r0 r1 r2 r3 r4 r5 hK7 hV7 hD8 hB8
              go_wp2_with fail
              go_ret
              exact ⟨gk, gd, _, rfl, HE.out.1, HE.out.2.1, HE.out.2.2.1, HE.out.2.2.2⟩
            exact AllReadyH.nil
          exact AllReadyH.nil
        exact AllReadyH.nil
      exact AllReadyH.nil
    refine AllReadyH.cons (o := { dst := some 4, op := Go.Op.alloc 4, type := 0, pos := "tree.go:62", after := #[], guard := none }) rfl (fun K hK => ?_) ?_
    ·
      go_simp
      obtain ⟨w6, hw6, hb6, hg6, hz6⟩ : ∃ q, (w1).alloc (.cells #[.bool false] 4) = q ∧ KB (w1) q ∧ q.heap[(w1).heap.size]? = some (.cells #[.bool false] 4 (0, 0)) ∧ q.heap.size = (w1).heap.size + 1 := ⟨_, rfl, kbA, World.alloc_heap_new _ _, by simp⟩
      rw [hw6]
      clear hw6
      obtain ⟨gd, hn6⟩ : ∃ q, (w1).heap.size = q := ⟨_, rfl⟩
      have kb6 : KB W0 w6 := kbt (kb1) hb6
      rw [hn6] at hg6
      try rw [hn6]
      have HZ6 := Lib.hid (And.intro hn6 (And.intro hz6 (kb1).size))
      clear hn6 hz6
      refine hK.out _ _ ?_ (fun hHeld => ?_)
      · exact ⟨cell_below (kb6) _ _ r0, cell_below (kb6) _ _ r1, cell_below (kb6) _ _ r2, cell_below (kb6) _ _ r3, cell_below (kb6) _ _ r4, cell_below (kb6) _ _ r5⟩
      clear hK K
      (try simp only [Act.put, List.setIfInBounds_toArray, List.set_cons_zero, List.set_cons_succ])
      refine wpAnyH_ready (rs := [3, 5]) (by kernel_rfl) (by simp) ?_
      refine AllReadyH.cons (o := { dst := some 8, op := Go.Op.call { callee := Go.Callee.value (Go.Operand.func 19), args := #[Go.Operand.tmp 7], argTypes := #[26] }, type := 3, pos := "tree.go:62", after := #[{ on := 2, ground := Go.Ground.data }, { on := 1, ground := Go.Ground.chain }], guard := none }) rfl (fun K hK => ?_) ?_
      ·
        go_simp
        refine (HD.out _ (kb6)).mono ?_
        rintro e w3 ⟨rfl, hb3⟩
        have kb3 : KB W0 w3 := kbt (kb6) hb3
        have HZ3 := Lib.hid hb3.size
        refine hK.out _ _ ?_ (fun hHeld => ?_)
        · exact ⟨cell_below (kb3) _ _ r0, cell_below (kb3) _ _ r1, cell_below (kb3) _ _ r2, cell_below (kb3) _ _ r3, cell_below (kb3) _ _ r4, cell_below (kb3) _ _ r5⟩
        clear hK K
        (try simp only [Act.put, List.setIfInBounds_toArray, List.set_cons_zero, List.set_cons_succ])
        refine' wpAnyH_take (i := 4) (oi := { dst := some 9, op := Go.Op.binOp Go.BinOp.gtr 3 (Go.Operand.tmp 8) (Go.Operand.const (Go.Value.int Go.IntKind.i64 1000)) 3, type := 4, pos := "tree.go:62", after := #[{ on := 3, ground := Go.Ground.data }, { on := 7, ground := Go.Ground.gcOnly Go.Departure.lateStores }], guard := none }) (v := _) rfl (by kernel_rfl) (by kernel_rfl) (by kernel_rfl) (fun _ _ _ h => h) (Or.inl ⟨by rfl, ?yy6⟩) (by assumption) ?rr6
        case yy6 => (intro w' hSw; (try dsimp only at hSw); go_simp; try with_reducible rfl)
        (try simp only [Act.put, List.setIfInBounds_toArray, List.set_cons_zero, List.set_cons_succ])
        refine wpAnyH_ready (rs := [5]) (by kernel_rfl) (by simp) ?_
        refine AllReadyH.cons (o := { dst := some 3, op := Go.Op.alloc 26, type := 0, pos := "tree.go:62", after := #[], guard := none }) rfl (fun K hK => ?_) ?_
        ·
          go_simp
          obtain ⟨w5, hw5, hb5, hg5, hz5⟩ : ∃ q, (w3).alloc (.cells #[.int .i8 0, .bool false, .int .i64 0, .string ⟨#[]⟩, .slice none 0 0, .slice none 0 0] 26) = q ∧ KB (w3) q ∧ q.heap[(w3).heap.size]? = some (.cells #[.int .i8 0, .bool false, .int .i64 0, .string ⟨#[]⟩, .slice none 0 0, .slice none 0 0] 26 (0, 0)) ∧ q.heap.size = (w3).heap.size + 1 := ⟨_, rfl, kbA, World.alloc_heap_new _ _, by simp⟩
          rw [hw5]
          clear hw5
          obtain ⟨gk, hn5⟩ : ∃ q, (w3).heap.size = q := ⟨_, rfl⟩
          have kb5 : KB W0 w5 := kbt (kb3) hb5
          rw [hn5] at hg5
          try rw [hn5]
          have HZ5 := Lib.hid (And.intro hn5 (And.intro hz5 (kb3).size))
          clear hn5 hz5
          refine hK.out _ _ ?_ (fun hHeld => ?_)
          · exact ⟨cell_below (kb5) _ _ r0, cell_below (kb5) _ _ r1, cell_below (kb5) _ _ r2, cell_below (kb5) _ _ r3, cell_below (kb5) _ _ r4, cell_below (kb5) _ _ r5⟩
          clear hK K
          (try simp only [Act.put, List.setIfInBounds_toArray, List.set_cons_zero, List.set_cons_succ])
          refine wpAnyH_ready (rs := [7]) (by kernel_rfl) (by simp) ?_
          refine AllReadyH.cons (o := { dst := none, op := Go.Op.store 26 (Go.Operand.tmp 3) (Go.Operand.tmp 6), type := 0, pos := "tree.go:62", after := #[{ on := 5, ground := Go.Ground.data }, { on := 1, ground := Go.Ground.data }, { on := 3, ground := Go.Ground.chain }, { on := 0, ground := Go.Ground.phase }, { on := 1, ground := Go.Ground.phase }, { on := 2, ground := Go.Ground.textOnly Go.Departure.lateStores }, { on := 3, ground := Go.Ground.textOnly Go.Departure.lateStoresUnsure }, { on := 4, ground := Go.Ground.textOnly Go.Departure.lateStores }, { on := 5, ground := Go.Ground.phase }, { on := 6, ground := Go.Ground.phase }], guard := none }) rfl (fun K hK => ?_) ?_
          ·
            have hgk := hg5
            have hgd : Boxed (w5) gd 4 (.bool false) := (((hb5).block _ (Array.getElem?_eq_some_iff.1 (((hb3).block _ (Array.getElem?_eq_some_iff.1 hg6).1).trans hg6)).1).trans (((hb3).block _ (Array.getElem?_eq_some_iff.1 hg6).1).trans hg6))
            have hv7 := isVa_at (kbt (kbt (hb6) hb3) hb5) hv1
            obtain ⟨x1, x2, x3, x4, x5, w7, ⟨⟨_, t1⟩, t1', t1''⟩, ⟨⟨_, t2⟩, t2', t2''⟩, ⟨⟨_, t3⟩, t3', t3''⟩, ⟨⟨_, t4⟩, t4', t4''⟩, ⟨⟨_, t5⟩, t5', t5''⟩, ⟨⟨_, t6⟩, t6', t6''⟩, hK7, hg7⟩ := store_box hgk (.int .i8 k6) (.bool b6) (.int .i64 n6) (.string s6) (.slice o6 m6 p6) (.slice o7 m7 p7) (by intro u hu; simp only [List.mem_cons, List.not_mem_nil, or_false] at hu; rcases hu with rfl | rfl | rfl | rfl | rfl | rfl <;> rfl)
            have hv7 := isVa_grown hg7 (fun q hq e => by have h1 := Option.some.inj e; obtain ⟨hq1, hq2⟩ := hq; have zz := HSZ.out; have zHZ1 := HZ1.out; have zHZ6 := HZ6.out; have zHZ3 := HZ3.out; have zHZ5 := HZ5.out; rcases hq1 with hq1 | hq1 <;> omega) hv7
            have hgd : Boxed w7 gd 4 (.bool false) := Boxed.kept hgd hg7 (fun e => by have h1 := Option.some.inj e; have zz := HSZ.out; have zHZ1 := HZ1.out; have zHZ6 := HZ6.out; have zHZ3 := HZ3.out; have zHZ5 := HZ5.out; omega)
            have kb7 : KB W0 w7 := Below.grown (kb5) hg7 (by have := (kb5).size; omega) (fun r e => by cases e; have zz := HSZ.out; have zHZ1 := HZ1.out; have zHZ6 := HZ6.out; have zHZ3 := HZ3.out; have zHZ5 := HZ5.out; omega)
            clear hgk
            go_simp
            refine hK.out _ _ ?_ (fun hHeld => ?_)
            · exact ⟨cell_below (kb7) _ _ r0, cell_below (kb7) _ _ r1, cell_below (kb7) _ _ r2, cell_below (kb7) _ _ r3, cell_below (kb7) _ _ r4, cell_below (kb7) _ _ r5⟩
            clear hK K
            (try simp only [Act.put, List.setIfInBounds_toArray, List.set_cons_zero, List.set_cons_succ])
            refine wpAnyH_ready (rs := [8]) (by kernel_rfl) (by simp) ?_
            refine AllReadyH.cons (o := { dst := none, op := Go.Op.store 4 (Go.Operand.tmp 4) (Go.Operand.tmp 9), type := 0, pos := "tree.go:62", after := #[{ on := 6, ground := Go.Ground.data }, { on := 4, ground := Go.Ground.data }, { on := 7, ground := Go.Ground.chain }, { on := 0, ground := Go.Ground.phase }, { on := 1, ground := Go.Ground.phase }, { on := 2, ground := Go.Ground.phase }, { on := 3, ground := Go.Ground.phase }, { on := 4, ground := Go.Ground.phase }, { on := 5, ground := Go.Ground.phase }, { on := 6, ground := Go.Ground.phase }, { on := 7, ground := Go.Ground.phase }], guard := none }) rfl (fun K hK => ?_) ?_
            ·
              have hc8 := hgd.cell
              have hf8 := hgd.frozen
              have hD8 := hgd.set (.bool false)
              have hg8 := grownBy_setCell' w7 gd (.bool false)
              have hK8 := (hg8.block gk (Array.getElem?_eq_some_iff.1 hK7).1 (fun e => by have h1 := Option.some.inj e; have zz := HSZ.out; have zHZ1 := HZ1.out; have zHZ6 := HZ6.out; have zHZ3 := HZ3.out; have zHZ5 := HZ5.out; omega)).trans hK7
              have hV8 : isV (w7.setCell ⟨gd, 0, none⟩ (.bool false)) x (.agg #[.int .i8 k6, .bool b6, .int .i64 n6, .string s6, .slice o6 m6 p6, .slice o7 m7 p7]) := isV_of_a _ _ (isVa_grown hg8 (fun q hq e => by have h1 := Option.some.inj e; obtain ⟨hq1, hq2⟩ := hq; have zz := HSZ.out; have zHZ1 := HZ1.out; have zHZ6 := HZ6.out; have zHZ3 := HZ3.out; have zHZ5 := HZ5.out; rcases hq1 with hq1 | hq1 <;> omega) hv7)
              have kb8 : KB W0 (w7.setCell ⟨gd, 0, none⟩ (.bool false)) := Below.grown kb7 hg8 (by have := kb7.size; omega) (fun r e => by cases e; have zz := HSZ.out; have zHZ1 := HZ1.out; have zHZ6 := HZ6.out; have zHZ3 := HZ3.out; have zHZ5 := HZ5.out; omega)
              go_simp
              have hB8 : KB w (w7.setCell ⟨gd, 0, none⟩ (.bool false)) := kbt HB0.out kb8
              clear hK7 hv7
              have hK7 := hK8
              have hV7 := hV8
              clear hK8 hV8
              refine hK.out _ _ ?_ (fun hHeld => ?_)
              · exact ⟨cell_below (kb8) _ _ r0, cell_below (kb8) _ _ r1, cell_below (kb8) _ _ r2, cell_below (kb8) _ _ r3, cell_below (kb8) _ _ r4, cell_below (kb8) _ _ r5⟩
              clear hK K
              (try simp only [Act.put, List.setIfInBounds_toArray, List.set_cons_zero, List.set_cons_succ])
              refine wpAnyH_done (by kernel_rfl) ?_ _
              have HE := Lib.hid (And.intro hK7 (And.intro hV7 (And.intro hD8 hB8)))
              clear hHeld r0 r1 r2 r3 r4 r5 hK7 hV7 hD8 hB8
              go_wp2_with fail
              go_ret
              exact ⟨gk, gd, _, rfl, HE.out.1, HE.out.2.1, HE.out.2.2.1, HE.out.2.2.2⟩
            exact AllReadyH.nil
          exact AllReadyH.nil
        exact AllReadyH.nil
      refine AllReadyH.cons (o := { dst := some 3, op := Go.Op.alloc 26, type := 0, pos := "tree.go:62", after := #[], guard := none }) rfl (fun K hK => ?_) ?_
      ·
        go_simp
        obtain ⟨w5, hw5, hb5, hg5, hz5⟩ : ∃ q, (w6).alloc (.cells #[.int .i8 0, .bool false, .int .i64 0, .string ⟨#[]⟩, .slice none 0 0, .slice none 0 0] 26) = q ∧ KB (w6) q ∧ q.heap[(w6).heap.size]? = some (.cells #[.int .i8 0, .bool false, .int .i64 0, .string ⟨#[]⟩, .slice none 0 0, .slice none 0 0] 26 (0, 0)) ∧ q.heap.size = (w6).heap.size + 1 := ⟨_, rfl, kbA, World.alloc_heap_new _ _, by simp⟩
        rw [hw5]
        clear hw5
        obtain ⟨gk, hn5⟩ : ∃ q, (w6).heap.size = q := ⟨_, rfl⟩
        have kb5 : KB W0 w5 := kbt (kb6) hb5
        rw [hn5] at hg5
        try rw [hn5]
        have HZ5 := Lib.hid (And.intro hn5 (And.intro hz5 (kb6).size))
        clear hn5 hz5
        refine hK.out _ _ ?_ (fun hHeld => ?_)
        · exact ⟨cell_below (kb5) _ _ r0, cell_below (kb5) _ _ r1, cell_below (kb5) _ _ r2, cell_below (kb5) _ _ r3, cell_below (kb5) _ _ r4, cell_below (kb5) _ _ r5⟩
        clear hK K
        (try simp only [Act.put, List.setIfInBounds_toArray, List.set_cons_zero, List.set_cons_succ])
        refine wpAnyH_ready (rs := [3]) (by kernel_rfl) (by simp) ?_
        refine AllReadyH.cons (o := { dst := some 8, op := Go.Op.call { callee := Go.Callee.value (Go.Operand.func 19), args := #[Go.Operand.tmp 7], argTypes := #[26] }, type := 3, pos := "tree.go:62", after := #[{ on := 2, ground := Go.Ground.data }, { on := 1, ground := Go.Ground.chain }], guard := none }) rfl (fun K hK => ?_) ?_
        ·
          go_simp
          refine (HD.out _ (kb5)).mono ?_
          rintro e w3 ⟨rfl, hb3⟩
          have kb3 : KB W0 w3 := kbt (kb5) hb3
          have HZ3 := Lib.hid hb3.size
          refine hK.out _ _ ?_ (fun hHeld => ?_)
          · exact ⟨cell_below (kb3) _ _ r0, cell_below (kb3) _ _ r1, cell_below (kb3) _ _ r2, cell_below (kb3) _ _ r3, cell_below (kb3) _ _ r4, cell_below (kb3) _ _ r5⟩
          clear hK K
          (try simp only [Act.put, List.setIfInBounds_toArray, List.set_cons_zero, List.set_cons_succ])
          refine' wpAnyH_take (i := 4) (oi := { dst := some 9, op := Go.Op.binOp Go.BinOp.gtr 3 (Go.Operand.tmp 8) (Go.Operand.const (Go.Value.int Go.IntKind.i64 1000)) 3, type := 4, pos := "tree.go:62", after := #[{ on := 3, ground := Go.Ground.data }, { on := 7, ground := Go.Ground.gcOnly Go.Departure.lateStores }], guard := none }) (v := _) rfl (by kernel_rfl) (by kernel_rfl) (by kernel_rfl) (fun _ _ _ h => h) (Or.inl ⟨by rfl, ?yy7⟩) (by assumption) ?rr7
          case yy7 => (intro w' hSw; (try dsimp only at hSw); go_simp; try with_reducible rfl)
          (try simp only [Act.put, List.setIfInBounds_toArray, List.set_cons_zero, List.set_cons_succ])
          refine wpAnyH_ready (rs := [7]) (by kernel_rfl) (by simp) ?_
          refine AllReadyH.cons (o := { dst := none, op := Go.Op.store 26 (Go.Operand.tmp 3) (Go.Operand.tmp 6), type := 0, pos := "tree.go:62", after := #[{ on := 5, ground := Go.Ground.data }, { on := 1, ground := Go.Ground.data }, { on := 3, ground := Go.Ground.chain }, { on := 0, ground := Go.Ground.phase }, { on := 1, ground := Go.Ground.phase }, { on := 2, ground := Go.Ground.textOnly Go.Departure.lateStores }, { on := 3, ground := Go.Ground.textOnly Go.Departure.lateStoresUnsure }, { on := 4, ground := Go.Ground.textOnly Go.Departure.lateStores }, { on := 5, ground := Go.Ground.phase }, { on := 6, ground := Go.Ground.phase }], guard := none }) rfl (fun K hK => ?_) ?_
          ·
            have hgk := (((hb3).block _ (Array.getElem?_eq_some_iff.1 hg5).1).trans hg5)
            have hgd : Boxed (w3) gd 4 (.bool false) := (((hb3).block _ (Array.getElem?_eq_some_iff.1 (((hb5).block _ (Array.getElem?_eq_some_iff.1 hg6).1).trans hg6)).1).trans (((hb5).block _ (Array.getElem?_eq_some_iff.1 hg6).1).trans hg6))
            have hv7 := isVa_at (kbt (kbt (hb6) hb5) hb3) hv1
            obtain ⟨x1, x2, x3, x4, x5, w7, ⟨⟨_, t1⟩, t1', t1''⟩, ⟨⟨_, t2⟩, t2', t2''⟩, ⟨⟨_, t3⟩, t3', t3''⟩, ⟨⟨_, t4⟩, t4', t4''⟩, ⟨⟨_, t5⟩, t5', t5''⟩, ⟨⟨_, t6⟩, t6', t6''⟩, hK7, hg7⟩ := store_box hgk (.int .i8 k6) (.bool b6) (.int .i64 n6) (.string s6) (.slice o6 m6 p6) (.slice o7 m7 p7) (by intro u hu; simp only [List.mem_cons, List.not_mem_nil, or_false] at hu; rcases hu with rfl | rfl | rfl | rfl | rfl | rfl <;> rfl)
            have hv7 := isVa_grown hg7 (fun q hq e => by have h1 := Option.some.inj e; obtain ⟨hq1, hq2⟩ := hq; have zz := HSZ.out; have zHZ1 := HZ1.out; have zHZ6 := HZ6.out; have zHZ5 := HZ5.out; have zHZ3 := HZ3.out; rcases hq1 with hq1 | hq1 <;> omega) hv7
            have hgd : Boxed w7 gd 4 (.bool false) := Boxed.kept hgd hg7 (fun e => by have h1 := Option.some.inj e; have zz := HSZ.out; have zHZ1 := HZ1.out; have zHZ6 := HZ6.out; have zHZ5 := HZ5.out; have zHZ3 := HZ3.out; omega)
            have kb7 : KB W0 w7 := Below.grown (kb3) hg7 (by have := (kb3).size; omega) (fun r e => by cases e; have zz := HSZ.out; have zHZ1 := HZ1.out; have zHZ6 := HZ6.out; have zHZ5 := HZ5.out; have zHZ3 := HZ3.out; omega)
            clear hgk
            go_simp
            refine hK.out _ _ ?_ (fun hHeld => ?_)
            · exact ⟨cell_below (kb7) _ _ r0, cell_below (kb7) _ _ r1, cell_below (kb7) _ _ r2, cell_below (kb7) _ _ r3, cell_below (kb7) _ _ r4, cell_below (kb7) _ _ r5⟩
            clear hK K
            (try simp only [Act.put, List.setIfInBounds_toArray, List.set_cons_zero, List.set_cons_succ])
            refine wpAnyH_ready (rs := [8]) (by kernel_rfl) (by simp) ?_
            refine AllReadyH.cons (o := { dst := none, op := Go.Op.store 4 (Go.Operand.tmp 4) (Go.Operand.tmp 9), type := 0, pos := "tree.go:62", after := #[{ on := 6, ground := Go.Ground.data }, { on := 4, ground := Go.Ground.data }, { on := 7, ground := Go.Ground.chain }, { on := 0, ground := Go.Ground.phase }, { on := 1, ground := Go.Ground.phase }, { on := 2, ground := Go.Ground.phase }, { on := 3, ground := Go.Ground.phase }, { on := 4, ground := Go.Ground.phase }, { on := 5, ground := Go.Ground.phase }, { on := 6, ground := Go.Ground.phase }, { on := 7, ground := Go.Ground.phase }], guard := none }) rfl (fun K hK => ?_) ?_
            ·
              have hc8 := hgd.cell
              have hf8 := hgd.frozen
              have hD8 := hgd.set (.bool false)
              have hg8 := grownBy_setCell' w7 gd (.bool false)
              have hK8 := (hg8.block gk (Array.getElem?_eq_some_iff.1 hK7).1 (fun e => by have h1 := Option.some.inj e; have zz := HSZ.out; have zHZ1 := HZ1.out; have zHZ6 := HZ6.out; have zHZ5 := HZ5.out; have zHZ3 := HZ3.out; omega)).trans hK7
              have hV8 : isV (w7.setCell ⟨gd, 0, none⟩ (.bool false)) x (.agg #[.int .i8 k6, .bool b6, .int .i64 n6, .string s6, .slice o6 m6 p6, .slice o7 m7 p7]) := isV_of_a _ _ (isVa_grown hg8 (fun q hq e => by have h1 := Option.some.inj e; obtain ⟨hq1, hq2⟩ := hq; have zz := HSZ.out; have zHZ1 := HZ1.out; have zHZ6 := HZ6.out; have zHZ5 := HZ5.out; have zHZ3 := HZ3.out; rcases hq1 with hq1 | hq1 <;> omega) hv7)
              have kb8 : KB W0 (w7.setCell ⟨gd, 0, none⟩ (.bool false)) := Below.grown kb7 hg8 (by have := kb7.size; omega) (fun r e => by cases e; have zz := HSZ.out; have zHZ1 := HZ1.out; have zHZ6 := HZ6.out; have zHZ5 := HZ5.out; have zHZ3 := HZ3.out; omega)
              go_simp
              have hB8 : KB w (w7.setCell ⟨gd, 0, none⟩ (.bool false)) := kbt HB0.out kb8
              clear hK7 hv7
              have hK7 := hK8
              have hV7 := hV8
              clear hK8 hV8
              refine hK.out _ _ ?_ (fun hHeld => ?_)
              · exact ⟨cell_below (kb8) _ _ r0, cell_below (kb8) _ _ r1, cell_below (kb8) _ _ r2, cell_below (kb8) _ _ r3, cell_below (kb8) _ _ r4, cell_below (kb8) _ _ r5⟩
              clear hK K
              (try simp only [Act.put, List.setIfInBounds_toArray, List.set_cons_zero, List.set_cons_succ])
              refine wpAnyH_done (by kernel_rfl) ?_ _
              have HE := Lib.hid (And.intro hK7 (And.intro hV7 (And.intro hD8 hB8)))
              clear hHeld r0 r1 r2 r3 r4 r5 hK7 hV7 hD8 hB8
              go_wp2_with fail
              go_ret
              exact ⟨gk, gd, _, rfl, HE.out.1, HE.out.2.1, HE.out.2.2.1, HE.out.2.2.2⟩
            exact AllReadyH.nil
          exact AllReadyH.nil
        exact AllReadyH.nil
      exact AllReadyH.nil
    exact AllReadyH.nil
  refine AllReadyH.cons (o := { dst := some 3, op := Go.Op.alloc 26, type := 0, pos := "tree.go:62", after := #[], guard := none }) rfl (fun K hK => ?_) ?_
  ·
    go_simp
    obtain ⟨w5, hw5, hb5, hg5, hz5⟩ : ∃ q, (c0).alloc (.cells #[.int .i8 0, .bool false, .int .i64 0, .string ⟨#[]⟩, .slice none 0 0, .slice none 0 0] 26) = q ∧ KB (c0) q ∧ q.heap[(c0).heap.size]? = some (.cells #[.int .i8 0, .bool false, .int .i64 0, .string ⟨#[]⟩, .slice none 0 0, .slice none 0 0] 26 (0, 0)) ∧ q.heap.size = (c0).heap.size + 1 := ⟨_, rfl, kbA, World.alloc_heap_new _ _, by simp⟩
    rw [hw5]
    clear hw5
    obtain ⟨gk, hn5⟩ : ∃ q, (c0).heap.size = q := ⟨_, rfl⟩
    have kb5 : KB W0 w5 := kbt (kb0) hb5
    rw [hn5] at hg5
    try rw [hn5]
    have HZ5 := Lib.hid (And.intro hn5 (And.intro hz5 (kb0).size))
    clear hn5 hz5
    refine hK.out _ _ ?_ (fun hHeld => ?_)
    · exact ⟨cell_below (kb5) _ _ r0, cell_below (kb5) _ _ r1, cell_below (kb5) _ _ r2, cell_below (kb5) _ _ r3, cell_below (kb5) _ _ r4, cell_below (kb5) _ _ r5⟩
    clear hK K
    (try simp only [Act.put, List.setIfInBounds_toArray, List.set_cons_zero, List.set_cons_succ])
    refine wpAnyH_ready (rs := [1, 6]) (by kernel_rfl) (by simp) ?_
    refine AllReadyH.cons (o := { dst := some 6, op := Go.Op.call { callee := Go.Callee.value (Go.Operand.func 44), args := #[Go.Operand.tmp 5], argTypes := #[26] }, type := 26, pos := "tree.go:62", after := #[{ on := 0, ground := Go.Ground.data }], guard := none }) rfl (fun K hK => ?_) ?_
    ·
      go_simp
      refine (HC.out _ (kb5)).mono ?_
      rintro e w1 ⟨v5, rfl, hv1, hb1⟩
      obtain ⟨k6, b6, n6, s6, o6, m6, p6, o7, m7, p7, rfl⟩ := isV_six (isV_of_a _ _ hv1)
      have kb1 : KB W0 w1 := kbt (kb5) hb1
      have HZ1 := Lib.hid (And.intro (kb5).size hb1.size)
      have hv1 := isVa_lt _ _ hv1
      refine hK.out _ _ ?_ (fun hHeld => ?_)
      · exact ⟨cell_below (kb1) _ _ r0, cell_below (kb1) _ _ r1, cell_below (kb1) _ _ r2, cell_below (kb1) _ _ r3, cell_below (kb1) _ _ r4, cell_below (kb1) _ _ r5⟩
      clear hK K
      (try simp only [Act.put, List.setIfInBounds_toArray, List.set_cons_zero, List.set_cons_succ])
      refine wpAnyH_ready (rs := [3, 6]) (by kernel_rfl) (by simp) ?_
      refine AllReadyH.cons (o := { dst := some 8, op := Go.Op.call { callee := Go.Callee.value (Go.Operand.func 19), args := #[Go.Operand.tmp 7], argTypes := #[26] }, type := 3, pos := "tree.go:62", after := #[{ on := 2, ground := Go.Ground.data }, { on := 1, ground := Go.Ground.chain }], guard := none }) rfl (fun K hK => ?_) ?_
      ·
        go_simp
        refine (HD.out _ (kb1)).mono ?_
        rintro e w3 ⟨rfl, hb3⟩
        have kb3 : KB W0 w3 := kbt (kb1) hb3
        have HZ3 := Lib.hid hb3.size
        refine hK.out _ _ ?_ (fun hHeld => ?_)
        · exact ⟨cell_below (kb3) _ _ r0, cell_below (kb3) _ _ r1, cell_below (kb3) _ _ r2, cell_below (kb3) _ _ r3, cell_below (kb3) _ _ r4, cell_below (kb3) _ _ r5⟩
        clear hK K
        (try simp only [Act.put, List.setIfInBounds_toArray, List.set_cons_zero, List.set_cons_succ])
        refine' wpAnyH_take (i := 4) (oi := { dst := some 9, op := Go.Op.binOp Go.BinOp.gtr 3 (Go.Operand.tmp 8) (Go.Operand.const (Go.Value.int Go.IntKind.i64 1000)) 3, type := 4, pos := "tree.go:62", after := #[{ on := 3, ground := Go.Ground.data }, { on := 7, ground := Go.Ground.gcOnly Go.Departure.lateStores }], guard := none }) (v := _) rfl (by kernel_rfl) (by kernel_rfl) (by kernel_rfl) (fun _ _ _ h => h) (Or.inl ⟨by rfl, ?yy8⟩) (by assumption) ?rr8
        case yy8 => (intro w' hSw; (try dsimp only at hSw); go_simp; try with_reducible rfl)
        (try simp only [Act.put, List.setIfInBounds_toArray, List.set_cons_zero, List.set_cons_succ])
        refine wpAnyH_ready (rs := [6]) (by kernel_rfl) (by simp) ?_
        refine AllReadyH.cons (o := { dst := some 4, op := Go.Op.alloc 4, type := 0, pos := "tree.go:62", after := #[], guard := none }) rfl (fun K hK => ?_) ?_
        ·
          go_simp
          obtain ⟨w6, hw6, hb6, hg6, hz6⟩ : ∃ q, (w3).alloc (.cells #[.bool false] 4) = q ∧ KB (w3) q ∧ q.heap[(w3).heap.size]? = some (.cells #[.bool false] 4 (0, 0)) ∧ q.heap.size = (w3).heap.size + 1 := ⟨_, rfl, kbA, World.alloc_heap_new _ _, by simp⟩
          rw [hw6]
          clear hw6
          obtain ⟨gd, hn6⟩ : ∃ q, (w3).heap.size = q := ⟨_, rfl⟩
          have kb6 : KB W0 w6 := kbt (kb3) hb6
          rw [hn6] at hg6
          try rw [hn6]
          have HZ6 := Lib.hid (And.intro hn6 (And.intro hz6 (kb3).size))
          clear hn6 hz6
          refine hK.out _ _ ?_ (fun hHeld => ?_)
          · exact ⟨cell_below (kb6) _ _ r0, cell_below (kb6) _ _ r1, cell_below (kb6) _ _ r2, cell_below (kb6) _ _ r3, cell_below (kb6) _ _ r4, cell_below (kb6) _ _ r5⟩
          clear hK K
          (try simp only [Act.put, List.setIfInBounds_toArray, List.set_cons_zero, List.set_cons_succ])
          refine wpAnyH_ready (rs := [7]) (by kernel_rfl) (by simp) ?_
          refine AllReadyH.cons (o := { dst := none, op := Go.Op.store 26 (Go.Operand.tmp 3) (Go.Operand.tmp 6), type := 0, pos := "tree.go:62", after := #[{ on := 5, ground := Go.Ground.data }, { on := 1, ground := Go.Ground.data }, { on := 3, ground := Go.Ground.chain }, { on := 0, ground := Go.Ground.phase }, { on := 1, ground := Go.Ground.phase }, { on := 2, ground := Go.Ground.textOnly Go.Departure.lateStores }, { on := 3, ground := Go.Ground.textOnly Go.Departure.lateStoresUnsure }, { on := 4, ground := Go.Ground.textOnly Go.Departure.lateStores }, { on := 5, ground := Go.Ground.phase }, { on := 6, ground := Go.Ground.phase }], guard := none }) rfl (fun K hK => ?_) ?_
          ·
            have hgk := (((hb6).block _ (Array.getElem?_eq_some_iff.1 (((hb3).block _ (Array.getElem?_eq_some_iff.1 ((hb1.block _ (Array.getElem?_eq_some_iff.1 hg5).1).trans hg5)).1).trans ((hb1.block _ (Array.getElem?_eq_some_iff.1 hg5).1).trans hg5))).1).trans (((hb3).block _ (Array.getElem?_eq_some_iff.1 ((hb1.block _ (Array.getElem?_eq_some_iff.1 hg5).1).trans hg5)).1).trans ((hb1.block _ (Array.getElem?_eq_some_iff.1 hg5).1).trans hg5)))
            have hgd : Boxed (w6) gd 4 (.bool false) := hg6
            have hv7 := isVa_at (kbt (hb3) hb6) hv1
            obtain ⟨x1, x2, x3, x4, x5, w7, ⟨⟨_, t1⟩, t1', t1''⟩, ⟨⟨_, t2⟩, t2', t2''⟩, ⟨⟨_, t3⟩, t3', t3''⟩, ⟨⟨_, t4⟩, t4', t4''⟩, ⟨⟨_, t5⟩, t5', t5''⟩, ⟨⟨_, t6⟩, t6', t6''⟩, hK7, hg7⟩ := store_box hgk (.int .i8 k6) (.bool b6) (.int .i64 n6) (.string s6) (.slice o6 m6 p6) (.slice o7 m7 p7) (by intro u hu; simp only [List.mem_cons, List.not_mem_nil, or_false] at hu; rcases hu with rfl | rfl | rfl | rfl | rfl | rfl <;> rfl)
            have hv7 := isVa_grown hg7 (fun q hq e => by have h1 := Option.some.inj e; obtain ⟨hq1, hq2⟩ := hq; have zz := HSZ.out; have zHZ5 := HZ5.out; have zHZ1 := HZ1.out; have zHZ3 := HZ3.out; have zHZ6 := HZ6.out; rcases hq1 with hq1 | hq1 <;> omega) hv7
            have hgd : Boxed w7 gd 4 (.bool false) := Boxed.kept hgd hg7 (fun e => by have h1 := Option.some.inj e; have zz := HSZ.out; have zHZ5 := HZ5.out; have zHZ1 := HZ1.out; have zHZ3 := HZ3.out; have zHZ6 := HZ6.out; omega)
            have kb7 : KB W0 w7 := Below.grown (kb6) hg7 (by have := (kb6).size; omega) (fun r e => by cases e; have zz := HSZ.out; have zHZ5 := HZ5.out; have zHZ1 := HZ1.out; have zHZ3 := HZ3.out; have zHZ6 := HZ6.out; omega)
            clear hgk
            go_simp
            refine hK.out _ _ ?_ (fun hHeld => ?_)
            · exact ⟨cell_below (kb7) _ _ r0, cell_below (kb7) _ _ r1, cell_below (kb7) _ _ r2, cell_below (kb7) _ _ r3, cell_below (kb7) _ _ r4, cell_below (kb7) _ _ r5⟩
            clear hK K
            (try simp only [Act.put, List.setIfInBounds_toArray, List.set_cons_zero, List.set_cons_succ])
            refine wpAnyH_ready (rs := [8]) (by kernel_rfl) (by simp) ?_
            refine AllReadyH.cons (o := { dst := none, op := Go.Op.store 4 (Go.Operand.tmp 4) (Go.Operand.tmp 9), type := 0, pos := "tree.go:62", after := #[{ on := 6, ground := Go.Ground.data }, { on := 4, ground := Go.Ground.data }, { on := 7, ground := Go.Ground.chain }, { on := 0, ground := Go.Ground.phase }, { on := 1, ground := Go.Ground.phase }, { on := 2, ground := Go.Ground.phase }, { on := 3, ground := Go.Ground.phase }, { on := 4, ground := Go.Ground.phase }, { on := 5, ground := Go.Ground.phase }, { on := 6, ground := Go.Ground.phase }, { on := 7, ground := Go.Ground.phase }], guard := none }) rfl (fun K hK => ?_) ?_
            ·
              have hc8 := hgd.cell
              have hf8 := hgd.frozen
              have hD8 := hgd.set (.bool false)
              have hg8 := grownBy_setCell' w7 gd (.bool false)
              have hK8 := (hg8.block gk (Array.getElem?_eq_some_iff.1 hK7).1 (fun e => by have h1 := Option.some.inj e; have zz := HSZ.out; have zHZ5 := HZ5.out; have zHZ1 := HZ1.out; have zHZ3 := HZ3.out; have zHZ6 := HZ6.out; omega)).trans hK7
              have hV8 : isV (w7.setCell ⟨gd, 0, none⟩ (.bool false)) x (.agg #[.int .i8 k6, .bool b6, .int .i64 n6, .string s6, .slice o6 m6 p6, .slice o7 m7 p7]) := isV_of_a _ _ (isVa_grown hg8 (fun q hq e => by have h1 := Option.some.inj e; obtain ⟨hq1, hq2⟩ := hq; have zz := HSZ.out; have zHZ5 := HZ5.out; have zHZ1 := HZ1.out; have zHZ3 := HZ3.out; have zHZ6 := HZ6.out; rcases hq1 with hq1 | hq1 <;> omega) hv7)
              have kb8 : KB W0 (w7.setCell ⟨gd, 0, none⟩ (.bool false)) := Below.grown kb7 hg8 (by have := kb7.size; omega) (fun r e => by cases e; have zz := HSZ.out; have zHZ5 := HZ5.out; have zHZ1 := HZ1.out; have zHZ3 := HZ3.out; have zHZ6 := HZ6.out; omega)
              go_simp
              have hB8 : KB w (w7.setCell ⟨gd, 0, none⟩ (.bool false)) := kbt HB0.out kb8
              clear hK7 hv7
              have hK7 := hK8
              have hV7 := hV8
              clear hK8 hV8
              refine hK.out _ _ ?_ (fun hHeld => ?_)
              · exact ⟨cell_below (kb8) _ _ r0, cell_below (kb8) _ _ r1, cell_below (kb8) _ _ r2, cell_below (kb8) _ _ r3, cell_below (kb8) _ _ r4, cell_below (kb8) _ _ r5⟩
              clear hK K
              (try simp only [Act.put, List.setIfInBounds_toArray, List.set_cons_zero, List.set_cons_succ])
              refine wpAnyH_done (by kernel_rfl) ?_ _
              have HE := Lib.hid (And.intro hK7 (And.intro hV7 (And.intro hD8 hB8)))
              clear hHeld r0 r1 r2 r3 r4 r5 hK7 hV7 hD8 hB8
              go_wp2_with fail
              go_ret
              exact ⟨gk, gd, _, rfl, HE.out.1, HE.out.2.1, HE.out.2.2.1, HE.out.2.2.2⟩
            exact AllReadyH.nil
          exact AllReadyH.nil
        exact AllReadyH.nil
      refine AllReadyH.cons (o := { dst := some 4, op := Go.Op.alloc 4, type := 0, pos := "tree.go:62", after := #[], guard := none }) rfl (fun K hK => ?_) ?_
      ·
        go_simp
        obtain ⟨w6, hw6, hb6, hg6, hz6⟩ : ∃ q, (w1).alloc (.cells #[.bool false] 4) = q ∧ KB (w1) q ∧ q.heap[(w1).heap.size]? = some (.cells #[.bool false] 4 (0, 0)) ∧ q.heap.size = (w1).heap.size + 1 := ⟨_, rfl, kbA, World.alloc_heap_new _ _, by simp⟩
        rw [hw6]
        clear hw6
        obtain ⟨gd, hn6⟩ : ∃ q, (w1).heap.size = q := ⟨_, rfl⟩
        have kb6 : KB W0 w6 := kbt (kb1) hb6
        rw [hn6] at hg6
        try rw [hn6]
        have HZ6 := Lib.hid (And.intro hn6 (And.intro hz6 (kb1).size))
        clear hn6 hz6
        refine hK.out _ _ ?_ (fun hHeld => ?_)
        · exact ⟨cell_below (kb6) _ _ r0, cell_below (kb6) _ _ r1, cell_below (kb6) _ _ r2, cell_below (kb6) _ _ r3, cell_below (kb6) _ _ r4, cell_below (kb6) _ _ r5⟩
        clear hK K
        (try simp only [Act.put, List.setIfInBounds_toArray, List.set_cons_zero, List.set_cons_succ])
        refine wpAnyH_ready (rs := [3]) (by kernel_rfl) (by simp) ?_
        refine AllReadyH.cons (o := { dst := some 8, op := Go.Op.call { callee := Go.Callee.value (Go.Operand.func 19), args := #[Go.Operand.tmp 7], argTypes := #[26] }, type := 3, pos := "tree.go:62", after := #[{ on := 2, ground := Go.Ground.data }, { on := 1, ground := Go.Ground.chain }], guard := none }) rfl (fun K hK => ?_) ?_
        ·
          go_simp
          refine (HD.out _ (kb6)).mono ?_
          rintro e w3 ⟨rfl, hb3⟩
          have kb3 : KB W0 w3 := kbt (kb6) hb3
          have HZ3 := Lib.hid hb3.size
          refine hK.out _ _ ?_ (fun hHeld => ?_)
          · exact ⟨cell_below (kb3) _ _ r0, cell_below (kb3) _ _ r1, cell_below (kb3) _ _ r2, cell_below (kb3) _ _ r3, cell_below (kb3) _ _ r4, cell_below (kb3) _ _ r5⟩
          clear hK K
          (try simp only [Act.put, List.setIfInBounds_toArray, List.set_cons_zero, List.set_cons_succ])
          refine' wpAnyH_take (i := 4) (oi := { dst := some 9, op := Go.Op.binOp Go.BinOp.gtr 3 (Go.Operand.tmp 8) (Go.Operand.const (Go.Value.int Go.IntKind.i64 1000)) 3, type := 4, pos := "tree.go:62", after := #[{ on := 3, ground := Go.Ground.data }, { on := 7, ground := Go.Ground.gcOnly Go.Departure.lateStores }], guard := none }) (v := _) rfl (by kernel_rfl) (by kernel_rfl) (by kernel_rfl) (fun _ _ _ h => h) (Or.inl ⟨by rfl, ?yy9⟩) (by assumption) ?rr9
          case yy9 => (intro w' hSw; (try dsimp only at hSw); go_simp; try with_reducible rfl)
          (try simp only [Act.put, List.setIfInBounds_toArray, List.set_cons_zero, List.set_cons_succ])
          refine wpAnyH_ready (rs := [7]) (by kernel_rfl) (by simp) ?_
          refine AllReadyH.cons (o := { dst := none, op := Go.Op.store 26 (Go.Operand.tmp 3) (Go.Operand.tmp 6), type := 0, pos := "tree.go:62", after := #[{ on := 5, ground := Go.Ground.data }, { on := 1, ground := Go.Ground.data }, { on := 3, ground := Go.Ground.chain }, { on := 0, ground := Go.Ground.phase }, { on := 1, ground := Go.Ground.phase }, { on := 2, ground := Go.Ground.textOnly Go.Departure.lateStores }, { on := 3, ground := Go.Ground.textOnly Go.Departure.lateStoresUnsure }, { on := 4, ground := Go.Ground.textOnly Go.Departure.lateStores }, { on := 5, ground := Go.Ground.phase }, { on := 6, ground := Go.Ground.phase }], guard := none }) rfl (fun K hK => ?_) ?_
          ·
            have hgk := (((hb3).block _ (Array.getElem?_eq_some_iff.1 (((hb6).block _ (Array.getElem?_eq_some_iff.1 ((hb1.block _ (Array.getElem?_eq_some_iff.1 hg5).1).trans hg5)).1).trans ((hb1.block _ (Array.getElem?_eq_some_iff.1 hg5).1).trans hg5))).1).trans (((hb6).block _ (Array.getElem?_eq_some_iff.1 ((hb1.block _ (Array.getElem?_eq_some_iff.1 hg5).1).trans hg5)).1).trans ((hb1.block _ (Array.getElem?_eq_some_iff.1 hg5).1).trans hg5)))
            have hgd : Boxed (w3) gd 4 (.bool false) := (((hb3).block _ (Array.getElem?_eq_some_iff.1 hg6).1).trans hg6)
            have hv7 := isVa_at (kbt (hb6) hb3) hv1
            obtain ⟨x1, x2, x3, x4, x5, w7, ⟨⟨_, t1⟩, t1', t1''⟩, ⟨⟨_, t2⟩, t2', t2''⟩, ⟨⟨_, t3⟩, t3', t3''⟩, ⟨⟨_, t4⟩, t4', t4''⟩, ⟨⟨_, t5⟩, t5', t5''⟩, ⟨⟨_, t6⟩, t6', t6''⟩, hK7, hg7⟩ := store_box hgk (.int .i8 k6) (.bool b6) (.int .i64 n6) (.string s6) (.slice o6 m6 p6) (.slice o7 m7 p7) (by intro u hu; simp only [List.mem_cons, List.not_mem_nil, or_false] at hu; rcases hu with rfl | rfl | rfl | rfl | rfl | rfl <;> rfl)
            have hv7 := isVa_grown hg7 (fun q hq e => by have h1 := Option.some.inj e; obtain ⟨hq1, hq2⟩ := hq; have zz := HSZ.out; have zHZ5 := HZ5.out; have zHZ1 := HZ1.out; have zHZ6 := HZ6.out; have zHZ3 := HZ3.out; rcases hq1 with hq1 | hq1 <;> omega) hv7
            have hgd : Boxed w7 gd 4 (.bool false) := Boxed.kept hgd hg7 (fun e => by have h1 := Option.some.inj e; have zz := HSZ.out; have zHZ5 := HZ5.out; have zHZ1 := HZ1.out; have zHZ6 := HZ6.out; have zHZ3 := HZ3.out; omega)
            have kb7 : KB W0 w7 := Below.grown (kb3) hg7 (by have := (kb3).size; omega) (fun r e => by cases e; have zz := HSZ.out; have zHZ5 := HZ5.out; have zHZ1 := HZ1.out; have zHZ6 := HZ6.out; have zHZ3 := HZ3.out; omega)
            clear hgk
            go_simp
            refine hK.out _ _ ?_ (fun hHeld => ?_)
            · exact ⟨cell_below (kb7) _ _ r0, cell_below (kb7) _ _ r1, cell_below (kb7) _ _ r2, cell_below (kb7) _ _ r3, cell_below (kb7) _ _ r4, cell_below (kb7) _ _ r5⟩
            clear hK K
            (try simp only [Act.put, List.setIfInBounds_toArray, List.set_cons_zero, List.set_cons_succ])
            refine wpAnyH_ready (rs := [8]) (by kernel_rfl) (by simp) ?_
            refine AllReadyH.cons (o := { dst := none, op := Go.Op.store 4 (Go.Operand.tmp 4) (Go.Operand.tmp 9), type := 0, pos := "tree.go:62", after := #[{ on := 6, ground := Go.Ground.data }, { on := 4, ground := Go.Ground.data }, { on := 7, ground := Go.Ground.chain }, { on := 0, ground := Go.Ground.phase }, { on := 1, ground := Go.Ground.phase }, { on := 2, ground := Go.Ground.phase }, { on := 3, ground := Go.Ground.phase }, { on := 4, ground := Go.Ground.phase }, { on := 5, ground := Go.Ground.phase }, { on := 6, ground := Go.Ground.phase }, { on := 7, ground := Go.Ground.phase }], guard := none }) rfl (fun K hK => ?_) ?_
            ·
              have hc8 := hgd.cell
              have hf8 := hgd.frozen
              have hD8 := hgd.set (.bool false)
              have hg8 := grownBy_setCell' w7 gd (.bool false)
              have hK8 := (hg8.block gk (Array.getElem?_eq_some_iff.1 hK7).1 (fun e => by have h1 := Option.some.inj e; have zz := HSZ.out; have zHZ5 := HZ5.out; have zHZ1 := HZ1.out; have zHZ6 := HZ6.out; have zHZ3 := HZ3.out; omega)).trans hK7
              have hV8 : isV (w7.setCell ⟨gd, 0, none⟩ (.bool false)) x (.agg #[.int .i8 k6, .bool b6, .int .i64 n6, .string s6, .slice o6 m6 p6, .slice o7 m7 p7]) := isV_of_a _ _ (isVa_grown hg8 (fun q hq e => by have h1 := Option.some.inj e; obtain ⟨hq1, hq2⟩ := hq; have zz := HSZ.out; have zHZ5 := HZ5.out; have zHZ1 := HZ1.out; have zHZ6 := HZ6.out; have zHZ3 := HZ3.out; rcases hq1 with hq1 | hq1 <;> omega) hv7)
              have kb8 : KB W0 (w7.setCell ⟨gd, 0, none⟩ (.bool false)) := Below.grown kb7 hg8 (by have := kb7.size; omega) (fun r e => by cases e; have zz := HSZ.out; have zHZ5 := HZ5.out; have zHZ1 := HZ1.out; have zHZ6 := HZ6.out; have zHZ3 := HZ3.out; omega)
              go_simp
              have hB8 : KB w (w7.setCell ⟨gd, 0, none⟩ (.bool false)) := kbt HB0.out kb8
              clear hK7 hv7
              have hK7 := hK8
              have hV7 := hV8
              clear hK8 hV8
              refine hK.out _ _ ?_ (fun hHeld => ?_)
              · exact ⟨cell_below (kb8) _ _ r0, cell_below (kb8) _ _ r1, cell_below (kb8) _ _ r2, cell_below (kb8) _ _ r3, cell_below (kb8) _ _ r4, cell_below (kb8) _ _ r5⟩
              clear hK K
              (try simp only [Act.put, List.setIfInBounds_toArray, List.set_cons_zero, List.set_cons_succ])
              refine wpAnyH_done (by kernel_rfl) ?_ _
              have HE := Lib.hid (And.intro hK7 (And.intro hV7 (And.intro hD8 hB8)))
              clear hHeld r0 r1 r2 r3 r4 r5 hK7 hV7 hD8 hB8
              go_wp2_with fail
              go_ret
              exact ⟨gk, gd, _, rfl, HE.out.1, HE.out.2.1, HE.out.2.2.1, HE.out.2.2.2⟩
            exact AllReadyH.nil
          exact AllReadyH.nil
        exact AllReadyH.nil
      exact AllReadyH.nil
    refine AllReadyH.cons (o := { dst := some 4, op := Go.Op.alloc 4, type := 0, pos := "tree.go:62", after := #[], guard := none }) rfl (fun K hK => ?_) ?_
    ·
      go_simp
      obtain ⟨w6, hw6, hb6, hg6, hz6⟩ : ∃ q, (w5).alloc (.cells #[.bool false] 4) = q ∧ KB (w5) q ∧ q.heap[(w5).heap.size]? = some (.cells #[.bool false] 4 (0, 0)) ∧ q.heap.size = (w5).heap.size + 1 := ⟨_, rfl, kbA, World.alloc_heap_new _ _, by simp⟩
      rw [hw6]
      clear hw6
      obtain ⟨gd, hn6⟩ : ∃ q, (w5).heap.size = q := ⟨_, rfl⟩
      have kb6 : KB W0 w6 := kbt (kb5) hb6
      rw [hn6] at hg6
      try rw [hn6]
      have HZ6 := Lib.hid (And.intro hn6 (And.intro hz6 (kb5).size))
      clear hn6 hz6
      refine hK.out _ _ ?_ (fun hHeld => ?_)
      · exact ⟨cell_below (kb6) _ _ r0, cell_below (kb6) _ _ r1, cell_below (kb6) _ _ r2, cell_below (kb6) _ _ r3, cell_below (kb6) _ _ r4, cell_below (kb6) _ _ r5⟩
      clear hK K
      (try simp only [Act.put, List.setIfInBounds_toArray, List.set_cons_zero, List.set_cons_succ])
      refine wpAnyH_ready (rs := [1]) (by kernel_rfl) (by simp) ?_
      refine AllReadyH.cons (o := { dst := some 6, op := Go.Op.call { callee := Go.Callee.value (Go.Operand.func 44), args := #[Go.Operand.tmp 5], argTypes := #[26] }, type := 26, pos := "tree.go:62", after := #[{ on := 0, ground := Go.Ground.data }], guard := none }) rfl (fun K hK => ?_) ?_
      ·
        go_simp
        refine (HC.out _ (kb6)).mono ?_
        rintro e w1 ⟨v5, rfl, hv1, hb1⟩
        obtain ⟨k6, b6, n6, s6, o6, m6, p6, o7, m7, p7, rfl⟩ := isV_six (isV_of_a _ _ hv1)
        have kb1 : KB W0 w1 := kbt (kb6) hb1
        have HZ1 := Lib.hid (And.intro (kb6).size hb1.size)
        have hv1 := isVa_lt _ _ hv1
        refine hK.out _ _ ?_ (fun hHeld => ?_)
        · exact ⟨cell_below (kb1) _ _ r0, cell_below (kb1) _ _ r1, cell_below (kb1) _ _ r2, cell_below (kb1) _ _ r3, cell_below (kb1) _ _ r4, cell_below (kb1) _ _ r5⟩
        clear hK K
        (try simp only [Act.put, List.setIfInBounds_toArray, List.set_cons_zero, List.set_cons_succ])
        refine wpAnyH_ready (rs := [3]) (by kernel_rfl) (by simp) ?_
        refine AllReadyH.cons (o := { dst := some 8, op := Go.Op.call { callee := Go.Callee.value (Go.Operand.func 19), args := #[Go.Operand.tmp 7], argTypes := #[26] }, type := 3, pos := "tree.go:62", after := #[{ on := 2, ground := Go.Ground.data }, { on := 1, ground := Go.Ground.chain }], guard := none }) rfl (fun K hK => ?_) ?_
        ·
          go_simp
          refine (HD.out _ (kb1)).mono ?_
          rintro e w3 ⟨rfl, hb3⟩
          have kb3 : KB W0 w3 := kbt (kb1) hb3
          have HZ3 := Lib.hid hb3.size
          refine hK.out _ _ ?_ (fun hHeld => ?_)
          · exact ⟨cell_below (kb3) _ _ r0, cell_below (kb3) _ _ r1, cell_below (kb3) _ _ r2, cell_below (kb3) _ _ r3, cell_below (kb3) _ _ r4, cell_below (kb3) _ _ r5⟩
          clear hK K
          (try simp only [Act.put, List.setIfInBounds_toArray, List.set_cons_zero, List.set_cons_succ])
          refine' wpAnyH_take (i := 4) (oi := { dst := some 9, op := Go.Op.binOp Go.BinOp.gtr 3 (Go.Operand.tmp 8) (Go.Operand.const (Go.Value.int Go.IntKind.i64 1000)) 3, type := 4, pos := "tree.go:62", after := #[{ on := 3, ground := Go.Ground.data }, { on := 7, ground := Go.Ground.gcOnly Go.Departure.lateStores }], guard := none }) (v := _) rfl (by kernel_rfl) (by kernel_rfl) (by kernel_rfl) (fun _ _ _ h => h) (Or.inl ⟨by rfl, ?yy10⟩) (by assumption) ?rr10
          case yy10 => (intro w' hSw; (try dsimp only at hSw); go_simp; try with_reducible rfl)
          (try simp only [Act.put, List.setIfInBounds_toArray, List.set_cons_zero, List.set_cons_succ])
          refine wpAnyH_ready (rs := [7]) (by kernel_rfl) (by simp) ?_
          refine AllReadyH.cons (o := { dst := none, op := Go.Op.store 26 (Go.Operand.tmp 3) (Go.Operand.tmp 6), type := 0, pos := "tree.go:62", after := #[{ on := 5, ground := Go.Ground.data }, { on := 1, ground := Go.Ground.data }, { on := 3, ground := Go.Ground.chain }, { on := 0, ground := Go.Ground.phase }, { on := 1, ground := Go.Ground.phase }, { on := 2, ground := Go.Ground.textOnly Go.Departure.lateStores }, { on := 3, ground := Go.Ground.textOnly Go.Departure.lateStoresUnsure }, { on := 4, ground := Go.Ground.textOnly Go.Departure.lateStores }, { on := 5, ground := Go.Ground.phase }, { on := 6, ground := Go.Ground.phase }], guard := none }) rfl (fun K hK => ?_) ?_
          ·
            have hgk := (((hb3).block _ (Array.getElem?_eq_some_iff.1 ((hb1.block _ (Array.getElem?_eq_some_iff.1 (((hb6).block _ (Array.getElem?_eq_some_iff.1 hg5).1).trans hg5)).1).trans (((hb6).block _ (Array.getElem?_eq_some_iff.1 hg5).1).trans hg5))).1).trans ((hb1.block _ (Array.getElem?_eq_some_iff.1 (((hb6).block _ (Array.getElem?_eq_some_iff.1 hg5).1).trans hg5)).1).trans (((hb6).block _ (Array.getElem?_eq_some_iff.1 hg5).1).trans hg5)))
            have hgd : Boxed (w3) gd 4 (.bool false) := (((hb3).block _ (Array.getElem?_eq_some_iff.1 ((hb1.block _ (Array.getElem?_eq_some_iff.1 hg6).1).trans hg6)).1).trans ((hb1.block _ (Array.getElem?_eq_some_iff.1 hg6).1).trans hg6))
            have hv7 := isVa_at (hb3) hv1
            obtain ⟨x1, x2, x3, x4, x5, w7, ⟨⟨_, t1⟩, t1', t1''⟩, ⟨⟨_, t2⟩, t2', t2''⟩, ⟨⟨_, t3⟩, t3', t3''⟩, ⟨⟨_, t4⟩, t4', t4''⟩, ⟨⟨_, t5⟩, t5', t5''⟩, ⟨⟨_, t6⟩, t6', t6''⟩, hK7, hg7⟩ := store_box hgk (.int .i8 k6) (.bool b6) (.int .i64 n6) (.string s6) (.slice o6 m6 p6) (.slice o7 m7 p7) (by intro u hu; simp only [List.mem_cons, List.not_mem_nil, or_false] at hu; rcases hu with rfl | rfl | rfl | rfl | rfl | rfl <;> rfl)
            have hv7 := isVa_grown hg7 (fun q hq e => by have h1 := Option.some.inj e; obtain ⟨hq1, hq2⟩ := hq; have zz := HSZ.out; have zHZ5 := HZ5.out; have zHZ6 := HZ6.out; have zHZ1 := HZ1.out; have zHZ3 := HZ3.out; rcases hq1 with hq1 | hq1 <;> omega) hv7
            have hgd : Boxed w7 gd 4 (.bool false) := Boxed.kept hgd hg7 (fun e => by have h1 := Option.some.inj e; have zz := HSZ.out; have zHZ5 := HZ5.out; have zHZ6 := HZ6.out; have zHZ1 := HZ1.out; have zHZ3 := HZ3.out; omega)
            have kb7 : KB W0 w7 := Below.grown (kb3) hg7 (by have := (kb3).size; omega) (fun r e => by cases e; have zz := HSZ.out; have zHZ5 := HZ5.out; have zHZ6 := HZ6.out; have zHZ1 := HZ1.out; have zHZ3 := HZ3.out; omega)
            clear hgk
            go_simp
            refine hK.out _ _ ?_ (fun hHeld => ?_)
            · exact ⟨cell_below (kb7) _ _ r0, cell_below (kb7) _ _ r1, cell_below (kb7) _ _ r2, cell_below (kb7) _ _ r3, cell_below (kb7) _ _ r4, cell_below (kb7) _ _ r5⟩
            clear hK K
            (try simp only [Act.put, List.setIfInBounds_toArray, List.set_cons_zero, List.set_cons_succ])
            refine wpAnyH_ready (rs := [8]) (by kernel_rfl) (by simp) ?_
            refine AllReadyH.cons (o := { dst := none, op := Go.Op.store 4 (Go.Operand.tmp 4) (Go.Operand.tmp 9), type := 0, pos := "tree.go:62", after := #[{ on := 6, ground := Go.Ground.data }, { on := 4, ground := Go.Ground.data }, { on := 7, ground := Go.Ground.chain }, { on := 0, ground := Go.Ground.phase }, { on := 1, ground := Go.Ground.phase }, { on := 2, ground := Go.Ground.phase }, { on := 3, ground := Go.Ground.phase }, { on := 4, ground := Go.Ground.phase }, { on := 5, ground := Go.Ground.phase }, { on := 6, ground := Go.Ground.phase }, { on := 7, ground := Go.Ground.phase }], guard := none }) rfl (fun K hK => ?_) ?_
            ·
              have hc8 := hgd.cell
              have hf8 := hgd.frozen
              have hD8 := hgd.set (.bool false)
              have hg8 := grownBy_setCell' w7 gd (.bool false)
              have hK8 := (hg8.block gk (Array.getElem?_eq_some_iff.1 hK7).1 (fun e => by have h1 := Option.some.inj e; have zz := HSZ.out; have zHZ5 := HZ5.out; have zHZ6 := HZ6.out; have zHZ1 := HZ1.out; have zHZ3 := HZ3.out; omega)).trans hK7
              have hV8 : isV (w7.setCell ⟨gd, 0, none⟩ (.bool false)) x (.agg #[.int .i8 k6, .bool b6, .int .i64 n6, .string s6, .slice o6 m6 p6, .slice o7 m7 p7]) := isV_of_a _ _ (isVa_grown hg8 (fun q hq e => by have h1 := Option.some.inj e; obtain ⟨hq1, hq2⟩ := hq; have zz := HSZ.out; have zHZ5 := HZ5.out; have zHZ6 := HZ6.out; have zHZ1 := HZ1.out; have zHZ3 := HZ3.out; rcases hq1 with hq1 | hq1 <;> omega) hv7)
              have kb8 : KB W0 (w7.setCell ⟨gd, 0, none⟩ (.bool false)) := Below.grown kb7 hg8 (by have := kb7.size; omega) (fun r e => by cases e; have zz := HSZ.out; have zHZ5 := HZ5.out; have zHZ6 := HZ6.out; have zHZ1 := HZ1.out; have zHZ3 := HZ3.out; omega)
              go_simp
              have hB8 : KB w (w7.setCell ⟨gd, 0, none⟩ (.bool false)) := kbt HB0.out kb8
              clear hK7 hv7
              have hK7 := hK8
              have hV7 := hV8
              clear hK8 hV8
              refine hK.out _ _ ?_ (fun hHeld => ?_)
              · exact ⟨cell_below (kb8) _ _ r0, cell_below (kb8) _ _ r1, cell_below (kb8) _ _ r2, cell_below (kb8) _ _ r3, cell_below (kb8) _ _ r4, cell_below (kb8) _ _ r5⟩
              clear hK K
              (try simp only [Act.put, List.setIfInBounds_toArray, List.set_cons_zero, List.set_cons_succ])
              refine wpAnyH_done (by kernel_rfl) ?_ _
              have HE := Lib.hid (And.intro hK7 (And.intro hV7 (And.intro hD8 hB8)))
              clear hHeld r0 r1 r2 r3 r4 r5 hK7 hV7 hD8 hB8
              go_wp2_with fail
              go_ret
              exact ⟨gk, gd, _, rfl, HE.out.1, HE.out.2.1, HE.out.2.2.1, HE.out.2.2.2⟩
            exact AllReadyH.nil
          exact AllReadyH.nil
        exact AllReadyH.nil
      exact AllReadyH.nil
    exact AllReadyH.nil
  refine AllReadyH.cons (o := { dst := some 4, op := Go.Op.alloc 4, type := 0, pos := "tree.go:62", after := #[], guard := none }) rfl (fun K hK => ?_) ?_
  ·
    go_simp
    obtain ⟨w6, hw6, hb6, hg6, hz6⟩ : ∃ q, (c0).alloc (.cells #[.bool false] 4) = q ∧ KB (c0) q ∧ q.heap[(c0).heap.size]? = some (.cells #[.bool false] 4 (0, 0)) ∧ q.heap.size = (c0).heap.size + 1 := ⟨_, rfl, kbA, World.alloc_heap_new _ _, by simp⟩
    rw [hw6]
    clear hw6
    obtain ⟨gd, hn6⟩ : ∃ q, (c0).heap.size = q := ⟨_, rfl⟩
    have kb6 : KB W0 w6 := kbt (kb0) hb6
    rw [hn6] at hg6
    try rw [hn6]
    have HZ6 := Lib.hid (And.intro hn6 (And.intro hz6 (kb0).size))
    clear hn6 hz6
    refine hK.out _ _ ?_ (fun hHeld => ?_)
    · exact ⟨cell_below (kb6) _ _ r0, cell_below (kb6) _ _ r1, cell_below (kb6) _ _ r2, cell_below (kb6) _ _ r3, cell_below (kb6) _ _ r4, cell_below (kb6) _ _ r5⟩
    clear hK K
    (try simp only [Act.put, List.setIfInBounds_toArray, List.set_cons_zero, List.set_cons_succ])
    refine wpAnyH_ready (rs := [1, 5]) (by kernel_rfl) (by simp) ?_
    refine AllReadyH.cons (o := { dst := some 6, op := Go.Op.call { callee := Go.Callee.value (Go.Operand.func 44), args := #[Go.Operand.tmp 5], argTypes := #[26] }, type := 26, pos := "tree.go:62", after := #[{ on := 0, ground := Go.Ground.data }], guard := none }) rfl (fun K hK => ?_) ?_
    ·
      go_simp
      refine (HC.out _ (kb6)).mono ?_
      rintro e w1 ⟨v5, rfl, hv1, hb1⟩
      obtain ⟨k6, b6, n6, s6, o6, m6, p6, o7, m7, p7, rfl⟩ := isV_six (isV_of_a _ _ hv1)
      have kb1 : KB W0 w1 := kbt (kb6) hb1
      have HZ1 := Lib.hid (And.intro (kb6).size hb1.size)
      have hv1 := isVa_lt _ _ hv1
      refine hK.out _ _ ?_ (fun hHeld => ?_)
      · exact ⟨cell_below (kb1) _ _ r0, cell_below (kb1) _ _ r1, cell_below (kb1) _ _ r2, cell_below (kb1) _ _ r3, cell_below (kb1) _ _ r4, cell_below (kb1) _ _ r5⟩
      clear hK K
      (try simp only [Act.put, List.setIfInBounds_toArray, List.set_cons_zero, List.set_cons_succ])
      refine wpAnyH_ready (rs := [3, 5]) (by kernel_rfl) (by simp) ?_
      refine AllReadyH.cons (o := { dst := some 8, op := Go.Op.call { callee := Go.Callee.value (Go.Operand.func 19), args := #[Go.Operand.tmp 7], argTypes := #[26] }, type := 3, pos := "tree.go:62", after := #[{ on := 2, ground := Go.Ground.data }, { on := 1, ground := Go.Ground.chain }], guard := none }) rfl (fun K hK => ?_) ?_
      ·
        go_simp
        refine (HD.out _ (kb1)).mono ?_
        rintro e w3 ⟨rfl, hb3⟩
        have kb3 : KB W0 w3 := kbt (kb1) hb3
        have HZ3 := Lib.hid hb3.size
        refine hK.out _ _ ?_ (fun hHeld => ?_)
        · exact ⟨cell_below (kb3) _ _ r0, cell_below (kb3) _ _ r1, cell_below (kb3) _ _ r2, cell_below (kb3) _ _ r3, cell_below (kb3) _ _ r4, cell_below (kb3) _ _ r5⟩
        clear hK K
        (try simp only [Act.put, List.setIfInBounds_toArray, List.set_cons_zero, List.set_cons_succ])
        refine' wpAnyH_take (i := 4) (oi := { dst := some 9, op := Go.Op.binOp Go.BinOp.gtr 3 (Go.Operand.tmp 8) (Go.Operand.const (Go.Value.int Go.IntKind.i64 1000)) 3, type := 4, pos := "tree.go:62", after := #[{ on := 3, ground := Go.Ground.data }, { on := 7, ground := Go.Ground.gcOnly Go.Departure.lateStores }], guard := none }) (v := _) rfl (by kernel_rfl) (by kernel_rfl) (by kernel_rfl) (fun _ _ _ h => h) (Or.inl ⟨by rfl, ?yy11⟩) (by assumption) ?rr11
        case yy11 => (intro w' hSw; (try dsimp only at hSw); go_simp; try with_reducible rfl)
        (try simp only [Act.put, List.setIfInBounds_toArray, List.set_cons_zero, List.set_cons_succ])
        refine wpAnyH_ready (rs := [5]) (by kernel_rfl) (by simp) ?_
        refine AllReadyH.cons (o := { dst := some 3, op := Go.Op.alloc 26, type := 0, pos := "tree.go:62", after := #[], guard := none }) rfl (fun K hK => ?_) ?_
        ·
          go_simp
          obtain ⟨w5, hw5, hb5, hg5, hz5⟩ : ∃ q, (w3).alloc (.cells #[.int .i8 0, .bool false, .int .i64 0, .string ⟨#[]⟩, .slice none 0 0, .slice none 0 0] 26) = q ∧ KB (w3) q ∧ q.heap[(w3).heap.size]? = some (.cells #[.int .i8 0, .bool false, .int .i64 0, .string ⟨#[]⟩, .slice none 0 0, .slice none 0 0] 26 (0, 0)) ∧ q.heap.size = (w3).heap.size + 1 := ⟨_, rfl, kbA, World.alloc_heap_new _ _, by simp⟩
          rw [hw5]
          clear hw5
          obtain ⟨gk, hn5⟩ : ∃ q, (w3).heap.size = q := ⟨_, rfl⟩
          have kb5 : KB W0 w5 := kbt (kb3) hb5
          rw [hn5] at hg5
          try rw [hn5]
          have HZ5 := Lib.hid (And.intro hn5 (And.intro hz5 (kb3).size))
          clear hn5 hz5
          refine hK.out _ _ ?_ (fun hHeld => ?_)
          · exact ⟨cell_below (kb5) _ _ r0, cell_below (kb5) _ _ r1, cell_below (kb5) _ _ r2, cell_below (kb5) _ _ r3, cell_below (kb5) _ _ r4, cell_below (kb5) _ _ r5⟩
          clear hK K
          (try simp only [Act.put, List.setIfInBounds_toArray, List.set_cons_zero, List.set_cons_succ])
          refine wpAnyH_ready (rs := [7]) (by kernel_rfl) (by simp) ?_
          refine AllReadyH.cons (o := { dst := none, op := Go.Op.store 26 (Go.Operand.tmp 3) (Go.Operand.tmp 6), type := 0, pos := "tree.go:62", after := #[{ on := 5, ground := Go.Ground.data }, { on := 1, ground := Go.Ground.data }, { on := 3, ground := Go.Ground.chain }, { on := 0, ground := Go.Ground.phase }, { on := 1, ground := Go.Ground.phase }, { on := 2, ground := Go.Ground.textOnly Go.Departure.lateStores }, { on := 3, ground := Go.Ground.textOnly Go.Departure.lateStoresUnsure }, { on := 4, ground := Go.Ground.textOnly Go.Departure.lateStores }, { on := 5, ground := Go.Ground.phase }, { on := 6, ground := Go.Ground.phase }], guard := none }) rfl (fun K hK => ?_) ?_
          ·
            have hgk := hg5
            have hgd : Boxed (w5) gd 4 (.bool false) := (((hb5).block _ (Array.getElem?_eq_some_iff.1 (((hb3).block _ (Array.getElem?_eq_some_iff.1 ((hb1.block _ (Array.getElem?_eq_some_iff.1 hg6).1).trans hg6)).1).trans ((hb1.block _ (Array.getElem?_eq_some_iff.1 hg6).1).trans hg6))).1).trans (((hb3).block _ (Array.getElem?_eq_some_iff.1 ((hb1.block _ (Array.getElem?_eq_some_iff.1 hg6).1).trans hg6)).1).trans ((hb1.block _ (Array.getElem?_eq_some_iff.1 hg6).1).trans hg6)))
            have hv7 := isVa_at (kbt (hb3) hb5) hv1
            obtain ⟨x1, x2, x3, x4, x5, w7, ⟨⟨_, t1⟩, t1', t1''⟩, ⟨⟨_, t2⟩, t2', t2''⟩, ⟨⟨_, t3⟩, t3', t3''⟩, ⟨⟨_, t4⟩, t4', t4''⟩, ⟨⟨_, t5⟩, t5', t5''⟩, ⟨⟨_, t6⟩, t6', t6''⟩, hK7, hg7⟩ := store_box hgk (.int .i8 k6) (.bool b6) (.int .i64 n6) (.string s6) (.slice o6 m6 p6) (.slice o7 m7 p7) (by intro u hu; simp only [List.mem_cons, List.not_mem_nil, or_false] at hu; rcases hu with rfl | rfl | rfl | rfl | rfl | rfl <;> rfl)
            have hv7 := isVa_grown hg7 (fun q hq e => by have h1 := Option.some.inj e; obtain ⟨hq1, hq2⟩ := hq; have zz := HSZ.out; have zHZ6 := HZ6.out; have zHZ1 := HZ1.out; have zHZ3 := HZ3.out; have zHZ5 := HZ5.out; rcases hq1 with hq1 | hq1 <;> omega) hv7
            have hgd : Boxed w7 gd 4 (.bool false) := Boxed.kept hgd hg7 (fun e => by have h1 := Option.some.inj e; have zz := HSZ.out; have zHZ6 := HZ6.out; have zHZ1 := HZ1.out; have zHZ3 := HZ3.out; have zHZ5 := HZ5.out; omega)
            have kb7 : KB W0 w7 := Below.grown (kb5) hg7 (by have := (kb5).size; omega) (fun r e => by cases e; have zz := HSZ.out; have zHZ6 := HZ6.out; have zHZ1 := HZ1.out; have zHZ3 := HZ3.out; have zHZ5 := HZ5.out; omega)
            clear hgk
            go_simp
            refine hK.out _ _ ?_ (fun hHeld => ?_)
            · exact ⟨cell_below (kb7) _ _ r0, cell_below (kb7) _ _ r1, cell_below (kb7) _ _ r2, cell_below (kb7) _ _ r3, cell_below (kb7) _ _ r4, cell_below (kb7) _ _ r5⟩
            clear hK K
            (try simp only [Act.put, List.setIfInBounds_toArray, List.set_cons_zero, List.set_cons_succ])
            refine wpAnyH_ready (rs := [8]) (by kernel_rfl) (by simp) ?_
            refine AllReadyH.cons (o := { dst := none, op := Go.Op.store 4 (Go.Operand.tmp 4) (Go.Operand.tmp 9), type := 0, pos := "tree.go:62", after := #[{ on := 6, ground := Go.Ground.data }, { on := 4, ground := Go.Ground.data }, { on := 7, ground := Go.Ground.chain }, { on := 0, ground := Go.Ground.phase }, { on := 1, ground := Go.Ground.phase }, { on := 2, ground := Go.Ground.phase }, { on := 3, ground := Go.Ground.phase }, { on := 4, ground := Go.Ground.phase }, { on := 5, ground := Go.Ground.phase }, { on := 6, ground := Go.Ground.phase }, { on := 7, ground := Go.Ground.phase }], guard := none }) rfl (fun K hK => ?_) ?_
            ·
              have hc8 := hgd.cell
              have hf8 := hgd.frozen
              have hD8 := hgd.set (.bool false)
              have hg8 := grownBy_setCell' w7 gd (.bool false)
              have hK8 := (hg8.block gk (Array.getElem?_eq_some_iff.1 hK7).1 (fun e => by have h1 := Option.some.inj e; have zz := HSZ.out; have zHZ6 := HZ6.out; have zHZ1 := HZ1.out; have zHZ3 := HZ3.out; have zHZ5 := HZ5.out; omega)).trans hK7
              have hV8 : isV (w7.setCell ⟨gd, 0, none⟩ (.bool false)) x (.agg #[.int .i8 k6, .bool b6, .int .i64 n6, .string s6, .slice o6 m6 p6, .slice o7 m7 p7]) := isV_of_a _ _ (isVa_grown hg8 (fun q hq e => by have h1 := Option.some.inj e; obtain ⟨hq1, hq2⟩ := hq; have zz := HSZ.out; have zHZ6 := HZ6.out; have zHZ1 := HZ1.out; have zHZ3 := HZ3.out; have zHZ5 := HZ5.out; rcases hq1 with hq1 | hq1 <;> omega) hv7)
              have kb8 : KB W0 (w7.setCell ⟨gd, 0, none⟩ (.bool false)) := Below.grown kb7 hg8 (by have := kb7.size; omega) (fun r e => by cases e; have zz := HSZ.out; have zHZ6 := HZ6.out; have zHZ1 := HZ1.out; have zHZ3 := HZ3.out; have zHZ5 := HZ5.out; omega)
              go_simp
              have hB8 : KB w (w7.setCell ⟨gd, 0, none⟩ (.bool false)) := kbt HB0.out kb8
              clear hK7 hv7
              have hK7 := hK8
              have hV7 := hV8
              clear hK8 hV8
              refine hK.out _ _ ?_ (fun hHeld => ?_)
              · exact ⟨cell_below (kb8) _ _ r0, cell_below (kb8) _ _ r1, cell_below (kb8) _ _ r2, cell_below (kb8) _ _ r3, cell_below (kb8) _ _ r4, cell_below (kb8) _ _ r5⟩
              clear hK K
              (try simp only [Act.put, List.setIfInBounds_toArray, List.set_cons_zero, List.set_cons_succ])
              refine wpAnyH_done (by kernel_rfl) ?_ _
              have HE := Lib.hid (And.intro hK7 (And.intro hV7 (And.intro hD8 hB8)))
              clear hHeld r0 r1 r2 r3 r4 r5 hK7 hV7 hD8 hB8
              go_wp2_with fail
              go_ret
              exact ⟨gk, gd, _, rfl, HE.out.1, HE.out.2.1, HE.out.2.2.1, HE.out.2.2.2⟩
            exact AllReadyH.nil
          exact AllReadyH.nil
        exact AllReadyH.nil
      refine AllReadyH.cons (o := { dst := some 3, op := Go.Op.alloc 26, type := 0, pos := "tree.go:62", after := #[], guard := none }) rfl (fun K hK => ?_) ?_
      ·
        go_simp
        obtain ⟨w5, hw5, hb5, hg5, hz5⟩ : ∃ q, (w1).alloc (.cells #[.int .i8 0, .bool false, .int .i64 0, .string ⟨#[]⟩, .slice none 0 0, .slice none 0 0] 26) = q ∧ KB (w1) q ∧ q.heap[(w1).heap.size]? = some (.cells #[.int .i8 0, .bool false, .int .i64 0, .string ⟨#[]⟩, .slice none 0 0, .slice none 0 0] 26 (0, 0)) ∧ q.heap.size = (w1).heap.size + 1 := ⟨_, rfl, kbA, World.alloc_heap_new _ _, by simp⟩
        rw [hw5]
        clear hw5
        obtain ⟨gk, hn5⟩ : ∃ q, (w1).heap.size = q := ⟨_, rfl⟩
        have kb5 : KB W0 w5 := kbt (kb1) hb5
        rw [hn5] at hg5
        try rw [hn5]
        have HZ5 := Lib.hid (And.intro hn5 (And.intro hz5 (kb1).size))
        clear hn5 hz5
        refine hK.out _ _ ?_ (fun hHeld => ?_)
        · exact ⟨cell_below (kb5) _ _ r0, cell_below (kb5) _ _ r1, cell_below (kb5) _ _ r2, cell_below (kb5) _ _ r3, cell_below (kb5) _ _ r4, cell_below (kb5) _ _ r5⟩
        clear hK K
        (try simp only [Act.put, List.setIfInBounds_toArray, List.set_cons_zero, List.set_cons_succ])
        refine wpAnyH_ready (rs := [3]) (by kernel_rfl) (by simp) ?_
        refine AllReadyH.cons (o := { dst := some 8, op := Go.Op.call { callee := Go.Callee.value (Go.Operand.func 19), args := #[Go.Operand.tmp 7], argTypes := #[26] }, type := 3, pos := "tree.go:62", after := #[{ on := 2, ground := Go.Ground.data }, { on := 1, ground := Go.Ground.chain }], guard := none }) rfl (fun K hK => ?_) ?_
        ·
          go_simp
          refine (HD.out _ (kb5)).mono ?_
          rintro e w3 ⟨rfl, hb3⟩
          have kb3 : KB W0 w3 := kbt (kb5) hb3
          have HZ3 := Lib.hid hb3.size
          refine hK.out _ _ ?_ (fun hHeld => ?_)
          · exact ⟨cell_below (kb3) _ _ r0, cell_below (kb3) _ _ r1, cell_below (kb3) _ _ r2, cell_below (kb3) _ _ r3, cell_below (kb3) _ _ r4, cell_below (kb3) _ _ r5⟩
          clear hK K
          (try simp only [Act.put, List.setIfInBounds_toArray, List.set_cons_zero, List.set_cons_succ])
          refine' wpAnyH_take (i := 4) (oi := { dst := some 9, op := Go.Op.binOp Go.BinOp.gtr 3 (Go.Operand.tmp 8) (Go.Operand.const (Go.Value.int Go.IntKind.i64 1000)) 3, type := 4, pos := "tree.go:62", after := #[{ on := 3, ground := Go.Ground.data }, { on := 7, ground := Go.Ground.gcOnly Go.Departure.lateStores }], guard := none }) (v := _) rfl (by kernel_rfl) (by kernel_rfl) (by kernel_rfl) (fun _ _ _ h => h) (Or.inl ⟨by rfl, ?yy12⟩) (by assumption) ?rr12
          case yy12 => (intro w' hSw; (try dsimp only at hSw); go_simp; try with_reducible rfl)
          (try simp only [Act.put, List.setIfInBounds_toArray, List.set_cons_zero, List.set_cons_succ])
          refine wpAnyH_ready (rs := [7]) (by kernel_rfl) (by simp) ?_
          refine AllReadyH.cons (o := { dst := none, op := Go.Op.store 26 (Go.Operand.tmp 3) (Go.Operand.tmp 6), type := 0, pos := "tree.go:62", after := #[{ on := 5, ground := Go.Ground.data }, { on := 1, ground := Go.Ground.data }, { on := 3, ground := Go.Ground.chain }, { on := 0, ground := Go.Ground.phase }, { on := 1, ground := Go.Ground.phase }, { on := 2, ground := Go.Ground.textOnly Go.Departure.lateStores }, { on := 3, ground := Go.Ground.textOnly Go.Departure.lateStoresUnsure }, { on := 4, ground := Go.Ground.textOnly Go.Departure.lateStores }, { on := 5, ground := Go.Ground.phase }, { on := 6, ground := Go.Ground.phase }], guard := none }) rfl (fun K hK => ?_) ?_
          ·
            have hgk := (((hb3).block _ (Array.getElem?_eq_some_iff.1 hg5).1).trans hg5)
            have hgd : Boxed (w3) gd 4 (.bool false) := (((hb3).block _ (Array.getElem?_eq_some_iff.1 (((hb5).block _ (Array.getElem?_eq_some_iff.1 ((hb1.block _ (Array.getElem?_eq_some_iff.1 hg6).1).trans hg6)).1).trans ((hb1.block _ (Array.getElem?_eq_some_iff.1 hg6).1).trans hg6))).1).trans (((hb5).block _ (Array.getElem?_eq_some_iff.1 ((hb1.block _ (Array.getElem?_eq_some_iff.1 hg6).1).trans hg6)).1).trans ((hb1.block _ (Array.getElem?_eq_some_iff.1 hg6).1).trans hg6)))
            have hv7 := isVa_at (kbt (hb5) hb3) hv1
            obtain ⟨x1, x2, x3, x4, x5, w7, ⟨⟨_, t1⟩, t1', t1''⟩, ⟨⟨_, t2⟩, t2', t2''⟩, ⟨⟨_, t3⟩, t3', t3''⟩, ⟨⟨_, t4⟩, t4', t4''⟩, ⟨⟨_, t5⟩, t5', t5''⟩, ⟨⟨_, t6⟩, t6', t6''⟩, hK7, hg7⟩ := store_box hgk (.int .i8 k6) (.bool b6) (.int .i64 n6) (.string s6) (.slice o6 m6 p6) (.slice o7 m7 p7) (by intro u hu; simp only [List.mem_cons, List.not_mem_nil, or_false] at hu; rcases hu with rfl | rfl | rfl | rfl | rfl | rfl <;> rfl)
            have hv7 := isVa_grown hg7 (fun q hq e => by have h1 := Option.some.inj e; obtain ⟨hq1, hq2⟩ := hq; have zz := HSZ.out; have zHZ6 := HZ6.out; have zHZ1 := HZ1.out; have zHZ5 := HZ5.out; have zHZ3 := HZ3.out; rcases hq1 with hq1 | hq1 <;> omega) hv7
            have hgd : Boxed w7 gd 4 (.bool false) := Boxed.kept hgd hg7 (fun e => by have h1 := Option.some.inj e; have zz := HSZ.out; have zHZ6 := HZ6.out; have zHZ1 := HZ1.out; have zHZ5 := HZ5.out; have zHZ3 := HZ3.out; omega)
            have kb7 : KB W0 w7 := Below.grown (kb3) hg7 (by have := (kb3).size; omega) (fun r e => by cases e; have zz := HSZ.out; have zHZ6 := HZ6.out; have zHZ1 := HZ1.out; have zHZ5 := HZ5.out; have zHZ3 := HZ3.out; omega)
            clear hgk
            go_simp
            refine hK.out _ _ ?_ (fun hHeld => ?_)
            · exact ⟨cell_below (kb7) _ _ r0, cell_below (kb7) _ _ r1, cell_below (kb7) _ _ r2, cell_below (kb7) _ _ r3, cell_below (kb7) _ _ r4, cell_below (kb7) _ _ r5⟩
            clear hK K
            (try simp only [Act.put, List.setIfInBounds_toArray, List.set_cons_zero, List.set_cons_succ])
            refine wpAnyH_ready (rs := [8]) (by kernel_rfl) (by simp) ?_
            refine AllReadyH.cons (o := { dst := none, op := Go.Op.store 4 (Go.Operand.tmp 4) (Go.Operand.tmp 9), type := 0, pos := "tree.go:62", after := #[{ on := 6, ground := Go.Ground.data }, { on := 4, ground := Go.Ground.data }, { on := 7, ground := Go.Ground.chain }, { on := 0, ground := Go.Ground.phase }, { on := 1, ground := Go.Ground.phase }, { on := 2, ground := Go.Ground.phase }, { on := 3, ground := Go.Ground.phase }, { on := 4, ground := Go.Ground.phase }, { on := 5, ground := Go.Ground.phase }, { on := 6, ground := Go.Ground.phase }, { on := 7, ground := Go.Ground.phase }], guard := none }) rfl (fun K hK => ?_) ?_
            ·
              have hc8 := hgd.cell
              have hf8 := hgd.frozen
              have hD8 := hgd.set (.bool false)
              have hg8 := grownBy_setCell' w7 gd (.bool false)
              have hK8 := (hg8.block gk (Array.getElem?_eq_some_iff.1 hK7).1 (fun e => by have h1 := Option.some.inj e; have zz := HSZ.out; have zHZ6 := HZ6.out; have zHZ1 := HZ1.out; have zHZ5 := HZ5.out; have zHZ3 := HZ3.out; omega)).trans hK7
              have hV8 : isV (w7.setCell ⟨gd, 0, none⟩ (.bool false)) x (.agg #[.int .i8 k6, .bool b6, .int .i64 n6, .string s6, .slice o6 m6 p6, .slice o7 m7 p7]) := isV_of_a _ _ (isVa_grown hg8 (fun q hq e => by have h1 := Option.some.inj e; obtain ⟨hq1, hq2⟩ := hq; have zz := HSZ.out; have zHZ6 := HZ6.out; have zHZ1 := HZ1.out; have zHZ5 := HZ5.out; have zHZ3 := HZ3.out; rcases hq1 with hq1 | hq1 <;> omega) hv7)
              have kb8 : KB W0 (w7.setCell ⟨gd, 0, none⟩ (.bool false)) := Below.grown kb7 hg8 (by have := kb7.size; omega) (fun r e => by cases e; have zz := HSZ.out; have zHZ6 := HZ6.out; have zHZ1 := HZ1.out; have zHZ5 := HZ5.out; have zHZ3 := HZ3.out; omega)
              go_simp
              have hB8 : KB w (w7.setCell ⟨gd, 0, none⟩ (.bool false)) := kbt HB0.out kb8
              clear hK7 hv7
              have hK7 := hK8
              have hV7 := hV8
              clear hK8 hV8
              refine hK.out _ _ ?_ (fun hHeld => ?_)
              · exact ⟨cell_below (kb8) _ _ r0, cell_below (kb8) _ _ r1, cell_below (kb8) _ _ r2, cell_below (kb8) _ _ r3, cell_below (kb8) _ _ r4, cell_below (kb8) _ _ r5⟩
              clear hK K
              (try simp only [Act.put, List.setIfInBounds_toArray, List.set_cons_zero, List.set_cons_succ])
              refine wpAnyH_done (by kernel_rfl) ?_ _
              have HE := Lib.hid (And.intro hK7 (And.intro hV7 (And.intro hD8 hB8)))
              clear hHeld r0 r1 r2 r3 r4 r5 hK7 hV7 hD8 hB8
              go_wp2_with fail
              go_ret
              exact ⟨gk, gd, _, rfl, HE.out.1, HE.out.2.1, HE.out.2.2.1, HE.out.2.2.2⟩
            exact AllReadyH.nil
          exact AllReadyH.nil
        exact AllReadyH.nil
      exact AllReadyH.nil
    refine AllReadyH.cons (o := { dst := some 3, op := Go.Op.alloc 26, type := 0, pos := "tree.go:62", after := #[], guard := none }) rfl (fun K hK => ?_) ?_
    ·
      go_simp
      obtain ⟨w5, hw5, hb5, hg5, hz5⟩ : ∃ q, (w6).alloc (.cells #[.int .i8 0, .bool false, .int .i64 0, .string ⟨#[]⟩, .slice none 0 0, .slice none 0 0] 26) = q ∧ KB (w6) q ∧ q.heap[(w6).heap.size]? = some (.cells #[.int .i8 0, .bool false, .int .i64 0, .string ⟨#[]⟩, .slice none 0 0, .slice none 0 0] 26 (0, 0)) ∧ q.heap.size = (w6).heap.size + 1 := ⟨_, rfl, kbA, World.alloc_heap_new _ _, by simp⟩
      rw [hw5]
      clear hw5
      obtain ⟨gk, hn5⟩ : ∃ q, (w6).heap.size = q := ⟨_, rfl⟩
      have kb5 : KB W0 w5 := kbt (kb6) hb5
      rw [hn5] at hg5
      try rw [hn5]
      have HZ5 := Lib.hid (And.intro hn5 (And.intro hz5 (kb6).size))
      clear hn5 hz5
      refine hK.out _ _ ?_ (fun hHeld => ?_)
      · exact ⟨cell_below (kb5) _ _ r0, cell_below (kb5) _ _ r1, cell_below (kb5) _ _ r2, cell_below (kb5) _ _ r3, cell_below (kb5) _ _ r4, cell_below (kb5) _ _ r5⟩
      clear hK K
      (try simp only [Act.put, List.setIfInBounds_toArray, List.set_cons_zero, List.set_cons_succ])
      refine wpAnyH_ready (rs := [1]) (by kernel_rfl) (by simp) ?_
      refine AllReadyH.cons (o := { dst := some 6, op := Go.Op.call { callee := Go.Callee.value (Go.Operand.func 44), args := #[Go.Operand.tmp 5], argTypes := #[26] }, type := 26, pos := "tree.go:62", after := #[{ on := 0, ground := Go.Ground.data }], guard := none }) rfl (fun K hK => ?_) ?_
      ·
        go_simp
        refine (HC.out _ (kb5)).mono ?_
        rintro e w1 ⟨v5, rfl, hv1, hb1⟩
        obtain ⟨k6, b6, n6, s6, o6, m6, p6, o7, m7, p7, rfl⟩ := isV_six (isV_of_a _ _ hv1)
        have kb1 : KB W0 w1 := kbt (kb5) hb1
        have HZ1 := Lib.hid (And.intro (kb5).size hb1.size)
        have hv1 := isVa_lt _ _ hv1
        refine hK.out _ _ ?_ (fun hHeld => ?_)
        · exact ⟨cell_below (kb1) _ _ r0, cell_below (kb1) _ _ r1, cell_below (kb1) _ _ r2, cell_below (kb1) _ _ r3, cell_below (kb1) _ _ r4, cell_below (kb1) _ _ r5⟩
        clear hK K
        (try simp only [Act.put, List.setIfInBounds_toArray, List.set_cons_zero, List.set_cons_succ])
        refine wpAnyH_ready (rs := [3]) (by kernel_rfl) (by simp) ?_
        refine AllReadyH.cons (o := { dst := some 8, op := Go.Op.call { callee := Go.Callee.value (Go.Operand.func 19), args := #[Go.Operand.tmp 7], argTypes := #[26] }, type := 3, pos := "tree.go:62", after := #[{ on := 2, ground := Go.Ground.data }, { on := 1, ground := Go.Ground.chain }], guard := none }) rfl (fun K hK => ?_) ?_
        ·
          go_simp
          refine (HD.out _ (kb1)).mono ?_
          rintro e w3 ⟨rfl, hb3⟩
          have kb3 : KB W0 w3 := kbt (kb1) hb3
          have HZ3 := Lib.hid hb3.size
          refine hK.out _ _ ?_ (fun hHeld => ?_)
          · exact ⟨cell_below (kb3) _ _ r0, cell_below (kb3) _ _ r1, cell_below (kb3) _ _ r2, cell_below (kb3) _ _ r3, cell_below (kb3) _ _ r4, cell_below (kb3) _ _ r5⟩
          clear hK K
          (try simp only [Act.put, List.setIfInBounds_toArray, List.set_cons_zero, List.set_cons_succ])
          refine' wpAnyH_take (i := 4) (oi := { dst := some 9, op := Go.Op.binOp Go.BinOp.gtr 3 (Go.Operand.tmp 8) (Go.Operand.const (Go.Value.int Go.IntKind.i64 1000)) 3, type := 4, pos := "tree.go:62", after := #[{ on := 3, ground := Go.Ground.data }, { on := 7, ground := Go.Ground.gcOnly Go.Departure.lateStores }], guard := none }) (v := _) rfl (by kernel_rfl) (by kernel_rfl) (by kernel_rfl) (fun _ _ _ h => h) (Or.inl ⟨by rfl, ?yy13⟩) (by assumption) ?rr13
          case yy13 => (intro w' hSw; (try dsimp only at hSw); go_simp; try with_reducible rfl)
          (try simp only [Act.put, List.setIfInBounds_toArray, List.set_cons_zero, List.set_cons_succ])
          refine wpAnyH_ready (rs := [7]) (by kernel_rfl) (by simp) ?_
          refine AllReadyH.cons (o := { dst := none, op := Go.Op.store 26 (Go.Operand.tmp 3) (Go.Operand.tmp 6), type := 0, pos := "tree.go:62", after := #[{ on := 5, ground := Go.Ground.data }, { on := 1, ground := Go.Ground.data }, { on := 3, ground := Go.Ground.chain }, { on := 0, ground := Go.Ground.phase }, { on := 1, ground := Go.Ground.phase }, { on := 2, ground := Go.Ground.textOnly Go.Departure.lateStores }, { on := 3, ground := Go.Ground.textOnly Go.Departure.lateStoresUnsure }, { on := 4, ground := Go.Ground.textOnly Go.Departure.lateStores }, { on := 5, ground := Go.Ground.phase }, { on := 6, ground := Go.Ground.phase }], guard := none }) rfl (fun K hK => ?_) ?_
          ·
            have hgk := (((hb3).block _ (Array.getElem?_eq_some_iff.1 ((hb1.block _ (Array.getElem?_eq_some_iff.1 hg5).1).trans hg5)).1).trans ((hb1.block _ (Array.getElem?_eq_some_iff.1 hg5).1).trans hg5))
            have hgd : Boxed (w3) gd 4 (.bool false) := (((hb3).block _ (Array.getElem?_eq_some_iff.1 ((hb1.block _ (Array.getElem?_eq_some_iff.1 (((hb5).block _ (Array.getElem?_eq_some_iff.1 hg6).1).trans hg6)).1).trans (((hb5).block _ (Array.getElem?_eq_some_iff.1 hg6).1).trans hg6))).1).trans ((hb1.block _ (Array.getElem?_eq_some_iff.1 (((hb5).block _ (Array.getElem?_eq_some_iff.1 hg6).1).trans hg6)).1).trans (((hb5).block _ (Array.getElem?_eq_some_iff.1 hg6).1).trans hg6)))
            have hv7 := isVa_at (hb3) hv1
            obtain ⟨x1, x2, x3, x4, x5, w7, ⟨⟨_, t1⟩, t1', t1''⟩, ⟨⟨_, t2⟩, t2', t2''⟩, ⟨⟨_, t3⟩, t3', t3''⟩, ⟨⟨_, t4⟩, t4', t4''⟩, ⟨⟨_, t5⟩, t5', t5''⟩, ⟨⟨_, t6⟩, t6', t6''⟩, hK7, hg7⟩ := store_box hgk (.int .i8 k6) (.bool b6) (.int .i64 n6) (.string s6) (.slice o6 m6 p6) (.slice o7 m7 p7) (by intro u hu; simp only [List.mem_cons, List.not_mem_nil, or_false] at hu; rcases hu with rfl | rfl | rfl | rfl | rfl | rfl <;> rfl)
            have hv7 := isVa_grown hg7 (fun q hq e => by have h1 := Option.some.inj e; obtain ⟨hq1, hq2⟩ := hq; have zz := HSZ.out; have zHZ6 := HZ6.out; have zHZ5 := HZ5.out; have zHZ1 := HZ1.out; have zHZ3 := HZ3.out; rcases hq1 with hq1 | hq1 <;> omega) hv7
            have hgd : Boxed w7 gd 4 (.bool false) := Boxed.kept hgd hg7 (fun e => by have h1 := Option.some.inj e; have zz := HSZ.out; have zHZ6 := HZ6.out; have zHZ5 := HZ5.out; have zHZ1 := HZ1.out; have zHZ3 := HZ3.out; omega)
            have kb7 : KB W0 w7 := Below.grown (kb3) hg7 (by have := (kb3).size; omega) (fun r e => by cases e; have zz := HSZ.out; have zHZ6 := HZ6.out; have zHZ5 := HZ5.out; have zHZ1 := HZ1.out; have zHZ3 := HZ3.out; omega)
            clear hgk
            go_simp
            refine hK.out _ _ ?_ (fun hHeld => ?_)
            · exact ⟨cell_below (kb7) _ _ r0, cell_below (kb7) _ _ r1, cell_below (kb7) _ _ r2, cell_below (kb7) _ _ r3, cell_below (kb7) _ _ r4, cell_below (kb7) _ _ r5⟩
            clear hK K
            (try simp only [Act.put, List.setIfInBounds_toArray, List.set_cons_zero, List.set_cons_succ])
            refine wpAnyH_ready (rs := [8]) (by kernel_rfl) (by simp) ?_
            refine AllReadyH.cons (o := { dst := none, op := Go.Op.store 4 (Go.Operand.tmp 4) (Go.Operand.tmp 9), type := 0, pos := "tree.go:62", after := #[{ on := 6, ground := Go.Ground.data }, { on := 4, ground := Go.Ground.data }, { on := 7, ground := Go.Ground.chain }, { on := 0, ground := Go.Ground.phase }, { on := 1, ground := Go.Ground.phase }, { on := 2, ground := Go.Ground.phase }, { on := 3, ground := Go.Ground.phase }, { on := 4, ground := Go.Ground.phase }, { on := 5, ground := Go.Ground.phase }, { on := 6, ground := Go.Ground.phase }, { on := 7, ground := Go.Ground.phase }], guard := none }) rfl (fun K hK => ?_) ?_
            ·
              have hc8 := hgd.cell
              have hf8 := hgd.frozen
              have hD8 := hgd.set (.bool false)
              have hg8 := grownBy_setCell' w7 gd (.bool false)
              have hK8 := (hg8.block gk (Array.getElem?_eq_some_iff.1 hK7).1 (fun e => by have h1 := Option.some.inj e; have zz := HSZ.out; have zHZ6 := HZ6.out; have zHZ5 := HZ5.out; have zHZ1 := HZ1.out; have zHZ3 := HZ3.out; omega)).trans hK7
              have hV8 : isV (w7.setCell ⟨gd, 0, none⟩ (.bool false)) x (.agg #[.int .i8 k6, .bool b6, .int .i64 n6, .string s6, .slice o6 m6 p6, .slice o7 m7 p7]) := isV_of_a _ _ (isVa_grown hg8 (fun q hq e => by have h1 := Option.some.inj e; obtain ⟨hq1, hq2⟩ := hq; have zz := HSZ.out; have zHZ6 := HZ6.out; have zHZ5 := HZ5.out; have zHZ1 := HZ1.out; have zHZ3 := HZ3.out; rcases hq1 with hq1 | hq1 <;> omega) hv7)
              have kb8 : KB W0 (w7.setCell ⟨gd, 0, none⟩ (.bool false)) := Below.grown kb7 hg8 (by have := kb7.size; omega) (fun r e => by cases e; have zz := HSZ.out; have zHZ6 := HZ6.out; have zHZ5 := HZ5.out; have zHZ1 := HZ1.out; have zHZ3 := HZ3.out; omega)
              go_simp
              have hB8 : KB w (w7.setCell ⟨gd, 0, none⟩ (.bool false)) := kbt HB0.out kb8
              clear hK7 hv7
              have hK7 := hK8
              have hV7 := hV8
              clear hK8 hV8
              refine hK.out _ _ ?_ (fun hHeld => ?_)
              · exact ⟨cell_below (kb8) _ _ r0, cell_below (kb8) _ _ r1, cell_below (kb8) _ _ r2, cell_below (kb8) _ _ r3, cell_below (kb8) _ _ r4, cell_below (kb8) _ _ r5⟩
              clear hK K
              (try simp only [Act.put, List.setIfInBounds_toArray, List.set_cons_zero, List.set_cons_succ])
              refine wpAnyH_done (by kernel_rfl) ?_ _
              have HE := Lib.hid (And.intro hK7 (And.intro hV7 (And.intro hD8 hB8)))
              clear hHeld r0 r1 r2 r3 r4 r5 hK7 hV7 hD8 hB8
              go_wp2_with fail
              go_ret
              exact ⟨gk, gd, _, rfl, HE.out.1, HE.out.2.1, HE.out.2.2.1, HE.out.2.2.2⟩
            exact AllReadyH.nil
          exact AllReadyH.nil
        exact AllReadyH.nil
      exact AllReadyH.nil
    exact AllReadyH.nil
  exact AllReadyH.nil
end Go.Proofs.YtdbfpojgaalfmaaDoor
