/-
  The program's alike of what reads the same.
-/
import Derived.Test.YtdckldfekepopaaGreatDoorYJ
set_option linter.unusedVariables false
set_option linter.unusedSimpArgs false
namespace Go.Proofs.YtdckldfekepopaaGreatDoor
open Go.RowKit Go.Deep

theorem six_heap {W : World} {B : Nat} {c0 c1 c2 c3 c4 c5 : Value} {t : TypeId} (h : W.heap[B]? = some (.cells #[c0, c1, c2, c3, c4, c5] t (0, 0))) : W.cell? ⟨B, 0, none⟩ = some c0 ∧ W.cell? ⟨B, 1, none⟩ = some c1 ∧ W.cell? ⟨B, 2, none⟩ = some c2 ∧ W.cell? ⟨B, 3, none⟩ = some c3 ∧ W.cell? ⟨B, 4, none⟩ = some c4 ∧ W.cell? ⟨B, 5, none⟩ = some c5 := by
  simp [World.cell?, h]
theorem AW.start {x : V} {w : World} {k n : Int} {b : Bool} {s : ByteArray} {o o2 : Option Addr} {m c m2 c2 : Nat} {k' n' : Int} {b' : Bool} {s' : ByteArray} {o' o2' : Option Addr} {m' c' m2' c2' : Nat} (hF : fineV x) (h : isV w x (.agg #[.int .i8 k, .bool b, .int .i64 n, .string s, .slice o m c, .slice o2 m2 c2])) (h' : isV w x (.agg #[.int .i8 k', .bool b', .int .i64 n', .string s', .slice o' m' c', .slice o2' m2' c2'])) (hu : uV w x (.agg #[.int .i8 k', .bool b', .int .i64 n', .string s', .slice o' m' c', .slice o2' m2' c2'])) :
    AW (((((w.alloc (.cells #[.int .i8 k, .bool b, .int .i64 n, .string s, .slice o m c, .slice o2 m2 c2] 64)).alloc (.cells #[.int .i8 k', .bool b', .int .i64 n', .string s', .slice o' m' c', .slice o2' m2' c2'] 64)).alloc (.cells #[.int .i8 k, .bool b, .int .i64 n, .string s, .slice o m c, .slice o2 m2 c2] 64)).alloc (.cells #[.int .i8 k', .bool b', .int .i64 n', .string s', .slice o' m' c', .slice o2' m2' c2'] 64)).alloc (.cells #[.slice (some ⟨w.heap.size + 1 + 1, 0, none⟩) 1 1, .slice (some ⟨w.heap.size + 1 + 1 + 1, 0, none⟩) 1 1] 136)) (w.heap.size + 4) (w.heap.size + 1 + 1 + 1 + 1) 1 1 [[x]] [.slice (some ⟨w.heap.size + 1 + 1, 0, none⟩) 1 1, .slice (some ⟨w.heap.size + 1 + 1 + 1, 0, none⟩) 1 1] (((((w.alloc (.cells #[.int .i8 k, .bool b, .int .i64 n, .string s, .slice o m c, .slice o2 m2 c2] 64)).alloc (.cells #[.int .i8 k', .bool b', .int .i64 n', .string s', .slice o' m' c', .slice o2' m2' c2'] 64)).alloc (.cells #[.int .i8 k, .bool b, .int .i64 n, .string s, .slice o m c, .slice o2 m2 c2] 64)).alloc (.cells #[.int .i8 k', .bool b', .int .i64 n', .string s', .slice o' m' c', .slice o2' m2' c2'] 64)).alloc (.cells #[.slice (some ⟨w.heap.size + 1 + 1, 0, none⟩) 1 1, .slice (some ⟨w.heap.size + 1 + 1 + 1, 0, none⟩) 1 1] 136)) ∧ Below w.heap.size w (((((w.alloc (.cells #[.int .i8 k, .bool b, .int .i64 n, .string s, .slice o m c, .slice o2 m2 c2] 64)).alloc (.cells #[.int .i8 k', .bool b', .int .i64 n', .string s', .slice o' m' c', .slice o2' m2' c2'] 64)).alloc (.cells #[.int .i8 k, .bool b, .int .i64 n, .string s, .slice o m c, .slice o2 m2 c2] 64)).alloc (.cells #[.int .i8 k', .bool b', .int .i64 n', .string s', .slice o' m' c', .slice o2' m2' c2'] 64)).alloc (.cells #[.slice (some ⟨w.heap.size + 1 + 1, 0, none⟩) 1 1, .slice (some ⟨w.heap.size + 1 + 1 + 1, 0, none⟩) 1 1] 136)) := by
  have e1 : (w.alloc (.cells #[.int .i8 k, .bool b, .int .i64 n, .string s, .slice o m c, .slice o2 m2 c2] 64)).heap.size = w.heap.size + 1 := by simp
  generalize hA : w.alloc (.cells #[.int .i8 k, .bool b, .int .i64 n, .string s, .slice o m c, .slice o2 m2 c2] 64) = A at *
  have bA : Below w.heap.size w A := by rw [← hA]; exact kbA
  have e2 : (A.alloc (.cells #[.int .i8 k', .bool b', .int .i64 n', .string s', .slice o' m' c', .slice o2' m2' c2'] 64)).heap.size = w.heap.size + 1 + 1 := by simp [e1]
  have bB : Below A.heap.size A (A.alloc (.cells #[.int .i8 k', .bool b', .int .i64 n', .string s', .slice o' m' c', .slice o2' m2' c2'] 64)) := kbA
  generalize A.alloc (.cells #[.int .i8 k', .bool b', .int .i64 n', .string s', .slice o' m' c', .slice o2' m2' c2'] 64) = B at *
  have e3 : (B.alloc (.cells #[.int .i8 k, .bool b, .int .i64 n, .string s, .slice o m c, .slice o2 m2 c2] 64)).heap.size = w.heap.size + 1 + 1 + 1 := by simp [e2]
  have n3 := World.alloc_heap_new B (.cells #[.int .i8 k, .bool b, .int .i64 n, .string s, .slice o m c, .slice o2 m2 c2] 64)
  have bC : Below B.heap.size B (B.alloc (.cells #[.int .i8 k, .bool b, .int .i64 n, .string s, .slice o m c, .slice o2 m2 c2] 64)) := kbA
  generalize B.alloc (.cells #[.int .i8 k, .bool b, .int .i64 n, .string s, .slice o m c, .slice o2 m2 c2] 64) = C at *
  rw [e2] at n3
  have e4 : (C.alloc (.cells #[.int .i8 k', .bool b', .int .i64 n', .string s', .slice o' m' c', .slice o2' m2' c2'] 64)).heap.size = w.heap.size + 1 + 1 + 1 + 1 := by simp [e3]
  have n4 := World.alloc_heap_new C (.cells #[.int .i8 k', .bool b', .int .i64 n', .string s', .slice o' m' c', .slice o2' m2' c2'] 64)
  have bD : Below C.heap.size C (C.alloc (.cells #[.int .i8 k', .bool b', .int .i64 n', .string s', .slice o' m' c', .slice o2' m2' c2'] 64)) := kbA
  generalize C.alloc (.cells #[.int .i8 k', .bool b', .int .i64 n', .string s', .slice o' m' c', .slice o2' m2' c2'] 64) = D at *
  rw [e3] at n4
  have ho := World.ownsRow_lit (base := w.heap.size + 4) (e := 136) (size := 2) D #[.slice (some ⟨w.heap.size + 1 + 1, 0, none⟩) 1 1, .slice (some ⟨w.heap.size + 1 + 1 + 1, 0, none⟩) 1 1] 1 (by omega) (by unfold maxLen; omega) rfl
  have bE : Below D.heap.size D (D.alloc (.cells #[.slice (some ⟨w.heap.size + 1 + 1, 0, none⟩) 1 1, .slice (some ⟨w.heap.size + 1 + 1 + 1, 0, none⟩) 1 1] 136)) := kbA
  have e5 : (D.alloc (.cells #[.slice (some ⟨w.heap.size + 1 + 1, 0, none⟩) 1 1, .slice (some ⟨w.heap.size + 1 + 1 + 1, 0, none⟩) 1 1] 136)).heap.size = w.heap.size + 1 + 1 + 1 + 1 + 1 := by simp [e4]
  rw [e4] at ho
  generalize D.alloc (.cells #[.slice (some ⟨w.heap.size + 1 + 1, 0, none⟩) 1 1, .slice (some ⟨w.heap.size + 1 + 1 + 1, 0, none⟩) 1 1] 136) = E at *
  have bwE : Below w.heap.size w E := bA.trans ((bB.trans ((bC.trans ((bD.trans (bE.mono bD.size)).mono bC.size)).mono bB.size)).mono bA.size)
  have h3 : E.heap[w.heap.size + 1 + 1]? = some (.cells #[.int .i8 k, .bool b, .int .i64 n, .string s, .slice o m c, .slice o2 m2 c2] 64 (0, 0)) := (bE.block _ (by omega)).trans ((bD.block _ (by omega)).trans n3)
  have h4 : E.heap[w.heap.size + 1 + 1 + 1]? = some (.cells #[.int .i8 k', .bool b', .int .i64 n', .string s', .slice o' m' c', .slice o2' m2' c2'] 64 (0, 0)) := (bE.block _ (by omega)).trans n4
  obtain ⟨a0, a1, a2, a3, a4, a5⟩ := six_heap h3
  obtain ⟨d0, d1, d2, d3, d4, d5⟩ := six_heap h4
  have hx : ∀ v, isV w x v → isVa E (fun q => q < w.heap.size + 4) x v := fun v hv => isVa_mono (fun q (hq : q < w.heap.size) => by omega) _ _ (isVa_keep (fun a c _ hc => cell_below bwE _ _ hc) _ _ (isVa_of _ _ hv))
  refine ⟨⟨Below.refl _ _, by omega, by omega, ho, rfl, fun i hi => ?_⟩, bwE⟩
  obtain rfl : i = 0 := by simp at hi; omega
  refine ⟨_, _, rfl, rfl, ⟨w.heap.size + 1 + 1, 0, none⟩, ⟨w.heap.size + 1 + 1 + 1, 0, none⟩, 1, 1, rfl, rfl, by simp, ⟨by simp, by simp, by unfold maxLen; omega, by unfold maxLen; omega⟩, ⟨by show w.heap.size + 1 + 1 < _; omega, by show w.heap.size + 1 + 1 + 1 < _; omega⟩, ?_, ?_, fun y hy => ?_, ?_⟩
  · show isVas E _ [x] _
    unfold isVas
    exact ⟨⟨_, _, _, _, _, _, a0, a1, a2, a3, a4, a5, hx _ h⟩, by unfold isVas; trivial⟩
  · show isVas E _ [x] _
    unfold isVas
    exact ⟨⟨_, _, _, _, _, _, d0, d1, d2, d3, d4, d5, hx _ h'⟩, by unfold isVas; trivial⟩
  · rw [List.mem_singleton.1 (show y ∈ [x] from hy)]; exact hF
  · show uVs E [x] _
    unfold uVs
    exact ⟨⟨_, _, _, _, _, _, d0, d1, d2, d3, d4, d5, uV_below bwE _ _ hu⟩, by unfold uVs; trivial⟩
theorem tot_len {W5 : World} {N lb c k : Nat} {ls : List (List V)} {xs : List Value} {W : World} (h : AW W5 N lb c k ls xs W) : k ≤ tot ls := by
  have hne : ∀ l ∈ ls, 0 < l.length := fun l hl => by
    obtain ⟨i, hi, rfl⟩ := List.getElem_of_mem hl
    obtain ⟨_, _, _, _, _, _, _, _, _, _, h0, _⟩ := h.rows i hi
    exact h0
  have : ∀ ls : List (List V), (∀ l ∈ ls, 0 < l.length) → ls.length ≤ tot ls := fun ls => by
    induction ls with
    | nil => intro _; exact Nat.zero_le _
    | cons l t ih =>
      intro hl
      have h1 := ih (fun q hq => hl q (List.mem_cons_of_mem _ hq))
      have h2 := hl l List.mem_cons_self
      have h3 : 1 ≤ sizeVs l := by
        match l, h2 with
        | x :: r, _ =>
          unfold sizeVs
          have := size_kids x
          omega
      show t.length + 1 ≤ sizeVs l + tot t
      omega
  rw [← h.len]
  exact this ls hne
/-- The parts of an element that both rows hold. -/
theorem kids {W5 : World} {N : Nat} {l : List V} {b : Addr} {j : Nat} (hj : j < l.length) {k n k' n' : Int} {bb bb' : Bool} {s s' : ByteArray} {o o2 o' o2' : Option Addr} {m c m2 c2 m' c' m2' c2' : Nat}
    (hfl : ∀ x ∈ l, fineV x) (hx : isVa W5 (fun q => q < N) l[j] (.agg #[.int .i8 k, .bool bb, .int .i64 n, .string s, .slice o m c, .slice o2 m2 c2])) (hy : isVa W5 (fun q => q < N) l[j] (.agg #[.int .i8 k', .bool bb', .int .i64 n', .string s', .slice o' m' c', .slice o2' m2' c2']))
    (hcell : W5.cell? (b.add (j * 6 + 4)) = some (.slice o' m' c')) (hub : uVs W5 l b) : m = m' ∧ m = l[j].list.length ∧ (0 < m → (∃ a1 b1 q, o = some a1 ∧ o' = some b1 ∧ W5.cell? b1 = some q ∧ W5.frozen? b1 = false ∧ a1.block < N ∧ b1.block < N ∧ ∃ q', W5.cell? a1 = some q') ∧ PairOK W5 N l[j].list (.slice o m c) (.slice o' m' c')) := by
  obtain ⟨e1, q1, q2, q3⟩ := isVa_list hx
  obtain ⟨e2, r1, r2, r3⟩ := isVa_list hy
  obtain rfl : m' = m := by omega
  refine ⟨rfl, e1, fun h0 => ?_⟩
  obtain ⟨a1, rfl, ha, hva⟩ := q3 h0
  obtain ⟨b1, rfl, hb, hvb⟩ := r3 h0
  obtain ⟨c0, c1, c2, c3, c4, c5, g0, g1, g2, g3, g4, g5, hu⟩ := uVs_el l b j hj hub
  have hc4 := Option.some.inj (g4.symm.trans hcell)
  subst hc4
  have hu2 : (∃ q, W5.cell? b1 = some q) ∧ W5.frozen? b1 = false ∧ uVs W5 l[j].list b1 := by
    generalize l[j] = z at *
    obtain ⟨zk, zb, zn, zs, zl, zks⟩ := z
    unfold uV at hu
    obtain ⟨d0, d1, d2, d3, oo, mm, cc, kv, e, h1⟩ := hu
    simp only [Value.agg.injEq, Array.mk.injEq, List.cons.injEq, Value.slice.injEq, and_true] at e
    obtain ⟨_, _, _, _, ⟨rfl, rfl, rfl⟩, _⟩ := e
    obtain ⟨a, e, h2, h3, h4⟩ := h1 h0
    obtain rfl := Option.some.inj e
    exact ⟨h2, h3, h4⟩
  obtain ⟨⟨q, hq⟩, hfz, hul⟩ := hu2
  have hfirst : ∃ q', W5.cell? a1 = some q' := by
    have h00 : 0 < l[j].list.length := by omega
    obtain ⟨f0, _, _, _, _, _, t0, _⟩ := isVas_el _ _ 0 h00 hva
    exact ⟨f0, by rw [Nat.zero_mul] at t0; unfold Addr.add at t0; rwa [if_pos rfl] at t0⟩
  exact ⟨⟨a1, b1, q, rfl, rfl, hq, hfz, ha, hb, hfirst⟩, a1, b1, c, c', by rw [e1], by rw [e1], by omega, ⟨by omega, by omega, q2, r2⟩, ⟨ha, hb⟩, hva, hvb, fun y hy => fine_in hy (hfl _ (List.getElem_mem hj)), hul⟩
theorem el_back {W5 W : World} {N : Nat} {a : Addr} (hb : Below N W5 W) (ha : a.block < N) {j : Nat} {v : Value} (h : W.cell? ⟨(a.add (j * 6)).block, (a.add (j * 6)).off + 4, none⟩ = some v) : W5.cell? (a.add (j * 6 + 4)) = some v := by
  have hk := hb.block a.block ha
  have e : W.cell? (a.add (j * 6 + 4)) = W5.cell? (a.add (j * 6 + 4)) := by
    unfold World.cell?
    rw [add_block, hk]
  rw [← e, add_succ a (j * 6) 4 (by decide)]
  exact h
theorem one_kid {W5 W : World} {N : Nat} {o o' : Option Addr} {m c c' : Nat} (hb : Below N W5 W) (h : 0 < m → ∃ a1 b1 q, o = some a1 ∧ o' = some b1 ∧ W5.cell? b1 = some q ∧ W5.frozen? b1 = false ∧ a1.block < N ∧ b1.block < N ∧ ∃ q', W5.cell? a1 = some q') :
    Calls Tryz.prog 103 #[.slice o m c, .slice o' m c'] W fun e w' => (∃ r : Bool, e = .returned (.bool r) ∧ (m = 0 → r = true)) ∧ Below W.heap.size W w' := by
  by_cases h0 : m = 0
  · subst h0
    exact (one_nil o o' c c' W).mono fun e w' h => ⟨⟨true, h.1, fun _ => rfl⟩, h.2⟩
  · obtain ⟨a1, b1, q, rfl, rfl, hq, hfz, h1, h2, q', hq'⟩ := h (by omega)
    have k1 := hb.block a1.block h1
    have k2 := hb.block b1.block h2
    have f1 : W.frozen? b1 = false := by unfold World.frozen? at hfz ⊢; rw [k2]; exact hfz
    have f2 : W.cell? a1 = some q' := by unfold World.cell? at hq' ⊢; rw [k1]; exact hq'
    have f3 : W.cell? b1 = some q := by unfold World.cell? at hq ⊢; rw [k2]; exact hq
    refine (one_some a1 b1 q' q m c c' (by omega) W f1 f2 f3).mono fun e w' h => ⟨?_, h.2⟩
    obtain ⟨r, hr⟩ := h.1
    exact ⟨r, hr, fun h => absurd h h0⟩
set_option maxRecDepth 100000 in
set_option maxHeartbeats 8000000 in
theorem alike_same (x : V) (v u : Value) (w : World) (hM : sizeV x ≤ 1000000) (hF : fineV x) (h : isV w x v) (h' : isV w x u) (hu : uV w x u) :
    Calls Tryz.prog 95 #[v, u] w fun e w' => e = .returned (.bool true) ∧ Below w.heap.size w w' := by
  obtain ⟨k, b, n, s, o, m, c, o2, m2, c2, rfl⟩ := isV_six h
  obtain ⟨k', b', n', s', o', m', c', o2', m2', c2', rfl⟩ := isV_six h'
  obtain ⟨hS, hBE⟩ := AW.start hF h h' hu
  have HS := Lib.hid hS
  have HBE := Lib.hid hBE
  have htot : tot [[x]] ≤ 1000000 := by show sizeVs [x] + 0 ≤ 1000000; unfold sizeVs; show sizeV x + sizeVs [] + 0 ≤ 1000000; unfold sizeVs; omega
  have HT := Lib.hid htot
  obtain ⟨i0, hi, hz0, hz1, hz2⟩ := info_parts infoP10
  clear h h' hu hS hBE htot hM
  go_enter Tryz.func95, Tryz.ntmps95
  go_wp2_with fail
  generalize (((((w.alloc (.cells #[.int .i8 k, .bool b, .int .i64 n, .string s, .slice o m c, .slice o2 m2 c2] 64)).alloc (.cells #[.int .i8 k', .bool b', .int .i64 n', .string s', .slice o' m' c', .slice o2' m2' c2'] 64)).alloc (.cells #[.int .i8 k, .bool b, .int .i64 n, .string s, .slice o m c, .slice o2 m2 c2] 64)).alloc (.cells #[.int .i8 k', .bool b', .int .i64 n', .string s', .slice o' m' c', .slice o2' m2' c2'] 64)).alloc (.cells #[.slice (some ⟨w.heap.size + 1 + 1, 0, none⟩) 1 1, .slice (some ⟨w.heap.size + 1 + 1 + 1, 0, none⟩) 1 1] 136)) = W5 at *
  go_loopg [5] 1000000 (fun g lv wr => ∃ (gg k lb c : Nat) (ls : List (List V)) (xs : List Value), gg = g ∧ lv = .slice (some ⟨lb, 0, none⟩) k c ∧ Hid (tot ls ≤ gg) ∧ gg ≤ 1000000 ∧ Hid (AW W5 (w.heap.size + 4) lb c k ls xs wr))
  case atStart => exact ⟨_, 1, _, 1, _, _, rfl, rfl, HT, by omega, HS⟩
  case round =>
    obtain ⟨g, k, lb, c, ls, xs, rfl, rfl, hT, hg, hC⟩ := hrel
    clear HS HT
    rcases k with _ | k
    · go_wp2_with fail
      go_ret
      exact ⟨rfl, HBE.out.trans (hC.out.bel.mono (by omega))⟩
    · obtain ⟨u, v, l, hcu, hcv, hp, ht, hC2⟩ := hC.out.pop
      obtain ⟨a, bb, ca, cb, rfl, rfl, hl0, ⟨hl1, hl2, hl3, hl4⟩, ⟨ha, hb'⟩, hva, hvb, hfl, hub⟩ := hp
      have hcc : k + 1 ≤ c := by
        obtain ⟨_, ad, c', e, h1, h2, _⟩ := own_form hC.out.own
        simp only [Value.slice.injEq, true_and] at e
        omega
      have hccm : c ≤ maxLen := by
        obtain ⟨_, ad, c', e, h1, h2, _⟩ := own_form hC.out.own
        simp only [Value.slice.injEq, true_and] at e
        omega
      unfold maxLen at hccm hl3 hl4
      have A6 : KB wr (wr.alloc (.cells #[.slice (some a) l.length ca, .slice (some bb) l.length cb] 136)) := kbA
      have HC6 := Lib.hid (hC2.below A6)
      have N6 := Lib.hid (World.alloc_heap_new wr (.cells #[.slice (some a) l.length ca, .slice (some bb) l.length cb] 136))
      have hne : lb ≠ wr.heap.size := by have := hC.out.lb2; omega
      have HTT := Lib.hid (show tot (ls.take k) + sizeVs (l.drop 0) + 0 ≤ g by have := hT.out; rw [List.drop_zero]; omega)
      have HG1 : Hid (1 ≤ g) := Lib.hid (by
        have := hT.out
        have h3 : 1 ≤ sizeVs l := by
          match l, hl0 with
          | x :: r, _ =>
            unfold sizeVs
            have := size_kids x
            omega
        omega)
      have HP := Lib.hid (And.intro hva (And.intro hvb (And.intro hfl hub)))
      have HAB := Lib.hid (And.intro ha hb')
      have y1 : ((k + 1 : Nat) : Int) = (k : Int) + 1 := by omega
      have y2 : IntKind.i64.wrap ((k : Int) + 1 - 1) = (k : Int) := by rw [show (k : Int) + 1 - 1 = k by omega]; exact IntWalk.i64_in _ (by omega)
      clear hva hvb hfl hub ht hT hC hC2 A6 ha hb'
      generalize ls.take k = ls0 at *
      generalize xs.take (k * 2) = xs0 at *
      go_wp2_with fail
      obtain ⟨b6, hb6⟩ : ∃ b6, wr.heap.size = b6 := ⟨_, rfl⟩
      rw [hb6] at N6 hne
      simp only [hb6]
      generalize (wr.alloc (.cells #[.slice (some a) l.length ca, .slice (some bb) l.length cb] 136)) = W6 at *
      clear hb6 hcu hcv
      go_loopw [5, 7, 8, 9, 33] (fun lv y7 y8 y9 iv wi => ∃ (j k1 lb1 c1 : Nat) (ls1 : List (List V)) (xs1 : List Value), lv = .slice (some ⟨lb1, 0, none⟩) k1 c1 ∧ iv = .int .i64 j ∧ j ≤ l.length ∧ lb1 ≠ b6 ∧ Hid (tot ls1 + sizeVs (l.drop j) + j ≤ g) ∧ Hid (AW W5 (w.heap.size + 4) lb1 c1 k1 ls1 xs1 wi) ∧ Hid (wi.heap[b6]? = some (.cells #[.slice (some a) l.length ca, .slice (some bb) l.length cb] 136 (0, 0)))) (fun _ _ _ _ iv _ => l.length - (intOf iv).toNat)
      case atStart => exact ⟨0, k, lb, c, _, _, rfl, rfl, by omega, hne, HTT, HC6, N6⟩
      case round =>
        obtain ⟨j, k1, lb1, c1, ls1, xs1, rfl, rfl, hj, hne1, hT1, hC1, hN1⟩ := hrel
        clear HC6 HTT N6 hne
        by_cases hlt : j < l.length
        · obtain ⟨k9, b9, n9, s9, o9, m9, c9, o8, m8, c8, q0, q1, q2, q3, q4, q5, hxa, hxv⟩ := el_at hC1.out.bel HAB.out.1 HP.out.1 hlt
          obtain ⟨k9', b9', n9', s9', o9', m9', c9', o8', m8', c8', p0, p1, p2, p3, p4, p5, hya, hyv⟩ := el_at hC1.out.bel HAB.out.2 HP.out.2.1 hlt
          have hcell := el_back hC1.out.bel HAB.out.2 p4
          obtain ⟨rfl, hm9, hkid⟩ := kids (o := o9) (c := c9) hlt HP.out.2.2.1 hxa hya hcell HP.out.2.2.2
          obtain ⟨z0, z1⟩ := two_cells hN1.out
          have hsz := size_drop hlt
          have hkd := size_kids l[j]
          have hfj := HP.out.2.2.1 _ (List.getElem_mem hlt)
          have HBUT : Hid (∀ w1, KB wr w1 → Calls Tryz.prog 102 #[.agg #[.int .i8 k9, .bool b9, .int .i64 n9, .string s9, .slice o9 m9 c9, .slice o8 m8 c8], .agg #[.int .i8 k9', .bool b9', .int .i64 n9', .string s9', .slice o9' m9 c9', .slice o8' m8' c8']] w1 fun e w' => e = .returned (.bool true) ∧ Below w1.heap.size w1 w') := Lib.hid fun w1 hk => by
            have := alikeBut_any l[j] l[j] _ _ w1 (Nat.le_trans (fine_keys hfj) (by decide)) (isV_below hk hxv) (isV_below hk hyv)
            rwa [but_self] at this
          have HONE : Hid (∀ w1, KB wr w1 → Calls Tryz.prog 103 #[.slice o9 m9 c9, .slice o9' m9 c9'] w1 fun e w' => (∃ r : Bool, e = .returned (.bool r) ∧ (m9 = 0 → r = true)) ∧ Below w1.heap.size w1 w') := Lib.hid fun w1 hk => one_kid (hC1.out.bel.trans (hk.mono (by have := hC1.out.lb1; have := hC1.out.lb2; omega))) (fun h => (hkid h).1)
          have A8 : KB wr (wr.alloc (.cells #[.int .i8 k9, .bool b9, .int .i64 n9, .string s9, .slice o9 m9 c9, .slice o8 m8 c8] 64)) := kbA
          have A9 : KB wr ((wr.alloc (.cells #[.int .i8 k9, .bool b9, .int .i64 n9, .string s9, .slice o9 m9 c9, .slice o8 m8 c8] 64)).alloc (.cells #[.int .i8 k9', .bool b9', .int .i64 n9', .string s9', .slice o9' m9 c9', .slice o8' m8' c8'] 64)) := by unfold KB; go_grown
          have p0 := cell_below A8 _ _ p0
          have p1 := cell_below A8 _ _ p1
          have p2 := cell_below A8 _ _ p2
          have p3 := cell_below A8 _ _ p3
          have p4 := cell_below A8 _ _ p4
          have p5 := cell_below A8 _ _ p5
          have z0 := cell_below A8 _ _ z0
          have z1 := cell_below A8 _ _ z1
          have hn1 := (Below.heap_alloc (wr.alloc (.cells #[.int .i8 k9, .bool b9, .int .i64 n9, .string s9, .slice o9 m9 c9, .slice o8 m8 c8] 64)) (.cells #[.int .i8 k9', .bool b9', .int .i64 n9', .string s9', .slice o9' m9 c9', .slice o8' m8' c8'] 64) wr.heap.size (by simp)).trans (World.alloc_heap_new wr _)
          have hn2 := World.alloc_heap_new (wr.alloc (.cells #[.int .i8 k9, .bool b9, .int .i64 n9, .string s9, .slice o9 m9 c9, .slice o8 m8 c8] 64)) (.cells #[.int .i8 k9', .bool b9', .int .i64 n9', .string s9', .slice o9' m9 c9', .slice o8' m8' c8'] 64)
          have zs1 := World.size_alloc wr (.cells #[.int .i8 k9, .bool b9, .int .i64 n9, .string s9, .slice o9 m9 c9, .slice o8 m8 c8] 64)
          have zs2 := World.size_alloc (wr.alloc (.cells #[.int .i8 k9, .bool b9, .int .i64 n9, .string s9, .slice o9 m9 c9, .slice o8 m8 c8] 64)) (.cells #[.int .i8 k9', .bool b9', .int .i64 n9', .string s9', .slice o9' m9 c9', .slice o8' m8' c8'] 64)
          obtain ⟨x0, x1, x2, x3, x4, x5⟩ := six_heap hn1
          have HA9 := Lib.hid A9
          rw [zs1] at hn2 zs2
          have HN1 := Lib.hid hn1
          have HN2 := Lib.hid hn2
          have HZ := Lib.hid (And.intro zs1 zs2)
          have HKID : Hid (0 < m9 → PairOK W5 (w.heap.size + 4) l[j].list (.slice o9 m9 c9) (.slice o9' m9 c9')) := Lib.hid fun h => (hkid h).2
          have HSZ := Lib.hid (And.intro hsz hkd)
          have HLT := Lib.hid hlt
          clear hxa hxv hya hyv hcell hkid A8 A9 hn1 hn2 zs1 zs2 hfj hm9 hsz hkd
          generalize l[j] = y at *
          go_wp2_with fail
          refine (HBUT.out _ HA9.out).mono ?_
          rintro e w10 ⟨rfl, hb10⟩
          generalize hW9 : (wr.alloc (.cells #[.int .i8 k9, .bool b9, .int .i64 n9, .string s9, .slice o9 m9 c9, .slice o8 m8 c8] 64)).alloc (.cells #[.int .i8 k9', .bool b9', .int .i64 n9', .string s9', .slice o9' m9 c9', .slice o8' m8' c8'] 64) = W9 at *
          clear hW9
          have HK10 : Hid (KB wr w10) := Lib.hid (HA9.out.trans (hb10.mono HA9.out.size))
          obtain ⟨-, -, -, -, f4, -⟩ := six_heap HN2.out
          have g4 := cell_below hb10 _ _ x4
          have f4 := cell_below hb10 _ _ f4
          have HSZ9 := Lib.hid (show wr.heap.size + 2 ≤ w10.heap.size by have := hb10.size; have := HZ.out.2; omega)
          have HB10 := Lib.hid hb10
          clear hb10 x0 x1 x2 x3 x4 x5 p0 p1 p2 p3 p4 p5 q0 q1 q2 q3 q4 q5 z0 z1 HBUT HN1
          go_wp2_with fail
          trace_state
          refine (HONE.out _ HK10.out).mono ?_
          rintro e w11 ⟨⟨r, rfl, hr0⟩, hb11⟩
          have HK11 : Hid (KB wr w11) := Lib.hid (HK10.out.trans (hb11.mono HK10.out.size))
          have g4 := cell_below hb11 _ _ g4
          have f4 := cell_below hb11 _ _ f4
          have HC11 := Lib.hid (hC1.out.below HK11.out)
          have hb6l : b6 < wr.heap.size := by
            have := hN1.out
            exact (Array.getElem?_eq_some_iff.1 this).1
          have HN11 := Lib.hid ((HK11.out.block b6 hb6l).trans hN1.out)
          cases r with
          | true =>
            clear hr0 g4 f4 hb11
            go_wp2_with fail
            go_roundw
            case rel => exact ⟨j + 1, k1, lb1, c1, ls1, xs1, rfl, by go_num, by have := HLT.out; omega, hne1, Lib.hid (by have := hT1.out; have := HSZ.out.1; have := HSZ.out.2; omega), HC11, HN11⟩
            case measure => simp [intOf]; have := HLT.out; omega
          | false =>
            have hm0 : 0 < m9 := by
              rcases Nat.eq_zero_or_pos m9 with e | e
              · cases hr0 e
              · exact e
            have HPK := Lib.hid (HKID.out hm0)
            have b6l1 : b6 < w11.heap.size := by have := HK11.out.size; omega
            have HB6 := Lib.hid b6l1
            clear hr0 hb11 hb6l b6l1 hm0
            have A12 : KB w11 (w11.alloc (.cells #[.slice o9 m9 c9, .slice o9' m9 c9'] 136)) := kbA
            have HC12 := Lib.hid (HC11.out.below A12)
            have HN12 := Lib.hid ((A12.block b6 HB6.out).trans HN11.out)
            have hnews : ∀ q u, [Value.slice o9 m9 c9, .slice o9' m9 c9'][q]? = some u → (w11.alloc (.cells #[.slice o9 m9 c9, .slice o9' m9 c9'] 136)).cell? ((⟨w11.heap.size, 0, none⟩ : Addr).add q) = some u := fun q u hq => by
              rcases q with _ | _ | q
              · obtain rfl := Option.some.inj hq
                simp [Addr.add]
              · obtain rfl := Option.some.inj hq
                simp [Addr.add]
              · simp at hq
            have hone : ∀ u ∈ [Value.slice o9 m9 c9, .slice o9' m9 c9'], u.oneCell' = true := fun u hu => by
              simp only [List.mem_cons, List.not_mem_nil, or_false] at hu
              rcases hu with rfl | rfl <;> rfl
            have HNE := Lib.hid hnews
            have HON := Lib.hid hone
            have hb12 : w.heap.size + 4 ≤ (w11.alloc (.cells #[.slice o9 m9 c9, .slice o9' m9 c9'] 136)).heap.size := by have := HC12.out.lb1; have := HC12.out.lb2; omega
            have HB12 := Lib.hid hb12
            have hk1 : k1 ≤ 1000000 := by have := tot_len HC12.out; have := hT1.out; omega
            have HSB : Hid (b6 < (w11.alloc (.cells #[.slice o9 m9 c9, .slice o9' m9 c9'] 136)).heap.size) := Lib.hid (by rw [World.size_alloc]; have := HB6.out; omega)
            clear hnews hone hb12 A12
            go_wp2_with (at_builtin; refine wpList_append_row_at rfl _ _ 137 rfl (w.heap.size + 4) 136 i0 _ 2 48 Tryz.underlying137 hi hz0 hz1 hz2 rfl (by decide) _ k1 xs1 rfl HC12.out.own (some ⟨w11.heap.size, 0, none⟩) ⟨w11.heap.size, 0, none⟩ 1 1 [.slice o9 m9 c9, .slice o9' m9 c9'] rfl (fun _ => rfl) rfl HNE.out HON.out (by unfold maxLen; omega) (by omega) HB12.out ?_)
            intro o' c' w13 hown' hgrow hat
            obtain ⟨lb', rfl⟩ : ∃ lb', o' = some ⟨lb', 0, none⟩ := by
              rcases hown'.2 with ⟨e, _⟩ | ⟨gg, cp, cu, e, _⟩
              · cases e
              · simp only [Value.slice.injEq] at e
                exact ⟨gg, e.1⟩
            have HLB : Hid (lb' = lb1 ∨ lb' = (w11.alloc (.cells #[.slice o9 m9 c9, .slice o9' m9 c9'] 136)).heap.size) := Lib.hid (by
              rcases hat with e | e
              · exact .inl (Option.some.inj e)
              · exact .inr (by rw [World.size_alloc]; exact Option.some.inj e))
            have HC13 := Lib.hid (HC12.out.push HPK.out hgrow HLB.out hown')
            have HN13 := Lib.hid ((hgrow.block b6 HSB.out (fun e => hne1 (Option.some.inj e).symm)).trans HN12.out)
            have HNE6 : Hid (lb' ≠ b6) := Lib.hid (by
              rcases HLB.out with e | e
              · exact fun h => hne1 (e.symm.trans h)
              · exact fun h => by have := HSB.out; omega)
            clear HC12 HC11 hown' hgrow hat HLB
            go_wp2_with fail
            go_roundw
            case rel => exact ⟨j + 1, k1 + 1, lb', c', _, _, rfl, by go_num, by have := HLT.out; omega, HNE6.out, Lib.hid (by have := hT1.out; have := HSZ.out.1; have := HSZ.out.2; rw [tot_app]; omega), HC13, HN13⟩
            case measure => simp [intOf]; have := HLT.out; omega
        · obtain rfl : j = l.length := by omega
          have htl : tot ls1 ≤ g - 1 := by have := hT1.out; omega
          have HTL := Lib.hid htl
          have hg1 := HG1.out
          clear htl
          go_wp2_with fail
          go_roundg (g - 1)
          case measure => omega
          case rel => exact ⟨_, k1, lb1, c1, ls1, xs1, rfl, rfl, HTL, by omega, hC1⟩
end Go.Proofs.YtdckldfekepopaaGreatDoor
