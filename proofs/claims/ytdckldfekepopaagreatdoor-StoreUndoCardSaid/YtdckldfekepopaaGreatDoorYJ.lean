/-
  Two rows' first cells held against each other: the program's one; rows whose first cells are not frozen. · The program's alike of what reads the same: its worklist.
-/
import Derived.Test.YtdckldfekepopaaGreatDoorYF
import Derived.Test.YtdckldfekepopaaGreatDoorZX
import Derived.LaidEqlPtr
import Derived.Deep.LoopGhost
set_option linter.unusedVariables false
set_option linter.unusedSimpArgs false
namespace Go.Proofs.YtdckldfekepopaaGreatDoor
open Go.RowKit Go.Deep
section
variable {P : Program} (w : World)
theorem run_sameAddr_some {a b : Addr} {x y : Value} (hb : w.frozen? b = false) (ca : w.cell? a = some x) (cb : w.cell? b = some y) :
    ∃ r, (sameAddr a b).run P w = .ok r w ∨ (sameAddr a b).run P w = .ok r w.drew := by
  by_cases hk : a.block = b.block
  · exact ⟨a == b, .inl (by simp [sameAddr, hk])⟩
  · obtain ⟨c1, t1, r1, h1⟩ : ∃ c t r, w.heap[a.block]? = some (.cells c t r) := by
      unfold World.cell? at ca
      split at ca
      · rename_i c t r e; exact ⟨_, _, _, e⟩
      · cases ca
    obtain ⟨c2, t2, r2, h2⟩ : ∃ c t r, w.heap[b.block]? = some (.cells c t r) := by
      unfold World.cell? at cb
      split at cb
      · rename_i c t r e; exact ⟨_, _, _, e⟩
      · cases cb
    have s1 : w.shape? a.block = some (t1, c1.size) := by unfold World.shape?; rw [h1]
    have s2 : w.shape? b.block = some (t2, c2.size) := by unfold World.shape?; rw [h2]
    have key : ∀ (e : Result Bool), (sameAddr a b).run P w = e → (∃ r, e = .ok r w ∨ e = .ok r w.drew) → ∃ r, (sameAddr a b).run P w = .ok r w ∨ (sameAddr a b).run P w = .ok r w.drew := fun e h1 h2 => by
      rw [h1]; exact h2
    refine key _ (by simp [sameAddr, hk, hb, noView, viewAt, mayBeOne, stringish, s1, s2]; rfl) ?_
    repeat' split
    all_goals first | exact ⟨_, .inl rfl⟩ | exact ⟨_, .inr rfl⟩
theorem run_eql_ptr_some {tp te : TypeId} {j : TypeInfo} {a b : Addr} {x y : Value} (hp : P.underlying tp = some (.pointer te)) (hte : P.info? te = some j) (hsz : j.size ≠ 0)
    (hb : w.frozen? b = false) (ca : w.cell? a = some x) (cb : w.cell? b = some y) :
    ∃ r, (binOp .eql tp (.pointer (some a)) (.pointer (some b))).run P w = .ok (.bool r) w ∨ (binOp .eql tp (.pointer (some a)) (.pointer (some b))).run P w = .ok (.bool r) w.drew := by
  obtain ⟨r, h⟩ := run_sameAddr_some (P := P) w hb ca cb
  refine ⟨r, h.imp (fun h => ?_) (fun h => ?_)⟩
  · have h : ∀ d : Nat, (Op.equalIn (d + 1) tp (.pointer (some a)) (.pointer (some b))).run P w = .ok r w := fun d => by
      simp [Op.equalIn, run_underlying hp, sizeOf, typeInfo, hte, hsz, h]
    simp only [binOp]
    simp [Op.equal, Op.maxDepth, h 9999]
  · have h : ∀ d : Nat, (Op.equalIn (d + 1) tp (.pointer (some a)) (.pointer (some b))).run P w = .ok r w.drew := fun d => by
      simp [Op.equalIn, run_underlying hp, sizeOf, typeInfo, hte, hsz, h]
    simp only [binOp]
    simp [Op.equal, Op.maxDepth, h 9999]
end
set_option maxHeartbeats 1000000 in
theorem one_some (a b : Addr) (x y : Value) (m c c' : Nat) (h0 : 0 < m) (w : World) (hb : w.frozen? b = false) (ca : w.cell? a = some x) (cb : w.cell? b = some y) :
    Calls Tryz.prog 103 #[.slice (some a) m c, .slice (some b) m c'] w fun e w' => (∃ r : Bool, e = .returned (.bool r)) ∧ Below w.heap.size w w' := by
  have z0 : ((m : Int) == 0) = false := by rw [beq_eq_false_iff_ne]; omega
  have z1 : (m == 0) = false := by rw [beq_eq_false_iff_ne]; omega
  have z2 : ¬ m = 0 := by omega
  have z3 : (0 : Int) < (m : Int) := by omega
  have z4 : decide ((m : Int) = 0) = false := decide_eq_false (by omega)
  go_enter Tryz.func103, Tryz.ntmps103
  go_wp2_with fail
  refine Rn.region_any (by kernel_rfl) ?_
  refine Rn.any_seg 0 8 (by kernel_rfl) rfl ?_
  simp only [List.take_succ_cons, List.take_zero, List.drop_zero]
  repeat (refine Rn.ws_one (fun KK hKK => ?_); go_simp; refine hKK _ ?_; clear hKK KK)
  refine Rn.ws_nil ?_
  intro K0 hK0
  go_simp
  obtain ⟨i0, hi, hz0, hz1, hz2⟩ := info_parts infoV
  obtain ⟨r, h | h⟩ := run_eql_ptr_some (P := Tryz.prog) w.drew (tp := 143) (te := 64) (a := a) (b := b) (x := x) (y := y) (by kernel_rfl) hi (by rw [hz1]; decide) hb ca cb
  · rw [h]
    refine .inl ?_
    go_simp
    refine hK0 _ _ ?_
    clear hK0 K0 h
    refine Rn.any_end 9 (by kernel_rfl) ?_
    simp only [List.drop_succ_cons, List.drop_zero]
    repeat (refine Rn.ws_one (fun KK hKK => ?_); go_simp; refine hKK _ ?_; clear hKK KK)
    refine Rn.ws_nil ?_
    go_wp2_with fail
    go_ret
    exact ⟨⟨r, rfl⟩, below_drew_of (Below.refl _ _)⟩
  · rw [h]
    refine .inl ?_
    go_simp
    refine hK0 _ _ ?_
    clear hK0 K0 h
    refine Rn.any_end 9 (by kernel_rfl) ?_
    simp only [List.drop_succ_cons, List.drop_zero]
    repeat (refine Rn.ws_one (fun KK hKK => ?_); go_simp; refine hKK _ ?_; clear hKK KK)
    refine Rn.ws_nil ?_
    go_wp2_with fail
    go_ret
    exact ⟨⟨r, rfl⟩, below_drew_of (below_drew_of (Below.refl _ _))⟩

mutual
/-- The first cell of each row of parts is not frozen. -/
def uV (W : World) : V → Value → Prop
  | .mk k b n s l ks, v => ∃ c0 c1 c2 c3 o m c kv, v = .agg #[c0, c1, c2, c3, .slice o m c, kv] ∧ (0 < m → ∃ a, o = some a ∧ (∃ c, W.cell? a = some c) ∧ W.frozen? a = false ∧ uVs W l a)
def uVs (W : World) : List V → Addr → Prop
  | [], _ => True
  | x :: t, a => (∃ c0 c1 c2 c3 c4 c5, W.cell? a = some c0 ∧ W.cell? (a.add 1) = some c1 ∧ W.cell? (a.add 2) = some c2 ∧ W.cell? (a.add 3) = some c3 ∧ W.cell? (a.add 4) = some c4 ∧ W.cell? (a.add 5) = some c5 ∧ uV W x (.agg #[c0, c1, c2, c3, c4, c5])) ∧ uVs W t (a.add 6)
end
theorem frozen_below {W W' : World} (hb : Below W.heap.size W W') {a : Addr} {c : Value} (hc : W.cell? a = some c) (h : W.frozen? a = false) : W'.frozen? a = false := by
  have := hb.block a.block (World.block_lt_of_cell? W _ hc)
  unfold World.frozen? at h ⊢
  rw [this]; exact h
mutual
theorem uV_below {W W' : World} (hb : Below W.heap.size W W') : ∀ (x : V) (v : Value), uV W x v → uV W' x v
  | .mk k b n s l ks, v, h => by
    unfold uV at h ⊢
    obtain ⟨c0, c1, c2, c3, o, m, c, kv, e, h1⟩ := h
    refine ⟨c0, c1, c2, c3, o, m, c, kv, e, fun h0 => ?_⟩
    obtain ⟨a, e1, ⟨c', hc⟩, h2, h3⟩ := h1 h0
    exact ⟨a, e1, ⟨c', cell_below hb _ _ hc⟩, frozen_below hb hc h2, uVs_below hb l a h3⟩
theorem uVs_below {W W' : World} (hb : Below W.heap.size W W') : ∀ (l : List V) (a : Addr), uVs W l a → uVs W' l a
  | [], _, _ => by unfold uVs; trivial
  | x :: t, a, h => by
    unfold uVs at h ⊢
    obtain ⟨⟨c0, c1, c2, c3, c4, c5, g0, g1, g2, g3, g4, g5, hx⟩, ht⟩ := h
    have k := cell_below hb
    exact ⟨⟨c0, c1, c2, c3, c4, c5, k _ _ g0, k _ _ g1, k _ _ g2, k _ _ g3, k _ _ g4, k _ _ g5, uV_below hb x _ hx⟩, uVs_below hb t _ ht⟩
end
theorem uVs_el {W : World} : ∀ (l : List V) (a : Addr) (j : Nat) (h : j < l.length), uVs W l a → ∃ c0 c1 c2 c3 c4 c5, W.cell? (a.add (j * 6)) = some c0 ∧ W.cell? (a.add (j * 6 + 1)) = some c1 ∧ W.cell? (a.add (j * 6 + 2)) = some c2 ∧ W.cell? (a.add (j * 6 + 3)) = some c3 ∧ W.cell? (a.add (j * 6 + 4)) = some c4 ∧ W.cell? (a.add (j * 6 + 5)) = some c5 ∧ uV W l[j] (.agg #[c0, c1, c2, c3, c4, c5])
  | x :: t, a, 0, _, h => by
    unfold uVs at h
    obtain ⟨⟨c0, c1, c2, c3, c4, c5, g0, g1, g2, g3, g4, g5, hx⟩, _⟩ := h
    exact ⟨c0, c1, c2, c3, c4, c5, g0, g1, g2, g3, g4, g5, hx⟩
  | x :: t, a, j + 1, hj, h => by
    unfold uVs at h
    obtain ⟨c0, c1, c2, c3, c4, c5, g0, g1, g2, g3, g4, g5, hx⟩ := uVs_el t (a.add 6) j (by simpa using hj) h.2
    rw [add_add] at g0 g1 g2 g3 g4 g5
    refine ⟨c0, c1, c2, c3, c4, c5, ?_, ?_, ?_, ?_, ?_, ?_, hx⟩
    · rw [show (j + 1) * 6 = 6 + j * 6 by omega]; exact g0
    · rw [show (j + 1) * 6 + 1 = 6 + (j * 6 + 1) by omega]; exact g1
    · rw [show (j + 1) * 6 + 2 = 6 + (j * 6 + 2) by omega]; exact g2
    · rw [show (j + 1) * 6 + 3 = 6 + (j * 6 + 3) by omega]; exact g3
    · rw [show (j + 1) * 6 + 4 = 6 + (j * 6 + 4) by omega]; exact g4
    · rw [show (j + 1) * 6 + 5 = 6 + (j * 6 + 5) by omega]; exact g5
end Go.Proofs.YtdckldfekepopaaGreatDoor

namespace Go.Proofs.YtdckldfekepopaaGreatDoor
open Go.RowKit Go.Deep

/-- The same values, twice: as the worklist has them. What is read lies in blocks below N, as they were. -/
def PairOK (W5 : World) (N : Nat) (l : List V) (u v : Value) : Prop := ∃ a b ca cb, u = .slice (some a) l.length ca ∧ v = .slice (some b) l.length cb ∧ 0 < l.length ∧ (l.length ≤ ca ∧ l.length ≤ cb ∧ ca ≤ maxLen ∧ cb ≤ maxLen) ∧ (a.block < N ∧ b.block < N) ∧ isVas W5 (fun q => q < N) l a ∧ isVas W5 (fun q => q < N) l b ∧ (∀ x ∈ l, fineV x) ∧ uVs W5 l b
def tot (ls : List (List V)) : Nat := (ls.map sizeVs).sum
theorem tot_app (ls : List (List V)) (l : List V) : tot (ls ++ [l]) = tot ls + sizeVs l := by unfold tot; simp
structure AW (W5 : World) (N lb c k : Nat) (ls : List (List V)) (xs : List Value) (W : World) : Prop where
  bel : Below N W5 W
  lb1 : N ≤ lb
  lb2 : lb < W.heap.size
  own : W.ownsRow N 136 2 (.slice (some ⟨lb, 0, none⟩) k c) k xs
  len : ls.length = k
  rows : ∀ i (h : i < ls.length), ∃ u v, xs[i * 2]? = some u ∧ xs[i * 2 + 1]? = some v ∧ PairOK W5 N ls[i] u v
theorem AW.below {W5 : World} {N lb c k : Nat} {ls : List (List V)} {xs : List Value} {W W' : World} (h : AW W5 N lb c k ls xs W) (hb : Below W.heap.size W W') : AW W5 N lb c k ls xs W' where
  bel := h.bel.trans (hb.mono (by have := h.lb1; have := h.lb2; omega))
  lb1 := h.lb1
  lb2 := by have := h.lb2; have := hb.size; omega
  own := h.own.kept (grown_bel hb) (.inr (fun e => by cases e))
  len := h.len
  rows := h.rows
theorem AW.pop {W5 : World} {N lb c k : Nat} {ls : List (List V)} {xs : List Value} {W : World} (h : AW W5 N lb c (k + 1) ls xs W) : ∃ u v l, W.cell? ⟨lb, k * 2, none⟩ = some u ∧ W.cell? ⟨lb, k * 2 + 1, none⟩ = some v ∧ PairOK W5 N l u v ∧ tot ls = tot (ls.take k) + sizeVs l ∧ AW W5 N lb c k (ls.take k) (xs.take (k * 2)) W := by
  have hk : k < ls.length := by have := h.len; omega
  obtain ⟨u, v, h1, h2, h3⟩ := h.rows k hk
  have hxl : xs.length = (k + 1) * 2 := h.own.1
  refine ⟨u, v, ls[k], ?_, ?_, h3, ?_, h.bel, h.lb1, h.lb2, own_cut h.own k (by omega), by rw [List.length_take]; omega, fun i hi => ?_⟩
  · rw [h.own.cellAt (k * 2) (by omega)]; exact h1
  · rw [h.own.cellAt (k * 2 + 1) (by omega)]; exact h2
  · have e : ls = ls.take k ++ [ls[k]] := by
      rw [← List.take_succ_eq_append_getElem hk, List.take_of_length_le (by have := h.len; omega)]
    have e2 := congrArg tot e
    rwa [tot_app] at e2
  · have hi' : i < k := by rw [List.length_take] at hi; omega
    obtain ⟨u, v, k1, k2, k3⟩ := h.rows i (by omega)
    refine ⟨u, v, ?_, ?_, by rw [List.getElem_take]; exact k3⟩
    · rw [List.getElem?_take, if_pos (by omega)]; exact k1
    · rw [List.getElem?_take, if_pos (by omega)]; exact k2
theorem AW.push {W5 : World} {N lb c k lb' c' : Nat} {ls : List (List V)} {xs : List Value} {l : List V} {u v : Value} {W W' : World} (h : AW W5 N lb c k ls xs W) (hu : PairOK W5 N l u v) (hg : W.grownBy W' (some lb)) (hlb : lb' = lb ∨ lb' = W.heap.size)
    (ho : W'.ownsRow N 136 2 (.slice (some ⟨lb', 0, none⟩) (k + 1) c') (k + 1) (xs ++ [u, v])) : AW W5 N lb' c' (k + 1) (ls ++ [l]) (xs ++ [u, v]) W' where
  bel := h.bel.grown hg (by have := h.lb1; have := h.lb2; omega) (fun q e => by cases e; have := h.lb1; omega)
  lb1 := by have := h.lb1; have := h.lb2; rcases hlb with e | e <;> omega
  lb2 := ho.lt _ rfl |>.2
  own := ho
  len := by rw [List.length_append, h.len]; rfl
  rows := fun i hi => by
    have hxl : xs.length = k * 2 := h.own.1
    have hll := h.len
    by_cases e : i < ls.length
    · obtain ⟨u', v', k1, k2, k3⟩ := h.rows i e
      refine ⟨u', v', ?_, ?_, by rw [List.getElem_append_left e]; exact k3⟩
      · rw [List.getElem?_append_left (by omega)]; exact k1
      · rw [List.getElem?_append_left (by omega)]; exact k2
    · obtain rfl : i = ls.length := by rw [List.length_append] at hi; simp at hi; omega
      refine ⟨u, v, ?_, ?_, by rw [List.getElem_append_right (Nat.le_refl _)]; simpa using hu⟩
      · rw [List.getElem?_append_right (by omega), show ls.length * 2 - xs.length = 0 by omega]; rfl
      · rw [List.getElem?_append_right (by omega), show ls.length * 2 + 1 - xs.length = 1 by omega]; rfl
theorem isVas_el {W : World} {B : Nat → Prop} : ∀ (l : List V) (a : Addr) (j : Nat) (h : j < l.length), isVas W B l a → ∃ c0 c1 c2 c3 c4 c5, W.cell? (a.add (j * 6)) = some c0 ∧ W.cell? (a.add (j * 6 + 1)) = some c1 ∧ W.cell? (a.add (j * 6 + 2)) = some c2 ∧ W.cell? (a.add (j * 6 + 3)) = some c3 ∧ W.cell? (a.add (j * 6 + 4)) = some c4 ∧ W.cell? (a.add (j * 6 + 5)) = some c5 ∧ isVa W B l[j] (.agg #[c0, c1, c2, c3, c4, c5])
  | x :: t, a, 0, _, h => by
    unfold isVas at h
    obtain ⟨⟨c0, c1, c2, c3, c4, c5, g0, g1, g2, g3, g4, g5, hx⟩, _⟩ := h
    exact ⟨c0, c1, c2, c3, c4, c5, g0, g1, g2, g3, g4, g5, hx⟩
  | x :: t, a, j + 1, hj, h => by
    unfold isVas at h
    obtain ⟨c0, c1, c2, c3, c4, c5, g0, g1, g2, g3, g4, g5, hx⟩ := isVas_el t (a.add 6) j (by simpa using hj) h.2
    rw [add_add] at g0 g1 g2 g3 g4 g5
    refine ⟨c0, c1, c2, c3, c4, c5, ?_, ?_, ?_, ?_, ?_, ?_, hx⟩
    · rw [show (j + 1) * 6 = 6 + j * 6 by omega]; exact g0
    · rw [show (j + 1) * 6 + 1 = 6 + (j * 6 + 1) by omega]; exact g1
    · rw [show (j + 1) * 6 + 2 = 6 + (j * 6 + 2) by omega]; exact g2
    · rw [show (j + 1) * 6 + 3 = 6 + (j * 6 + 3) by omega]; exact g3
    · rw [show (j + 1) * 6 + 4 = 6 + (j * 6 + 4) by omega]; exact g4
    · rw [show (j + 1) * 6 + 5 = 6 + (j * 6 + 5) by omega]; exact g5
theorem isVa_list {W : World} {B : Nat → Prop} {x : V} {k n : Int} {b : Bool} {s : ByteArray} {o : Option Addr} {m c : Nat} {d : Value} (h : isVa W B x (.agg #[.int .i8 k, .bool b, .int .i64 n, .string s, .slice o m c, d])) :
    m = x.list.length ∧ m ≤ c ∧ c ≤ maxLen ∧ (0 < m → ∃ a, o = some a ∧ B a.block ∧ isVas W B x.list a) := by
  obtain ⟨k', b', n', s', l, ks⟩ := x
  unfold isVa at h
  obtain ⟨lv, kv, e, _, _, _, ⟨a, cap, ⟨oo, rfl, q1, q2, q3⟩, h6, h7⟩, _⟩ := h
  simp only [Value.agg.injEq, Array.mk.injEq, List.cons.injEq, Value.slice.injEq, and_true] at e
  obtain ⟨_, _, _, _, ⟨rfl, rfl, rfl⟩, _⟩ := e
  exact ⟨rfl, q1, q2, fun h0 => ⟨a, q3 h0, h6 h0, h7⟩⟩
theorem size_kids (x : V) : sizeVs x.list + 1 ≤ sizeV x := by
  obtain ⟨k, b, n, s, l, ks⟩ := x
  show sizeVs l + 1 ≤ sizeV (.mk k b n s l ks)
  unfold sizeV
  omega
theorem size_drop {l : List V} {j : Nat} (h : j < l.length) : sizeVs (l.drop j) = sizeV l[j] + sizeVs (l.drop (j + 1)) := by
  rw [List.drop_eq_getElem_cons h, sizeVs]
/-- An element of both rows, as it is read in a later world. -/
theorem el_at {W5 W : World} {N : Nat} {l : List V} {a : Addr} (hb : Below N W5 W) (ha : a.block < N) (h : isVas W5 (fun q => q < N) l a) {j : Nat} (hj : j < l.length) :
    ∃ (k : Int) (b : Bool) (n : Int) (s : ByteArray) (o : Option Addr) (m c : Nat) (o2 : Option Addr) (m2 c2 : Nat), W.cell? (a.add (j * 6)) = some (.int .i8 k) ∧ W.cell? ⟨(a.add (j * 6)).block, (a.add (j * 6)).off + 1, none⟩ = some (.bool b) ∧ W.cell? ⟨(a.add (j * 6)).block, (a.add (j * 6)).off + 2, none⟩ = some (.int .i64 n) ∧ W.cell? ⟨(a.add (j * 6)).block, (a.add (j * 6)).off + 3, none⟩ = some (.string s) ∧ W.cell? ⟨(a.add (j * 6)).block, (a.add (j * 6)).off + 4, none⟩ = some (.slice o m c) ∧ W.cell? ⟨(a.add (j * 6)).block, (a.add (j * 6)).off + 5, none⟩ = some (.slice o2 m2 c2) ∧
      isVa W5 (fun q => q < N) l[j] (.agg #[.int .i8 k, .bool b, .int .i64 n, .string s, .slice o m c, .slice o2 m2 c2]) ∧ isV W l[j] (.agg #[.int .i8 k, .bool b, .int .i64 n, .string s, .slice o m c, .slice o2 m2 c2]) := by
  obtain ⟨c0, c1, c2, c3, c4, c5, g0, g1, g2, g3, g4, g5, hx⟩ := isVas_el l a j hj h
  have hk : ∀ (q : Addr) (c : Value), q.block < N → W5.cell? q = some c → W.cell? q = some c := fun q c hq hc => by
    have := hb.block q.block hq
    unfold World.cell? at hc ⊢
    rw [this]; exact hc
  have hv : isV W l[j] (.agg #[c0, c1, c2, c3, c4, c5]) := isV_of_a _ _ (isVa_keep (fun q c hq hc => hk q c hq hc) _ _ hx)
  obtain ⟨k, b, n, s, o, m, c, o2, m2, c2', e⟩ := isV_six hv
  simp only [Value.agg.injEq, Array.mk.injEq, List.cons.injEq, and_true] at e
  obtain ⟨rfl, rfl, rfl, rfl, rfl, rfl⟩ := e
  have g0 := hk _ _ (by rw [add_block]; exact ha) g0
  have g1 := hk _ _ (by rw [add_block]; exact ha) g1
  have g2 := hk _ _ (by rw [add_block]; exact ha) g2
  have g3 := hk _ _ (by rw [add_block]; exact ha) g3
  have g4 := hk _ _ (by rw [add_block]; exact ha) g4
  have g5 := hk _ _ (by rw [add_block]; exact ha) g5
  rw [add_succ _ _ _ (by decide)] at g1 g2 g3 g4 g5
  exact ⟨k, b, n, s, o, m, c, o2, m2, c2', g0, g1, g2, g3, g4, g5, hx, hv⟩
theorem but_self (x : V) : butB x x = true := by unfold butB; simp
theorem infoP10 : (Tryz.prog.info? 136).map (fun i => (i.zero, i.size, i.bytes)) = some (some (.agg #[.slice none 0 0, .slice none 0 0]), 2, 48) := by kernel_rfl
end Go.Proofs.YtdckldfekepopaaGreatDoor
