/-
  What a loop's round keeps of memory; small laws on worlds. · The library's slices.Values over a list of values. · The program's depth. · A loop over an iterator that keeps rows of its own in memory, behind whatever the loop's round holds: the law by which the caller walks.
-/
import Derived.RangeFuncNested
import Derived.RangeFuncBound
import Derived.RangeFuncCalls
import Derived.RangeFuncLeaves
import Derived.Shelf.Abstract
import Derived.Shelf.RegionOpen
import Derived.WalkKit
import Derived.OwnWalkIn
import Derived.TacticsInMore
import Derived.LoopNIn
import Derived.LoopIn
import Derived.Deep.LoopGhost
import Derived.Test.YtlamkadllbgamaaGreatDoorGB
import Derived.Test.YtlamkadllbgamaaGreatDoorBase
set_option linter.unusedVariables false
set_option linter.unusedSimpArgs false
namespace Go.Proofs.YtlamkadllbgamaaGreatDoor
open Go.RowKit Go.Shelf

theorem grown_bel {w w' : World} (h : Below w.heap.size w w') : w.grownBy w' none := ⟨h.os, h.tape, h.output, h.size, fun k hk _ => h.block k hk⟩
theorem keeps_below {W W' : World} (hb : Below W.heap.size W W') : KeepsOthers W W' :=
  ⟨hb.size, fun j o hj _ => (hb.block j (Array.getElem?_eq_some_iff.1 hj).1).trans hj⟩
/-- All below lo stays, and every cell's block from hi on. -/
def KC (lo hi : Nat) (W W' : World) : Prop := Below lo W W' ∧ ∀ (b : Nat) (o : Obj), hi ≤ b → W.heap[b]? = some o → o.isCells = true → W'.heap[b]? = some o
theorem kc_refl (lo hi : Nat) (W : World) : KC lo hi W W := ⟨Below.refl _ _, fun _ _ _ h _ => h⟩
theorem kc_t {lo hi : Nat} {X Y Z : World} (h : KC lo hi X Y) (k : KC lo hi Y Z) : KC lo hi X Z := ⟨h.1.trans k.1, fun b o hb hx hc => k.2 b o hb (h.2 b o hb hx hc) hc⟩
theorem kc_b {lo hi z : Nat} (hm : lo ≤ z) (W : World) (l : Nat) (o o' : Obj) (hl : z ≤ l) (h1 : W.heap[l]? = some o) (h2 : o.isCells = false) (h3 : o.isWalk = false) : KC lo hi W (W.putObj l o') :=
  ⟨(Below.refl lo W).grown (grownBy_putObj' W l o') (by have := (Array.getElem?_eq_some_iff.1 h1).1; omega) (fun k e => by cases e; omega),
   fun b q _ hb hc => by
    by_cases e : b = l
    · subst e; rw [h1] at hb; cases hb; rw [h2] at hc; cases hc
    · exact (World.putObj_heap_other e).trans hb⟩
theorem kc_below {lo hi : Nat} {W W' : World} (hb : Below W.heap.size W W') (h : lo ≤ W.heap.size) : KC lo hi W W' :=
  ⟨hb.mono h, fun b o _ hx _ => (hb.block b (Array.getElem?_eq_some_iff.1 hx).1).trans hx⟩
theorem kc_set {lo hi B : Nat} {W : World} (v : Value) (h1 : lo ≤ B) (h2 : B < hi) (h3 : lo ≤ W.heap.size) : KC lo hi W (W.setCell ⟨B, 0, none⟩ v) :=
  ⟨(Below.refl lo W).setCell (p := ⟨B, 0, none⟩) h1 _, fun b o hb hx _ => ((grownBy_setCell' W B v).block b (Array.getElem?_eq_some_iff.1 hx).1 (by intro e; cases e; omega)).trans hx⟩
theorem KC.cell {lo hi : Nat} {W W' : World} (h : KC lo hi W W') (a : Addr) (c : Value) (ha : a.block < lo ∨ hi ≤ a.block) (hc : W.cell? a = some c) : W'.cell? a = some c := by
  rcases ha with ha | ha
  · exact (h.1.cell ha).trans hc
  · have hc2 := hc
    unfold World.cell? at hc2
    cases ho : W.heap[a.block]? with
    | none => rw [ho] at hc2; cases hc2
    | some o =>
      rw [ho] at hc2
      have hoc : o.isCells = true := by
        cases o <;> first | rfl | (simp at hc2)
      exact (World.cell?_of_block (h := (h.2 _ o ha ho hoc).trans ho.symm)).trans hc
theorem boxed_kc {lo hi B : Nat} {t : TypeId} {v : Value} {W W' : World} (h : KC lo hi W W') (hB : B < lo ∨ hi ≤ B) (hb : Boxed W B t v) : Boxed W' B t v := by
  rcases hB with hB | hB
  · exact (h.1.block B hB).trans hb
  · exact h.2 B _ hB hb rfl
theorem spot_none {W : World} {a : Addr} {c : Value} (h : W.cell? a = some c) : a = ⟨a.block, a.off, none⟩ := by
  obtain ⟨b, o, s⟩ := a
  cases s with
  | none => rfl
  | some s =>
    exfalso
    unfold World.cell? at h
    dsimp only at h
    split at h <;> simp at h
/-- An element's cells, written out. -/
theorem isVs_sl {W : World} (l : List V) (a : Addr) (i : Nat) (h : i < l.length) (hs : isVs W l a) :
    ∃ (k : Int) (b : Bool) (n : Int) (s : ByteArray) (o : Option Addr) (m c : Nat) (o2 : Option Addr) (m2 c2 : Nat), W.cell? (a.add (i * 6)) = some (.int .i8 k) ∧ W.cell? ⟨(a.add (i * 6)).block, (a.add (i * 6)).off + 1, none⟩ = some (.bool b) ∧ W.cell? ⟨(a.add (i * 6)).block, (a.add (i * 6)).off + 2, none⟩ = some (.int .i64 n) ∧ W.cell? ⟨(a.add (i * 6)).block, (a.add (i * 6)).off + 3, none⟩ = some (.string s) ∧ W.cell? ⟨(a.add (i * 6)).block, (a.add (i * 6)).off + 4, none⟩ = some (.slice o m c) ∧ W.cell? ⟨(a.add (i * 6)).block, (a.add (i * 6)).off + 5, none⟩ = some (.slice o2 m2 c2) ∧ isV W l[i] (.agg #[.int .i8 k, .bool b, .int .i64 n, .string s, .slice o m c, .slice o2 m2 c2]) := by
  obtain ⟨c0, c1, c2, c3, c4, c5, g0, g1, g2, g3, g4, g5, hx⟩ := isVs_at l a i h hs
  have hx2 := hx
  generalize l[i] = X at hx hx2
  obtain ⟨k, b, n, s, l2, ks⟩ := X
  unfold isV at hx2
  obtain ⟨lv, kv, he, _, _, _, ⟨a1, p1, ⟨o, rfl, _⟩, _⟩, ⟨a2, p2, ⟨o2, rfl, _⟩, _⟩⟩ := hx2
  simp only [Value.agg.injEq, Array.mk.injEq, List.cons.injEq, and_true] at he
  obtain ⟨rfl, rfl, rfl, rfl, rfl, rfl⟩ := he
  exact ⟨_, _, _, _, _, _, _, _, _, _, g0, g1, g2, g3, g4, g5, hx⟩
/-- A struct in a new block, and three boxes. -/
theorem boxes4 (w : World) (o0 : Obj) (t1 : TypeId) (v1 : Value) (t2 : TypeId) (v2 : Value) (t3 : TypeId) (v3 : Value) :
    ∃ W0, (((w.alloc o0).alloc (.cells #[v1] t1)).alloc (.cells #[v2] t2)).alloc (.cells #[v3] t3) = W0 ∧ Below w.heap.size w W0 ∧ W0.heap.size = w.heap.size + 1 + 1 + 1 + 1 ∧ Boxed W0 (w.heap.size + 1) t1 v1 ∧ Boxed W0 (w.heap.size + 1 + 1) t2 v2 ∧ Boxed W0 (w.heap.size + 1 + 1 + 1) t3 v3 := by
  have b1 := ((Boxed.new (w.alloc o0) t1 v1).alloc (.cells #[v2] t2)).alloc (.cells #[v3] t3)
  have b2 := (Boxed.new ((w.alloc o0).alloc (.cells #[v1] t1)) t2 v2).alloc (.cells #[v3] t3)
  have b3 := Boxed.new (((w.alloc o0).alloc (.cells #[v1] t1)).alloc (.cells #[v2] t2)) t3 v3
  simp only [World.size_alloc] at b1 b2 b3
  exact ⟨_, rfl, by go_grown, by simp, b1, b2, b3⟩
/-- The six fields of a struct in a block. -/
theorem six_cells {W : World} {B : Nat} {c0 c1 c2 c3 c4 c5 : Value} {t : TypeId} (h : W.heap[B]? = some (.cells #[c0, c1, c2, c3, c4, c5] t (0, 0))) :
    W.cell? ⟨B, 0, none⟩ = some c0 ∧ W.cell? ⟨B, 1, none⟩ = some c1 ∧ W.cell? ⟨B, 2, none⟩ = some c2 ∧ W.cell? ⟨B, 3, none⟩ = some c3 ∧ W.cell? ⟨B, 4, none⟩ = some c4 ∧ W.cell? ⟨B, 5, none⟩ = some c5 := by
  unfold World.cell?
  simp [h]
theorem isV_six {W : World} {x : V} {v : Value} (h : isV W x v) : ∃ (k : Int) (b : Bool) (n : Int) (s : ByteArray) (o : Option Addr) (m c : Nat) (o2 : Option Addr) (m2 c2 : Nat), v = .agg #[.int .i8 k, .bool b, .int .i64 n, .string s, .slice o m c, .slice o2 m2 c2] := by
  obtain ⟨k, b, n, s, l2, ks⟩ := x
  unfold isV at h
  obtain ⟨lv, kv, rfl, _, _, _, ⟨a1, p1, ⟨o, rfl, _⟩, _⟩, ⟨a2, p2, ⟨o2, rfl, _⟩, _⟩⟩ := h
  exact ⟨_, _, _, _, _, _, _, _, _, _, rfl⟩
/-- A block of cells abides what turns none. -/
theorem block_own (B : Nat) (cs : Array Value) (t : TypeId) : Own (fun (_ : Unit) W => W.heap[B]? = some (.cells cs t (0, 0))) := fun s X Y row hs hg hrow =>
  (hg.block B (Array.getElem?_eq_some_iff.1 hs).1 (fun e => by obtain ⟨o, ho, hc⟩ := hrow B e.symm; rw [hs] at ho; cases ho; cases hc)).trans hs
end Go.Proofs.YtlamkadllbgamaaGreatDoor

namespace Go.Proofs.YtlamkadllbgamaaGreatDoor
open Go.RowKit Go.Shelf
attribute [local go_sem] Oper.semAt_some

/-- A value and how it lies; of the value holds Q. -/
def El (w0 : World) (Q : V → Prop) : Type := { p : V × Value // isV w0 p.1 p.2 ∧ Q p.1 }
def encEl {w0 : World} {Q : V → Prop} (x : El w0 Q) : Array Value := #[x.1.2]

theorem values_in (n : Nat) (o : Option Addr) (len cap : Nat) (w : World) :
    CallsIn Fence.wide n Tryz.prog 84 #[.slice o len cap] w fun e w' => e = .returned (.func (.func 94) #[] #[.pointer (some ⟨w.heap.size, 0, none⟩)]) ∧ w' = w.alloc (.cells #[.slice o len cap] 30) := by
  refine callsIn_of_wp Tryz.func84 rfl trivial ?_ rfl
  simp only [Tryz.ntmps84, List.size_toArray, List.length_cons, List.length_nil, Nat.reduceAdd, Nat.reduceSub, Array.replicate_succ, Array.replicate_zero, List.push_toArray, List.append_toArray, List.nil_append, List.cons_append]
  gi_wp2
  go_ret
  exact ⟨rfl, rfl⟩

set_option maxRecDepth 100000 in
set_option maxHeartbeats 2000000 in
theorem values1_in (n : Nat) (hn : 1 ≤ n) (w0 : World) (hi : Nat) (Q : V → Prop) (L : List V) (hQ : ∀ y ∈ L, Q y) (hL : L.length ≤ 1000000) (o : Option Addr) (a : Addr) (cap : Nat) (ho : 0 < L.length → o = some a) (hvs : isVs w0 L a) (l Bs : Nat) (J Jx : List (El w0 Q) → World → Prop)
    (W : World) (hW : Below w0.heap.size w0 W) (hJ : AbidesFrom W.heap.size J)
    (hY : ∀ pre x W1, J pre W1 → pre.length < L.length → YieldAt Fence.wide (n - 1) Tryz.prog l (encEl x) W1 fun e W' =>
      (e = .returned (.bool true) ∧ J (pre ++ [x]) W' ∧ KC w0.heap.size hi W1 W') ∨ (e = .returned (.bool false) ∧ Jx (pre ++ [x]) W'))
    (hBs : W.cell? ⟨Bs, 0, none⟩ = some (.slice o L.length cap)) (h0 : J [] W) :
    CallsIn Fence.wide n Tryz.prog 94 #[.func (.yield l) #[] #[], .pointer (some ⟨Bs, 0, none⟩)] W fun e W' => (∃ v, e = .returned v) ∧
      ((∃ xs, xs.map (·.1.1) = L ∧ J xs W') ∨ (∃ pre, pre.map (·.1.1) <+: L ∧ Jx pre W')) := by
  have HV : Hid (isVs w0 L a) := Lib.hid hvs
  clear hvs
  refine callsIn_of_wp Tryz.func94 rfl trivial ?_ rfl
  simp only [Tryz.ntmps94, List.size_toArray, List.length_cons, List.length_nil, Nat.reduceAdd, Nat.reduceSub, Array.replicate_succ, Array.replicate_zero, List.push_toArray, List.append_toArray, List.nil_append, List.cons_append]
  gi_wp2
  gi_loopw [7] (fun i wr => ∃ (k : Nat) (pre : List (El w0 Q)), k ≤ L.length ∧ i = .int .i64 k ∧ Hid (pre.map (·.1.1) = L.take k) ∧ J pre wr ∧ Below w0.heap.size w0 wr)
    (fun i _ => L.length - (intOf i).toNat)
  case atStart => exact ⟨0, [], Nat.zero_le _, rfl, Lib.hid rfl, h0, hW⟩
  case round =>
    obtain ⟨k, pre, hk, rfl, hpre, hJs, hnx⟩ := hrel
    by_cases hlt : k < L.length
    · obtain rfl := ho (by omega)
      obtain ⟨k', b', n', s', o1, m1, p1, o2, m2, p2, g0, g1, g2, g3, g4, g5, hx5⟩ := isVs_sl L a k hlt HV.out
      have r0 := cell_below hnx _ _ g0
      have r1 := cell_below hnx _ _ g1
      have r2 := cell_below hnx _ _ g2
      have r3 := cell_below hnx _ _ g3
      have r4 := cell_below hnx _ _ g4
      have r5 := cell_below hnx _ _ g5
      have hpl : pre.length = k := by
        have := congrArg List.length hpre.out
        rw [List.length_map, List.length_take] at this; omega
      have HX := Lib.hid hx5
      have HR := Lib.hid hnx
      have HJ := Lib.hid hJs
      clear g0 g1 g2 g3 g4 g5 hx5 hnx hJs
      obtain ⟨X, hXe⟩ : ∃ X : El w0 Q, X.1 = (L[k], .agg #[.int .i8 k', .bool b', .int .i64 n', .string s', .slice o1 m1 p1, .slice o2 m2 p2]) := ⟨⟨_, HX.out, hQ _ (List.getElem_mem _)⟩, rfl⟩
      have hen : encEl X = #[.agg #[.int .i8 k', .bool b', .int .i64 n', .string s', .slice o1 m1 p1, .slice o2 m2 p2]] := by unfold encEl; rw [hXe]
      obtain ⟨fn, tmps, assign, body, hy, hR⟩ := hY pre X (wr.alloc (.cells #[.int .i8 k', .bool b', .int .i64 n', .string s', .slice o1 m1 p1, .slice o2 m2 p2] 33))
        (hJ _ _ _ none HJ.out (World.grownBy_alloc _ _ _) (fun r e => by cases e)) (by omega)
      rw [hen] at hy
      have HP : Hid ((pre ++ [X]).map (fun x : El w0 Q => x.1.1) = L.take (k + 1)) := Lib.hid (by rw [List.map_append, hpre.out, List.take_succ_eq_append_getElem hlt, List.map_cons, hXe]; rfl)
      have HR2 := Lib.hid hR
      clear hR hen hXe
      gi_wp2_with fail
      refine HR2.out.mono ?_
      rintro e W3 (⟨rfl, hJ3, hk3⟩ | ⟨rfl, hJx3⟩)
      · have HJ3 := Lib.hid hJ3
        have HK3 := Lib.hid hk3
        clear hJ3 hk3
        gi_wp2_with fail
        go_roundw
        case rel => exact ⟨k + 1, _, by omega, by go_num, HP, HJ3.out, (HR.out.alloc HR.out.size _).trans HK3.out.1⟩
        case measure => simp [intOf]; omega
      · have HJ3 := Lib.hid hJx3
        clear hJx3
        gi_wp2_with fail
        refine bodyPost_ret (results_none rfl _ _ _) rfl ?_
        exact ⟨⟨_, rfl⟩, .inr ⟨_, by rw [HP.out]; exact List.take_prefix _ _, HJ3.out⟩⟩
    · have HJ := Lib.hid hJs
      obtain rfl : k = L.length := by omega
      gi_wp2_with fail
      go_end0
      exact ⟨⟨_, rfl⟩, .inl ⟨_, by rw [hpre.out, List.take_length], HJ.out⟩⟩

/-- slices.Values(L): all of L, in order; or a beginning. -/
theorem values_stops (n : Nat) (hn : 1 ≤ n) (w0 : World) (hi : Nat) (Q : V → Prop) (L : List V) (hQ : ∀ y ∈ L, Q y) (hL : L.length ≤ 1000000) (o : Option Addr) (a : Addr) (cap : Nat) (ho : 0 < L.length → o = some a) (hvs : isVs w0 L a) (Bs : Nat) (w : World) (hw : Below w0.heap.size w0 w)
    (hB : Bs < w.heap.size) (hBs : w.cell? ⟨Bs, 0, none⟩ = some (.slice o L.length cap)) :
    SeqStopsK Fence.wide n Tryz.prog 94 #[.pointer (some ⟨Bs, 0, none⟩)] (encEl (w0 := w0) (Q := Q)) (KC w0.heap.size hi) (fun xs => xs.map (·.1.1) = L) (fun pre => pre.map (·.1.1) <+: L) L.length w := fun l J Jx W hW hJ _ hY h0 =>
  values1_in n hn w0 hi Q L hQ hL o a cap ho hvs l Bs J Jx W (hw.trans (hW.mono hw.size)) hJ hY ((hW.cell (p := ⟨Bs, 0, none⟩) hB).trans hBs) h0
end Go.Proofs.YtlamkadllbgamaaGreatDoor

namespace Go.Proofs.YtlamkadllbgamaaGreatDoor
open Go.RowKit Go.Shelf
attribute [local go_sem] Oper.semAt_some

theorem boxed_drew {W w5 : World} {B : Nat} {t : TypeId} {v : Value} (h : Boxed W B t v) (hb : Below W.drew.heap.size W.drew w5) : Boxed w5 B t v :=
  Boxed.kept (W := W.drew) h (grown_bel hb) (by simp)
theorem below_drew_of {W w5 : World} (h : Below W.drew.heap.size W.drew w5) : Below W.heap.size W w5 := Below.trans (⟨rfl, rfl, rfl, Nat.le_refl _, fun _ _ => rfl⟩ : Below W.heap.size W W.drew) h
/-- How deep the parts that have come are, at most 'most'. -/
def depP (most : Nat) {w0 : World} {Q : V → Prop} (pre : List (El w0 Q)) : Nat := min (depthVs (pre.map (·.1.1))) most

set_option maxRecDepth 100000 in
set_option maxHeartbeats 4000000 in
theorem pdepth_any : ∀ (most : Nat) (x : V) (v : Value) (w : World), most ≤ 1000 → sizeV x ≤ 1000000 → isV w x v →
    Calls Tryz.prog 75 #[v, .int .i64 most] w fun e w' => e = .returned (.int .i64 (min (depthV x) (most + 1) : Nat)) ∧ Below w.heap.size w w'
  | 0, x, v, w, _, hM, h => by
    have hp := depthV_pos x
    rw [show min (depthV x) (0 + 1) = 1 by omega]
    obtain ⟨k, b, n, s, l, ks⟩ := x
    unfold isV at h
    obtain ⟨lv, kv, rfl, _⟩ := h
    go_enter Tryz.func75, Tryz.ntmps75
    go_wp2
    go_ret
    exact ⟨rfl, by go_grown⟩
  | most + 1, x, v, w, hm, hM, h => by
    have HI : Hid (∀ (y : V) (u : Value) (w1 : World), sizeV y ≤ 1000000 → isV w1 y u → Calls Tryz.prog 75 #[u, .int .i64 most] w1 fun e w' => e = .returned (.int .i64 (min (depthV y) (most + 1) : Nat)) ∧ Below w1.heap.size w1 w') := Lib.hid fun y u w1 h1 h2 => pdepth_any most y u w1 (by omega) h1 h2
    obtain ⟨k, b, n, s, l, ks⟩ := x
    unfold isV at h
    obtain ⟨lv, kv, rfl, hk, hn, hs, ⟨a, cap, ⟨o, rfl, hc1, hc2, ho⟩, hvs⟩, ⟨a2, cap2, ⟨o2, rfl, hc3, hc4, ho2⟩, hks⟩⟩ := h
    unfold maxLen at hs hc2 hc4
    have HD : Hid (depthV (.mk k b n s l ks) = 1 + depthVs l) := Lib.hid (by rw [depthV])
    have hls := sizeVs_len l
    obtain ⟨r, hr⟩ : ∃ r : Nat, min (depthV (.mk k b n s l ks)) (most + 1 + 1) = r := ⟨_, rfl⟩
    rw [hr]
    have HR := Lib.hid hr
    clear hr
    have HS : Hid (l.length ≤ 1000000 ∧ ∀ i (h : i < l.length), sizeV l[i] ≤ 1000000) := Lib.hid (by
      have hsz : sizeV (.mk k b n s l ks) = 1 + s.size + keysS ks + sizeVs l := by rw [sizeV]
      exact ⟨by omega, fun i h => by have := sizeVs_get l i h; omega⟩)
    have HV : Hid (isVs w l a) := Lib.hid hvs
    have hl0 : ((most : Int) + 1 == 0) = false := by rw [beq_eq_false_iff_ne]; omega
    clear hvs hks hk hn ho2 hls hM
    refine (callsIn_wide (n := 9)).1 ?_
    refine callsIn_of_wp_marks Tryz.func75 rfl trivial ?_ rfl
    simp only [Tryz.ntmps75, List.size_toArray, List.length_cons, List.length_nil, Nat.reduceAdd, Nat.reduceSub, Array.replicate_succ, Array.replicate_zero, List.push_toArray, List.append_toArray, List.nil_append, List.cons_append]
    rw [show ((most + 1 : Nat) : Int) = (most : Int) + 1 by omega]
    gi_wp2_with fail
    refine ⟨trivial, ?_⟩
    refine (values_in _ _ _ _ _).mono ?_
    rintro e w' ⟨rfl, rfl⟩
    gi_wp2_with fail
    obtain ⟨W0, hW0, hB0, hsz, bM, bB, bS⟩ := boxes4 w (.cells #[.int .i8 k, .bool b, .int .i64 n, .string s, .slice o l.length cap, .slice o2 ks.length cap2] 33) 3 (.int .i64 ((most : Int) + 1)) 3 (.int .i64 0) 30 (.slice o l.length cap)
    rw [hW0]
    clear hW0
    refine wpIn_rangeFunc_ownH rfl (by omega) (gf := 94) (lb := #[.pointer (some ⟨w.heap.size + 1 + 1 + 1, 0, none⟩)]) rfl trivial (enters_of Tryz.func94 (by kernel_rfl) rfl)
      (values_stops (9 - 1) (by omega) w (w.heap.size + 1 + 1 + 1 + 1) (fun y => sizeV y ≤ 1000000) l ?hQ HS.out.1 o a cap ho HV.out (w.heap.size + 1 + 1 + 1) W0 hB0 (by omega) bS.cell) kc_t (kc_b (by omega)) (Below.refl _ _) (fun _ => rfl)
      (fun pre W => (Boxed W (w.heap.size + 1) 3 (.int .i64 ((most : Int) + 1)) ∧ Boxed W (w.heap.size + 1 + 1) 3 (.int .i64 (depP (most + 1) pre : Nat))) ∧ (Below w.heap.size w W ∧ depP (most + 1) pre ≤ most))
      (fun c pre W => c = .exit 0 ∧ Boxed W (w.heap.size + 1 + 1) 3 (.int .i64 (most + 1 : Nat)) ∧ (Below w.heap.size w W ∧ depP (most + 1) pre = most + 1))
      ?hI ?hIx ?h0
      (fun x a' W => ∃ (Bx : Nat) (k' : Int) (b' : Bool) (n' : Int) (s' : ByteArray) (o1 : Option Addr) (m1 p1 : Nat) (o3 : Option Addr) (m3 p3 : Nat), x.1.2 = .agg #[.int .i8 k', .bool b', .int .i64 n', .string s', .slice o1 m1 p1, .slice o3 m3 p3] ∧ W.heap[Bx]? = some (.cells #[.int .i8 k', .bool b', .int .i64 n', .string s', .slice o1 m1 p1, .slice o3 m3 p3] 33 (0, 0)) ∧ a' = {
      tmps :=
        #[Value.agg
            #[Value.int IntKind.i8 k, Value.bool b, Value.int IntKind.i64 n, Value.string s, Value.slice o l.length cap,
              Value.slice o2 ks.length cap2],
          Value.int IntKind.i64 (↑most + 1), Value.pointer (some { block := w.heap.size, off := 0 }),
          Value.pointer (some { block := w.heap.size + 1, off := 0 }), Value.int IntKind.i64 0,
          Value.pointer (some { block := w.heap.size + 1 + 1, off := 0 }), .pointer (some ⟨Bx, 0, none⟩), Value.int IntKind.i64 (↑most + 1),
          Value.bool false, Value.pointer (some { block := w.heap.size, off := 4 }), Value.slice o l.length cap,
          Value.func (Fn.func 94) #[] #[Value.pointer (some { block := w.heap.size + 1 + 1 + 1, off := 0 })], .agg #[.int .i8 k', .bool b', .int .i64 n', .string s', .slice o1 m1 p1, .slice o3 m3 p3],
          undef, undef, undef, undef, undef, undef, undef, undef, undef, undef, undef],
      defers := [] })
      ?hAx ?assign ?body ?done ?stop
    case hQ => 
      intro y hy
      obtain ⟨i, hi, rfl⟩ := List.getElem_of_mem hy
      exact HS.out.2 i hi
    case hI => exact OwnFrom.and (OwnFrom.and (Own.from (boxed_own _ _ _) _) (Own.from (boxed_own _ _ _) _)) (OwnFrom.and (ownFrom_below (Nat.le_refl _) (by omega)) (ownFrom_pure _ _))
    case hIx =>
      intro c
      exact OwnFrom.and (ownFrom_pure _ _) (OwnFrom.and (Own.from (boxed_own _ _ _) _) (OwnFrom.and (ownFrom_below (Nat.le_refl _) (by omega)) (ownFrom_pure _ _)))
    case h0 =>
      have e : depP (most + 1) ([] : List (El w (fun y => sizeV y ≤ 1000000))) = 0 := by unfold depP; simp [depthVs]
      exact ⟨⟨bM, by rw [e]; exact bB⟩, hB0, by rw [e]; omega⟩
    case hAx =>
      rintro x a' _ X Y row ⟨Bx, k', b', n', s', o1, m1, p1, o3, m3, p3, h1, h2, h3⟩ hg hr
      exact ⟨Bx, k', b', n', s', o1, m1, p1, o3, m3, p3, h1, block_own Bx _ _ () X Y row h2 hg (fun r e => (hr r e).2), h3⟩
    case assign =>
      rintro l' pre x W K ⟨⟨b1, b2⟩, hB1, hd⟩ hK
      obtain ⟨k', b', n', s', o1, m1, p1, o3, m3, p3, hx⟩ := isV_six x.2.1
      have hen : encEl x = #[.agg #[.int .i8 k', .bool b', .int .i64 n', .string s', .slice o1 m1 p1, .slice o3 m3 p3]] := by unfold encEl; rw [hx]
      rw [hen]
      have HK := Lib.hid hK
      clear hK
      gi_wp2_with fail
      refine HK.out _ _ ?_ ?_ ?_ ⟨W.heap.size, k', b', n', s', o1, m1, p1, o3, m3, p3, hx, ?_, rfl⟩
      · exact (KeepsOthers.alloc _ _).from _
      · exact kc_below (by go_grown) hB1.size
      · exact ⟨⟨b1.alloc _, b2.alloc _⟩, hB1.alloc hB1.size _, hd⟩
      · exact World.alloc_heap_new W _
    case body =>
      rintro l' pre x a' W hl _ ⟨⟨b1, b2⟩, hB1, hd⟩ ⟨Bx, k', b', n', s', o1, m1, p1, o3, m3, p3, hx, hbx, rfl⟩ hlen
      obtain ⟨r0, r1, r2, r3, r4, r5⟩ := six_cells hbx
      have hv5 := x.2.1
      rw [hx] at hv5
      have HC : Hid (∀ W1, Below w.heap.size w W1 → Calls Tryz.prog 75 #[.agg #[.int .i8 k', .bool b', .int .i64 n', .string s', .slice o1 m1 p1, .slice o3 m3 p3], .int .i64 most] W1 fun e w' => e = .returned (.int .i64 (min (depthV x.1.1) (most + 1) : Nat)) ∧ Below W1.heap.size W1 w') := Lib.hid fun W1 h1 => HI.out _ _ W1 x.2.2 (isV_below h1 hv5)
      have hN : depP (most + 1) (pre ++ [x]) = max (depP (most + 1) pre) (min (depthV x.1.1) (most + 1)) := by
        unfold depP
        rw [List.map_append, depthVs_app]
        simp only [List.map_cons, List.map_nil, depthVs]
        omega
      have c1 := b1.cell
      have c2 := b2.cell
      have f2 := b2.frozen
      have B1 := Lib.hid b1
      have B2 := Lib.hid b2
      have HB := Lib.hid hB1
      obtain ⟨y, hy⟩ : ∃ y, depP (most + 1) pre = y := ⟨_, rfl⟩
      obtain ⟨z, hz⟩ : ∃ z, min (depthV x.1.1) (most + 1) = z := ⟨_, rfl⟩
      rw [hz] at HC hN
      rw [hy] at c2 hN hd B2
      obtain ⟨q, hq⟩ : ∃ q : Nat, q = max y z := ⟨_, rfl⟩
      have hqi : (if y < z then (z : Int) else (y : Int)) = (q : Int) := by split <;> omega
      have hzm : z ≤ most + 1 := by omega
      have hq2 : q ≤ most + 1 := by omega
      have HN : Hid (depP (most + 1) (pre ++ [x]) = q) := Lib.hid (by rw [hN, hq])
      clear hbx hv5 hN hx hz hy b1 b2 hB1 hq
      have hwr : IntKind.i64.wrap (most : Int) = (most : Int) := by rw [IntKind.wrap_i64]; omega
      have hmx : Tryz.prog.follows .mixedOrders = true := by kernel_rfl
      gi_wp2_with fail
      gi_region_with_o (refine ⟨trivial, ?_⟩; refine (CallsIn.inRound l' (callsIn_wide.2 (HC.out _ (by first | exact HB.out | exact HB.out.drew)))).mono ?_; rintro e w5 ⟨rfl, hb5⟩; have k2 := boxed_drew B2.out hb5; have k1 := boxed_drew B1.out hb5; have cc2 := k2.cell; have ff2 := k2.frozen; have K2 := Lib.hid k2; have K1 := Lib.hid k1; have HB5 := Lib.hid hb5; clear k1 k2 hb5)
      all_goals
        clear cc2 ff2 hqi hwr hmx r0 r1 r2 r3 r4 r5 c1 c2 f2
        have m2 := K2.out.set (.int .i64 q)
        have m1 := K1.out.other (B' := w.heap.size + 1 + 1) (by omega) (.int .i64 q)
        have c3 := m2.cell
        have c4 := m1.cell
        have M2 := Lib.hid m2
        have M1 := Lib.hid m1
        clear m1 m2
        by_cases hqm : q = most + 1
        · have hqb : ((q : Int) == (most : Int) + 1) = true := by rw [beq_iff_eq]; omega
          have HQ := Lib.hid hqm
          clear hqm
          gi_wp2_with fail
          have hW5 : Below W.heap.size W w5 := below_drew_of HB5.out
          have hz5 := HB.out.size
          exact ⟨((keeps_below hW5).trans (KeepsOthers.setCell _ _ _)).from _, rfl, by rw [← HQ.out]; exact M2.out, (HB.out.trans (hW5.mono hz5)).setCell (p := ⟨w.heap.size + 1 + 1, 0, none⟩) (by simp; omega) _, by rw [HN.out, HQ.out]⟩
        · have hqb : ((q : Int) == (most : Int) + 1) = false := by rw [beq_eq_false_iff_ne]; omega
          gi_wp2_with fail
          have hW5 : Below W.heap.size W w5 := below_drew_of HB5.out
          have hz5 := HB.out.size
          have hz6 := hW5.size
          exact ⟨((keeps_below hW5).trans (KeepsOthers.setCell _ _ _)).from _, kc_t (kc_below hW5 hz5) (kc_set _ (by omega) (by omega) (by omega)), ⟨M1.out, by rw [HN.out]; exact M2.out⟩, (HB.out.trans (hW5.mono hz5)).setCell (p := ⟨w.heap.size + 1 + 1, 0, none⟩) (by simp; omega) _, by rw [HN.out]; omega⟩
    case done =>
      rintro D xs W hD hS ⟨⟨b1, b2⟩, hB1, hd⟩ hK
      have hR : min (depthV (.mk k b n s l ks)) (most + 1 + 1) = depP (most + 1) xs + 1 := by
        rw [HD.out]; unfold depP at *; rw [hS] at *; omega
      obtain ⟨y, hy⟩ : ∃ y, depP (most + 1) xs = y := ⟨_, rfl⟩
      rw [hy, HR.out] at hR
      rw [hy] at b2 hd
      have HRR := Lib.hid hR
      have c2 := b2.cell
      have HB := Lib.hid hB1
      have HK := Lib.hid hK
      clear hS hR hy b1 b2 hB1 hK hl0 ho hB0 bM bB bS
      gi_wp2_with fail
      refine ⟨by simp, .inl ⟨_, _, rfl, run_takeDeferred HK.out, ?_⟩⟩
      refine ⟨_, results_tmp rfl _ _ _, ?_, HB.out.trans (belowK_b (w := w) (Nat.le_refl _) W D _ _ (by omega) HK.out rfl rfl)⟩
      show Ending.returned (.int .i64 ((y : Int) + 1)) = _
      exact ret_int (by have := HRR.out; omega)
    case stop =>
      rintro D c pre W hD hS ⟨rfl, b2, hB1, hd⟩ hK
      have hR : min (depthV (.mk k b n s l ks)) (most + 1 + 1) = most + 1 + 1 := by
        obtain ⟨t, ht⟩ := hS
        rw [HD.out, ← ht, depthVs_app]; unfold depP at hd; omega
      rw [HR.out] at hR
      have HRR := Lib.hid hR
      have c2 := b2.cell
      have HB := Lib.hid hB1
      have HK := Lib.hid hK
      clear hS hR hd b2 hB1 hK hl0 ho hB0 bM bB bS
      gi_wp2_with fail
      refine ⟨by simp, .inl ⟨_, _, rfl, run_takeDeferred HK.out, ?_⟩⟩
      refine ⟨_, results_tmp rfl _ _ _, ?_, HB.out.trans (belowK_b (w := w) (Nat.le_refl _) W D _ _ (by omega) HK.out rfl rfl)⟩
      show Ending.returned (.int .i64 ((most : Int) + 1 + 1)) = _
      exact ret_int (by have := HRR.out; omega)

end Go.Proofs.YtlamkadllbgamaaGreatDoor

namespace Go.Proofs.YtlamkadllbgamaaGreatDoor
open Go.RowKit Go.Shelf

/-- What is said stays, whatever block from B on is turned. -/
def Free {β : Type} (B : Nat) (J : β → World → Prop) : Prop := ∀ s W W' row, J s W → W.grownBy W' row → (∀ r, row = some r → B ≤ r) → J s W'
/-- An iterator that may write blocks of its own between two rounds. -/
def Seq {α : Type} (n g : Nat) (lb : Array Value) (encs : α → Array Value) (Kp : World → World → Prop) (S Sp : List α → Prop) (N : Nat) (w : World) : Prop :=
  ∀ (l : Nat) (J Jx : List α → World → Prop) (W : World), Below w.heap.size w W → Free W.heap.size J → Free W.heap.size Jx →
    (∀ pre x W1, J pre W1 → pre.length < N → YieldAt Fence.wide (n - 1) Tryz.prog l (encs x) W1 fun e W' => (e = .returned (.bool true) ∧ J (pre ++ [x]) W' ∧ Kp W1 W') ∨ (e = .returned (.bool false) ∧ Jx (pre ++ [x]) W')) →
    J [] W → CallsIn Fence.wide n Tryz.prog g (#[.func (.yield l) #[] #[]] ++ lb) W fun e W' => (∃ v, e = .returned v) ∧ ((∃ xs, S xs ∧ J xs W') ∨ (∃ pre, Sp pre ∧ Jx pre W'))
theorem Free.and {β : Type} {B : Nat} {J J' : β → World → Prop} (h : Free B J) (h' : Free B J') : Free B (fun s W => J s W ∧ J' s W) := fun s W W' row hs hg hr => ⟨h s W W' row hs.1 hg hr, h' s W W' row hs.2 hg hr⟩
theorem free_pure {β : Type} (B : Nat) (p : β → Prop) : Free B (fun s (_ : World) => p s) := fun _ _ _ _ hs _ _ => hs
theorem free_boxed {β : Type} {B N : Nat} (h : N < B) (t : TypeId) (f : β → Value) : Free B (fun s W => Boxed W N t (f s)) := fun s W W' row hs hg hr => hs.kept hg (fun e => by have := hr _ e.symm; omega)
theorem free_below {β : Type} {B m : Nat} {w : World} (h : m ≤ B) (hw : m ≤ w.heap.size) : Free B (fun (_ : β) W => Below m w W) := fun s W W' row hs hg hr => hs.grown hg (by have := hs.size; omega) (fun k e => by have := hr k e; omega)
theorem free_block {β : Type} {B N : Nat} (h : N < B) (f : β → Obj) : Free B (fun s W => W.heap[N]? = some (f s)) := fun s W W' row hs hg hr =>
  (hg.block N (Array.getElem?_eq_some_iff.1 hs).1 (fun e => by have := hr _ e.symm; omega)).trans hs
theorem Free.put {β : Type} {B : Nat} {J : β → World → Prop} (h : Free B J) {s : β} {W : World} {l : Nat} (o' : Obj) (hs : J s W) (hB : B ≤ l) : J s (W.putObj l o') := h s W _ (some l) hs (grownBy_putObj' W l o') (fun r e => by cases e; exact hB)
theorem Free.new {β : Type} {B : Nat} {J : β → World → Prop} (h : Free B J) {s : β} {W : World} (o : Obj) (hs : J s W) : J s (W.alloc o) := h s W _ none hs (World.grownBy_alloc W o none) (fun r e => by cases e)
theorem Free.up {β : Type} {B B' : Nat} {J : β → World → Prop} (h : Free B J) (hB : B ≤ B') : Free B' J := fun s W W' row hs hg hr => h s W W' row hs hg (fun r e => Nat.le_trans hB (hr r e))
theorem Free.step {β : Type} {B : Nat} {J : β → World → Prop} (h : Free B J) {s : β} {W W' : World} (hs : J s W) (hb : Below W.heap.size W W') : J s W' := h s W W' none hs (grown_bel hb) (fun r e => by cases e)

/-- The loop's two blocks: its record, and the calls that wait. -/
def Rec (w : World) (r : Loop) (W : World) : Prop := W.heap[w.heap.size + 1]? = some (.loop r) ∧ W.heap[w.heap.size]? = some (.deferred (some []))
theorem Rec.free {w : World} {r : Loop} {B : Nat} (hB : w.heap.size + 2 ≤ B) {W W' : World} {row : Option Nat} (h : Rec w r W) (hg : W.grownBy W' row) (hr : ∀ k, row = some k → B ≤ k) : Rec w r W' :=
  ⟨free_block (β := Unit) (N := w.heap.size + 1) (B := B) (by omega) (fun _ => .loop r) () W W' row h.1 hg hr, free_block (β := Unit) (N := w.heap.size) (B := B) (by omega) (fun _ => .deferred (some [])) () W W' row h.2 hg hr⟩
theorem Rec.put {w : World} {r r' : Loop} {W : World} (h : Rec w r W) : Rec w r' (W.putObj (w.heap.size + 1) (.loop r')) :=
  ⟨World.putObj_heap_same (Array.getElem?_eq_some_iff.1 h.1).1, (World.putObj_heap_other (by omega)).trans h.2⟩
theorem Rec.keep {w : World} {r : Loop} {W W' : World} (h : Rec w r W) (hk : KeepsFrom w.heap.size W W') : Rec w r W' :=
  ⟨hk.same _ _ (by omega) h.1 rfl, hk.same _ _ (Nat.le_refl _) h.2 rfl⟩

theorem range_own {α : Type} {n : Nat} {g : Operand} {ps : Array Tmp} {assign body : Code} {Q : Exit → Act → World → Prop} {a : Act} {w : World}
    (h1 : 1 ≤ n) {gf : Nat} {lb : Array Value} (hg : a.eval g = .func (.func gf) #[] lb) (eg : ∀ args w, (callFunc gf args).run Tryz.prog w = .ok (.enter gf args) w)
    {encs : α → Array Value} {Kp : World → World → Prop} {S Sp : List α → Prop} {N : Nat} {w0 : World} (hseq : Seq (n - 1) gf lb encs Kp S Sp N w0)
    (hKt : ∀ {A B C : World}, Kp A B → Kp B C → Kp A C) (hKb : ∀ (W : World) (l : Nat) (o o' : Obj), w.heap.size ≤ l → W.heap[l]? = some o → o.isCells = false → o.isWalk = false → Kp W (W.putObj l o')) (hb0 : Below w0.heap.size w0 w) (hps : ∀ x, (encs x).size = ps.size)
    (I : List α → World → Prop) (Ix : Code → List α → World → Prop) (hI : Free w.heap.size I) (hIx : ∀ c, Free w.heap.size (Ix c)) (h0 : I [] w) (Ax : α → Act → World → Prop)
    (hAx : ∀ x a' W l r o', w.heap.size ≤ l → W.heap[l]? = some (.loop r) → Ax x a' W → Ax x a' (W.putObj l o'))
    (hassign : ∀ (l : Nat) (pre : List α) (x : α) (W : World) (K : Act → World → Prop), I pre W → (∀ a' W', KeepsFrom w.heap.size W W' → Kp W W' → I pre W' → Ax x a' W' → K a' W') →
      assign.wpIn (Fence.wide.inRound l) (n - 1 - 1) Tryz.prog (Exit.then K (fun _ _ _ => False)) { tmps := (ps.zip (encs x)).foldl (fun t (p, v) => t.setIfInBounds p v) a.tmps, defers := [] } W)
    (hbody : ∀ (l : Nat) (pre : List α) (x : α) (a' : Act) (W : World), w.heap.size ≤ l → (∃ r, W.heap[l]? = some (.loop r)) → I pre W → Ax x a' W → pre.length < N → body.wpIn (Fence.wide.inRound l) (n - 1 - 1) Tryz.prog (ownPostG w.heap.size Kp I Ix (pre ++ [x]) W) a' W)
    (hdone : ∀ (D : Nat) (xs : List α) (W : World), w.heap.size ≤ D → S xs → I xs W → W.heap[D]? = some (.deferred (some [])) → Q .normal { a with defers := { target := .collected D, args := #[] } :: a.defers } W)
    (hstop : ∀ (D : Nat) (c : Code) (pre : List α) (W : World), w.heap.size ≤ D → Sp pre → Ix c pre W → W.heap[D]? = some (.deferred (some [])) → c.wpIn Fence.wide n Tryz.prog Q { a with defers := { target := .collected D, args := #[] } :: a.defers } W) :
    (Code.rangeFunc g ps assign body).wpIn Fence.wide n Tryz.prog Q a w := by
  refine wpIn_rangeFunc ?_
  intro fn hfn
  have HL : ∃ r0 : Loop, r0.state = .ready ∧ r0.params = ps ∧ r0.tmps = a.tmps ∧ r0.fn = fn ∧ r0.assign = assign ∧ r0.body = body ∧ r0.pending = none ∧ (Instr.enterLoop fn a.tmps ps assign body none).run Tryz.prog w = .ok (w.heap.size + 1, [{ target := .collected w.heap.size, args := #[] }]) ((w.alloc (.deferred (some []))).alloc (.loop r0)) :=
    ⟨_, rfl, rfl, rfl, rfl, rfl, rfl, rfl, run_enterLoop_outer _ _ _ _ _⟩
  obtain ⟨r0, e1, e2, e3, e4, e5, e6, e7, hrun⟩ := HL
  obtain ⟨W1, hW1⟩ : ∃ W1, (w.alloc (.deferred (some []))).alloc (.loop r0) = W1 := ⟨_, rfl⟩
  have hR1 : Rec w r0 W1 := by
    have x1 := World.alloc_heap_new (w.alloc (.deferred (some []))) (.loop r0)
    rw [World.size_alloc] at x1
    rw [← hW1]
    exact ⟨x1, (Below.heap_alloc _ _ _ (by simp)).trans (World.alloc_heap_new w _)⟩
  have hz1 : W1.heap.size = w.heap.size + 2 := by rw [← hW1]; simp
  have hI1 : I [] W1 := by rw [← hW1]; exact hI.new _ (hI.new _ h0)
  have hb1 : Below w0.heap.size w0 W1 := by
    have x1 : Below w.heap.size w W1 := by rw [← hW1]; go_grown
    exact hb0.trans (x1.mono hb0.size)
  rw [hW1] at hrun
  obtain ⟨rd, hrd⟩ : ∃ rd : Code → Loop, ∀ c, rd c = { r0 with state := .done, pending := some c } := ⟨_, fun _ => rfl⟩
  refine ⟨_, _, _, { target := .fn (.func gf) lb, args := #[.func (.yield (w.heap.size + 1)) #[] #[]] }, W1, gf, #[.func (.yield (w.heap.size + 1)) #[] #[]] ++ lb, W1, hrun, ?_, fun _ _ => trivial, ?_, fun _ => h1, ?_⟩
  · simp only [resolve, hg]
    simp [go_sem]
  · simp [invoke, go_sem, eg]
  refine (hseq (w.heap.size + 1) (fun pre W => I pre W ∧ Rec w r0 W) (fun pre W => ∃ c, Ix c pre W ∧ Rec w (rd c) W) W1 hb1
    (fun s A B row hs hg' hr => ⟨hI s A B row hs.1 hg' (fun r e => by have := hr r e; omega), hs.2.free (B := W1.heap.size) (by omega) hg' hr⟩)
    (fun s A B row hs hg' hr => by
      obtain ⟨c, hc, hl⟩ := hs
      exact ⟨c, hIx c s A B row hc hg' (fun r e => by have := hr r e; omega), hl.free (B := W1.heap.size) (by omega) hg' hr⟩)
    ?_ ⟨hI1, hR1⟩).mono ?_
  · rintro pre x W ⟨hi, hrec⟩ hlen
    have hy := run_yield (P := Tryz.prog) (args := encs x) hrec.1 (by rw [e2]; exact hps x)
    refine ⟨_, _, _, _, hy, ?_⟩
    rw [e2, e3, e4, e5, e6]
    refine roundIn_of_wpIn hfn (hassign _ pre x W _ hi ?_)
    intro a' Wa hkf hkp hia hax
    have hra := hrec.keep hkf
    refine ⟨_, run_beginRound hra.1 e1, ?_⟩
    obtain ⟨r1, hr1⟩ : ∃ r1 : Loop, { r0 with state := .busy } = r1 := ⟨_, rfl⟩
    rw [hr1]
    have hrb : Rec w r1 (Wa.putObj (w.heap.size + 1) (.loop r1)) := hra.put
    have hkb := hKb Wa (w.heap.size + 1) _ (.loop r1) (by omega) hra.1 rfl rfl
    refine wpIn_mono (hbody _ pre x a' _ (by omega) ⟨_, hrb.1⟩ (hI.put _ hia (by omega)) (hAx x a' Wa _ _ _ (by omega) hra.1 hax) hlen) ?_
    have stopped : ∀ (c : Code) (W3 : World), KeepsFrom w.heap.size (Wa.putObj (w.heap.size + 1) (.loop r1)) W3 → Ix c (pre ++ [x]) W3 →
        ∃ W4, (Instr.endRound (w.heap.size + 1) (some c)).run Tryz.prog W3 = .ok (.bool false) W4 ∧ ∃ c, Ix c (pre ++ [x]) W4 ∧ Rec w (rd c) W4 := fun c W3 hk hx => by
      have h3 := hrb.keep hk
      refine ⟨_, run_endRound (P := Tryz.prog) (some c) h3.1, c, (hIx c).put _ hx (by omega), ?_⟩
      have : ({ r1 with state := if (some c).isNone then .ready else .done, pending := some c } : Loop) = rd c := by rw [hrd, ← hr1]; rfl
      rw [this]
      exact h3.put
    rintro e a3 W3 hp
    cases e with
    | normal =>
      obtain ⟨hk3, hkp3, hi3⟩ := hp
      have h3 := hrb.keep hk3
      refine ⟨_, _, run_endRound (P := Tryz.prog) none h3.1, .inl ⟨rfl, ⟨hI.put _ hi3 (by omega), ?_⟩, hKt hkp (hKt (hKt hkb hkp3) (hKb _ _ _ _ (by omega) h3.1 rfl rfl))⟩⟩
      have : ({ r1 with state := if (none : Option Code).isNone then .ready else .done, pending := none } : Loop) = r0 := by
        rw [← hr1]
        cases r0
        simp_all
      rw [this]
      exact h3.put
    | ret =>
      obtain ⟨W4, hr, hx⟩ := stopped .ret W3 hp.1 hp.2
      exact ⟨_, _, hr, .inr ⟨rfl, hx⟩⟩
    | exit id =>
      obtain ⟨W4, hr, hx⟩ := stopped (.exit id) W3 hp.1 hp.2
      exact ⟨_, _, hr, .inr ⟨rfl, hx⟩⟩
    | goto t =>
      obtain ⟨W4, hr, hx⟩ := stopped (.goto t) W3 hp.1 hp.2
      exact ⟨_, _, hr, .inr ⟨rfl, hx⟩⟩
    | panic ch => exact hp.elim
    | outgrown => exact hp.elim
  · rintro e W2 ⟨⟨v, rfl⟩, (⟨xs, hS, hi, hr⟩ | ⟨pre, hSp, c, hi, hr⟩)⟩
    · refine ⟨_, _, run_endLoop (P := Tryz.prog) hr.1 (by rw [e1]; simp), ?_⟩
      rw [e7]
      exact hdone _ xs _ (Nat.le_refl _) hS (hI.put _ hi (by omega)) ((World.putObj_heap_other (by omega)).trans hr.2)
    · rw [hrd] at hr
      refine ⟨_, _, run_endLoop (P := Tryz.prog) hr.1 (by simp), ?_⟩
      exact hstop _ c pre _ (Nat.le_refl _) hSp ((hIx c).put _ hi (by omega)) ((World.putObj_heap_other (by omega)).trans hr.2)
end Go.Proofs.YtlamkadllbgamaaGreatDoor
