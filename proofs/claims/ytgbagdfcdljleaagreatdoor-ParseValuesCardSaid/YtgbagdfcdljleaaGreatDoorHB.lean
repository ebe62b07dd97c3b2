/-
  What has been read, in memory: the open lists and objects, the walk's box. · Parse's small functions: blanks; what stands at a place. · Parse's walk, its smallest methods: blanks, stands, sign, inner.
-/
import Derived.Test.YtgbagdfcdljleaaGreatDoorHa
import Derived.Test.YtgbagdfcdljleaaGreatDoorGA
import Derived.WalkLawsBesides
import Derived.IntWalk
import Derived.Deep.RegionWith
import Derived.Deep.RegionLaw
import Derived.Deep.RegionHeld3
import Derived.StillTailTactics
import Derived.RegionTactic
set_option linter.unusedVariables false
set_option linter.unusedSimpArgs false
namespace Go.Proofs.YtgbagdfcdljleaaGreatDoor
open Go.RowKit Go.Maps

theorem toU (l : List UInt8) : (⟨l.toArray⟩ : ByteArray).data.toList = l := rfl
theorem add_at (g j : Nat) : (⟨g, 0, none⟩ : Addr).add j = ⟨g, j, none⟩ := by unfold Addr.add; split <;> simp_all
theorem heap_cell {W W' : World} {a : Addr} {c : Value} (h : W'.heap[a.block]? = W.heap[a.block]?) (hc : W.cell? a = some c) : W'.cell? a = some c := (World.cell?_of_block h).trans hc
theorem own_kp {W W' : World} {base : Nat} {e : TypeId} {size n : Nat} {v : Value} {xs : List Value} (h : W.ownsRow base e size v n xs) (hk : ∀ q, v.ownBlock = some q → W'.heap[q]? = W.heap[q]?) : W'.ownsRow base e size v n xs := by
  refine ⟨h.1, ?_⟩
  rcases h.2 with hn | ⟨g, cap, cur, rfl, hb, hgg, rest⟩
  · exact .inl hn
  · exact .inr ⟨g, cap, cur, rfl, hb, by rw [hk g rfl]; exact hgg, rest⟩
theorem map_kp {P : Program} {k : TypeId} {W W' : World} {b n : Nat} {f : ByteArray → Option Value} (h : MapIs P k W b n f) (hk : W'.heap[b]? = W.heap[b]?) : MapIs P k W' b n f := by
  obtain ⟨D, ⟨es, clock, hb, F, h1, h2⟩, hf⟩ := h
  exact ⟨D, ⟨es, clock, by rw [hk]; exact hb, F, h1, h2⟩, hf⟩
theorem isVa_kp {W W' : World} {S : Nat → Prop} {x : V} {v : Value} (h : isVa W S x v) (hk : ∀ q, S q → W'.heap[q]? = W.heap[q]?) : isVa W' S x v :=
  isVa_keep (fun a c hb hc => heap_cell (hk _ hb) hc) x v h
theorem la_kp {W W' : World} {S : Nat → Prop} {l : List V} {xs : List Value} (h : Ow.isVsLa W S l xs) (hk : ∀ q, S q → W'.heap[q]? = W.heap[q]?) : Ow.isVsLa W' S l xs :=
  Ow.la_keep (fun a c hb hc => heap_cell (hk _ hb) hc) l xs h

def unitF (ks : List ByteArray) (s : ByteArray) : Option Value := if hasK ks s.data.toList then some (.agg #[]) else none
/-- An open list or object, as its eight cells; what it lies in has B, its parts lie in S. -/
structure isFm (W : World) (base : Nat) (f : Fm) (lv kv m : Value) (xs : List Value) (S B : Nat → Prop) : Prop where
  lo : W.ownsRow base 28 6 lv f.vs.length xs
  la : Ow.isVsLa W S f.vs xs
  ko : W.ownsRow base 9 1 kv f.ks.length (f.ks.map .string)
  kz : ∀ k ∈ f.ks, k.size ≤ 1000000
  mo : f.obj = true → ∃ b, m = .map (some b) ∧ MapIs Tryz.prog 9 W b f.ks.length (unitF f.ks) ∧ B b ∧ ¬ S b ∧ base ≤ b
  ml : f.obj = false → m = .map none ∧ f.ks = []
  hS : ∀ q, S q → B q ∧ base ≤ q ∧ lv.ownBlock ≠ some q ∧ kv.ownBlock ≠ some q
  hl : ∀ q, lv.ownBlock = some q → B q
  hk : ∀ q, kv.ownBlock = some q → B q
def fcells (f : Fm) (lv kv m : Value) : List Value := [.int .i8 (if f.obj then 5 else 4), .bool false, .int .i64 0, .string ⟨#[]⟩, lv, kv, .int .u8 f.close.toNat, m]
theorem isFm.kp {W W' : World} {base : Nat} {f : Fm} {lv kv m : Value} {xs : List Value} {S B : Nat → Prop} (h : isFm W base f lv kv m xs S B) (hk : ∀ q, B q → W'.heap[q]? = W.heap[q]?) : isFm W' base f lv kv m xs S B where
  lo := own_kp h.lo fun q e => hk q (h.hl q e)
  la := la_kp h.la fun q e => hk q (h.hS q e).1
  ko := own_kp h.ko fun q e => hk q (h.hk q e)
  kz := h.kz
  mo := fun e => by
    obtain ⟨b, h1, h2, h3, h4, h5⟩ := h.mo e
    exact ⟨b, h1, map_kp h2 (hk b h3), h3, h4, h5⟩
  ml := h.ml
  hS := h.hS
  hl := h.hl
  hk := h.hk
/-- The open ones, the innermost first; their cells, the outermost first. -/
def isSt (W : World) (base : Nat) : List Fm → List Value → (Nat → Prop) → Prop
  | [], ys, _ => ys = []
  | f :: t, ys, B => ∃ zs lv kv m xs S Bt Bf, ys = zs ++ fcells f lv kv m ∧ isSt W base t zs Bt ∧ isFm W base f lv kv m xs S Bf ∧ (∀ q, Bf q → ¬ Bt q) ∧ ∀ q, (Bt q ∨ Bf q) → B q
theorem isSt.kp {W W' : World} {base : Nat} : ∀ {op : List Fm} {ys : List Value} {B : Nat → Prop}, isSt W base op ys B → (∀ q, B q → W'.heap[q]? = W.heap[q]?) → isSt W' base op ys B
  | [], ys, B, h, _ => h
  | f :: t, ys, B, h, hk => by
    obtain ⟨zs, lv, kv, m, xs, S, Bt, Bf, h1, h2, h3, h4, h5⟩ := h
    exact ⟨zs, lv, kv, m, xs, S, Bt, Bf, h1, isSt.kp h2 (fun q e => hk q (h5 q (.inl e))), h3.kp (fun q e => hk q (h5 q (.inr e))), h4, h5⟩
theorem isSt.len {W : World} {base : Nat} : ∀ {op : List Fm} {ys : List Value} {B : Nat → Prop}, isSt W base op ys B → ys.length = op.length * 8
  | [], ys, B, h => by rw [show ys = [] from h]; rfl
  | f :: t, ys, B, h => by
    obtain ⟨zs, lv, kv, m, xs, S, Bt, Bf, h1, h2, h3, h4, h5⟩ := h
    rw [h1, List.length_append, isSt.len h2]
    simp [fcells]; omega

/-- The walk: its box at b, what is open in a row of its own. -/
structure PW (W0 : World) (b : Nat) (s : ByteArray) (d : Int) (k : Nat) (op : List Fm) (ov : Value) (ys : List Value) (B : Nat → Prop) (W : World) : Prop where
  kb : Below W0.heap.size W0 W
  bn : W0.heap.size ≤ b
  c0 : W.cell? ⟨b, 0, none⟩ = some (.string s)
  c1 : W.cell? ⟨b, 1, none⟩ = some (.int .i64 k)
  c2 : W.cell? ⟨b, 2, none⟩ = some (.int .i64 d)
  c3 : W.cell? ⟨b, 3, none⟩ = some ov
  fz : ∀ j, W.frozen? ⟨b, j, none⟩ = false
  own : W.ownsRow W0.heap.size 69 8 ov op.length ys
  st : isSt W W0.heap.size op ys B
  hB : ∀ q, B q → W0.heap.size ≤ q ∧ q < W.heap.size ∧ q ≠ b ∧ ov.ownBlock ≠ some q
  hb : ov.ownBlock ≠ some b
/-- A block beside all of it. -/
def Off (W0 : World) (b : Nat) (ov : Value) (B : Nat → Prop) (q : Nat) : Prop := W0.heap.size ≤ q ∧ q ≠ b ∧ ¬ B q ∧ ov.ownBlock ≠ some q
/-- What was there stays, but for block b. -/
def Kb (b : Nat) (W W' : World) : Prop := W.heap.size ≤ W'.heap.size ∧ ∀ q, q < W.heap.size → q ≠ b → W'.heap[q]? = W.heap[q]?
theorem Kb.refl (b : Nat) (W : World) : Kb b W W := ⟨Nat.le_refl _, fun _ _ _ => rfl⟩
theorem Kb.trans {b : Nat} {W W' W'' : World} (h : Kb b W W') (h' : Kb b W' W'') : Kb b W W'' := ⟨Nat.le_trans h.1 h'.1, fun q h1 h2 => (h'.2 q (Nat.lt_of_lt_of_le h1 h.1) h2).trans (h.2 q h1 h2)⟩
theorem Kb.of_below {b : Nat} {W W' : World} (h : Below W.heap.size W W') : Kb b W W' := ⟨h.size, fun q h1 _ => h.block q h1⟩
theorem Kb.of_grown {b : Nat} {W W' : World} (h : W.grownBy W' (some b)) : Kb b W W' := ⟨h.size, fun q h1 h2 => h.block q h1 (fun e => h2 (by simpa using e))⟩
theorem Kb.set_b {b : Nat} {W W' : World} (h : Kb b W W') (j : Nat) (u : Value) : Kb b W (W'.setCell ⟨b, j, none⟩ u) := ⟨by simpa using h.1, fun q h1 h2 => (Below.heap_setCell _ _ _ _ h2).trans (h.2 q h1 h2)⟩
theorem Kb.set_new {b : Nat} {W W' : World} (h : Kb b W W') {n : Nat} (hn : W.heap.size ≤ n) (j : Nat) (u : Value) : Kb b W (W'.setCell ⟨n, j, none⟩ u) := ⟨by simpa using h.1, fun q h1 h2 => (Below.heap_setCell _ _ _ _ (show q ≠ n by omega)).trans (h.2 q h1 h2)⟩
theorem Kb.alloc {b : Nat} {W W' : World} (h : Kb b W W') (o : Obj) : Kb b W (W'.alloc o) := ⟨by have := h.1; simp; omega, fun q h1 h2 => (Below.heap_alloc _ _ _ (Nat.lt_of_lt_of_le h1 h.1)).trans (h.2 q h1 h2)⟩
theorem Kb.drewN {b : Nat} {W W' : World} (h : Kb b W W') (n : Nat) : Kb b W (W'.drewN n) := h
/-- What lies beside all of the walk stays, and stays beside it. -/
def Frm (W0 : World) (b : Nat) (ov : Value) (B : Nat → Prop) (W : World) (ov' : Value) (B' : Nat → Prop) (W' : World) : Prop := W.heap.size ≤ W'.heap.size ∧ ∀ q, q < W.heap.size → Off W0 b ov B q → W'.heap[q]? = W.heap[q]? ∧ Off W0 b ov' B' q
theorem Frm.of_kb {W0 : World} {b : Nat} {ov : Value} {B : Nat → Prop} {W W' : World} (h : Kb b W W') : Frm W0 b ov B W ov B W' := ⟨h.1, fun q h1 h2 => ⟨h.2 q h1 h2.2.1, h2⟩⟩
theorem Frm.trans {W0 : World} {b : Nat} {ov ov1 ov2 : Value} {B B1 B2 : Nat → Prop} {W W1 W2 : World} (h : Frm W0 b ov B W ov1 B1 W1) (h' : Frm W0 b ov1 B1 W1 ov2 B2 W2) : Frm W0 b ov B W ov2 B2 W2 :=
  ⟨Nat.le_trans h.1 h'.1, fun q h1 h2 => by
    have h3 := h.2 q h1 h2
    have h4 := h'.2 q (Nat.lt_of_lt_of_le h1 h.1) h3.2
    exact ⟨h4.1.trans h3.1, h4.2⟩⟩
/-- A box of its own. -/
def Bx (W : World) (q : Nat) (cs : Array Value) (t : TypeId) : Prop := W.heap[q]? = some (.cells cs t (0, 0))
theorem Bx.new (W : World) (cs : Array Value) (t : TypeId) : Bx (W.alloc (.cells cs t)) W.heap.size cs t := heap_alloc_new W _
theorem Bx.cell {W : World} {q : Nat} {cs : Array Value} {t : TypeId} (h : Bx W q cs t) (j : Nat) : W.cell? ⟨q, j, none⟩ = cs[j]? := cell_of_row _ _ _ _ _ _ h
theorem Bx.frozen {W : World} {q : Nat} {cs : Array Value} {t : TypeId} (h : Bx W q cs t) (j : Nat) : W.frozen? ⟨q, j, none⟩ = false := frozen_of_row _ _ _ _ _ h
theorem Bx.kp {W W' : World} {q : Nat} {cs : Array Value} {t : TypeId} (h : Bx W q cs t) (hk : W'.heap[q]? = W.heap[q]?) : Bx W' q cs t := hk.trans h
theorem Bx.lt {W : World} {q : Nat} {cs : Array Value} {t : TypeId} (h : Bx W q cs t) : q < W.heap.size := (Array.getElem?_eq_some_iff.1 h).1
theorem Bx.below {W W' : World} {q : Nat} {cs : Array Value} {t : TypeId} (h : Bx W q cs t) (hb : Below W.heap.size W W') : Bx W' q cs t := h.kp (hb.block q h.lt)
theorem Bx.alloc {W : World} {q : Nat} {cs : Array Value} {t : TypeId} (h : Bx W q cs t) (o : Obj) : Bx (W.alloc o) q cs t := h.kp (Below.heap_alloc _ _ _ h.lt)
theorem Bx.set {W : World} {q : Nat} {cs : Array Value} {t : TypeId} (h : Bx W q cs t) {a : Addr} (ha : q ≠ a.block) (u : Value) : Bx (W.setCell a u) q cs t := h.kp (Below.heap_setCell _ _ _ _ ha)
/-- Six cells are written. -/
theorem Bx.six {W : World} {q : Nat} {t : TypeId} {z0 z1 z2 z3 z4 z5 : Value} (h : Bx W q #[z0, z1, z2, z3, z4, z5] t) (c0 c1 c2 c3 c4 c5 : Value) :
    Bx ((((((W.setCell ⟨q, 0, none⟩ c0).setCell ⟨q, 1, none⟩ c1).setCell ⟨q, 2, none⟩ c2).setCell ⟨q, 3, none⟩ c3).setCell ⟨q, 4, none⟩ c4).setCell ⟨q, 5, none⟩ c5) q #[c0, c1, c2, c3, c4, c5] t := by
  have h0 : (W.setCell ⟨q, 0, none⟩ c0).heap[q]? = some (.cells #[c0, z1, z2, z3, z4, z5] t (0, 0)) := heap_setCell_same W q 0 _ t c0 h
  have h1 := heap_setCell_same _ q 1 _ t c1 h0
  have h2 := heap_setCell_same _ q 2 _ t c2 h1
  have h3 := heap_setCell_same _ q 3 _ t c3 h2
  have h4 := heap_setCell_same _ q 4 _ t c4 h3
  exact heap_setCell_same _ q 5 _ t c5 h4
section
variable {W0 W W' : World} {b : Nat} {s : ByteArray} {d : Int} {k : Nat} {op : List Fm} {ov : Value} {ys : List Value} {B : Nat → Prop}
theorem PW.blt (h : PW W0 b s d k op ov ys B W) : b < W.heap.size := World.block_lt_of_cell? W _ h.c0
/-- What of the world counts for the walk. -/
theorem PW.kp (h : PW W0 b s d k op ov ys B W) (hkb : Below W0.heap.size W W') (hk : ∀ q, W0.heap.size ≤ q → q < W.heap.size → W'.heap[q]? = W.heap[q]?) : PW W0 b s d k op ov ys B W' where
  kb := h.kb.trans hkb
  bn := h.bn
  c0 := heap_cell (hk b h.bn h.blt) h.c0
  c1 := heap_cell (hk b h.bn h.blt) h.c1
  c2 := heap_cell (hk b h.bn h.blt) h.c2
  c3 := heap_cell (hk b h.bn h.blt) h.c3
  fz := fun j => (World.frozen?_of_block (w := W) (a := ⟨b, j, none⟩) (hk b h.bn h.blt)).trans (h.fz j)
  own := own_kp h.own fun q e => hk q (h.own.lt q e).1 (h.own.lt q e).2
  st := h.st.kp fun q e => hk q (h.hB q e).1 (h.hB q e).2.1
  hB := fun q e => ⟨(h.hB q e).1, Nat.lt_of_lt_of_le (h.hB q e).2.1 hkb.size, (h.hB q e).2.2⟩
  hb := h.hb
theorem PW.below (h : PW W0 b s d k op ov ys B W) (hb : Below W.heap.size W W') : PW W0 b s d k op ov ys B W' :=
  h.kp (hb.mono h.kb.size) fun q _ hq => hb.block q hq
theorem PW.alloc (h : PW W0 b s d k op ov ys B W) (o : Obj) : PW W0 b s d k op ov ys B (W.alloc o) :=
  h.below ((Below.refl _ _).alloc (Nat.le_refl _) o)
theorem PW.drew (h : PW W0 b s d k op ov ys B W) : PW W0 b s d k op ov ys B W.drew := h.below (Below.refl _ W).drew
/-- The place is set. -/
theorem PW.at (h : PW W0 b s d k op ov ys B W) (k' : Nat) : PW W0 b s d k' op ov ys B (W.setCell ⟨b, 1, none⟩ (.int .i64 k')) where
  kb := h.kb.setCell h.bn _
  bn := h.bn
  c0 := by rw [World.cell?_setCell_other _ _ _ _ (by simp)]; exact h.c0
  c1 := World.cell?_setCell_same _ _ _ h.c1
  c2 := by rw [World.cell?_setCell_other _ _ _ _ (by simp)]; exact h.c2
  c3 := by rw [World.cell?_setCell_other _ _ _ _ (by simp)]; exact h.c3
  fz := fun j => by rw [World.frozen?_setCell]; exact h.fz j
  own := own_kp h.own fun q e => Below.heap_setCell _ _ _ _ (fun e' => h.hb (by rw [e, e']))
  st := h.st.kp fun q e => Below.heap_setCell _ _ _ _ (h.hB q e).2.2.1
  hB := fun q e => ⟨(h.hB q e).1, by simpa using (h.hB q e).2.1, (h.hB q e).2.2⟩
  hb := h.hb
theorem PW.off (h : PW W0 b s d k op ov ys B W) (q : Nat) (hq : W.heap.size ≤ q) : Off W0 b ov B q :=
  ⟨Nat.le_trans h.kb.size hq, fun e => by have := h.blt; omega, fun e => by have := (h.hB q e).2.1; omega, fun e => by have := (h.own.lt q e).2; omega⟩
/-- A store beside all of it. -/
theorem PW.st' (h : PW W0 b s d k op ov ys B W) {q : Nat} (o : Off W0 b ov B q) (j : Nat) (u : Value) : PW W0 b s d k op ov ys B (W.setCell ⟨q, j, none⟩ u) where
  kb := h.kb.setCell o.1 _
  bn := h.bn
  c0 := heap_cell (Below.heap_setCell _ _ _ _ (Ne.symm o.2.1)) h.c0
  c1 := heap_cell (Below.heap_setCell _ _ _ _ (Ne.symm o.2.1)) h.c1
  c2 := heap_cell (Below.heap_setCell _ _ _ _ (Ne.symm o.2.1)) h.c2
  c3 := heap_cell (Below.heap_setCell _ _ _ _ (Ne.symm o.2.1)) h.c3
  fz := fun i => by rw [World.frozen?_setCell]; exact h.fz i
  own := own_kp h.own fun r e => Below.heap_setCell _ _ _ _ (fun e' => o.2.2.2 (by rw [e]; exact congrArg some e'))
  st := h.st.kp fun r e => Below.heap_setCell _ _ _ _ (fun e' => o.2.2.1 (by have e2 : r = q := e'; rw [← e2]; exact e))
  hB := fun r e => ⟨(h.hB r e).1, by simpa using (h.hB r e).2.1, (h.hB r e).2.2⟩
  hb := h.hb
end
end Go.Proofs.YtgbagdfcdljleaaGreatDoor

namespace Go.Proofs.YtgbagdfcdljleaaGreatDoor
open Go.RowKit Go.Maps

/-- A place brought into 0 to the text's length. -/
def wiN (n : Nat) (k : Int) : Nat := (min (max k 0) n).toNat
theorem wiN_in {n k : Nat} (h : k ≤ n) : wiN n k = k := by unfold wiN; omega
theorem wiN_le (n : Nat) (k : Int) : wiN n k ≤ n := by unfold wiN; omega
set_option maxRecDepth 100000 in
theorem within_any (s : ByteArray) (k : Int) (hs : s.size ≤ 4294967296) (w : World) :
    Calls Tryz.prog 22 #[.string s, .int .i64 k] w fun e w' => e = .returned (.int .i64 (wiN s.size k)) ∧ w' = w := by
  have hn : ((wiN s.size k : Nat) : Int) = min (max k 0) s.size := by unfold wiN; omega
  rw [hn]
  rcases Int.lt_or_le k 0 with h | h
  · have e : min (max k 0) (s.size : Int) = 0 := by omega
    have h1 : (if k < 0 then (0 : Int) else k) = 0 := if_pos h
    have h2 : ¬ ((s.size : Int) < 0) := by omega
    rw [e]
    clear e hn
    go_enter Tryz.func22, Tryz.ntmps22
    go_wp2
    go_ret
    exact ⟨by first | rfl | (apply ret_int; omega) | (apply ret_int; split <;> omega), rfl⟩
  · rcases Int.lt_or_le s.size k with h3 | h3
    · have e : min (max k 0) (s.size : Int) = s.size := by omega
      have h1 : ¬ k < 0 := by omega
      rw [e]
      clear e hn
      go_enter Tryz.func22, Tryz.ntmps22
      go_wp2
      go_ret
      exact ⟨by first | rfl | (apply ret_int; omega) | (apply ret_int; split <;> omega), rfl⟩
    · have e : min (max k 0) (s.size : Int) = k := by omega
      have h1 : ¬ k < 0 := by omega
      have h4 : ¬ (s.size : Int) < k := by omega
      rw [e]
      clear e hn
      go_enter Tryz.func22, Tryz.ntmps22
      go_wp2
      go_ret
      exact ⟨by first | rfl | (apply ret_int; omega) | (apply ret_int; split <;> omega), rfl⟩
theorem blank_any (c : UInt8) (w : World) :
    Calls Tryz.prog 25 #[.int .u8 c.toNat] w fun e w' => e = .returned (.bool (isBl c)) ∧ w' = w := by
  have hb : isBl c = (((c.toNat : Int) == 32) || ((c.toNat : Int) == 9) || ((c.toNat : Int) == 10) || ((c.toNat : Int) == 13)) := by
    have key : ∀ n : Nat, n < 256 → (c == UInt8.ofNat n) = ((c.toNat : Int) == (n : Int)) := fun n hn => by
      rw [Bool.eq_iff_iff, beq_iff_eq, beq_iff_eq]
      constructor
      · intro h; rw [h]; simp; omega
      · intro h
        have : c.toNat = n := by omega
        rw [← this]; simp
    unfold isBl
    rw [show (32 : UInt8) = UInt8.ofNat 32 from rfl, show (9 : UInt8) = UInt8.ofNat 9 from rfl, show (10 : UInt8) = UInt8.ofNat 10 from rfl, show (13 : UInt8) = UInt8.ofNat 13 from rfl, key 32 (by decide), key 9 (by decide), key 10 (by decide), key 13 (by decide)]
    rfl
  rw [hb]
  clear hb
  cases h1 : ((c.toNat : Int) == 32) <;> cases h2 : ((c.toNat : Int) == 9) <;> cases h3 : ((c.toNat : Int) == 10) <;> cases h4 : ((c.toNat : Int) == 13)
  all_goals
    go_enter Tryz.func25, Tryz.ntmps25
    go_wp2
    go_ret
    exact ⟨rfl, rfl⟩
set_option maxRecDepth 100000 in
set_option maxHeartbeats 1000000 in
theorem Blanks_any (s : ByteArray) (at_ : Int) (hs : s.size ≤ 4294967296) (w : World) :
    Calls Tryz.prog 11 #[.string s, .int .i64 at_] w fun e w' => e = .returned (.int .i64 (bl s.data.toList (wiN s.size at_))) ∧ w' = w := by
  obtain ⟨k, hk⟩ : ∃ k, wiN s.size at_ = k := ⟨_, rfl⟩
  have hks : k ≤ s.size := hk ▸ wiN_le _ _
  have HW := Lib.hid (hk ▸ within_any s at_ hs w : Calls Tryz.prog 22 #[.string s, .int .i64 at_] w fun e w' => e = .returned (.int .i64 (k : Nat)) ∧ w' = w)
  rw [hk]
  clear hk
  go_enter Tryz.func11, Tryz.ntmps11
  go_wp2_with (go_at_call 22; refine HW.out.mono ?_; rintro e w' ⟨rfl, rfl⟩)
  go_loop [1] (fun i => ∃ j : Nat, k ≤ j ∧ j ≤ s.size ∧ i = .int .i64 j ∧ ∀ q, k ≤ q → q < j → isBl (s.data.toList.getD q 0) = true) (fun i => s.size - (intOf i).toNat)
  case atStart => exact ⟨k, Nat.le_refl _, hks, rfl, fun q h1 h2 => by omega⟩
  case round =>
    obtain ⟨j, h1, h2, rfl, h3⟩ := hrel
    have H3 := Lib.hid h3
    clear h3
    by_cases hj : j < s.size
    · have hg : s.data.toList.getD j 0 = s[j] := by rw [List.getD, toList_getElem s j hj]; rfl
      have HG := Lib.hid hg
      clear hg
      cases hb : isBl s[j] with
      | true =>
        have HB := Lib.hid (hb ▸ blank_any s[j] : ∀ w, Calls Tryz.prog 25 #[.int .u8 s[j].toNat] w fun e w' => e = .returned (.bool true) ∧ w' = w)
        have hbb := Lib.hid hb
        clear hb
        go_wp2_with (go_at_call 25; refine (HB.out _).mono ?_; rintro e w' ⟨rfl, rfl⟩)
        go_round
        case rel =>
          refine ⟨j + 1, by omega, by omega, by go_num, fun q g1 g2 => ?_⟩
          rcases Nat.lt_or_ge q j with g | g
          · exact H3.out q g1 g
          · have : q = j := by omega
            rw [this, HG.out]; exact hbb.out
        case measure => simp [intOf]; omega
      | false =>
        have HB := Lib.hid (hb ▸ blank_any s[j] : ∀ w, Calls Tryz.prog 25 #[.int .u8 s[j].toNat] w fun e w' => e = .returned (.bool false) ∧ w' = w)
        have hfin := bl_of (s := s.data.toList) (j - k) k j (by omega) (by rw [toList_length]; omega) H3.out (fun _ => by rw [HG.out]; exact hb)
        have HF := Lib.hid hfin
        clear hb hfin
        go_wp2_with (go_at_call 25; refine (HB.out _).mono ?_; rintro e w' ⟨rfl, rfl⟩)
        go_ret
        exact ⟨by rw [HF.out]; rfl, rfl⟩
    · have hfin := bl_of (s := s.data.toList) (j - k) k j (by omega) (by rw [toList_length]; omega) H3.out (fun h => by rw [toList_length] at h; omega)
      have HF := Lib.hid hfin
      clear hfin
      go_wp2
      go_ret
      exact ⟨by rw [HF.out]; rfl, rfl⟩
end Go.Proofs.YtgbagdfcdljleaaGreatDoor

namespace Go.Proofs.YtgbagdfcdljleaaGreatDoor
open Go.RowKit Go.Maps

theorem below_dN {B : Nat} {a w : World} (h : Below B a w) (n : Nat) : Below B a (w.drewN n) := ⟨h.os, h.tape, h.output, h.size, h.block⟩
theorem grown_setd (W : World) (a : Addr) (u : Value) : W.grownBy (W.setCell a u).drew (some a.block) := ⟨rfl, rfl, rfl, by simp [World.setCell, World.drew], fun k _ hk => Below.heap_setCell W a u k (fun e => hk (by rw [e]))⟩
section
variable {W0 W : World} {b : Nat} {s : ByteArray} {d : Int} {k : Nat} {op : List Fm} {ov : Value} {ys : List Value} {B : Nat → Prop}
/-- The world behind a walk's method that sets its place alone. -/
theorem PW.at' (h : PW W0 b s d k op ov ys B W) {W' : World} (k' : Nat) (hw : W' = W.setCell ⟨b, 1, none⟩ (.int .i64 k')) : PW W0 b s d k' op ov ys B W' := hw ▸ h.at k'
set_option maxRecDepth 100000 in
set_option maxHeartbeats 1000000 in
theorem blanks_any (h : PW W0 b s d k op ov ys B W) (hk : k ≤ s.size) (hs : s.size ≤ 4294967296) :
    Calls Tryz.prog 42 #[.pointer (some ⟨b, 0, none⟩)] W fun e W' => e = .returned (.tuple #[]) ∧ PW W0 b s d (bl s.data.toList k) op ov ys B W' ∧ W.grownBy W' (some b) := by
  have c0 := h.c0
  have c1 := h.c1
  have f1 := h.fz 1
  have HB := Lib.hid (fun w => Blanks_any s k hs w)
  rw [wiN_in hk] at HB
  obtain ⟨q, hq⟩ : ∃ q, bl s.data.toList k = q := ⟨_, rfl⟩
  rw [hq] at HB ⊢
  have HH := Lib.hid h
  clear h hq
  go_enter Tryz.func42, Tryz.ntmps42
  go_wp2_with fail
  go_region_with (go_at_call 11; refine (HB.out _).mono ?_; rintro e w' ⟨rfl, rfl⟩)
  all_goals (go_end0; exact ⟨rfl, (HH.out.at q).drew, grown_setd _ _ _⟩)

theorem bne_some {l : List UInt8} {k : Nat} {c : UInt8} (h : l[k]? ≠ some c) (hk : k < l.length) : l.getD k 0 ≠ c := fun e => h (by rw [List.getElem?_eq_getElem hk]; rw [List.getD, List.getElem?_eq_getElem hk] at e; exact congrArg some e)
set_option maxRecDepth 100000 in
set_option maxHeartbeats 1000000 in
theorem stands_any (h : PW W0 b s d k op ov ys B W) (c : UInt8) (hk : k ≤ s.size) (hs : s.size ≤ 4294967296) :
    Calls Tryz.prog 43 #[.pointer (some ⟨b, 0, none⟩), .int .u8 c.toNat] W fun e W' => e = .returned (.bool (decide (s.data.toList[k]? = some c))) ∧ Below W.heap.size W W' := by
  have c0 := h.c0
  have c1 := h.c1
  clear h
  rcases Nat.lt_or_ge k s.size with hlt | hge
  · have hg : s.data.toList[k]? = some s[k] := toList_getElem s k hlt
    have h1 : decide ((k : Int) < (s.size : Int)) = true := decide_eq_true (by omega)
    obtain ⟨q, hq⟩ : ∃ q, (((s[k]).toNat : Int) == (c.toNat : Int)) = q := ⟨_, rfl⟩
    have hd : decide (s.data.toList[k]? = some c) = q := by
      rw [hg, ← hq, Bool.eq_iff_iff, decide_eq_true_iff, beq_iff_eq]
      constructor
      · intro e; rw [Option.some.inj e]
      · intro e
        have : (s[k]).toNat = c.toNat := by omega
        rw [UInt8.toNat_inj.1 this]
    rw [hd]
    have h2 : (k : Int) < (s.size : Int) := by omega
    have hs9 : s.size ≤ 9223372036854775807 := by omega
    clear hd hg
    go_enter Tryz.func43, Tryz.ntmps43
    go_wp2_with fail
    go_quiet (fail)
    go_wp2
    go_ret
    exact ⟨rfl, below_dN (Below.refl _ _) _⟩
  · have hd : decide (s.data.toList[k]? = some c) = false := by
      rw [List.getElem?_eq_none (by rw [toList_length]; exact hge)]
      rfl
    have h1 : decide ((k : Int) < (s.size : Int)) = false := decide_eq_false (by omega)
    have h2 : decide (k < s.size) = false := decide_eq_false (by omega)
    rw [hd]
    clear hd hge hs hk
    go_enter Tryz.func43, Tryz.ntmps43
    go_wp2_with fail
    go_quiet (fail)
    go_wp2
    go_ret
    exact ⟨rfl, below_dN (Below.refl _ _) _⟩
/-- The row of what is open. -/
theorem PW.row (h : PW W0 b s d k op ov ys B W) (hop : 0 < op.length) : ∃ g cap, ov = .slice (some ⟨g, 0, none⟩) op.length cap ∧ op.length ≤ cap ∧ cap ≤ maxLen := by
  obtain ⟨o, ad, c, rfl, h1, h2, h3, h4, h5⟩ := Ow.own_form h.own
  rcases h.own.2 with ⟨hv, h0⟩ | ⟨g, cap, cur, hv, _⟩
  · omega
  · cases hv
    exact ⟨g, _, rfl, h1, h2⟩
set_option maxRecDepth 100000 in
set_option maxHeartbeats 1000000 in
theorem inner_any {g n cap : Nat} (h : PW W0 b s d k op (.slice (some ⟨g, 0, none⟩) (n + 1) cap) ys B W) (hn : n < 1000000) (hc : n + 1 ≤ cap) (hc2 : cap ≤ maxLen) :
    Calls Tryz.prog 41 #[.pointer (some ⟨b, 0, none⟩)] W fun e W' => e = .returned (.pointer (some ⟨g, n * 8, none⟩)) ∧ Below W.heap.size W W' := by
  have c3 := h.c3
  clear h
  have hc2 : cap ≤ 9223372036854775807 := hc2
  have hadd := Lib.hid (add_at g (n * 8))
  go_enter Tryz.func41, Tryz.ntmps41
  go_wp2_with fail
  go_quiet (fail)
  go_wp2
  go_ret
  exact ⟨by rw [← hadd.out]; rfl, below_dN (Below.refl _ _) _⟩
/-- The end of a walk by a fault. -/
def faulted (a c : Nat) : Ending := .panicked [{ v := .iface 39 (.agg #[.int .i64 a, .int .i64 c]), recovered := false }]
/-- What sign leaves. -/
def SignR (W0 : World) (b : Nat) (s : ByteArray) (d : Int) (k : Nat) (c : UInt8) (op : List Fm) (ov : Value) (ys : List Value) (B : Nat → Prop) (W : World) (e : Ending) (W' : World) : Prop :=
  if s.data.toList[k]? = some c then e = .returned (.tuple #[]) ∧ PW W0 b s d (bl s.data.toList (k + 1)) op ov ys B W' ∧ Kb b W W' else e = faulted k 40 ∧ Below W0.heap.size W0 W'
set_option maxRecDepth 100000 in
set_option maxHeartbeats 1000000 in
theorem sign_any (h : PW W0 b s d k op ov ys B W) (c : UInt8) (hk : k ≤ s.size) (hs : s.size ≤ 4294967296) :
    Calls Tryz.prog 45 #[.pointer (some ⟨b, 0, none⟩), .int .u8 c.toNat] W fun e W' => SignR W0 b s d k c op ov ys B W e W' := by
  unfold SignR
  by_cases hy : s.data.toList[k]? = some c
  · have hlt : k < s.size := by have := lt_of_some hy; rwa [toList_length] at this
    have HS := Lib.hid (stands_any h c hk hs)
    rw [decide_eq_true hy] at HS
    simp only [if_pos hy]
    have HH := Lib.hid h
    clear h hy
    go_enter Tryz.func45, Tryz.ntmps45
    go_wp2_with fail
    refine HS.out.mono ?_
    rintro e W1 ⟨rfl, hb⟩
    have h1 := HH.out.below hb
    have c1 := h1.c1
    have f1 := h1.fz 1
    go_wp2_with fail
    have h2 := h1.at (k + 1)
    refine (blanks_any h2 hlt hs).mono ?_
    rintro e W2 ⟨rfl, h3, h4⟩
    have H4 := Lib.hid h4
    have HB := Lib.hid hb
    clear h4 hb
    go_wp2_with fail
    go_end0
    exact ⟨rfl, h3, ((Kb.of_below HB.out).set_b 1 _).trans (Kb.of_grown H4.out)⟩
  · have HS := Lib.hid (stands_any h c hk hs)
    rw [decide_eq_false hy] at HS
    simp only [if_neg hy]
    have HH := Lib.hid h
    clear h hy
    unfold faulted
    go_enter Tryz.func45, Tryz.ntmps45
    go_wp2_with fail
    refine HS.out.mono ?_
    rintro e W1 ⟨rfl, hb⟩
    have h1 := HH.out.below hb
    have c1 := h1.c1
    go_wp2_with fail
    refine ⟨rfl, rfl, h1.kb⟩
end
end Go.Proofs.YtgbagdfcdljleaaGreatDoor
