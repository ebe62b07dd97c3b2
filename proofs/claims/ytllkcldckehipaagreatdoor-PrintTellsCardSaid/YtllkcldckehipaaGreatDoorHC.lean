/-
  A page: a strings.Builder embedded in a struct: copyCheck, WriteByte, WriteString, Len, String of the builder in it; what else lies in memory stays. · What is printed of a value, as a plain function; what a writing does to a page that may be full. · A page's row: n parts, each by a function, with commas between, in brackets. · A text that is written is no shorter than the text. · A page's leaves: a quoted text, null, a truth, a number, a text. · A page's lists and objects: the closures that write a part; their methods.
-/
import Derived.Test.YtllkcldckehipaaGreatDoorGA
import Derived.RangeFuncBox
import Derived.Shelf.RegionOpenPlain
import Derived.WalkKit
import Derived.ProofKit
import Derived.Below
import Derived.OwnWalk
import Derived.Lib.FrozenHead2
import Derived.Lib.OthersKept
import Derived.Lib.UnsafeStr
import Derived.Test.YtllkcldckehipaaGreatDoorHA
import Derived.Test.YtllkcldckehipaaGreatDoorHB
import Derived.Test.YtllkcldckehipaaGreatDoorGD
import Derived.Deep.RegionWith
import Derived.IntWalk
import Derived.Handy
import Derived.Test.YtllkcldckehipaaGreatDoorGG
import Derived.StillTailTactics
import Derived.Test.YtllkcldckehipaaGreatDoorGH
set_option linter.unusedVariables false
set_option linter.unusedSimpArgs false
namespace Go.Proofs.YtllkcldckehipaaGreatDoor
open Go.RowKit Go.Shelf

theorem pgSz : (Tryz.prog.info? 44).map (·.size) = some 2 := by kernel_rfl
theorem pgByte : (Tryz.prog.info? 5).map (fun i => (i.zero, i.size, i.bytes)) = some (some (.int .u8 0), 1, 1) := by kernel_rfl
theorem pgLies : liesAt Tryz.prog Tryz.prog.depth 46 (5 / Tryz.prog.cellsOf 46) 0 44 1 = true := by kernel_rfl

/-- What a writing on the page in block b leaves: all but the blocks b and D, and the rows of bytes from block H on. -/
def FK (H b D : Nat) (W W' : World) : Prop :=
  (W'.os = W.os ∧ W'.tape = W.tape ∧ W'.output = W.output ∧ W.heap.size ≤ W'.heap.size) ∧ ∀ k o, W.heap[k]? = some o → k ≠ b → k ≠ D → (k < H ∨ ∀ c fz, o ≠ .cells c 5 fz) → W'.heap[k]? = some o
theorem FK.refl (H b D : Nat) (W : World) : FK H b D W W := ⟨⟨rfl, rfl, rfl, Nat.le_refl _⟩, fun _ _ h _ _ _ => h⟩
theorem FK.trans {H b D : Nat} {X Y Z : World} (h : FK H b D X Y) (k : FK H b D Y Z) : FK H b D X Z :=
  ⟨⟨k.1.1.trans h.1.1, k.1.2.1.trans h.1.2.1, k.1.2.2.1.trans h.1.2.2.1, Nat.le_trans h.1.2.2.2 k.1.2.2.2⟩, fun j o hj h1 h2 h3 => k.2 j o (h.2 j o hj h1 h2 h3) h1 h2 h3⟩
theorem FK.size {H b D : Nat} {W W' : World} (h : FK H b D W W') : W.heap.size ≤ W'.heap.size := h.1.2.2.2
theorem FK.wide {H b : Nat} (D : Nat) {W W' : World} (h : FK H b b W W') : FK H b D W W' := ⟨h.1, fun k o hk h1 _ h3 => h.2 k o hk h1 h1 h3⟩
theorem FK.of_below {H b D : Nat} {W W' : World} (h : Below W.heap.size W W') : FK H b D W W' :=
  ⟨⟨h.os, h.tape, h.output, h.size⟩, fun k o hk _ _ _ => (h.block k (Array.getElem?_eq_some_iff.1 hk).1).trans hk⟩
theorem FK.below {H b D lo : Nat} {W W' : World} (h : FK H b D W W') (h1 : lo ≤ b) (h2 : lo ≤ D) (h3 : lo ≤ H) (h4 : lo ≤ W.heap.size) : Below lo W W' :=
  ⟨h.1.1, h.1.2.1, h.1.2.2.1, h.size, fun k hk => by
    have hl : k < W.heap.size := by omega
    have e := Array.getElem?_eq_getElem hl
    rw [e]
    exact h.2 k _ e (by omega) (by omega) (.inl (by omega))⟩
theorem FK.set {H b D : Nat} (W : World) (i : Nat) (v : Value) : FK H b D W (W.setCell ⟨b, i, none⟩ v) :=
  ⟨⟨rfl, rfl, rfl, by simp [World.setCell]⟩, fun k o hk h1 _ _ => (Below.heap_setCell _ _ _ _ h1).trans hk⟩
theorem FK.setD {H b D : Nat} (W : World) (i : Nat) (v : Value) : FK H b D W (W.setCell ⟨D, i, none⟩ v) :=
  ⟨⟨rfl, rfl, rfl, by simp [World.setCell]⟩, fun k o hk _ h1 _ => (Below.heap_setCell _ _ _ _ h1).trans hk⟩
theorem FK.grown {H b D : Nat} {W W' : World} {row : Option Nat} (hg : W.grownBy W' row) (hr : ∀ r, row = some r → H ≤ r ∧ ∃ c fz, W.heap[r]? = some (.cells c 5 fz)) : FK H b D W W' :=
  ⟨⟨hg.os, hg.tape, hg.output, hg.size⟩, fun k o hk _ _ h3 => (hg.block k (Array.getElem?_eq_some_iff.1 hk).1 (fun e => by
    obtain ⟨h1, c, fz, h2⟩ := hr k e.symm
    rcases h3 with h3 | h3
    · omega
    · rw [hk] at h2; exact h3 c fz (Option.some.inj h2))).trans hk⟩
/-- A block of another kind than bytes, neither b nor D. -/
theorem FK.boxed {H b D N : Nat} {t : TypeId} {v : Value} {W W' : World} (h : FK H b D W W') (hN : Boxed W N t v) (h1 : N ≠ b) (h2 : N ≠ D) (ht : t ≠ 5) : Boxed W' N t v :=
  h.2 N _ hN h1 h2 (.inr (fun c fz e => by cases e; exact ht rfl))
theorem FK.cellB {H b D : Nat} {W W' : World} (h : FK H b D W W') (a : Addr) (c : Value) (h1 : a.block ≠ b) (h2 : a.block ≠ D) (h3 : a.block < H) (hc : W.cell? a = some c) : W'.cell? a = some c := by
  have hl := World.block_lt_of_cell? W a hc
  have e := Array.getElem?_eq_getElem hl
  exact (World.cell?_of_block (h := (h.2 _ _ e h1 h2 (.inl h3)).trans e.symm)).trans hc
theorem FK.six {H b D N : Nat} {cs : Array Value} {t : TypeId} {fr : Nat × Nat} {W W' : World} (h : FK H b D W W') (hN : W.heap[N]? = some (.cells cs t fr)) (h1 : N ≠ b) (h2 : N ≠ D) (ht : t ≠ 5) : W'.heap[N]? = some (.cells cs t fr) :=
  h.2 N _ hN h1 h2 (.inr (fun c fz e => by cases e; exact ht rfl))

/-- The page in block b: the text cs is on it; colon, line, over. -/
def PGv (H b : Nat) (C : ByteArray) (L : Value) (cs : List UInt8) (ov : Bool) (p v : Value) (W : World) : Prop :=
  b < H ∧ H ≤ W.heap.size ∧ W.heap[b]? = some (.cells #[p, v, .string C, L, .bool ov] 46 (0, 0)) ∧ W.ownsRowF H 5 1 v cs.length (Lib.byteCells cs)
def PG (H b : Nat) (C : ByteArray) (L : Value) (cs : List UInt8) (ov : Bool) (W : World) : Prop :=
  ∃ p v, (p = .pointer none ∨ p = .pointer (some ⟨b, 0, none⟩)) ∧ PGv H b C L cs ov p v W
theorem pgv_cells {H b : Nat} {C : ByteArray} {L : Value} {cs : List UInt8} {ov : Bool} {p v : Value} {W : World} (h : PGv H b C L cs ov p v W) :
    W.cell? ⟨b, 0, none⟩ = some p ∧ W.cell? ⟨b, 1, none⟩ = some v ∧ W.cell? ⟨b, 2, none⟩ = some (.string C) ∧ W.cell? ⟨b, 3, none⟩ = some L ∧ W.cell? ⟨b, 4, none⟩ = some (.bool ov) := by
  have := h.2.2.1
  unfold World.cell?
  simp [this]
theorem pgv_shape {H b : Nat} {C : ByteArray} {L : Value} {cs : List UInt8} {ov : Bool} {p v : Value} {W : World} (h : PGv H b C L cs ov p v W) : W.shape? b = some (46, 5) := by
  have := h.2.2.1
  simp [World.shape?, this]
theorem pgv_frozen {H b : Nat} {C : ByteArray} {L : Value} {cs : List UInt8} {ov : Bool} {p v : Value} {W : World} (h : PGv H b C L cs ov p v W) (i : Nat) : W.frozen? ⟨b, i, none⟩ = false := by
  have := h.2.2.1
  simp [World.frozen?, this]
theorem pgv_ne {H b : Nat} {C : ByteArray} {L : Value} {cs : List UInt8} {ov : Bool} {p v : Value} {W : World} (h : PGv H b C L cs ov p v W) : v.ownBlock ≠ some b := fun e => by
  have := (h.2.2.2.lt b e).1
  have := h.1
  omega
theorem pgv_set {H b : Nat} {C : ByteArray} {L : Value} {cs : List UInt8} {ov : Bool} {p v : Value} {W : World} (h : PGv H b C L cs ov p v W) (i : Nat) (u : Value) {p' v' : Value} {cs' : List UInt8} {ov' : Bool}
    (hc : (#[p, v, .string C, L, .bool ov] : Array Value).setIfInBounds i u = #[p', v', .string C, L, .bool ov']) (ho : W.ownsRowF H 5 1 v' cs'.length (Lib.byteCells cs')) : PGv H b C L cs' ov' p' v' (W.setCell ⟨b, i, none⟩ u) := by
  refine ⟨h.1, by simpa [World.setCell] using h.2.1, ?_, ?_⟩
  · have := h.2.2.1
    simp [World.setCell, Array.getElem?_modify, this]
    simpa using hc
  · refine ho.kept (row := some b) ⟨rfl, rfl, rfl, by simp [World.setCell], fun k _ hk => Below.heap_setCell _ _ _ _ (fun e => hk (by simp [e]))⟩ (.inr ?_)
    intro e
    have := (ho.lt b e).1
    have := h.1
    omega
theorem pgv_below {H b : Nat} {C : ByteArray} {L : Value} {cs : List UInt8} {ov : Bool} {p v : Value} {W W' : World} (h : PGv H b C L cs ov p v W) (hb : Below W.heap.size W W') : PGv H b C L cs ov p v W' :=
  ⟨h.1, Nat.le_trans h.2.1 hb.size, (hb.block b (Array.getElem?_eq_some_iff.1 h.2.2.1).1).trans h.2.2.1, h.2.2.2.kept (row := none) ⟨hb.os, hb.tape, hb.output, hb.size, fun k hk _ => hb.block k hk⟩ (by cases hv : v.ownBlock <;> simp)⟩
theorem PG.below {H b : Nat} {C : ByteArray} {L : Value} {cs : List UInt8} {ov : Bool} {W W' : World} (h : PG H b C L cs ov W) (hb : Below W.heap.size W W') : PG H b C L cs ov W' := by
  obtain ⟨p, v, hp, h⟩ := h
  exact ⟨p, v, hp, pgv_below h hb⟩
theorem PG.lt {H b : Nat} {C : ByteArray} {L : Value} {cs : List UInt8} {ov : Bool} {W : World} (h : PG H b C L cs ov W) : b < H ∧ H ≤ W.heap.size := by
  obtain ⟨p, v, hp, h⟩ := h
  exact ⟨h.1, h.2.1⟩

set_option maxHeartbeats 1000000 in
set_option maxRecDepth 100000 in
theorem pcc_fresh (b : Nat) (w : World) (h0 : w.cell? ⟨b, 0, none⟩ = some (.pointer none)) (hsh : w.shape? b = some (46, 5)) (hfz : w.frozen? ⟨b, 0, none⟩ = false) :
    Calls Tryz.prog 75 #[.pointer (some ⟨b, 0, none⟩)] w fun e w' => e = .returned (.tuple #[]) ∧ w' = w.setCell ⟨b, 0, none⟩ (.pointer (some ⟨b, 0, none⟩)) := by
  obtain ⟨j, hj, hjs⟩ := Option.map_eq_some_iff.1 pgSz
  go_enter Tryz.func75, Tryz.ntmps75
  go_wp2
  rw [Lib.run_to_unsafe w ⟨b, 0, none⟩ Tryz.underlying42 Tryz.underlying107 hj (by rw [hjs]; decide) hsh (by show 0 < 5; decide)]
  simp only [Result.andThen]
  rw [Oper.upon_value]
  go_wp2
  rw [run_callFunc_extern Tryz.func93 (by kernel_rfl) (by kernel_rfl) (by kernel_rfl) (e := Extern.AbiNoEscape.same) (by kernel_rfl)]
  rw [Lib.run_noEscape]
  simp only [Result.andThen]
  rw [Oper.upon_value]
  go_wp2
  rw [Lib.run_from_unsafe w ⟨b, 0, none⟩ Tryz.underlying107 Tryz.underlying42 hj hsh pgLies]
  simp only [Result.andThen]
  rw [Oper.upon_value]
  go_wp2
  go_end0
  exact ⟨rfl, rfl⟩

set_option maxHeartbeats 1000000 in
set_option maxRecDepth 100000 in
theorem pcc_used (b : Nat) (w : World) (h0 : w.cell? ⟨b, 0, none⟩ = some (.pointer (some ⟨b, 0, none⟩))) :
    Calls Tryz.prog 75 #[.pointer (some ⟨b, 0, none⟩)] w fun e w' => e = .returned (.tuple #[]) ∧ w' = w := by
  obtain ⟨j, hj, _⟩ := Option.map_eq_some_iff.1 pgSz
  go_enter Tryz.func75, Tryz.ntmps75
  go_wp2
  rw [Lib.run_neq_ptr_same w _ Tryz.underlying42 hj]
  go_wp2
  go_end0
  exact ⟨rfl, rfl⟩

theorem pcc_any {H b : Nat} {C : ByteArray} {L : Value} {cs : List UInt8} {ov : Bool} (w : World) (h : PG H b C L cs ov w) :
    Calls Tryz.prog 75 #[.pointer (some ⟨b, 0, none⟩)] w fun e w' => e = .returned (.tuple #[]) ∧ (∃ v, PGv H b C L cs ov (.pointer (some ⟨b, 0, none⟩)) v w') ∧ FK H b b w w' := by
  obtain ⟨p, v, hp, h⟩ := h
  rcases hp with rfl | rfl
  · refine (pcc_fresh b w (pgv_cells h).1 (pgv_shape h) (pgv_frozen h 0)).mono ?_
    rintro e w' ⟨rfl, rfl⟩
    exact ⟨rfl, ⟨v, pgv_set h 0 _ rfl h.2.2.2⟩, FK.set _ _ _⟩
  · refine (pcc_used b w (pgv_cells h).1).mono ?_
    rintro e w' ⟨rfl, rfl⟩
    exact ⟨rfl, ⟨v, h⟩, FK.refl _ _ _ _⟩

theorem row_kind {H : Nat} {v : Value} {n : Nat} {xs : List Value} {w : World} (h : w.ownsRowF H 5 1 v n xs) : ∀ r, v.ownBlock = some r → H ≤ r ∧ ∃ c fz, w.heap[r]? = some (.cells c 5 fz) := fun r hr =>
  ⟨(h.lt r hr).1, Lib.ownsRowF_kind h r hr⟩

set_option maxHeartbeats 2000000 in
set_option maxRecDepth 100000 in
theorem pg_byte {H b : Nat} {C : ByteArray} {L : Value} {cs : List UInt8} {ov : Bool} (c : UInt8) (w : World) (h : PG H b C L cs ov w) (hlen : cs.length + 1 ≤ 140737488355328) :
    Calls Tryz.prog 100 #[.pointer (some ⟨b, 0, none⟩), .int .u8 c.toNat] w fun e w' => e = .returned .nilIface ∧ PG H b C L (cs ++ [c]) ov w' ∧ FK H b b w w' := by
  obtain ⟨i0, hi, hz0, hz1, hz2⟩ := info_parts pgByte
  go_enter Tryz.func100, Tryz.ntmps100
  go_wp2_with (go_at_call 75; refine (pcc_any _ h).mono ?_)
  rintro e w1 ⟨rfl, ⟨v, h1⟩, hk1⟩
  obtain ⟨c0, c1, c2, c3, c4⟩ := pgv_cells h1
  have hown := h1.2.2.2
  have hH := h1.2.1
  go_wp2_with (at_builtin; refine wpList_append_ownF _ rfl _ _ 37 rfl H 5 i0 (.int .u8 0) 1 1 Tryz.underlying37 hi hz0 hz1 hz2 rfl (by decide) _ _ _ rfl (hown.alloc _) ⟨w1.heap.size, 0, none⟩ 1 1 [.int .u8 c.toNat] rfl rfl ?c1 ?c2 ?c3 ?c4 ?c5 ?_)
  case c1 =>
    intro j u hj
    match j, hj with
    | 0, hj => simp at hj; subst hj; simp [Addr.add]
  case c2 => intro u hu; simp at hu; subst hu; rfl
  case c3 => unfold maxLen; omega
  case c4 => omega
  case c5 => simp; omega
  intro v' w2 hown' hgrow _
  have hne := pgv_ne h1
  have hA : PGv H b C L cs ov (.pointer (some ⟨b, 0, none⟩)) v (w1.alloc (.cells #[.int .u8 c.toNat] 5)) := pgv_below h1 ((Below.refl _ _).alloc (Nat.le_refl _) _)
  have hb2 : w2.heap[b]? = some (.cells #[.pointer (some ⟨b, 0, none⟩), v, .string C, L, .bool ov] 46 (0, 0)) := by
    rw [hgrow.block b (Array.getElem?_eq_some_iff.1 hA.2.2.1).1 (fun e => hne e.symm)]
    exact hA.2.2.1
  have hown2 : w2.ownsRowF H 5 1 v' (cs ++ [c]).length (Lib.byteCells (cs ++ [c])) := by
    rw [List.length_append, Lib.byteCells_append]
    exact hown'
  obtain ⟨g, cap, rfl⟩ : ∃ g cap, v' = .slice (some ⟨g, 0, none⟩) (cs.length + 1) cap := by
    rcases hown'.2 with ⟨_, h0⟩ | ⟨g, cap, cur, fz, hv, _⟩
    · omega
    · exact ⟨g, cap, hv⟩
  obtain ⟨d0, d1, f1, hfin⟩ : w2.cell? ⟨b, 0, none⟩ = some (.pointer (some ⟨b, 0, none⟩)) ∧ w2.cell? ⟨b, 1, none⟩ = some v ∧ w2.frozen? ⟨b, 1, none⟩ = false ∧ PGv H b C L (cs ++ [c]) ov (.pointer (some ⟨b, 0, none⟩)) (.slice (some ⟨g, 0, none⟩) (cs.length + 1) cap) (w2.setCell ⟨b, 1, none⟩ (.slice (some ⟨g, 0, none⟩) (cs.length + 1) cap)) := by
    have hg2 : H ≤ w2.heap.size := Nat.le_trans hA.2.1 hgrow.size
    refine ⟨by rw [Lib.cell_of_heap hb2]; rfl, by rw [Lib.cell_of_heap hb2]; rfl, Lib.frozen_of_heap hb2 1, h1.1, by simpa [World.setCell] using hg2, ?_, ?_⟩
    · simp [World.setCell, Array.getElem?_modify, hb2]
    · refine hown2.kept (row := some b) ⟨rfl, rfl, rfl, by simp [World.setCell], fun k _ hk => Below.heap_setCell _ _ _ _ (fun e => hk (by simp [e]))⟩ (.inr ?_)
      intro e
      have := (hown2.lt b e).1
      have := h1.1
      omega
  have HF : Hid (FK H b b w (w2.setCell ⟨b, 1, none⟩ (.slice (some ⟨g, 0, none⟩) (cs.length + 1) cap))) := Lib.hid (((hk1.trans (FK.of_below ((Below.refl _ _).alloc (Nat.le_refl _) _))).trans (FK.grown hgrow (row_kind hA.2.2.2))).trans (FK.set _ _ _))
  have HP := Lib.hid hfin
  clear hfin hown2 hb2 hA hgrow hown' hown h1 hk1
  go_wp2
  go_ret
  exact ⟨rfl, ⟨_, _, .inr rfl, HP.out⟩, HF.out⟩

set_option maxHeartbeats 2000000 in
set_option maxRecDepth 100000 in
theorem pg_string {H b : Nat} {C : ByteArray} {L : Value} {cs : List UInt8} {ov : Bool} (s : ByteArray) (w : World) (h : PG H b C L cs ov w) (hlen : cs.length + s.size ≤ 140737488355328) :
    Calls Tryz.prog 56 #[.pointer (some ⟨b, 0, none⟩), .string s] w fun e w' => e = .returned (.tuple #[.int .i64 s.size, .nilIface]) ∧ PG H b C L (cs ++ s.data.toList) ov w' ∧ FK H b b w w' := by
  obtain ⟨i0, hi, hz0, hz1, hz2⟩ := info_parts pgByte
  go_enter Tryz.func56, Tryz.ntmps56
  go_wp2_with (go_at_call 75; refine (pcc_any _ h).mono ?_)
  rintro e w1 ⟨rfl, ⟨v, h1⟩, hk1⟩
  obtain ⟨c0, c1, c2, c3, c4⟩ := pgv_cells h1
  have hown := h1.2.2.2
  have hH := h1.2.1
  go_wp2_with (at_builtin; refine Lib.wpList_append_own_stringF _ rfl _ _ 37 9 rfl H 5 i0 Tryz.underlying37 Tryz.underlying9 hi hz0 hz1 hz2 _ _ _ rfl hown s rfl ?c3 ?c4 ?c5 ?_)
  case c3 => unfold maxLen; omega
  case c4 => omega
  case c5 => omega
  intro v' w2 hown' hgrow _
  have hne := pgv_ne h1
  have hb2 : w2.heap[b]? = some (.cells #[.pointer (some ⟨b, 0, none⟩), v, .string C, L, .bool ov] 46 (0, 0)) := by
    rw [hgrow.block b (Array.getElem?_eq_some_iff.1 h1.2.2.1).1 (fun e => hne e.symm)]
    exact h1.2.2.1
  have hown2 : w2.ownsRowF H 5 1 v' (cs ++ s.data.toList).length (Lib.byteCells (cs ++ s.data.toList)) := by
    rw [List.length_append, Lib.byteCells_append, toList_length]
    exact hown'
  obtain ⟨ao, n', cap, rfl⟩ : ∃ ao n' cap, v' = .slice ao n' cap := by
    rcases hown'.2 with ⟨hv, _⟩ | ⟨g, cap, cur, fz, hv, _⟩
    · exact ⟨_, _, _, hv⟩
    · exact ⟨_, _, _, hv⟩
  obtain ⟨d0, d1, f1, hfin⟩ : w2.cell? ⟨b, 0, none⟩ = some (.pointer (some ⟨b, 0, none⟩)) ∧ w2.cell? ⟨b, 1, none⟩ = some v ∧ w2.frozen? ⟨b, 1, none⟩ = false ∧ PGv H b C L (cs ++ s.data.toList) ov (.pointer (some ⟨b, 0, none⟩)) (.slice ao n' cap) (w2.setCell ⟨b, 1, none⟩ (.slice ao n' cap)) := by
    have hg2 : H ≤ w2.heap.size := Nat.le_trans h1.2.1 hgrow.size
    refine ⟨by rw [Lib.cell_of_heap hb2]; rfl, by rw [Lib.cell_of_heap hb2]; rfl, Lib.frozen_of_heap hb2 1, h1.1, by simpa [World.setCell] using hg2, ?_, ?_⟩
    · simp [World.setCell, Array.getElem?_modify, hb2]
    · refine hown2.kept (row := some b) ⟨rfl, rfl, rfl, by simp [World.setCell], fun k _ hk => Below.heap_setCell _ _ _ _ (fun e => hk (by simp [e]))⟩ (.inr ?_)
      intro e
      have := (hown2.lt b e).1
      have := h1.1
      omega
  have HF : Hid (FK H b b w (w2.setCell ⟨b, 1, none⟩ (.slice ao n' cap))) := Lib.hid ((hk1.trans (FK.grown hgrow (row_kind h1.2.2.2))).trans (FK.set _ _ _))
  have HP := Lib.hid hfin
  clear hfin hown2 hb2 hgrow hown' hown h1 hk1
  go_wp2
  go_ret2
  exact ⟨rfl, ⟨_, _, .inr rfl, HP.out⟩, HF.out⟩

set_option maxHeartbeats 1000000 in
set_option maxRecDepth 100000 in
theorem pg_len {H b : Nat} {C : ByteArray} {L : Value} {cs : List UInt8} {ov : Bool} (w : World) (h : PG H b C L cs ov w) :
    Calls Tryz.prog 34 #[.pointer (some ⟨b, 0, none⟩)] w fun e w' => e = .returned (.int .i64 cs.length) ∧ w' = w := by
  obtain ⟨p, v, hp, h⟩ := h
  obtain ⟨c0, c1, c2, c3, c4⟩ := pgv_cells h
  obtain ⟨ao, cap, rfl⟩ : ∃ ao cap, v = .slice ao cs.length cap := by
    rcases h.2.2.2.2 with ⟨hv, h0⟩ | ⟨g, cap, cur, fz, hv, _⟩
    · exact ⟨_, _, by rw [hv, h0]⟩
    · exact ⟨_, _, hv⟩
  clear h
  go_enter Tryz.func34, Tryz.ntmps34
  go_wp2
  go_ret
  exact ⟨rfl, rfl⟩

theorem pgCells : Tryz.prog.cellsOf 5 = 1 := by kernel_rfl
set_option maxHeartbeats 2000000 in
set_option maxRecDepth 100000 in
theorem pg_str {H b : Nat} {C : ByteArray} {L : Value} {l : List UInt8} {ov : Bool} (w : World) (h : PG H b C L l ov w) (h0 : l ≠ []) :
    Calls Tryz.prog 35 #[.pointer (some ⟨b, 0, none⟩)] w fun e w' => e = .returned (.string ⟨l.toArray⟩) ∧ Below H w w' := by
  obtain ⟨p, v, hp, h⟩ := h
  have hl0 : l.length ≠ 0 := by simpa using h0
  have hown := h.2.2.2
  obtain ⟨g, cap, cur, fz, rfl, hbg, hg, hfz, hnc, hcm, hcs, htake⟩ : ∃ g cap cur fz, v = .slice (some ⟨g, 0, none⟩) l.length cap ∧ H ≤ g ∧ w.heap[g]? = some (.cells cur 5 fz) ∧ fz.2 ≤ l.length * 1 ∧ l.length ≤ cap ∧ cap ≤ maxLen ∧ cur.size = cap * 1 ∧ cur.toList.take (l.length * 1) = Lib.byteCells l := by
    rcases hown.2 with ⟨_, hz⟩ | ⟨g, cap, cur, fz, hv, r⟩
    · exact absurd hz hl0
    · exact ⟨g, cap, cur, fz, hv, r⟩
  have c1 : w.drew.cell? ⟨b, 1, none⟩ = some (.slice (some ⟨g, 0, none⟩) l.length cap) := by
    have : w.drew.heap[b]? = some (.cells #[p, .slice (some ⟨g, 0, none⟩) l.length cap, .string C, L, .bool ov] 46 (0, 0)) := h.2.2.1
    rw [Lib.cell_of_heap this]; rfl
  have hSD : (Builtin.unsafeSliceData_ #[37] 65 #[.slice (some ⟨g, 0, none⟩) l.length cap]).run Tryz.prog w.drew = .ok (.pointer (some ⟨g, 0, none⟩)) w.drew :=
    Lib.run_unsafeSliceData_row _ _ _ _ _ _ (by omega)
  have hUS : (Builtin.unsafeString_ #[65, 3] 9 #[.pointer (some ⟨g, 0, none⟩), .int .i64 l.length]).run Tryz.prog w.drew = .ok (.string ⟨l.toArray⟩) (w.drew.freeze ⟨g, 0, none⟩ l.length) := by
    refine Lib.run_unsafeString_row w.drew 65 3 9 5 Tryz.underlying65 pgCells g cur.size (by have hg' : w.drew.heap[g]? = some (.cells cur 5 fz) := hg; simp [World.shape?, hg']) l h0 (by omega) (by unfold maxLen at hcm; omega) ?_
    intro j x hx
    have := hown.cells (g := g) rfl j (.int .u8 x.toNat) (by simp [Lib.byteCells, hx])
    exact this
  have HB : Hid (Below H w (w.drew.freeze ⟨g, 0, none⟩ l.length)) := Lib.hid (Lib.below_freeze (Below.drew (Below.refl H w)) (p := ⟨g, 0, none⟩) hbg _)
  clear hown h hg hfz hnc hcm hcs htake hp
  have mixed : Tryz.prog.follows Departure.mixedOrders = true := by kernel_rfl
  go_enter Tryz.func35, Tryz.ntmps35
  go_wp2
  go_region_o
  all_goals (go_wp2; go_ret; exact ⟨rfl, HB.out⟩)
end Go.Proofs.YtllkcldckehipaaGreatDoor

namespace Go.Proofs.YtllkcldckehipaaGreatDoor
open Go.RowKit

/-- The first j parts, each behind A, with commas between. -/
def rowsT (A : List UInt8) (T : Nat → List UInt8) : Nat → List UInt8
  | 0 => []
  | j + 1 => rowsT A T j ++ ((if j = 0 then [] else [44]) ++ (A ++ T j))
/-- n parts in brackets; A0 ahead of the closing one. -/
def rowT (A0 A1 : List UInt8) (o c : UInt8) (n : Nat) (T : Nat → List UInt8) : List UInt8 :=
  [o] ++ (if n = 0 then [] else rowsT A1 T n ++ A0) ++ [c]
def boolL (b : Bool) : List UInt8 := if b then [116, 114, 117, 101] else [102, 97, 108, 115, 101]
def keyT (C : List UInt8) (k : ByteArray) (t : List UInt8) : List UInt8 := Ru.quoteL k.data.toList ++ (C ++ t)
mutual
/-- A value's text; C behind a key, I d ahead of a part d deep. -/
def ft (C : List UInt8) (I : Nat → List UInt8) : Nat → V → List UInt8
  | d, .mk k b n s l ks =>
    if k = 0 then [110, 117, 108, 108] else if k = 1 then boolL b else if k = 2 then Nu.txt n else if k = 3 then Ru.quoteL s.data.toList
    else if k = 4 then rowT (I d) (I (d + 1)) 91 93 l.length (fun i => (fts C I (d + 1) l).getD i [])
    else rowT (I d) (I (d + 1)) 123 125 l.length (fun i => keyT C (ks.getD i ⟨#[]⟩) ((fts C I (d + 1) l).getD i []))
def fts (C : List UInt8) (I : Nat → List UInt8) : Nat → List V → List (List UInt8)
  | _, [] => []
  | d, x :: t => ft C I d x :: fts C I d t
end
theorem fts_length (C : List UInt8) (I : Nat → List UInt8) (d : Nat) : ∀ l : List V, (fts C I d l).length = l.length
  | [] => rfl
  | x :: t => by rw [fts, List.length_cons, fts_length C I d t]; rfl
theorem fts_get (C : List UInt8) (I : Nat → List UInt8) (d : Nat) : ∀ (l : List V) (i : Nat) (h : i < l.length), (fts C I d l).getD i [] = ft C I d l[i]
  | x :: t, 0, _ => by rw [fts]; rfl
  | x :: t, i + 1, h => by
    rw [fts]
    exact fts_get C I d t i (by simpa using h)

/-- A writing of the text t, on a page with cs: all of it, or the page is over, since it would be too long. -/
def Wr (t cs : List UInt8) (ov : Bool) (cs' : List UInt8) (ov' : Bool) : Prop :=
  cs'.length ≤ cs.length + t.length ∧ (ov = true → ov' = true) ∧ (ov' = false → cs' = cs ++ t) ∧ (ov = false → ov' = true → 32768 < cs.length + t.length)
theorem Wr.all (t cs : List UInt8) (ov : Bool) : Wr t cs ov (cs ++ t) ov := ⟨by simp, id, fun _ => rfl, fun h1 h2 => by rw [h1] at h2; cases h2⟩
theorem Wr.none (cs : List UInt8) (ov : Bool) : Wr [] cs ov cs ov := ⟨by simp, id, fun _ => by simp, fun h1 h2 => by rw [h1] at h2; cases h2⟩
theorem Wr.over (t cs : List UInt8) (ov : Bool) (h : 32768 < cs.length + t.length) : Wr t cs ov cs true := ⟨by omega, fun _ => rfl, (fun h => by cases h), fun _ _ => h⟩
theorem Wr.trans {s t cs cs1 cs2 : List UInt8} {ov ov1 ov2 : Bool} (h : Wr s cs ov cs1 ov1) (k : Wr t cs1 ov1 cs2 ov2) : Wr (s ++ t) cs ov cs2 ov2 := by
  obtain ⟨h1, h2, h3, h4⟩ := h
  obtain ⟨k1, k2, k3, k4⟩ := k
  refine ⟨by rw [List.length_append]; omega, fun e => k2 (h2 e), fun e => ?_, fun e1 e2 => ?_⟩
  · have e1 : ov1 = false := by
      cases hv : ov1
      · rfl
      · rw [k2 hv] at e; cases e
    rw [k3 e, h3 e1, List.append_assoc]
  · rw [List.length_append]
    cases hv : ov1 with
    | false =>
      have := k4 hv e2
      rw [h3 hv, List.length_append] at this
      omega
    | true =>
      have := h4 e1 hv
      omega
theorem Wr.to {s t cs cs1 : List UInt8} {ov ov1 : Bool} (h : Wr s cs ov cs1 ov1) (e : s = t) : Wr t cs ov cs1 ov1 := e ▸ h
theorem Wr.len {s cs cs1 : List UInt8} {ov ov1 : Bool} (h : Wr s cs ov cs1 ov1) : cs1.length ≤ cs.length + s.length := h.1
end Go.Proofs.YtllkcldckehipaaGreatDoor

namespace Go.Proofs.YtllkcldckehipaaGreatDoor
open Go.RowKit

/-- What a page's function 'line' does: one deeper, and one back. -/
def LineC (H b D : Nat) (C : ByteArray) (gl : Nat) (lb : Array Value) (I : Nat → List UInt8) (St : Nat → World → Prop) (d : Nat) : Prop :=
  (∀ W, H ≤ W.heap.size → St d W → Calls Tryz.prog gl (#[.int .i64 1] ++ lb) W fun e W' => e = .returned (.string ⟨(I (d + 1)).toArray⟩) ∧ St (d + 1) W' ∧ FK H b D W W' ∧ ∀ L cs ov, PG H b C L cs ov W → PG H b C L cs ov W') ∧
  (∀ W, H ≤ W.heap.size → St (d + 1) W → Calls Tryz.prog gl (#[.int .i64 (-1)] ++ lb) W fun e W' => e = .returned (.string ⟨(I d).toArray⟩) ∧ St d W' ∧ FK H b D W W' ∧ ∀ L cs ov, PG H b C L cs ov W → PG H b C L cs ov W')
def PartC (H b D : Nat) (C : ByteArray) (L : Value) (gp : Nat) (pb : Array Value) (St : Nat → World → Prop) (d : Nat) (W0 : World) (T : Nat → List UInt8) (n : Nat) : Prop :=
  ∀ i, i < n → ∀ cs ov W, cs.length + (T i).length ≤ 70368744177664 → PG H b C L cs ov W → St (d + 1) W → FK H b D W0 W →
    Calls Tryz.prog gp (#[.int .i64 i] ++ pb) W fun e W' => e = .returned (.tuple #[]) ∧ ∃ cs' ov', PG H b C L cs' ov' W' ∧ St (d + 1) W' ∧ FK H b D W W' ∧ Wr (T i) cs ov cs' ov'
theorem data_list (l : List UInt8) : (ByteArray.mk l.toArray).data.toList = l := rfl
theorem size_list (l : List UInt8) : (ByteArray.mk l.toArray).size = l.length := by simp [ByteArray.size]

theorem rowsT_mono (A : List UInt8) (T : Nat → List UInt8) (j : Nat) : ∀ k, (rowsT A T j).length ≤ (rowsT A T (j + k)).length
  | 0 => Nat.le_refl _
  | k + 1 => by
    rw [← Nat.add_assoc, rowsT, List.length_append]
    have := rowsT_mono A T j k
    omega
theorem pg_comma {H b : Nat} {C : ByteArray} {L : Value} {cs : List UInt8} {ov : Bool} (w : World) (h : PG H b C L cs ov w) (hlen : cs.length + 1 ≤ 140737488355328) :
    Calls Tryz.prog 100 #[.pointer (some ⟨b, 0, none⟩), .int .u8 44] w fun e w' => e = .returned .nilIface ∧ PG H b C L (cs ++ [44]) ov w' ∧ FK H b b w w' := pg_byte 44 w h hlen

set_option maxRecDepth 100000 in
set_option maxHeartbeats 8000000 in
theorem row_any {H b D gl gp : Nat} {C : ByteArray} {lb pb : Array Value} (I : Nat → List UInt8) (St : Nat → World → Prop) (d : Nat) (T : Nat → List UInt8) (n : Nat) (o c : UInt8) (cs : List UInt8) (ov : Bool) (w : World)
    (egl : ∀ args w, (callFunc gl args).run Tryz.prog w = .ok (.enter gl args) w) (egp : ∀ args w, (callFunc gp args).run Tryz.prog w = .ok (.enter gp args) w)
    (hline : LineC H b D C gl lb I St d) (hSt : ∀ k W W', St k W → FK H b b W W' → St k W') (hpart : PartC H b D C (.func (.func gl) #[] lb) gp pb St d w T n)
    (hn : n ≤ 1000000) (hlen : cs.length + (rowT (I d) (I (d + 1)) o c n T).length ≤ 70368744177664) (h : PG H b C (.func (.func gl) #[] lb) cs ov w) (hst : St d w) :
    Calls Tryz.prog 87 #[.pointer (some ⟨b, 0, none⟩), .int .u8 o.toNat, .int .i64 n, .func (.func gp) #[] pb, .int .u8 c.toNat] w fun e w' =>
      e = .returned (.tuple #[]) ∧ ∃ cs' ov', PG H b C (.func (.func gl) #[] lb) cs' ov' w' ∧ St d w' ∧ FK H b D w w' ∧ Wr (rowT (I d) (I (d + 1)) o c n T) cs ov cs' ov' := by
  have HL := Lib.hid hline
  have HS := Lib.hid hSt
  have HP := Lib.hid hpart
  have HLEN := Lib.hid hlen
  clear hline hSt hpart hlen
  rcases Nat.eq_zero_or_pos n with rfl | hpos
  · have HE : Hid (rowT (I d) (I (d + 1)) o c 0 T = [o] ++ [c]) := Lib.hid rfl
    have hl2 : cs.length + 2 ≤ 70368744177664 := by
      have := HLEN.out
      rw [HE.out] at this
      simpa using this
    have z1 : decide ((0 : Int) < ((0 : Nat) : Int)) = false := rfl
    go_enter Tryz.func87, Tryz.ntmps87
    go_wp2_with fail
    refine (pg_byte o _ h (by omega)).mono ?_
    rintro e w1 ⟨rfl, h1, hk1⟩
    have HK1 := Lib.hid hk1
    clear hk1 h
    go_wp2_with fail
    refine (pg_byte c _ h1 (by simp; omega)).mono ?_
    rintro e w2 ⟨rfl, h2, hk2⟩
    go_wp2_with fail
    go_end0
    refine ⟨rfl, _, _, h2, HS.out _ _ _ hst (HK1.out.trans hk2), (HK1.out.trans hk2).wide D, ?_⟩
    rw [HE.out]
    exact (Wr.all [o] cs ov).trans (Wr.all [c] _ _)
  · have HE : Hid (rowT (I d) (I (d + 1)) o c n T = [o] ++ ((rowsT (I (d + 1)) T n ++ I d) ++ [c])) := Lib.hid (by rw [rowT, if_neg (by omega), List.append_assoc])
    have hl2 : cs.length + (1 + ((rowsT (I (d + 1)) T n).length + (I d).length + 1)) ≤ 70368744177664 := by
      have := HLEN.out
      rw [HE.out] at this
      simp only [List.length_append, List.length_singleton] at this
      omega
    have z1 : decide ((0 : Int) < (n : Int)) = true := decide_eq_true (by omega)
    obtain ⟨RN, hRN⟩ : ∃ r, r = (rowsT (I (d + 1)) T n).length := ⟨_, rfl⟩
    rw [← hRN] at hl2
    have HRN := Lib.hid hRN
    clear hRN
    go_enter Tryz.func87, Tryz.ntmps87
    go_wp2_with fail
    refine (pg_byte o _ h (by omega)).mono ?_
    rintro e w1 ⟨rfl, h1, hk1⟩
    have HST := Lib.hid (HS.out _ _ _ hst hk1)
    have HK1 := Lib.hid (hk1.wide D)
    clear hk1 h hst
    obtain ⟨p, v, hp, h1v⟩ := h1
    obtain ⟨c0, c1, c2, c3, c4⟩ := pgv_cells h1v
    have H1 := Lib.hid (show PG H b C (.func (.func gl) #[] lb) (cs ++ [o]) ov w1 from ⟨p, v, hp, h1v⟩)
    clear h1v hp
    go_wp2_with fail
    refine (HL.out.1 _ H1.out.lt.2 HST.out).mono ?_
    rintro e w2 ⟨rfl, hst2, hk2, hpg2⟩
    have H2 := Lib.hid (hpg2 _ _ _ H1.out)
    have HK2 := Lib.hid (HK1.out.trans hk2)
    have HST2 := Lib.hid hst2
    clear hst2 hk2 hpg2 HST HK1 H1 c0 c1 c2 c3 c4
    obtain ⟨A, hA⟩ : ∃ A, A = I (d + 1) := ⟨_, rfl⟩
    have HA := Lib.hid hA
    rw [← hA] at HE HRN HLEN ⊢
    obtain ⟨SA, hSA⟩ : ∃ S : ByteArray, S = ⟨A.toArray⟩ := ⟨_, rfl⟩
    rw [← hSA]
    have hsz : SA.size = A.length := by rw [hSA]; exact size_list A
    have HDA : Hid (SA.data.toList = A) := Lib.hid (by rw [hSA])
    clear hSA hA
    go_wp2_with fail
    go_loopw [25] (fun i wr => ∃ (j : Nat) (cs' : List UInt8) (ov' : Bool), j ≤ n ∧ i = .int .i64 j ∧ Hid (PG H b C (.func (.func gl) #[] lb) cs' ov' wr) ∧ Hid (St (d + 1) wr) ∧ Hid (FK H b D w wr) ∧ Hid (Wr ([o] ++ rowsT A T j) cs ov cs' ov')) (fun i _ => n - (intOf i).toNat)
    case atStart => exact ⟨0, _, _, by omega, rfl, H2, HST2, HK2, Lib.hid (Wr.to (Wr.all [o] cs ov) (by simp [rowsT]))⟩
    case round =>
      obtain ⟨j, cs1, ov1, hj, rfl, hP, hS, hF, hW⟩ := hrel
      by_cases hlt : j < n
      · have hl3 : cs1.length + (if j = 0 then 0 else 1) + A.length + (T j).length ≤ 70368744177664 := by
          have h1 := hW.out.len
          have h2 := rowsT_mono A T (j + 1) (n - (j + 1))
          rw [show j + 1 + (n - (j + 1)) = n by omega, ← HRN.out, rowsT] at h2
          simp only [List.length_append, List.length_singleton] at h1 h2
          split at h2
          · rename_i h0
            rw [if_pos h0]
            simp only [List.length_nil] at h2
            omega
          · rename_i h0
            rw [if_neg h0]
            simp only [List.length_singleton] at h2
            omega
        have b1 : decide ((j : Int) < (n : Int)) = true := decide_eq_true (by omega)
        have fin : ∀ (cs2 cs3 : List UInt8) (ov2 ov3 : Bool), Wr (if j = 0 then [] else [44]) cs1 ov1 cs2 ov2 → Wr (T j) (cs2 ++ A) ov2 cs3 ov3 → Wr ([o] ++ rowsT A T (j + 1)) cs ov cs3 ov3 := fun cs2 cs3 ov2 ov3 h1 h2 =>
          Wr.to (hW.out.trans (h1.trans ((Wr.all A cs2 ov2).trans h2))) (by rw [rowsT]; simp)
        have FIN := Lib.hid fin
        clear fin
        rcases Nat.eq_zero_or_pos j with h0 | h0
        · have b2 : decide ((0 : Int) < (j : Int)) = false := decide_eq_false (by omega)
          have HJ0 : Hid (j = 0) := Lib.hid h0
          rw [if_pos h0] at hl3
          have b4 : ¬ 0 < j := by omega
          clear h0
          go_wp2_with fail
          refine (pg_string SA _ hP.out (by omega)).mono ?_
          rintro e w3 ⟨rfl, h3, hk3⟩
          rw [HDA.out] at h3
          have HK3 := Lib.hid (hF.out.trans (hk3.wide D))
          have HS3 := Lib.hid (HS.out _ _ _ hS.out hk3)
          have H3 := Lib.hid h3
          clear h3 hk3 hF hS hP
          go_wp2_with fail
          refine (HP.out j hlt _ _ _ (by simp; omega) H3.out HS3.out HK3.out).mono ?_
          rintro e w4 ⟨rfl, cs4, ov4, h4, hs4, hk4, hw4⟩
          have H4 := Lib.hid h4
          have HS4 := Lib.hid hs4
          have HK4 := Lib.hid (HK3.out.trans hk4)
          have HW4 := Lib.hid (FIN.out cs1 cs4 ov1 ov4 (by rw [if_pos HJ0.out]; exact Wr.none _ _) hw4)
          clear h4 hs4 hk4 hw4
          go_wp2_with fail
          go_roundw
          case rel => exact ⟨j + 1, _, _, by omega, by go_num, H4, HS4, HK4, HW4⟩
          case measure => simp [intOf]; omega
        · have b2 : decide ((0 : Int) < (j : Int)) = true := decide_eq_true (by omega)
          have HJ0 : Hid (¬ j = 0) := Lib.hid (by omega)
          rw [if_neg (by omega)] at hl3
          go_wp2_with fail
          refine (pg_comma _ hP.out (by omega)).mono ?_
          rintro e w2 ⟨rfl, h2, hk2⟩
          have HK2 := Lib.hid hk2
          have H2 := Lib.hid h2
          clear h2 hk2
          go_wp2_with fail
          refine (pg_string SA _ H2.out (by simp; omega)).mono ?_
          rintro e w3 ⟨rfl, h3, hk3⟩
          rw [HDA.out] at h3
          have HK3 := Lib.hid (hF.out.trans ((HK2.out.trans hk3).wide D))
          have HS3 := Lib.hid (HS.out _ _ _ hS.out (HK2.out.trans hk3))
          have H3 := Lib.hid h3
          clear h3 hk3 hF hS hP
          go_wp2_with fail
          refine (HP.out j hlt _ _ _ (by simp; omega) H3.out HS3.out HK3.out).mono ?_
          rintro e w4 ⟨rfl, cs4, ov4, h4, hs4, hk4, hw4⟩
          have H4 := Lib.hid h4
          have HS4 := Lib.hid hs4
          have HK4 := Lib.hid (HK3.out.trans hk4)
          have HW4 := Lib.hid (FIN.out (cs1 ++ [44]) cs4 ov1 ov4 (by rw [if_neg HJ0.out]; exact Wr.all _ _ _) hw4)
          clear h4 hs4 hk4 hw4
          go_wp2_with fail
          go_roundw
          case rel => exact ⟨j + 1, _, _, by omega, by go_num, H4, HS4, HK4, HW4⟩
          case measure => simp [intOf]; omega
      · obtain rfl : j = n := by omega
        have b1 : decide ((j : Int) < (j : Int)) = false := decide_eq_false (by omega)
        have hl3 : cs1.length + ((I d).length + 1) ≤ 70368744177664 := by
          have h1 := hW.out.len
          rw [List.length_append, ← HRN.out] at h1
          simp only [List.length_singleton] at h1
          omega
        obtain ⟨p, v, hp, h1v⟩ := hP.out
        obtain ⟨c0, c1, c2, c3, c4⟩ := pgv_cells h1v
        obtain ⟨SB, hSB⟩ : ∃ S : ByteArray, S = ⟨(I d).toArray⟩ := ⟨_, rfl⟩
        have hsb : SB.size = (I d).length := by rw [hSB]; exact size_list _
        have HDB : Hid (SB.data.toList = I d) := Lib.hid (by rw [hSB])
        have HBACK := Lib.hid (HL.out.2)
        rw [← hSB] at HBACK
        have hdr : Below wr.heap.size wr wr.drew := (Below.refl _ _).drew
        have HPd := Lib.hid (hP.out.below hdr)
        have HSd := Lib.hid (HS.out _ _ _ hS.out (FK.of_below hdr))
        have HFd := Lib.hid (hF.out.trans (FK.of_below hdr))
        clear h1v hp hSB hdr
        go_wp2_with fail
        go_region_with (first
          | (go_at_fn gl; refine (HBACK.out _ HPd.out.lt.2 HSd.out).mono ?_; rintro e w2 ⟨rfl, hst2, hk2, hpg2⟩)
          | (go_at_call 56; refine (pg_string SB _ (hpg2 _ _ _ HPd.out) (by omega)).mono ?_; rintro e w3 ⟨rfl, h3, hk3⟩))
        all_goals
          rw [HDB.out] at h3
          have HS3 := Lib.hid (HS.out _ _ _ hst2 hk3)
          have HK3 := Lib.hid (HFd.out.trans (hk2.trans (hk3.wide D)))
          have hl4 : cs1.length + (I d).length + 1 ≤ 70368744177664 := by omega
          have H3 := Lib.hid h3
          clear h3 hk3 hst2 hk2 hpg2 c0 c1 c2 c3 c4
          go_wp2_with fail
          refine (pg_byte c _ H3.out (by simp; omega)).mono ?_
          rintro e w5 ⟨rfl, h5, hk5⟩
          go_wp2_with fail
          go_end0
          refine ⟨rfl, _, _, h5, HS.out _ _ _ HS3.out hk5, HK3.out.trans (hk5.wide D), ?_⟩
          rw [← HA.out, HE.out]
          exact Wr.to (hW.out.trans ((Wr.all (I d) _ _).trans (Wr.all [c] _ _))) (by simp)
end Go.Proofs.YtllkcldckehipaaGreatDoor

namespace Go.Proofs.YtllkcldckehipaaGreatDoor
open Go.Lib

theorem short_small (r : Nat) (h : Ru.shortN r ≠ 0) : r < 128 := by
  unfold Ru.shortN at h
  repeat' split at h
  all_goals omega
theorem qRune_ge {l : List UInt8} (h0 : l ≠ []) (hb : bad l = false) : (decodeL l).2 ≤ (Ru.qRune (decodeL l).1).length := by
  have e : (encodeRune ((decodeL l).1 : Int)).length = (decodeL l).2 := by
    rw [encode_decode l h0 (bad_false hb), List.length_take]
    have := decodeL_le l h0
    omega
  generalize (decodeL l).1 = r at *
  generalize (decodeL l).2 = k at *
  by_cases h : r < 128
  · have e2 : encodeRune (r : Int) = [r.toUInt8] := by
      unfold encodeRune
      rw [encodeRuneZ_one (by omega) (by omega)]
      simp
    rw [e2] at e
    unfold Ru.qRune
    split
    · simp at e ⊢; omega
    · split
      · simp at e ⊢; omega
      · rw [e2]; simp at e ⊢; omega
  · unfold Ru.qRune
    rw [if_neg (fun hc => h (short_small r hc)), if_neg (by omega), e]
    exact Nat.le_refl _
theorem steps_ge {l : List UInt8} (h : validD l = true) : ∀ p, l.length ≤ ((stepsP p l).flatMap fun x => Ru.qRune x.2).length := by
  refine valid_ind (P := fun l => ∀ p, l.length ≤ ((stepsP p l).flatMap fun x => Ru.qRune x.2).length) (fun p => by simp [stepsP_nil]) ?_ l.length l (Nat.le_refl _) h
  intro l h0 hb _ ih p
  rw [stepsP_good p h0 hb, List.flatMap_cons, List.length_append]
  have h1 : (decodeL l).2 ≤ (Ru.qRune ((p, (decodeL l).1) : Nat × Nat).2).length := qRune_ge h0 hb
  have h2 := ih (p + (decodeL l).2)
  rw [List.length_drop] at h2
  omega
theorem Ru.quoteL_ge {s : ByteArray} (h : validS s = true) : s.size ≤ (Ru.quoteL s.data.toList).length := by
  have := steps_ge h 0
  have e : s.data.toList.length = s.size := by rw [Array.length_toList]; rfl
  unfold Ru.quoteL steps
  simp only [List.length_append, List.length_cons, List.length_nil]
  omega
end Go.Proofs.YtllkcldckehipaaGreatDoor

namespace Go.Proofs.YtllkcldckehipaaGreatDoor
open Go.RowKit Go.Shelf

theorem env_fk {H b D : Nat} {W W' : World} (h : FK H b D W W') (h1 : 2 ≤ b) (h2 : 2 ≤ D) (h3 : 2 ≤ H) (hE : Env W) : Env W' := hE.below (h.below (lo := 2) h1 h2 h3 hE.1) (Nat.le_refl 2)
def PutQ (H b D : Nat) (C : ByteArray) (L : Value) (St : Nat → World → Prop) (d : Nat) (w : World) (t cs : List UInt8) (ov : Bool) (e : Ending) (w' : World) : Prop :=
  e = .returned (.tuple #[]) ∧ ∃ cs' ov', PG H b C L cs' ov' w' ∧ St d w' ∧ FK H b D w w' ∧ Wr t cs ov cs' ov'

theorem pg_over {H b : Nat} {C : ByteArray} {L : Value} {cs : List UInt8} {ov : Bool} {w : World} (h : PG H b C L cs ov w) : PG H b C L cs true (w.setCell ⟨b, 4, none⟩ (.bool true)) := by
  obtain ⟨p, v, hp, h⟩ := h
  exact ⟨p, v, hp, pgv_set h 4 _ rfl h.2.2.2⟩

set_option maxRecDepth 100000 in
set_option maxHeartbeats 4000000 in
theorem pquote_any {H b : Nat} {C : ByteArray} {L : Value} {cs : List UInt8} {ov : Bool} (s : ByteArray) (w : World) (hE : Env w) (hv : validS s = true) (hs : s.size ≤ 1000000) (hb2 : 2 ≤ b) (h : PG H b C L cs ov w) (hl : cs.length + (Ru.quoteL s.data.toList).length ≤ 70368744177664) :
    Calls Tryz.prog 86 #[.pointer (some ⟨b, 0, none⟩), .string s] w fun e w' => e = .returned (.tuple #[]) ∧ ∃ cs' ov', PG H b C L cs' ov' w' ∧ FK H b b w w' ∧ Wr (Ru.quoteL s.data.toList) cs ov cs' ov' := by
  have HQ := Lib.hid (fun W (hW : Env W) => Ru.quote_yes s W hv (by omega) hW.1 hW.2)
  have HE := Lib.hid hE
  have HL := Lib.hid hl
  have hl2 : cs.length ≤ 70368744177664 := by omega
  have HPG := Lib.hid h
  obtain ⟨p, v, hp, h1v⟩ := h
  obtain ⟨c0, c1, c2, c3, c4⟩ := pgv_cells h1v
  have f4 := pgv_frozen h1v 4
  have hqs : s.size ≤ (Ru.quoteL s.data.toList).length := Ru.quoteL_ge hv
  have HQS := Lib.hid hqs
  obtain ⟨n, hn⟩ : ∃ n, n = cs.length := ⟨_, rfl⟩
  obtain ⟨m, hm⟩ : ∃ m, m = s.size := ⟨_, rfl⟩
  have HN := Lib.hid hn
  have HLN := Lib.hid (show ∀ W, PG H b C L cs ov W → Calls Tryz.prog 34 #[.pointer (some ⟨b, 0, none⟩)] W fun e w' => e = .returned (.int .i64 n) ∧ w' = W from fun W hW => by rw [hn]; exact pg_len W hW)
  rw [← hn] at hl2
  rw [← hm] at hs
  have hm2 : s.size = m := hm.symm
  clear hn hl hE hv h1v hqs hp hm
  have w1 : IntKind.i64.wrap ((n : Int) + (m : Int)) = (n : Int) + (m : Int) := IntWalk.i64_in _ (by omega)
  by_cases hc : 32768 < n + m
  · have z1 : decide ((32768 : Int) < (n : Int) + (m : Int)) = true := decide_eq_true (by omega)
    have HC := Lib.hid hc
    clear hc
    go_enter Tryz.func86, Tryz.ntmps86
    go_wp2_with fail
    refine (HLN.out _ HPG.out).mono ?_
    rintro e w' ⟨rfl, rfl⟩
    go_wp2_with fail
    go_returns
    refine ⟨rfl, cs, true, pg_over HPG.out, FK.set _ _ _, Wr.over _ _ _ ?_⟩
    have h1 := HC.out
    have h2 := HN.out
    have h3 := HQS.out
    omega
  · have z1 : decide ((32768 : Int) < (n : Int) + (m : Int)) = false := decide_eq_false (by omega)
    clear hc
    go_enter Tryz.func86, Tryz.ntmps86
    go_wp2_with fail
    refine (HLN.out _ HPG.out).mono ?_
    rintro e w' ⟨rfl, rfl⟩
    go_wp2_with fail
    refine (HQ.out _ HE.out).mono ?_
    rintro e w1 ⟨rfl, hb1⟩
    have H1 := Lib.hid (HPG.out.below hb1)
    have HB1 := Lib.hid hb1
    clear hb1 c0 c1 c2 c3 c4 f4
    go_wp2_with fail
    refine (pg_string _ _ H1.out (by rw [size_list]; have := HL.out; omega)).mono ?_
    rintro e w2 ⟨rfl, h2, hk2⟩
    go_wp2_with fail
    go_end0
    exact ⟨rfl, _, _, h2, (FK.of_below HB1.out).trans hk2, Wr.all _ _ _⟩

set_option maxRecDepth 100000 in
set_option maxHeartbeats 2000000 in
theorem fmtI_any (b : Bool) (w : World) : Calls Tryz.prog 97 #[.bool b] w fun e w' => e = .returned (.string ⟨(boolL b).toArray⟩) ∧ w' = w := by
  cases b
  all_goals
    go_enter Tryz.func97, Tryz.ntmps97
    go_wp2_with fail
    go_ret
    exact ⟨rfl, rfl⟩
set_option maxRecDepth 100000 in
set_option maxHeartbeats 2000000 in
theorem fmtB_any (b : Bool) (w : World) : Calls Tryz.prog 84 #[.bool b] w fun e w' => e = .returned (.string ⟨(boolL b).toArray⟩) ∧ w' = w := by
  go_enter Tryz.func84, Tryz.ntmps84
  go_wp2_with fail
  refine (fmtI_any b _).mono ?_
  rintro e w' ⟨rfl, rfl⟩
  go_wp2_with fail
  go_ret
  exact ⟨rfl, rfl⟩

set_option maxRecDepth 100000 in
set_option maxHeartbeats 2000000 in
theorem pnull_any {H b D : Nat} {C : ByteArray} {L : Value} {cs : List UInt8} {ov : Bool} {c0 c1 c2 c3 c4 c5 : Value} (St : Nat → World → Prop) (d : Nat) (hSt : ∀ k W W', St k W → FK H b b W W' → St k W') (w : World) (h : PG H b C L cs ov w) (hst : St d w) (hl : cs.length + 4 ≤ 70368744177664) :
    Calls Tryz.prog 61 #[.pointer (some ⟨b, 0, none⟩), .agg #[c0, c1, c2, c3, c4, c5]] w (PutQ H b D C L St d w [110, 117, 108, 108] cs ov) := by
  have hb : Below w.heap.size w (w.alloc (.cells #[c0, c1, c2, c3, c4, c5] 26)) := kbA
  have H1 := Lib.hid (h.below hb)
  have HB := Lib.hid hb
  have HS := Lib.hid hSt
  clear h hb hSt
  go_enter Tryz.func61, Tryz.ntmps61
  go_wp2_with fail
  refine (pg_string _ _ H1.out (by show cs.length + 4 ≤ _; omega)).mono ?_
  rintro e w2 ⟨rfl, h2, hk2⟩
  have HF := Lib.hid ((FK.of_below (H := H) (b := b) (D := b) HB.out).trans hk2)
  go_wp2_with fail
  go_end0
  exact ⟨rfl, _, _, h2, HS.out _ _ _ hst HF.out, HF.out.wide D, Wr.all _ _ _⟩
set_option maxRecDepth 100000 in
set_option maxHeartbeats 2000000 in
theorem ptruth_any {H b D : Nat} {C : ByteArray} {L : Value} {cs : List UInt8} {ov : Bool} {c0 c2 c3 c4 c5 : Value} (B : Bool) (St : Nat → World → Prop) (d : Nat) (hSt : ∀ k W W', St k W → FK H b b W W' → St k W') (w : World) (h : PG H b C L cs ov w) (hst : St d w) (hl : cs.length + (boolL B).length ≤ 70368744177664) :
    Calls Tryz.prog 62 #[.pointer (some ⟨b, 0, none⟩), .agg #[c0, .bool B, c2, c3, c4, c5]] w (PutQ H b D C L St d w (boolL B) cs ov) := by
  have hb : Below w.heap.size w (w.alloc (.cells #[c0, .bool B, c2, c3, c4, c5] 26)) := kbA
  have hbd : Below w.heap.size w (w.alloc (.cells #[c0, .bool B, c2, c3, c4, c5] 26)).drew := hb.drew
  have H1 := Lib.hid (h.below hbd)
  have HB := Lib.hid hbd
  have HS := Lib.hid hSt
  clear h hb hSt hbd
  go_enter Tryz.func62, Tryz.ntmps62
  go_wp2_with fail
  go_region_with (first
    | (go_at_call 84; refine (fmtB_any B _).mono ?_; rintro e w3 ⟨rfl, rfl⟩)
    | (go_at_call 56; refine (pg_string _ _ H1.out (by rw [size_list]; omega)).mono ?_; rintro e w2 ⟨rfl, h2, hk2⟩))
  all_goals
    have HF := Lib.hid ((FK.of_below (H := H) (b := b) (D := b) HB.out).trans hk2)
    go_wp2_with fail
    go_end0
    exact ⟨rfl, _, _, h2, HS.out _ _ _ hst HF.out, HF.out.wide D, Wr.all _ _ _⟩
set_option maxRecDepth 100000 in
set_option maxHeartbeats 2000000 in
theorem pnumber_any {H b D : Nat} {C : ByteArray} {L : Value} {cs : List UInt8} {ov : Bool} {c0 c1 c3 c4 c5 : Value} (n : Int) (St : Nat → World → Prop) (d : Nat) (hSt : ∀ k W W', St k W → FK H b b W W' → St k W') (w : World) (h : PG H b C L cs ov w) (hst : St d w) (hl : cs.length + (Nu.txt n).length ≤ 70368744177664) :
    Calls Tryz.prog 63 #[.pointer (some ⟨b, 0, none⟩), .agg #[c0, c1, .int .i64 n, c3, c4, c5]] w (PutQ H b D C L St d w (Nu.txt n) cs ov) := by
  have hb : Below w.heap.size w (w.alloc (.cells #[c0, c1, .int .i64 n, c3, c4, c5] 26)) := kbA
  have H1 := Lib.hid (h.below hb)
  have HB := Lib.hid hb
  have HS := Lib.hid hSt
  clear h hb hSt
  go_enter Tryz.func63, Tryz.ntmps63
  go_wp2_with fail
  refine (Nu.text_any n _).mono ?_
  rintro e w1 ⟨rfl, hb1⟩
  have H2 := Lib.hid (H1.out.below hb1)
  have HB2 := Lib.hid ((FK.of_below (H := H) (b := b) (D := b) HB.out).trans (FK.of_below hb1))
  clear hb1
  go_wp2_with fail
  refine (pg_string _ _ H2.out (by rw [size_list]; omega)).mono ?_
  rintro e w2 ⟨rfl, h2, hk2⟩
  have HF := Lib.hid (HB2.out.trans hk2)
  go_wp2_with fail
  go_end0
  exact ⟨rfl, _, _, h2, HS.out _ _ _ hst HF.out, HF.out.wide D, Wr.all _ _ _⟩
set_option maxRecDepth 100000 in
set_option maxHeartbeats 2000000 in
theorem ptextv_any {H b D : Nat} {C : ByteArray} {L : Value} {cs : List UInt8} {ov : Bool} {c0 c1 c2 c4 c5 : Value} (s : ByteArray) (St : Nat → World → Prop) (d : Nat) (hSt : ∀ k W W', St k W → FK H b b W W' → St k W') (w : World) (hE : Env w) (hv : validS s = true) (hs : s.size ≤ 1000000) (hb2 : 2 ≤ b) (h : PG H b C L cs ov w) (hst : St d w) (hl : cs.length + (Ru.quoteL s.data.toList).length ≤ 70368744177664) :
    Calls Tryz.prog 64 #[.pointer (some ⟨b, 0, none⟩), .agg #[c0, c1, c2, .string s, c4, c5]] w (PutQ H b D C L St d w (Ru.quoteL s.data.toList) cs ov) := by
  have hb : Below w.heap.size w (w.alloc (.cells #[c0, c1, c2, .string s, c4, c5] 26)) := kbA
  have H1 := Lib.hid (pquote_any s _ (hE.kb hb) hv hs hb2 (h.below hb) hl)
  have HB := Lib.hid hb
  have HS := Lib.hid hSt
  clear h hb hSt hl hE hv hs
  go_enter Tryz.func64, Tryz.ntmps64
  go_wp2_with fail
  refine H1.out.mono ?_
  rintro e w2 ⟨rfl, cs2, ov2, h2, hk2, hw2⟩
  have HF := Lib.hid ((FK.of_below (H := H) (b := b) (D := b) HB.out).trans hk2)
  have HW := Lib.hid hw2
  clear hw2
  go_wp2_with fail
  go_end0
  exact ⟨rfl, _, _, h2, HS.out _ _ _ hst HF.out, HF.out.wide D, HW.out⟩
end Go.Proofs.YtllkcldckehipaaGreatDoor

namespace Go.Proofs.YtllkcldckehipaaGreatDoor
open Go.RowKit Go.Shelf

/-- What a value may be that is printed. -/
def okQ (z : V) : Prop := (0 ≤ z.kind ∧ z.kind ≤ 5) ∧ validS z.text = true ∧ z.text.size ≤ 1000000 ∧ z.list.length ≤ 1000000 ∧ (z.kind = 5 → z.keys.length = z.list.length) ∧ ∀ k ∈ z.keys, validS k = true ∧ k.size ≤ 1000000
def okP (x : V) : Prop := ∀ z ∈ walkV x, okQ z
/-- The blocks in which a value lies that is printed. -/
def bq (H b D : Nat) (q : Nat) : Prop := q < H ∧ q ≠ b ∧ q ≠ D
theorem isVa_fk {H b D : Nat} {W W' : World} (h : FK H b D W W') {x : V} {v : Value} (hv : isVa W (bq H b D) x v) : isVa W' (bq H b D) x v :=
  isVa_keep (fun a c hB hc => h.cellB a c hB.2.1 hB.2.2 hB.1 hc) x v hv
theorem isVas_fk {H b D : Nat} {W W' : World} (h : FK H b D W W') {l : List V} {a : Addr} (hb : 0 < l.length → bq H b D a.block) (hv : isVas W (bq H b D) l a) : isVas W' (bq H b D) l a :=
  isVas_keep (fun a c hB hc => h.cellB a c hB.2.1 hB.2.2 hB.1 hc) l a hb hv

/-- The contract of put for one value, wherever it lies. -/
def PutC (H b D : Nat) (C : ByteArray) (L : Value) (I : Nat → List UInt8) (St : Nat → World → Prop) (d : Nat) (x : V) : Prop :=
  ∀ (v : Value) (cs : List UInt8) (ov : Bool) (w : World), isVa w (bq H b D) x v → Env w → PG H b C L cs ov w → St d w → cs.length + (ft C.data.toList I d x).length ≤ 70368744177664 →
    Calls Tryz.prog 32 #[.pointer (some ⟨b, 0, none⟩), v] w (PutQ H b D C L St d w (ft C.data.toList I d x) cs ov)

set_option maxRecDepth 100000 in
set_option maxHeartbeats 4000000 in
theorem plist1_any {H b D N : Nat} {C : ByteArray} {L : Value} {I : Nat → List UInt8} {St : Nat → World → Prop} {d : Nat} {cs : List UInt8} {ov : Bool} {c0 c1 c2 c3 c5 : Value} (l : List V) (a : Addr) (cap : Nat) (t1 : TypeId) (i : Nat) (hi : i < l.length) (hN : l.length ≤ 1000000) (w : World)
    (hp : Boxed w N 40 (.pointer (some ⟨b, 0, none⟩))) (hbx : w.heap[N + 1]? = some (.cells #[c0, c1, c2, c3, .slice (some a) l.length cap, c5] 26 (0, 0))) (hl : isVas w (bq H b D) l a)
    (hSt : ∀ k W W', St k W → FK H b b W W' → St k W') (hput : PutC H b D C L I St d l[i]) (hE : Env w) (h : PG H b C L cs ov w) (hst : St d w) (hlen : cs.length + (ft C.data.toList I d l[i]).length ≤ 70368744177664) :
    Calls Tryz.prog 88 #[.int .i64 i, .pointer (some ⟨N, 0, none⟩), .pointer (some ⟨N + 1, 0, none⟩)] w (PutQ H b D C L St d w (ft C.data.toList I d l[i]) cs ov) := by
  obtain ⟨zk, zb, zn, zs, zo, zm, zc, zo2, zm2, zc2, g0, g1, g2, g3, g4, g5, hx⟩ := isVas_sl l a i hi hl
  have HX := Lib.hid hx
  have hdr : Below w.heap.size w w.drew := (Below.refl _ _).drew
  have HC := Lib.hid (hput _ cs ov w.drew (isVa_fk (FK.of_below hdr) hx) (hE.kb hdr) (h.below hdr) (hSt _ _ _ hst (FK.of_below hdr)) hlen)
  have b0 : w.cell? ⟨N, 0, none⟩ = some (.pointer (some ⟨b, 0, none⟩)) := hp.cell
  obtain ⟨r0, r1, r2, r3, r4, r5⟩ := six_cells hbx
  have HD : Hid (FK H b D w w.drew) := Lib.hid (FK.of_below hdr)
  clear hx hput hE h hst hlen hSt hdr hl hbx hp
  go_enter Tryz.func88, Tryz.ntmps88
  go_wp2_with fail
  go_still_tail 6, (by kernel_rfl)
  change wpList _ _ _ _ _ w.drew
  go_wp2_with fail
  refine HC.out.mono ?_
  rintro e w2 ⟨rfl, cs2, ov2, h2, hs2, hk2, hw2⟩
  have HQ := Lib.hid (show PutQ H b D C L St d w (ft C.data.toList I d l[i]) cs ov (.returned (.tuple #[])) w2 from ⟨rfl, cs2, ov2, h2, hs2, HD.out.trans hk2, hw2⟩)
  clear h2 hs2 hk2 hw2
  go_wp2_with fail
  go_end0
  exact HQ.out

set_option maxRecDepth 100000 in
set_option maxHeartbeats 8000000 in
theorem pobj1_any {H b D N : Nat} {C : ByteArray} {L : Value} {I : Nat → List UInt8} {St : Nat → World → Prop} {d : Nat} {cs : List UInt8} {ov : Bool} {c0 c1 c2 c3 : Value} (l : List V) (ks : List ByteArray) (a a2 : Addr) (cap cap2 : Nat) (i : Nat) (hi : i < l.length) (hN : l.length ≤ 1000000) (hkl : ks.length = l.length) (w : World)
    (hp : Boxed w N 40 (.pointer (some ⟨b, 0, none⟩))) (hbx : w.heap[N + 1]? = some (.cells #[c0, c1, c2, c3, .slice (some a) l.length cap, .slice (some a2) ks.length cap2] 26 (0, 0))) (hl : isVas w (bq H b D) l a) (hla : bq H b D a.block)
    (hk : w.cell? (a2.add i) = some (.string (ks.getD i ⟨#[]⟩))) (hkv : validS (ks.getD i ⟨#[]⟩) = true) (hks : (ks.getD i ⟨#[]⟩).size ≤ 1000000)
    (hb2 : 2 ≤ b) (hD2 : 2 ≤ D) (hDH : D < H) (hNH : H ≤ N) (hSt : ∀ k W W', St k W → FK H b b W W' → St k W') (hput : PutC H b D C L I St d l[i]) (hE : Env w) (h : PG H b C L cs ov w) (hst : St d w)
    (hlen : cs.length + (keyT C.data.toList (ks.getD i ⟨#[]⟩) (ft C.data.toList I d l[i])).length ≤ 70368744177664) :
    Calls Tryz.prog 89 #[.int .i64 i, .pointer (some ⟨N, 0, none⟩), .pointer (some ⟨N + 1, 0, none⟩)] w (PutQ H b D C L St d w (keyT C.data.toList (ks.getD i ⟨#[]⟩) (ft C.data.toList I d l[i])) cs ov) := by
  have hbH := h.lt.1
  generalize ks.getD i ⟨#[]⟩ = s at *
  have hlen' := hlen
  rw [keyT, List.length_append, List.length_append] at hlen'
  have hcl : C.data.toList.length = C.size := by rw [Array.length_toList]; rfl
  have hdr : Below w.heap.size w w.drew := (Below.refl _ _).drew
  have HC0 := Lib.hid (pquote_any s w.drew (hE.kb hdr) hkv hks hb2 (h.below hdr) (by omega))
  have b0 : w.cell? ⟨N, 0, none⟩ = some (.pointer (some ⟨b, 0, none⟩)) := hp.cell
  obtain ⟨r0, r1, r2, r3, r4, r5⟩ := six_cells hbx
  have HD : Hid (FK H b D w w.drew) := Lib.hid (FK.of_below hdr)
  have HDb : Hid (FK H b b w w.drew) := Lib.hid (FK.of_below hdr)
  have HST := Lib.hid hSt
  have HPUT := Lib.hid hput
  have HLEN := Lib.hid hlen'
  have HE := Lib.hid hE
  have HSt0 := Lib.hid hst
  have HBX := Lib.hid hbx
  have HPB := Lib.hid hp
  have HL := Lib.hid hl
  have HLA := Lib.hid hla
  have HCL := Lib.hid hcl
  have hil : i < ks.length := by omega
  clear hput hE h hst hlen hlen' hSt hdr hl hbx hp hcl hkv hks hla
  go_enter Tryz.func89, Tryz.ntmps89
  go_wp2_with fail
  go_still_tail 6, (by kernel_rfl)
  change wpList _ _ _ _ _ w.drew
  go_wp2_with fail
  refine HC0.out.mono ?_
  rintro e w2 ⟨rfl, cs2, ov2, h2, hk2, hw2⟩
  have HK2b := Lib.hid (HDb.out.trans hk2)
  have HK2 := Lib.hid (HD.out.trans (hk2.wide D))
  have HW2 := Lib.hid hw2
  have hdr : Below w2.heap.size w2 w2.drew := (Below.refl _ _).drew
  have hp2 := HK2.out.boxed HPB.out (by omega) (by omega) (by decide)
  have hbx2 := HK2.out.six HBX.out (by omega) (by omega) (by decide)
  have b0 : w2.cell? ⟨N, 0, none⟩ = some (.pointer (some ⟨b, 0, none⟩)) := hp2.cell
  obtain ⟨p, v, hpp, h2v⟩ := h2
  obtain ⟨d0, d1, d2, d3, d4⟩ := pgv_cells h2v
  have h2 : PG H b C L cs2 ov2 w2 := ⟨p, v, hpp, h2v⟩
  have hlen2 := hw2.len
  have HC1 := Lib.hid (pg_string C w2.drew (h2.below hdr) (by have := HLEN.out; have := HCL.out; omega))
  have HLEN2 := Lib.hid hlen2
  have HDR2 := Lib.hid hdr
  clear hp2 hbx2 h2 h2v hpp hlen2 hw2 hk2 HC0 r0 r1 r2 r3 r4 r5 hk hdr
  go_wp2_with fail
  go_still_tail 7, (by kernel_rfl)
  change wpList _ _ _ _ _ w2.drew
  go_wp2_with fail
  refine HC1.out.mono ?_
  rintro e w3 ⟨rfl, h3, hk3⟩
  have HK3b := Lib.hid (HK2b.out.trans ((FK.of_below HDR2.out).trans hk3))
  have HK3 := Lib.hid (HK3b.out.wide D)
  have HW3 := Lib.hid (HW2.out.trans (Wr.all C.data.toList cs2 ov2))
  have hdr : Below w3.heap.size w3 w3.drew := (Below.refl _ _).drew
  have hp3 := HK3.out.boxed HPB.out (by omega) (by omega) (by decide)
  have hbx3 := HK3.out.six HBX.out (by omega) (by omega) (by decide)
  have b0 : w3.cell? ⟨N, 0, none⟩ = some (.pointer (some ⟨b, 0, none⟩)) := hp3.cell
  obtain ⟨r0, r1, r2, r3, r4, r5⟩ := six_cells hbx3
  have hl3 := isVas_fk HK3.out (fun _ => HLA.out) HL.out
  obtain ⟨zk, zb, zn, zs, zo, zm, zc, zo2, zm2, zc2, g0, g1, g2, g3, g4, g5, hx⟩ := isVas_sl l a i hi hl3
  have hE3 : Env w3 := env_fk HK3b.out hb2 hb2 (by omega) HE.out
  have HC := Lib.hid (HPUT.out _ (cs2 ++ C.data.toList) ov2 w3.drew (isVa_fk (FK.of_below hdr) hx) (hE3.kb hdr) (h3.below hdr) (HST.out _ _ _ HSt0.out (HK3b.out.trans (FK.of_below hdr))) (by rw [List.length_append]; have h1 := HLEN.out; have h2 := HLEN2.out; omega))
  have HK4 := Lib.hid (HK3.out.trans (FK.of_below hdr))
  clear hp3 hbx3 hl3 hx hE3 hdr h3 hk3 d0 d1 d2 d3 d4
  go_wp2_with fail
  go_still_tail 6, (by kernel_rfl)
  change wpList _ _ _ _ _ w3.drew
  go_wp2_with fail
  refine HC.out.mono ?_
  rintro e w4 ⟨rfl, cs4, ov4, h4, hs4, hk4, hw4⟩
  have HQ := Lib.hid (show PutQ H b D C L St d w (keyT C.data.toList s (ft C.data.toList I d l[i])) cs ov (.returned (.tuple #[])) w4 from ⟨rfl, cs4, ov4, h4, hs4, HK4.out.trans hk4, Wr.to (HW3.out.trans hw4) (by rw [keyT, List.append_assoc])⟩)
  clear h4 hs4 hk4 hw4
  go_wp2_with fail
  go_end0
  exact HQ.out

/-- What holds of a page throughout: its function 'line', and what that goes by. -/
def Pctx (H b D : Nat) (C : ByteArray) (gl : Nat) (lb : Array Value) (I : Nat → List UInt8) (St : Nat → World → Prop) : Prop :=
  2 ≤ b ∧ 2 ≤ D ∧ D < H ∧ (∀ args w, (callFunc gl args).run Tryz.prog w = .ok (.enter gl args) w) ∧ (∀ d, d ≤ 60 → LineC H b D C gl lb I St d) ∧ ∀ k W W', St k W → FK H b b W W' → St k W'

theorem two_box (w : World) (t1 t2 : TypeId) (v : Value) (cs : Array Value) : Below w.heap.size w ((w.alloc (.cells #[v] t1)).alloc (.cells cs t2)) ∧ Boxed ((w.alloc (.cells #[v] t1)).alloc (.cells cs t2)) w.heap.size t1 v ∧ ((w.alloc (.cells #[v] t1)).alloc (.cells cs t2)).heap[w.heap.size + 1]? = some (.cells cs t2 (0, 0)) := by
  have h := World.alloc_heap_new (w.alloc (.cells #[v] t1)) (.cells cs t2)
  rw [World.size_alloc] at h
  exact ⟨by go_grown, (Boxed.new w t1 v).alloc _, h⟩
theorem okP_self {x : V} (h : okP x) : okQ x := h x (by obtain ⟨_, _, _, _, _, _⟩ := x; rw [walkV]; exact List.mem_cons_self)
theorem okP_part {x y : V} (h : okP x) (hy : y ∈ x.list) : okP y := fun z hz => h z (walk_part hy rfl z hz)

set_option maxRecDepth 100000 in
set_option maxHeartbeats 8000000 in
theorem plist_any {H b D gl : Nat} {C : ByteArray} {lb : Array Value} {I : Nat → List UInt8} {St : Nat → World → Prop} {d : Nat} {cs : List UInt8} {ov : Bool} (hctx : Pctx H b D C gl lb I St) (hd : d ≤ 60) (B : Bool) (n : Int) (s : ByteArray) (l : List V) (ks : List ByteArray) (v : Value) (w : World)
    (hv : isVa w (bq H b D) (.mk 4 B n s l ks) v) (hN : l.length ≤ 1000000) (hput : ∀ x ∈ l, PutC H b D C (.func (.func gl) #[] lb) I St (d + 1) x) (hE : Env w) (h : PG H b C (.func (.func gl) #[] lb) cs ov w) (hst : St d w)
    (hlen : cs.length + (ft C.data.toList I d (.mk 4 B n s l ks)).length ≤ 70368744177664) :
    Calls Tryz.prog 65 #[.pointer (some ⟨b, 0, none⟩), v] w (PutQ H b D C (.func (.func gl) #[] lb) St d w (ft C.data.toList I d (.mk 4 B n s l ks)) cs ov) := by
  obtain ⟨hb2, hD2, hDH, egl, hline, hSt⟩ := hctx
  have hft : ft C.data.toList I d (.mk 4 B n s l ks) = rowT (I d) (I (d + 1)) 91 93 l.length (fun i => (fts C.data.toList I (d + 1) l).getD i []) := by
    rw [ft, if_neg (by decide), if_neg (by decide), if_neg (by decide), if_neg (by decide), if_pos rfl]
  rw [hft] at hlen ⊢
  unfold isVa at hv
  obtain ⟨lv, kv, rfl, hk1, hn1, hs1, ⟨a, cap, ⟨o, rfl, hc1, hc2, ho⟩, hB, hl⟩, ⟨a2, cap2, ⟨o2, rfl, hc3, hc4, ho2⟩, hB2, hks⟩⟩ := hv
  obtain ⟨hb, hbp, hbx⟩ := two_box w 40 26 (.pointer (some ⟨b, 0, none⟩)) #[.int .i8 4, .bool B, .int .i64 n, .string s, .slice o l.length cap, .slice o2 ks.length cap2]
  have hzz : ((w.alloc (.cells #[.pointer (some ⟨b, 0, none⟩)] 40)).alloc (.cells #[.int .i8 4, .bool B, .int .i64 n, .string s, .slice o l.length cap, .slice o2 ks.length cap2] 26)).heap.size = w.heap.size + 1 + 1 := by simp
  have hbH := h.lt
  have HROW : Hid (∀ W1, W1 = ((w.alloc (.cells #[.pointer (some ⟨b, 0, none⟩)] 40)).alloc (.cells #[.int .i8 4, .bool B, .int .i64 n, .string s, .slice o l.length cap, .slice o2 ks.length cap2] 26)) → Calls Tryz.prog 87 #[.pointer (some ⟨b, 0, none⟩), .int .u8 91, .int .i64 l.length, .func (.func 88) #[] #[.pointer (some ⟨w.heap.size, 0, none⟩), .pointer (some ⟨w.heap.size + 1, 0, none⟩)], .int .u8 93] W1 fun e w' =>
      e = .returned (.tuple #[]) ∧ ∃ cs' ov', PG H b C (.func (.func gl) #[] lb) cs' ov' w' ∧ St d w' ∧ FK H b D W1 w' ∧ Wr (rowT (I d) (I (d + 1)) 91 93 l.length (fun i => (fts C.data.toList I (d + 1) l).getD i [])) cs ov cs' ov') := Lib.hid (by
    rintro W1 rfl
    refine row_any I St d (fun i => (fts C.data.toList I (d + 1) l).getD i []) l.length 91 93 cs ov _ egl (enters_of Tryz.func88 (by kernel_rfl) rfl) (hline d hd) hSt ?_ hN hlen (h.below hb) (hSt _ _ _ hst (FK.of_below hb))
    intro i hi cs1 ov1 W hl1 hp1 hs1 hk1
    simp only [fts_get C.data.toList I (d + 1) l i hi] at hl1 ⊢
    obtain rfl := ho (by omega)
    have hWE : Env W := env_fk hk1 hb2 hD2 (by omega) (hE.kb hb)
    exact plist1_any l a cap 26 i hi hN W (hk1.boxed hbp (by omega) (by omega) (by decide)) (hk1.six hbx (by omega) (by omega) (by decide)) (isVas_fk ((FK.of_below hb).trans hk1) hB hl) hSt (hput _ (List.getElem_mem hi)) hWE hp1 hs1 hl1)
  have HFB := Lib.hid (FK.of_below (H := H) (b := b) (D := D) hb)
  have hllen : (l.length : Int) ≤ 1000000 := by omega
  clear hput hE h hst hlen hSt hl hbx hbp hB hB2 hks ho ho2 hft hline egl hb hzz hk1 hn1 hs1
  go_enter Tryz.func65, Tryz.ntmps65
  go_wp2_with fail
  refine (HROW.out _ rfl).mono ?_
  rintro e w2 ⟨rfl, cs2, ov2, h2, hs2, hk2, hw2⟩
  have HQ := Lib.hid (show PutQ H b D C (.func (.func gl) #[] lb) St d w (rowT (I d) (I (d + 1)) 91 93 l.length (fun i => (fts C.data.toList I (d + 1) l).getD i [])) cs ov (.returned (.tuple #[])) w2 from ⟨rfl, cs2, ov2, h2, hs2, HFB.out.trans hk2, hw2⟩)
  clear h2 hs2 hk2 hw2
  go_wp2_with fail
  go_end0
  exact HQ.out
end Go.Proofs.YtllkcldckehipaaGreatDoor
