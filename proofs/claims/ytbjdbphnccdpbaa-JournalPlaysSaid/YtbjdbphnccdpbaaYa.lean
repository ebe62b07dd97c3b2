/-
  Disks in memory: what a disk is (plain), its acts (plain), rows of bytes that a call owns (cut ones too), frames.
-/
import Derived.Test.YtbjdbphnccdpbaaBaseP
import Derived.RangeFuncBox
import Derived.Shelf.RegionOpenPlain
import Derived.OwnWalk
import Derived.Lib.OthersKept
import Derived.Lib.UnsafeStr
import Derived.Lib.AppendIntMem
import Derived.Laws.EntriesVeiled
import Derived.Laws.CopyOwn
import Derived.Laws.OwnMore
import Derived.Laws.AppendOwn
import Derived.Maps.AppendAt
import Derived.Deep.AppendLies
import Derived.Deep.RegionLaw
import Derived.StillTailTactics
import Derived.WalkSpells
set_option linter.unusedVariables false
namespace Go.Proofs.Ytbjdbphnccdpbaa
open Go.RowKit Go.Shelf Go.Lib

/-- A disk: its file, is it down, with what is it armed. -/
structure DS where
  f : List UInt8
  dn : Bool
  ar : Option Nat

/-- A write of a disk that is up: of one that is armed the torn one. -/
def wrD (s : DS) (whole torn : List UInt8) : Int × DS :=
  match s.ar with
  | some _ => (60, ⟨torn, true, none⟩)
  | none => (0, ⟨whole, false, none⟩)
def appD (s : DS) (x : List UInt8) : Int × DS :=
  if s.dn = true then (60, s) else if 1048576 < s.f.length + x.length then (3, s) else wrD s (s.f ++ x) (s.f ++ x.take (s.ar.getD 0))
def swapD (s : DS) (x : List UInt8) : Int × DS :=
  if s.dn = true then (60, s) else if 1048576 < x.length then (3, s) else wrD s x s.f
def cutD (s : DS) (n : Int) : Int × DS :=
  if s.dn = true then (60, s) else if n < 0 ∨ (s.f.length : Int) < n then (2, s) else wrD s (s.f.take n.toNat) s.f
def armD (s : DS) (n : Int) : Int × DS :=
  if s.dn = true then (60, s) else if n < 0 then (2, s) else (0, ⟨s.f, s.dn, some n.toNat⟩)
def crashD (s : DS) : Int × DS := if s.dn = true then (60, s) else (0, ⟨s.f, true, none⟩)
def upD (s : DS) : Int × DS := if s.dn = true then (0, ⟨s.f, false, s.ar⟩) else (2, s)

/-- The bytes x lie in the slice v. -/
def rd (W : World) (x : List UInt8) (v : Value) : Prop :=
  ∃ o a c, v = .slice o x.length c ∧ x.length ≤ c ∧ c ≤ maxLen ∧ (0 < x.length → o = some a) ∧ ∀ j u, (byteCells x)[j]? = some u → W.cell? (a.add j) = some u
theorem rd.keep {W W' : World} {x : List UInt8} {v : Value} (h : rd W x v) (hc : ∀ a c, W.cell? a = some c → W'.cell? a = some c) : rd W' x v := by
  obtain ⟨o, a, c, h1, h2, h3, h4, h5⟩ := h
  exact ⟨o, a, c, h1, h2, h3, h4, fun j u hj => hc _ _ (h5 j u hj)⟩
theorem rd.below {W W' : World} {x : List UInt8} {v : Value} (h : rd W x v) (hb : Below W.heap.size W W') : rd W' x v :=
  h.keep fun a c hc => (World.cell?_of_block (hb.block _ (World.block_lt_of_cell? W a hc))).trans hc
theorem rd_nil (W : World) : rd W [] (.slice none 0 0) := ⟨none, ⟨0, 0, none⟩, 0, rfl, Nat.le_refl _, by unfold maxLen; omega, fun h => absurd h (by simp), fun j u hj => by simp [byteCells] at hj⟩
theorem rd.cut {W : World} {x : List UInt8} {o : Option Addr} {n c : Nat} (h : rd W x (.slice o n c)) (k c' : Nat) (hk : k ≤ x.length) (h1 : k ≤ c') (h2 : c' ≤ maxLen) : rd W (x.take k) (.slice o k c') := by
  obtain ⟨o', a, c2, h0, _, _, h4, h5⟩ := h
  cases h0
  have hl : (x.take k).length = k := by rw [List.length_take]; omega
  refine ⟨o, a, c', by rw [hl], by omega, h2, fun h => h4 (by omega), fun j u hj => h5 j u ?_⟩
  have hjk : j < k := by
    have := (List.getElem?_eq_some_iff.1 hj).1
    rw [byteCells_length, hl] at this
    exact this
  unfold byteCells at hj ⊢
  rw [List.map_take, List.getElem?_take, if_pos hjk] at hj
  exact hj

/-- The slice v owns its bytes x, from base on; what it may be appended to in place lies in its row. -/
def ow (base : Nat) (W : World) (v : Value) (x : List UInt8) : Prop :=
  (v = .slice none 0 0 ∧ x = []) ∨ ∃ g cap cur, v = .slice (some ⟨g, 0, none⟩) x.length cap ∧ base ≤ g ∧ W.heap[g]? = some (.cells cur 5 (0, 0)) ∧ x.length ≤ cap ∧ cap ≤ maxLen ∧ cap ≤ cur.size ∧ cur.toList.take x.length = byteCells x
theorem ow.lt {base : Nat} {W : World} {v : Value} {x : List UInt8} (h : ow base W v x) : ∀ k, v.ownBlock = some k → base ≤ k ∧ k < W.heap.size ∧ ∃ cur, W.heap[k]? = some (.cells cur 5 (0, 0)) := by
  intro k hk
  rcases h with ⟨rfl, _⟩ | ⟨g, cap, cur, rfl, hb, hg, _⟩
  · cases hk
  · have : g = k := by simpa [Value.ownBlock] using hk
    subst this
    exact ⟨hb, (Array.getElem?_eq_some_iff.1 hg).1, cur, hg⟩
theorem ow.keep {base : Nat} {W W' : World} {v : Value} {x : List UInt8} (h : ow base W v x) (hk : ∀ k o, v.ownBlock = some k → W.heap[k]? = some o → W'.heap[k]? = some o) : ow base W' v x := by
  rcases h with h | ⟨g, cap, cur, rfl, hb, hg, r⟩
  · exact .inl h
  · exact .inr ⟨g, cap, cur, rfl, hb, hk g _ (by simp [Value.ownBlock]) hg, r⟩
theorem ow.rd {base : Nat} {W : World} {v : Value} {x : List UInt8} (h : ow base W v x) : rd W x v := by
  rcases h with ⟨rfl, rfl⟩ | ⟨g, cap, cur, rfl, hb, hg, r1, r2, r3, r4⟩
  · exact rd_nil W
  · refine ⟨some ⟨g, 0, none⟩, ⟨g, 0, none⟩, cap, rfl, r1, r2, fun _ => rfl, fun j u hj => ?_⟩
    have hadd : (⟨g, 0, none⟩ : Addr).add j = ⟨g, j, none⟩ := by unfold Addr.add; split <;> simp_all
    rw [hadd, cell_of_row W g j cur _ _ hg]
    rw [← r4, List.getElem?_take] at hj
    split at hj
    · simpa using hj
    · cases hj
theorem ow.cut {base : Nat} {W : World} {o : Option Addr} {n c : Nat} {x : List UInt8} (h : ow base W (.slice o n c) x) (k c' : Nat) (hk : k ≤ x.length) (h1 : k ≤ c') (h2 : c' ≤ c) : ow base W (.slice o k c') (x.take k) := by
  have hl : (x.take k).length = k := by rw [List.length_take]; omega
  rcases h with ⟨hv, rfl⟩ | ⟨g, cap, cur, hv, hb, hg, r1, r2, r3, r4⟩
  · cases hv
    obtain rfl : c' = 0 := by omega
    obtain rfl : k = 0 := by simpa using hk
    exact .inl ⟨rfl, rfl⟩
  · cases hv
    refine .inr ⟨g, c', cur, by rw [hl], hb, hg, by omega, by omega, by omega, ?_⟩
    unfold byteCells at r4 ⊢
    rw [hl, List.map_take, ← r4, List.take_take, Nat.min_eq_left hk]
theorem ow.form {base : Nat} {W : World} {v : Value} {x : List UInt8} (h : ow base W v x) : ∃ o c, v = .slice o x.length c ∧ x.length ≤ c ∧ c ≤ maxLen ∧ (o = none → c = 0) := by
  rcases h with ⟨rfl, rfl⟩ | ⟨g, cap, cur, rfl, hb, hg, r1, r2, r3, r4⟩
  · exact ⟨none, 0, rfl, Nat.le_refl _, by unfold maxLen; omega, fun _ => rfl⟩
  · exact ⟨some ⟨g, 0, none⟩, cap, rfl, r1, r2, fun h => by cases h⟩
/-- A new row. -/
theorem ow.new {base : Nat} {W : World} (x : List UInt8) (cur : Array Value) (cap : Nat) (hb : base ≤ W.heap.size) (h1 : x.length ≤ cap) (h2 : cap ≤ maxLen) (h3 : cap ≤ cur.size) (h4 : cur.toList.take x.length = byteCells x) :
    ow base (W.alloc (.cells cur 5)) (.slice (some ⟨W.heap.size, 0, none⟩) x.length cap) x := .inr ⟨W.heap.size, cap, cur, rfl, hb, heap_alloc_new W _, h1, h2, h3, h4⟩

theorem infoU8 : (Try.prog.info? 5).map (fun i => (i.zero, i.size, i.bytes)) = some (some (.int .u8 0), 1, 1) := by kernel_rfl

section
variable {w : World}
/-- 'append' of bytes to an own row. -/
theorem run_app_ow (base : Nat) (ty : TypeId) (v : Value) (x y : List UInt8) (u : Value) (hown : ow base w v x) (hy : rd w y u) (hs : x.length + y.length ≤ 140737488351232) (hbase : base ≤ w.heap.size) :
    ∃ o' c' w', (Builtin.append_ #[27, 27] ty #[v, u]).run Try.prog w = .ok (.slice o' (x.length + y.length) c') w' ∧ ow base w' (.slice o' (x.length + y.length) c') (x ++ y) ∧ w.grownBy w' v.ownBlock ∧
      ((Value.slice o' (x.length + y.length) c').ownBlock = v.ownBlock ∨ (Value.slice o' (x.length + y.length) c').ownBlock = some w.heap.size) := by
  obtain ⟨i, hi, hzz⟩ := Option.map_eq_some_iff.1 infoU8
  simp only [Prod.mk.injEq] at hzz
  obtain ⟨hz, hsz, hby⟩ := hzz
  obtain ⟨oy, ay, cy, rfl, hy1, hy2, hy3, hy4⟩ := hy
  have ht := Try.underlying27
  have hlx : (byteCells x).length = x.length := byteCells_length x
  have hly : (byteCells y).length = y.length := byteCells_length y
  have hmx : x.length + y.length ≤ maxLen := by unfold maxLen; omega
  have hone : ∀ u ∈ byteCells y, u.oneCell' = true := fun u hu => by
    unfold byteCells at hu
    obtain ⟨b, _, rfl⟩ := List.mem_map.1 hu
    rfl
  rcases Nat.eq_zero_or_pos y.length with hm | hm
  · obtain rfl : y = [] := List.eq_nil_of_length_eq_zero hm
    obtain ⟨o', c', rfl, f1, f2, f3⟩ := hown.form
    refine ⟨o', c', w, ?_, by simpa using hown, ⟨rfl, rfl, rfl, Nat.le_refl _, fun _ _ _ => rfl⟩, .inl rfl⟩
    rcases hown with ⟨hv, rfl⟩ | ⟨g, cap, cur, hv, _, _, hnc, _⟩
    · cases hv
      cases oy <;> simp [Builtin.append_, run_underlying ht, sizeOf, typeInfo, hi, Builtin.lenOf, Builtin.firstCells, loadCells, loadCellsFrom]
    · cases hv
      cases oy <;> simp [Builtin.append_, run_underlying ht, sizeOf, typeInfo, hi, Builtin.lenOf, Builtin.firstCells, hnc, storeCells, loadCells, loadCellsFrom]
  · obtain rfl := hy3 hm
    rcases hown with ⟨rfl, rfl⟩ | ⟨g, cap, cur, rfl, hbg, hg, r1, r2, r3, r4⟩
    · have hr := run_append_nil (P := Try.prog) w 27 ty 5 i _ ht hi hz ay y.length cy (byteCells y) (by rw [hsz, hly]; omega) hy4 hm (by omega) (by rw [hby]; omega)
      have h1 := grownCap_ge w y.length 0 5
      have h2 := grownCap_le_maxLen w y.length 0 5 (by simp only [List.length_nil] at hmx; omega)
      simp only [List.length_nil, Nat.zero_add, List.nil_append]
      refine ⟨_, _, _, hr, .inr ⟨w.heap.size, _, _, rfl, hbase, heap_alloc_new w.drew _, h1, h2, ?_, ?_⟩, ⟨rfl, rfl, rfl, by simp, fun k hk _ => heap_alloc_old w.drew _ hk⟩, Or.inr rfl⟩
      · simp only [Array.size_append, List.size_toArray, size_zeroCells, hly]
        have : (Value.int IntKind.u8 0).cells.size = 1 := rfl
        rw [this]; omega
      · rw [Array.toList_append, ← hly]
        exact List.take_left
    · by_cases hroom : x.length + y.length ≤ cap
      · have hr := run_append_room (P := Try.prog) w 27 ty 5 i ht hi g x.length cap cur hg ay y.length cy (byteCells y) (by rw [hsz, hly]; omega) hy4 hone hroom (by rw [hsz, hly]; omega)
        refine ⟨_, _, _, hr, .inr ⟨g, cap, _, by rw [List.length_append], hbg, setRow_heap w g cur _ _ _ hg, by rw [List.length_append]; exact hroom, r2, ?_, ?_⟩, ⟨rfl, rfl, rfl, by simp, fun k _ hk => setRow_other w g k _ (fun e => hk (by simp [Value.ownBlock, e]))⟩, Or.inl rfl⟩
        · simp only [List.size_toArray, List.length_append, List.length_take, List.length_drop, Array.length_toList, hsz, hly]
          omega
        · rw [hsz, Nat.mul_one, r4, byteCells_append, List.length_append, ← hlx, ← hly, ← List.length_append]
          exact List.take_left
      · have holds : ∀ j u, (byteCells x)[j]? = some u → w.cell? ((⟨g, 0, none⟩ : Addr).add j) = some u := by
          obtain ⟨o2, a2, c2, q1, _, _, q4, q5⟩ := ow.rd (v := .slice (some ⟨g, 0, none⟩) x.length cap) (.inr ⟨g, cap, cur, rfl, hbg, hg, r1, r2, r3, r4⟩)
          intro j u hj
          have hp : 0 < x.length := by
            have := (List.getElem?_eq_some_iff.1 hj).1
            omega
          simp only [Value.slice.injEq] at q1
          obtain ⟨q1, _⟩ := q1
          rw [q4 hp] at q1
          cases q1
          exact q5 j u hj
        have hr := run_append_grow (P := Try.prog) w 27 ty 5 i _ ht hi hz ⟨g, 0, none⟩ x.length cap (byteCells x) (by rw [hsz, hlx]; omega) holds ay y.length cy (byteCells y) (by rw [hsz, hly]; omega) hy4 (by omega) (by omega) (growslice_fits (by omega) (by rw [hby]; omega))
        have h1 := grownCap_ge w (x.length + y.length) cap 5
        have h2 := grownCap_le_maxLen w (x.length + y.length) cap 5 hmx
        refine ⟨_, _, _, hr, .inr ⟨w.heap.size, _, _, by rw [List.length_append], hbase, heap_alloc_new w.drew _, by rw [List.length_append]; exact h1, h2, ?_, ?_⟩, ⟨rfl, rfl, rfl, by simp, fun k hk _ => heap_alloc_old w.drew _ hk⟩, Or.inr rfl⟩
        · simp only [Array.size_append, List.size_toArray, size_zeroCells, hlx, hly]
          have : (Value.int IntKind.u8 0).cells.size = 1 := rfl
          rw [this]; omega
        · simp only [Array.toList_append]
          rw [byteCells_append, List.length_append, ← hlx, ← hly, ← List.length_append]
          exact List.take_left

theorem wpList_app_ow {ops : Array Oper} {rest : List Oper} {o : Oper} {a : Act} {Q : Exit → Act → World → Prop} (hgd : o.guard = none) (s x : Operand)
    (ho : o.op = .call { callee := .builtin .append, args := #[s, x], argTypes := #[27, 27] })
    (base : Nat) (v u : Value) (l y : List UInt8) (hs : a.eval s = v) (hx : a.eval x = u) (hown : ow base w v l) (hy : rd w y u) (hsz : l.length + y.length ≤ 140737488351232) (hbase : base ≤ w.heap.size)
    (h : ∀ o' c' w', ow base w' (.slice o' (l.length + y.length) c') (l ++ y) → w.grownBy w' v.ownBlock → ((Value.slice o' (l.length + y.length) c').ownBlock = v.ownBlock ∨ (Value.slice o' (l.length + y.length) c').ownBlock = some w.heap.size) → wpList Try.prog ops Q rest (a.put o.dst (.slice o' (l.length + y.length) c')) w') : wpList Try.prog ops Q (o :: rest) a w := by
  refine wpList_plain hgd fun K hK => ?_
  obtain ⟨o', c', w', hr, h2, h3, h4⟩ := run_app_ow base o.type v l y u hown hy hsz hbase
  unfold Oper.wp execOp
  simp only [ho, resolve, invoke, builtin, Sem.run_bind, Sem.run_pure, Result.andThen_ok, List.map_toArray, List.map_cons, List.map_nil, hs, hx, hr]
  exact hK _ _ (h o' c' w' h2 h3 h4)
theorem step_app_ow {ops : Array Oper} {o : Oper} {a : Act} {K : Act → World → Prop} {Q : Exit → Act → World → Prop} {E : Prop} (hgd : o.guard = none) (s x : Operand)
    (ho : o.op = .call { callee := .builtin .append, args := #[s, x], argTypes := #[27, 27] })
    (base : Nat) (v u : Value) (l y : List UInt8) (hs : a.eval s = v) (hx : a.eval x = u) (hown : ow base w v l) (hy : rd w y u) (hsz : l.length + y.length ≤ 140737488351232) (hbase : base ≤ w.heap.size)
    (h : ∀ o' c' w', ow base w' (.slice o' (l.length + y.length) c') (l ++ y) → w.grownBy w' v.ownBlock → ((Value.slice o' (l.length + y.length) c').ownBlock = v.ownBlock ∨ (Value.slice o' (l.length + y.length) c').ownBlock = some w.heap.size) → K (a.put o.dst (.slice o' (l.length + y.length) c')) w') :
    if Region.wanted o (yielded ops a.tmps) = true then Oper.wp Try.prog o a w K Q else E := by
  have hw : Region.wanted o (yielded ops a.tmps) = true := by simp [Region.wanted, hgd]
  rw [if_pos hw]
  obtain ⟨o', c', w', hr, h2, h3, h4⟩ := run_app_ow base o.type v l y u hown hy hsz hbase
  unfold Oper.wp execOp
  simp only [ho, resolve, invoke, builtin, Sem.run_bind, Sem.run_pure, Result.andThen_ok, List.map_toArray, List.map_cons, List.map_nil, hs, hx, hr]
  exact h o' c' w' h2 h3 h4
end

/-- All that lay there lies there still, but for the blocks with B. -/
def Fr (B : Nat → Prop) (W W' : World) : Prop := (W'.os = W.os ∧ W'.tape = W.tape ∧ W'.output = W.output ∧ W.heap.size ≤ W'.heap.size) ∧ ∀ k o, W.heap[k]? = some o → ¬ B k → W'.heap[k]? = some o
theorem Fr.refl (B : Nat → Prop) (W : World) : Fr B W W := ⟨⟨rfl, rfl, rfl, Nat.le_refl _⟩, fun _ _ h _ => h⟩
theorem Fr.trans {B : Nat → Prop} {X Y Z : World} (h : Fr B X Y) (k : Fr B Y Z) : Fr B X Z :=
  ⟨⟨k.1.1.trans h.1.1, k.1.2.1.trans h.1.2.1, k.1.2.2.1.trans h.1.2.2.1, Nat.le_trans h.1.2.2.2 k.1.2.2.2⟩, fun j o hj hB => k.2 j o (h.2 j o hj hB) hB⟩
theorem Fr.size {B : Nat → Prop} {W W' : World} (h : Fr B W W') : W.heap.size ≤ W'.heap.size := h.1.2.2.2
theorem Fr.mono {B C : Nat → Prop} {W W' : World} (h : Fr B W W') (hBC : ∀ k, k < W.heap.size → B k → C k) : Fr C W W' :=
  ⟨h.1, fun k o hk hC => h.2 k o hk (fun hB => hC (hBC k (Array.getElem?_eq_some_iff.1 hk).1 hB))⟩
theorem Fr.of_below {B : Nat → Prop} {W W' : World} (h : Below W.heap.size W W') : Fr B W W' :=
  ⟨⟨h.os, h.tape, h.output, h.size⟩, fun k o hk _ => (h.block k (Array.getElem?_eq_some_iff.1 hk).1).trans hk⟩
theorem Fr.below {B : Nat → Prop} {lo : Nat} {W W' : World} (h : Fr B W W') (h1 : ∀ k, B k → lo ≤ k) (h2 : lo ≤ W.heap.size) : Below lo W W' :=
  ⟨h.1.1, h.1.2.1, h.1.2.2.1, h.size, fun k hk => by
    have hl : k < W.heap.size := by omega
    have e := Array.getElem?_eq_getElem hl
    rw [e]
    exact h.2 k _ e (fun hB => by have := h1 k hB; omega)⟩
theorem Fr.set {B : Nat → Prop} (W : World) (b i : Nat) (v : Value) (hB : B b) : Fr B W (W.setCell ⟨b, i, none⟩ v) :=
  ⟨⟨rfl, rfl, rfl, by simp [World.setCell]⟩, fun k o hk h1 => (Below.heap_setCell _ _ _ _ (fun e => h1 (by subst e; exact hB))).trans hk⟩
theorem Fr.grown {B : Nat → Prop} {W W' : World} {row : Option Nat} (hg : W.grownBy W' row) (hr : ∀ r, row = some r → B r) : Fr B W W' :=
  ⟨⟨hg.os, hg.tape, hg.output, hg.size⟩, fun k o hk h1 => (hg.block k (Array.getElem?_eq_some_iff.1 hk).1 (fun e => h1 (hr k e.symm))).trans hk⟩
theorem Fr.boxed {B : Nat → Prop} {W W' : World} {N : Nat} {t : TypeId} {v : Value} (h : Fr B W W') (hN : Boxed W N t v) (h1 : ¬ B N) : Boxed W' N t v := h.2 N _ hN h1
theorem Fr.cell {B : Nat → Prop} {W W' : World} (h : Fr B W W') (a : Addr) (c : Value) (h1 : ¬ B a.block) (hc : W.cell? a = some c) : W'.cell? a = some c := by
  have hl := World.block_lt_of_cell? W a hc
  have e := Array.getElem?_eq_getElem hl
  exact (World.cell?_of_block (h := (h.2 _ _ e h1).trans e.symm)).trans hc

/-- A disk lies in block b, a struct of type t; its file in the slice v. -/
def Dk (t : TypeId) (base b : Nat) (s : DS) (v : Value) (W : World) : Prop :=
  s.f.length ≤ 1048576 ∧ base ≤ b ∧ t ≠ 5 ∧ (∃ k : Int, W.heap[b]? = some (.cells #[v, .bool s.dn, .bool s.ar.isSome, .int .i64 k] t (0, 0)) ∧ 0 ≤ k ∧ ∀ n, s.ar = some n → k = n) ∧ ow base W v s.f
/-- The blocks in which it lies. -/
def Fp (b : Nat) (v : Value) (k : Nat) : Prop := k = b ∨ v.ownBlock = some k
theorem Dk.lt {t : TypeId} {base b : Nat} {s : DS} {v : Value} {W : World} (h : Dk t base b s v W) : b < W.heap.size := by
  obtain ⟨_, _, _, ⟨k, hk, _⟩, _⟩ := h
  exact (Array.getElem?_eq_some_iff.1 hk).1
theorem Dk.fp {t : TypeId} {base b : Nat} {s : DS} {v : Value} {W : World} (h : Dk t base b s v W) : ∀ k, Fp b v k → base ≤ k ∧ k < W.heap.size := by
  rintro k (rfl | hk)
  · exact ⟨h.2.1, h.lt⟩
  · exact ⟨(h.2.2.2.2.lt k hk).1, (h.2.2.2.2.lt k hk).2.1⟩
theorem Dk.ne {t : TypeId} {base b : Nat} {s : DS} {v : Value} {W : World} (h : Dk t base b s v W) : v.ownBlock ≠ some b := fun e => by
  obtain ⟨_, _, ht, ⟨k, hk, _⟩, ho⟩ := h
  obtain ⟨_, _, cur, hc⟩ := ho.lt b e
  rw [hk] at hc
  cases hc
  exact ht rfl
theorem Dk.keep {t : TypeId} {base b : Nat} {s : DS} {v : Value} {W W' : World} (h : Dk t base b s v W) (hk : ∀ k o, Fp b v k → W.heap[k]? = some o → W'.heap[k]? = some o) : Dk t base b s v W' := by
  obtain ⟨h1, h2, h3, ⟨k, h4, h5⟩, h6⟩ := h
  exact ⟨h1, h2, h3, ⟨k, hk b _ (.inl rfl) h4, h5⟩, h6.keep fun k o e => hk k o (.inr e)⟩
theorem Dk.fr {t : TypeId} {base b : Nat} {s : DS} {v : Value} {W W' : World} {B : Nat → Prop} (h : Dk t base b s v W) (hF : Fr B W W') (hd : ∀ k, Fp b v k → ¬ B k) : Dk t base b s v W' :=
  h.keep fun k o hk ho => hF.2 k o ho (hd k hk)
theorem Dk.below {t : TypeId} {base b : Nat} {s : DS} {v : Value} {W W' : World} (h : Dk t base b s v W) (hb : Below W.heap.size W W') : Dk t base b s v W' :=
  h.fr (B := fun _ => False) (Fr.of_below hb) (fun _ _ h => h)
/-- Its cells. -/
theorem Dk.cells {t : TypeId} {base b : Nat} {s : DS} {v : Value} {W : World} (h : Dk t base b s v W) :
    W.cell? ⟨b, 0, none⟩ = some v ∧ W.cell? ⟨b, 1, none⟩ = some (.bool s.dn) ∧ W.cell? ⟨b, 2, none⟩ = some (.bool s.ar.isSome) ∧ (∃ k : Int, W.cell? ⟨b, 3, none⟩ = some (.int .i64 k) ∧ 0 ≤ k ∧ ∀ n, s.ar = some n → k = n) ∧ ∀ i, W.frozen? ⟨b, i, none⟩ = false := by
  obtain ⟨_, _, _, ⟨k, hk, h1, h2⟩, _⟩ := h
  refine ⟨?_, ?_, ?_, ⟨k, ?_, h1, h2⟩, fun i => ?_⟩
  all_goals first | (simp [World.cell?, hk]) | (simp [World.frozen?, hk])
/-- What a deed on a disk leaves. -/
def DQ (t : TypeId) (base b : Nat) (v : Value) (w : World) (r : Int × DS) (e : Ending) (w' : World) : Prop :=
  e = .returned (.int .i64 r.1) ∧ ∃ v', Dk t base b r.2 v' w' ∧ (v'.ownBlock = v.ownBlock ∨ ∀ k, v'.ownBlock = some k → w.heap.size ≤ k) ∧ Fr (Fp b v) w w'
theorem DQ.none {t : TypeId} {base b : Nat} {v : Value} {w w' : World} {s : DS} {n : Int} (h : Dk t base b s v w) (hb : Below w.heap.size w w') : DQ t base b v w (n, s) (.returned (.int .i64 n)) w' :=
  ⟨rfl, v, h.below hb, .inl rfl, Fr.of_below hb⟩
theorem DQ.from {t : TypeId} {base b : Nat} {v : Value} {w w1 w' : World} {r : Int × DS} {e : Ending} (h : DQ t base b v w1 r e w') (hb : Below w.heap.size w w1) : DQ t base b v w r e w' := by
  obtain ⟨h1, v', h2, h3, h4⟩ := h
  refine ⟨h1, v', h2, h3.imp id (fun h k hk => Nat.le_trans hb.size (h k hk)), (Fr.of_below hb).trans h4⟩
end Go.Proofs.Ytbjdbphnccdpbaa
