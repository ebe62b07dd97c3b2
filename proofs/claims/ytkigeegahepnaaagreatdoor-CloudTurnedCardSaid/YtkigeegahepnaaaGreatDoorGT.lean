/-
  A map keyed by numbers, its elements whatever they are: told by a function. · Rows of numbers that a call owns (cut ones too); frames. · Clouds, plain: calls, answers; finding. · Calls and acts as they read. · Boxes of five cells. · Answers are compared.
-/
import Derived.Test.YtkigeegahepnaaaGreatDoorGJ
import Derived.Test.YtkigeegahepnaaaGreatDoorGA
import Derived.Below
import Derived.OwnWalk
import Derived.Lib.OthersKept
import Derived.Lib.AppendIntMem
import Derived.Laws.EntriesVeiled
import Derived.Laws.OwnMore
import Derived.Laws.AppendOwn
import Derived.Maps.AppendAt
import Derived.Deep.AppendLies
import Derived.Deep.RegionLaw
import Derived.StillTailTactics
import Derived.WalkSpells
import Derived.Test.YtkigeegahepnaaaGreatDoorGN
import Derived.Test.YtkigeegahepnaaaGreatDoorGP
import Derived.ChangeKeysEq
set_option linter.unusedVariables false
set_option linter.unusedSimpArgs false
namespace Go.Proofs.YtkigeegahepnaaaGreatDoor
open Go.RowKit Go.Maps Go.ChangeMaps Go.WideMaps

def kyZ (z : Int) : Lit := .int .i64 z
def okZ (z : Int) : Prop := -9223372036854775808 ≤ z ∧ z ≤ 9223372036854775807
theorem okZ_wf {z : Int} (h : okZ z) : (Lit.int .i64 z).wf = true := by
  obtain ⟨h1, h2⟩ := h
  simp [Lit.wf, IntKind.min, IntKind.max, IntKind.bits, IntKind.signed]
  omega
theorem kyZ_inj {s t : Int} (h : kyZ s = kyZ t) : s = t := by
  simpa [kyZ] using h
/-- Block b of W is a map of at most n numbers that leads to what f says. -/
def MapZ (P : Program) (k : TypeId) (W : World) (b n : Nat) (f : Int → Option Value) : Prop :=
  ∃ D : DataW Value, W.ownsMap P k Rh b n D ∧ ∀ s, D.atKey (kyZ s) .nil = tokO (f s)

section
variable {P : Program} {k e t : TypeId} {W : World} {b n : Nat} {f : Int → Option Value}

theorem MapZ.made (P : Program) (k : TypeId) (W : World) : MapZ P k (W.alloc (.map #[] 0)) W.heap.size 0 (fun _ => none) :=
  ⟨_, World.ownsMap_made W P k Rh, fun s => by simp [DataW.atKey, tokO]⟩

theorem MapZ.mono (h : MapZ P k W b n f) {n' : Nat} (hn : n ≤ n') : MapZ P k W b n' f := by
  obtain ⟨D, hD, hf⟩ := h
  exact ⟨D, hD.mono hn, hf⟩

theorem MapZ.kept (h : MapZ P k W b n f) {W' : World} {row : Option Nat} (hg : W.grownBy W' row) (hne : some b ≠ row) : MapZ P k W' b n f := by
  obtain ⟨D, hD, hf⟩ := h
  exact ⟨D, hD.kept hg hne, hf⟩

theorem MapZ.lt (h : MapZ P k W b n f) : b < W.heap.size := by
  obtain ⟨D, hD, hf⟩ := h
  exact hD.lt

theorem MapZ.look (h : MapZ P k W b n f) (K : Keyed P k) (hk : P.underlying k = some (.int .i64)) (ht : P.underlying t = some (.map k e)) (c : Bool) {z : Value} (hz : (zeroValue e).run P W = .ok z W) {s : Int} (hs : okZ s) :
    (Instr.lookup t (.map (some b)) (.int .i64 s) c).run P W = .ok (if c then .tuple #[(f s).getD z, .bool (f s).isSome] else (f s).getD z) W := by
  obtain ⟨D, ⟨es, clock, hb, F, _, rfl⟩, hf⟩ := h
  have hf' := hf s
  rcases Maps.fit_look c K ht hz hb F (keyOf_int_mk hk (okZ_wf hs)) with ⟨hrun, _, hat⟩ | ⟨e0, y, _, _, hrun, hRv, hat, _⟩
  · rw [kyZ, hat .nil] at hf'
    have : f s = none := tokO_inj hf'.symm
    rw [hrun, this]
    rfl
  · rw [kyZ, hat .nil] at hf'
    cases hRv
    have : f s = some e0.val := tokO_inj hf'.symm
    rw [hrun, this]
    rfl

theorem MapZ.update (h : MapZ P k W b n f) (K : Keyed P k) (hk : P.underlying k = some (.int .i64)) (ht : P.underlying t = some (.map k e)) (hn : n < maxLen) {s : Int} (hs : okZ s) (v : Value) :
    ∃ w', (Instr.mapUpdate t (.map (some b)) (.int .i64 s) v).run P W = .ok () w' ∧ MapZ P k w' b (n + 1) (fun s' => if s' = s then some v else f s') ∧ W.grownBy w' (some b) := by
  obtain ⟨D, hD, hf⟩ := h
  obtain ⟨w', hr, ho, hg⟩ := hD.update K ht hn (keyOf_int_mk hk (okZ_wf hs)) (show Rh v = some (.held v, []) from rfl)
  refine ⟨w', hr, ⟨_, ho, fun s' => ?_⟩, hg⟩
  by_cases e : s' = s
  · subst e
    show (D.put (kyZ s') (.held v)).atKey (kyZ s') .nil = tokO (if s' = s' then some v else f s')
    rw [if_pos rfl, atKey_put_same hD.isMap (show WideAt.IsKeyLit (kyZ s') from trivial)]
    rfl
  · show (D.put (kyZ s) (.held v)).atKey (kyZ s') .nil = tokO (if s' = s then some v else f s')
    rw [if_neg e, atKey_put_other (fun e' => e (kyZ_inj e')), ← hf s']

/-- 'm[k]', 'v, ok := m[k]' at the operation. -/
theorem wpList_lookup_mapZ {ops : Array Oper} {rest : List Oper} {o : Oper} {a : Act} {Q : Exit → Act → World → Prop} (hg : o.guard = none) (m x : Operand) (t : TypeId) (c : Bool) (hop : o.op = Op.lookup t m x c) (k e : TypeId) (K : Keyed P k) (hk : P.underlying k = some (.int .i64)) (ht : P.underlying t = some (.map k e))
    {z : Value} (hz : (zeroValue e).run P W = .ok z W) (hm : a.eval m = .map (some b)) (h : MapZ P k W b n f) (s : Int) (hx : a.eval x = .int .i64 s) (hs : okZ s)
    (hK : wpList P ops Q rest (a.put o.dst (if c then .tuple #[(f s).getD z, .bool (f s).isSome] else (f s).getD z)) W) : wpList P ops Q (o :: rest) a W := by
  refine wpList_plain hg fun K' hK' => ?_
  have hrun := h.look K hk ht c hz hs
  generalize (if c then Value.tuple #[(f s).getD z, .bool (f s).isSome] else (f s).getD z) = rr at hrun hK
  unfold Oper.wp
  simp [execOp, hop, hm, hx, hrun, Result.andThen]
  exact hK' _ _ hK

/-- 'm[k] = v' at the operation. -/
theorem wpList_update_mapZ {ops : Array Oper} {rest : List Oper} {o : Oper} {a : Act} {Q : Exit → Act → World → Prop} (hg : o.guard = none) (m x v : Operand) (t : TypeId) (hop : o.op = Op.mapUpdate t m x v) (k e : TypeId) (K : Keyed P k) (hk : P.underlying k = some (.int .i64)) (ht : P.underlying t = some (.map k e))
    (hm : a.eval m = .map (some b)) (h : MapZ P k W b n f) (hn : n < maxLen) (s : Int) (hx : a.eval x = .int .i64 s) (hs : okZ s) (u : Value) (hu : a.eval v = u)
    (hK : ∀ w', MapZ P k w' b (n + 1) (fun s' => if s' = s then some u else f s') → W.grownBy w' (some b) → wpList P ops Q rest (a.put o.dst undef) w') : wpList P ops Q (o :: rest) a W := by
  refine wpList_plain hg fun K' hK' => ?_
  obtain ⟨w', hrun, h1, h2⟩ := h.update K hk ht hn hs u
  unfold Oper.wp
  simp [execOp, hop, hm, hx, hu, hrun, Result.andThen]
  exact hK' _ _ (hK w' h1 h2)

end
end Go.Proofs.YtkigeegahepnaaaGreatDoor

namespace Go.Proofs.YtkigeegahepnaaaGreatDoor
open Go.RowKit Go.Lib

def iCells (x : List Int) : List Value := x.map (Value.int .i64)
theorem iCells_length (x : List Int) : (iCells x).length = x.length := List.length_map _
theorem str_iCells (s : ByteArray) (x : List Int) : Value.string s ∉ iCells x := by simp [iCells]
theorem str_zero (s : ByteArray) (n : Nat) : Value.string s ∉ (Builtin.zeroCells (Value.int .i64 0).cells n).toList := by
  intro h
  rw [show (Value.int .i64 0).cells = #[Value.int .i64 0] from rfl] at h
  unfold Builtin.zeroCells at h
  rw [Array.mem_toList_iff, Array.mem_map] at h
  obtain ⟨i, -, hi⟩ := h
  simp [Nat.mod_one] at hi
theorem iCells_append (x y : List Int) : iCells (x ++ y) = iCells x ++ iCells y := List.map_append

/-- The bytes x lie in the slice v. -/
def rdI (W : World) (x : List Int) (v : Value) : Prop :=
  ∃ o a c, v = .slice o x.length c ∧ x.length ≤ c ∧ c ≤ maxLen ∧ (0 < x.length → o = some a) ∧ ∀ j u, (iCells x)[j]? = some u → W.cell? (a.add j) = some u
theorem rdI.keep {W W' : World} {x : List Int} {v : Value} (h : rdI W x v) (hc : ∀ a c, W.cell? a = some c → W'.cell? a = some c) : rdI W' x v := by
  obtain ⟨o, a, c, h1, h2, h3, h4, h5⟩ := h
  exact ⟨o, a, c, h1, h2, h3, h4, fun j u hj => hc _ _ (h5 j u hj)⟩
theorem rdI.below {W W' : World} {x : List Int} {v : Value} (h : rdI W x v) (hb : Below W.heap.size W W') : rdI W' x v :=
  h.keep fun a c hc => (World.cell?_of_block (hb.block _ (World.block_lt_of_cell? W a hc))).trans hc
theorem rdI_nil (W : World) : rdI W [] (.slice none 0 0) := ⟨none, ⟨0, 0, none⟩, 0, rfl, Nat.le_refl _, by unfold maxLen; omega, fun h => absurd h (by simp), fun j u hj => by simp [iCells] at hj⟩
theorem rdI.cut {W : World} {x : List Int} {o : Option Addr} {n c : Nat} (h : rdI W x (.slice o n c)) (k c' : Nat) (hk : k ≤ x.length) (h1 : k ≤ c') (h2 : c' ≤ maxLen) : rdI W (x.take k) (.slice o k c') := by
  obtain ⟨o', a, c2, h0, _, _, h4, h5⟩ := h
  cases h0
  have hl : (x.take k).length = k := by rw [List.length_take]; omega
  refine ⟨o, a, c', by rw [hl], by omega, h2, fun h => h4 (by omega), fun j u hj => h5 j u ?_⟩
  have hjk : j < k := by
    have := (List.getElem?_eq_some_iff.1 hj).1
    rw [iCells_length, hl] at this
    exact this
  unfold iCells at hj ⊢
  rw [List.map_take, List.getElem?_take, if_pos hjk] at hj
  exact hj

/-- The slice v owns its bytes x, from base on; what it may be appended to in place lies in its rowI. -/
def owI (base : Nat) (W : World) (v : Value) (x : List Int) : Prop :=
  (v = .slice none 0 0 ∧ x = []) ∨ ∃ g cap cur, v = .slice (some ⟨g, 0, none⟩) x.length cap ∧ base ≤ g ∧ W.heap[g]? = some (.cells cur 3 (0, 0)) ∧ x.length ≤ cap ∧ cap ≤ maxLen ∧ cap ≤ cur.size ∧ cur.toList.take x.length = iCells x ∧ ∀ s, Value.string s ∉ cur.toList
theorem owI.lt {base : Nat} {W : World} {v : Value} {x : List Int} (h : owI base W v x) : ∀ k, v.ownBlock = some k → base ≤ k ∧ k < W.heap.size ∧ ∃ cur, W.heap[k]? = some (.cells cur 3 (0, 0)) ∧ ∀ s, Value.string s ∉ cur.toList := by
  intro k hk
  rcases h with ⟨rfl, _⟩ | ⟨g, cap, cur, rfl, hb, hg, r⟩
  · cases hk
  · have : g = k := by simpa [Value.ownBlock] using hk
    subst this
    exact ⟨hb, (Array.getElem?_eq_some_iff.1 hg).1, cur, hg, r.2.2.2.2⟩
theorem owI.keep {base : Nat} {W W' : World} {v : Value} {x : List Int} (h : owI base W v x) (hk : ∀ k o, v.ownBlock = some k → W.heap[k]? = some o → W'.heap[k]? = some o) : owI base W' v x := by
  rcases h with h | ⟨g, cap, cur, rfl, hb, hg, r⟩
  · exact .inl h
  · exact .inr ⟨g, cap, cur, rfl, hb, hk g _ (by simp [Value.ownBlock]) hg, r⟩
theorem owI.rd {base : Nat} {W : World} {v : Value} {x : List Int} (h : owI base W v x) : rdI W x v := by
  rcases h with ⟨rfl, rfl⟩ | ⟨g, cap, cur, rfl, hb, hg, r1, r2, r3, r4⟩
  · exact rdI_nil W
  · refine ⟨some ⟨g, 0, none⟩, ⟨g, 0, none⟩, cap, rfl, r1, r2, fun _ => rfl, fun j u hj => ?_⟩
    have hadd : (⟨g, 0, none⟩ : Addr).add j = ⟨g, j, none⟩ := by unfold Addr.add; split <;> simp_all
    rw [hadd, cell_of_row W g j cur _ _ hg]
    rw [← r4.1, List.getElem?_take] at hj
    split at hj
    · simpa using hj
    · cases hj
theorem owI.cut {base : Nat} {W : World} {o : Option Addr} {n c : Nat} {x : List Int} (h : owI base W (.slice o n c) x) (k c' : Nat) (hk : k ≤ x.length) (h1 : k ≤ c') (h2 : c' ≤ c) : owI base W (.slice o k c') (x.take k) := by
  have hl : (x.take k).length = k := by rw [List.length_take]; omega
  rcases h with ⟨hv, rfl⟩ | ⟨g, cap, cur, hv, hb, hg, r1, r2, r3, r4⟩
  · cases hv
    obtain rfl : c' = 0 := by omega
    obtain rfl : k = 0 := by simpa using hk
    exact .inl ⟨rfl, rfl⟩
  · cases hv
    refine .inr ⟨g, c', cur, by rw [hl], hb, hg, by omega, by omega, by omega, ?_, r4.2⟩
    obtain ⟨r4, -⟩ := r4
    unfold iCells at r4 ⊢
    rw [hl, List.map_take, ← r4, List.take_take, Nat.min_eq_left hk]
theorem owI.form {base : Nat} {W : World} {v : Value} {x : List Int} (h : owI base W v x) : ∃ o c, v = .slice o x.length c ∧ x.length ≤ c ∧ c ≤ maxLen ∧ (o = none → c = 0) := by
  rcases h with ⟨rfl, rfl⟩ | ⟨g, cap, cur, rfl, hb, hg, r1, r2, r3, r4⟩
  · exact ⟨none, 0, rfl, Nat.le_refl _, by unfold maxLen; omega, fun _ => rfl⟩
  · exact ⟨some ⟨g, 0, none⟩, cap, rfl, r1, r2, fun h => by cases h⟩
/-- A new rowI. -/
theorem owI.new {base : Nat} {W : World} (x : List Int) (cur : Array Value) (cap : Nat) (hb : base ≤ W.heap.size) (h1 : x.length ≤ cap) (h2 : cap ≤ maxLen) (h3 : cap ≤ cur.size) (h4 : cur.toList.take x.length = iCells x ∧ ∀ s, Value.string s ∉ cur.toList) :
    owI base (W.alloc (.cells cur 3)) (.slice (some ⟨W.heap.size, 0, none⟩) x.length cap) x := .inr ⟨W.heap.size, cap, cur, rfl, hb, heap_alloc_new W _, h1, h2, h3, h4⟩

theorem infoI64 : (Tryz.prog.info? 3).map (fun i => (i.zero, i.size, i.bytes)) = some (some (.int .i64 0), 1, 8) := by kernel_rfl

section
variable {w : World}
/-- 'append' of bytes to an own rowI. -/
theorem run_app_owI (base : Nat) (ty : TypeId) (v : Value) (x y : List Int) (u : Value) (hown : owI base w v x) (hy : rdI w y u) (hs : x.length + y.length ≤ 1000000) (hbase : base ≤ w.heap.size) :
    ∃ o' c' w', (Builtin.append_ #[50, 50] ty #[v, u]).run Tryz.prog w = .ok (.slice o' (x.length + y.length) c') w' ∧ owI base w' (.slice o' (x.length + y.length) c') (x ++ y) ∧ w.grownBy w' v.ownBlock ∧
      ((Value.slice o' (x.length + y.length) c').ownBlock = v.ownBlock ∨ (Value.slice o' (x.length + y.length) c').ownBlock = some w.heap.size) := by
  obtain ⟨i, hi, hzz⟩ := Option.map_eq_some_iff.1 infoI64
  simp only [Prod.mk.injEq] at hzz
  obtain ⟨hz, hsz, hby⟩ := hzz
  obtain ⟨oy, ay, cy, rfl, hy1, hy2, hy3, hy4⟩ := hy
  have ht := Tryz.underlying50
  have hlx : (iCells x).length = x.length := iCells_length x
  have hly : (iCells y).length = y.length := iCells_length y
  have hmx : x.length + y.length ≤ maxLen := by unfold maxLen; omega
  have hone : ∀ u ∈ iCells y, u.oneCell' = true := fun u hu => by
    unfold iCells at hu
    obtain ⟨b, _, rfl⟩ := List.mem_map.1 hu
    rfl
  rcases Nat.eq_zero_or_pos y.length with hm | hm
  · obtain rfl : y = [] := List.eq_nil_of_length_eq_zero hm
    obtain ⟨o', c', rfl, f1, f2, f3⟩ := hown.form
    refine ⟨o', c', w, ?_, by simpa using hown, ⟨rfl, rfl, rfl, Nat.le_refl _, fun _ _ _ => rfl⟩, .inl rfl⟩
    rcases hown with ⟨hv, rfl⟩ | ⟨g, cap, cur, hv, _, _, hnc, _⟩
    · cases hv
      cases oy <;> simp [Builtin.append_, run_underlying ht, sizeOf, typeInfo, hi, Builtin.lenOf, Builtin.firstCells, loadCells, loadCellsFrom]
    · cases hv
      cases oy <;> simp [Builtin.append_, run_underlying ht, sizeOf, typeInfo, hi, Builtin.lenOf, Builtin.firstCells, hnc, storeCells, loadCells, loadCellsFrom]
  · obtain rfl := hy3 hm
    rcases hown with ⟨rfl, rfl⟩ | ⟨g, cap, cur, rfl, hbg, hg, r1, r2, r3, r4⟩
    · have hr := run_append_nil (P := Tryz.prog) w 50 ty 3 i _ ht hi hz ay y.length cy (iCells y) (by rw [hsz, hly]; omega) hy4 hm (by omega) (by rw [hby]; omega)
      have h1 := grownCap_ge w y.length 0 3
      have h2 := grownCap_le_maxLen w y.length 0 3 (by simp only [List.length_nil] at hmx; omega)
      simp only [List.length_nil, Nat.zero_add, List.nil_append]
      refine ⟨_, _, _, hr, .inr ⟨w.heap.size, _, _, rfl, hbase, heap_alloc_new w.drew _, h1, h2, ?_, ?_⟩, ⟨rfl, rfl, rfl, by simp, fun k hk _ => heap_alloc_old w.drew _ hk⟩, Or.inr rfl⟩
      · simp only [Array.size_append, List.size_toArray, size_zeroCells, hly]
        have : (Value.int IntKind.i64 0).cells.size = 1 := rfl
        rw [this]; omega
      · refine ⟨?_, fun s => ?_⟩
        · rw [Array.toList_append, ← hly]
          exact List.take_left
        · rw [Array.toList_append, List.mem_append]
          rintro (h | h)
          · exact str_iCells s y h
          · exact str_zero s _ h
    · by_cases hroom : x.length + y.length ≤ cap
      · have hr := run_append_room (P := Tryz.prog) w 50 ty 3 i ht hi g x.length cap cur hg ay y.length cy (iCells y) (by rw [hsz, hly]; omega) hy4 hone hroom (by rw [hsz, hly]; omega)
        refine ⟨_, _, _, hr, .inr ⟨g, cap, _, by rw [List.length_append], hbg, setRow_heap w g cur _ _ _ hg, by rw [List.length_append]; exact hroom, r2, ?_, ?_⟩, ⟨rfl, rfl, rfl, by simp, fun k _ hk => setRow_other w g k _ (fun e => hk (by simp [Value.ownBlock, e]))⟩, Or.inl rfl⟩
        · simp only [List.size_toArray, List.length_append, List.length_take, List.length_drop, Array.length_toList, hsz, hly]
          omega
        · refine ⟨?_, fun s hs => ?_⟩
          · rw [hsz, Nat.mul_one, r4.1, iCells_append, List.length_append, ← hlx, ← hly, ← List.length_append]
            exact List.take_left
          · rw [List.mem_append, List.mem_append] at hs
            rcases hs with (h | h) | h
            · exact r4.2 s (List.mem_of_mem_take h)
            · exact str_iCells s y h
            · exact r4.2 s (List.mem_of_mem_drop h)
      · have holds : ∀ j u, (iCells x)[j]? = some u → w.cell? ((⟨g, 0, none⟩ : Addr).add j) = some u := by
          obtain ⟨o2, a2, c2, q1, _, _, q4, q5⟩ := owI.rd (v := .slice (some ⟨g, 0, none⟩) x.length cap) (.inr ⟨g, cap, cur, rfl, hbg, hg, r1, r2, r3, r4⟩)
          intro j u hj
          have hp : 0 < x.length := by
            have := (List.getElem?_eq_some_iff.1 hj).1
            omega
          simp only [Value.slice.injEq] at q1
          obtain ⟨q1, _⟩ := q1
          rw [q4 hp] at q1
          cases q1
          exact q5 j u hj
        have hr := run_append_grow (P := Tryz.prog) w 50 ty 3 i _ ht hi hz ⟨g, 0, none⟩ x.length cap (iCells x) (by rw [hsz, hlx]; omega) holds ay y.length cy (iCells y) (by rw [hsz, hly]; omega) hy4 (by omega) (by omega) (growslice_fits (by omega) (by rw [hby]; omega))
        have h1 := grownCap_ge w (x.length + y.length) cap 3
        have h2 := grownCap_le_maxLen w (x.length + y.length) cap 3 hmx
        refine ⟨_, _, _, hr, .inr ⟨w.heap.size, _, _, by rw [List.length_append], hbase, heap_alloc_new w.drew _, by rw [List.length_append]; exact h1, h2, ?_, ?_⟩, ⟨rfl, rfl, rfl, by simp, fun k hk _ => heap_alloc_old w.drew _ hk⟩, Or.inr rfl⟩
        · simp only [Array.size_append, List.size_toArray, size_zeroCells, hlx, hly]
          have : (Value.int IntKind.i64 0).cells.size = 1 := rfl
          rw [this]; omega
        · refine ⟨?_, fun s => ?_⟩
          · simp only [Array.toList_append]
            rw [iCells_append, List.length_append, ← hlx, ← hly, ← List.length_append]
            exact List.take_left
          · simp only [Array.toList_append, List.mem_append]
            rintro (h | h)
            · rcases h with h | h
              · exact str_iCells s x h
              · exact str_iCells s y h
            · exact str_zero s _ h

theorem wpList_app_owI {ops : Array Oper} {rest : List Oper} {o : Oper} {a : Act} {Q : Exit → Act → World → Prop} (hgd : o.guard = none) (s x : Operand)
    (ho : o.op = .call { callee := .builtin .append, args := #[s, x], argTypes := #[50, 50] })
    (base : Nat) (v u : Value) (l y : List Int) (hs : a.eval s = v) (hx : a.eval x = u) (hown : owI base w v l) (hy : rdI w y u) (hsz : l.length + y.length ≤ 1000000) (hbase : base ≤ w.heap.size)
    (h : ∀ o' c' w', owI base w' (.slice o' (l.length + y.length) c') (l ++ y) → w.grownBy w' v.ownBlock → ((Value.slice o' (l.length + y.length) c').ownBlock = v.ownBlock ∨ (Value.slice o' (l.length + y.length) c').ownBlock = some w.heap.size) → wpList Tryz.prog ops Q rest (a.put o.dst (.slice o' (l.length + y.length) c')) w') : wpList Tryz.prog ops Q (o :: rest) a w := by
  refine wpList_plain hgd fun K hK => ?_
  obtain ⟨o', c', w', hr, h2, h3, h4⟩ := run_app_owI base o.type v l y u hown hy hsz hbase
  unfold Oper.wp execOp
  simp only [ho, resolve, invoke, builtin, Sem.run_bind, Sem.run_pure, Result.andThen_ok, List.map_toArray, List.map_cons, List.map_nil, hs, hx, hr]
  exact hK _ _ (h o' c' w' h2 h3 h4)
theorem step_app_owI {ops : Array Oper} {o : Oper} {a : Act} {K : Act → World → Prop} {Q : Exit → Act → World → Prop} {E : Prop} (hgd : o.guard = none) (s x : Operand)
    (ho : o.op = .call { callee := .builtin .append, args := #[s, x], argTypes := #[50, 50] })
    (base : Nat) (v u : Value) (l y : List Int) (hs : a.eval s = v) (hx : a.eval x = u) (hown : owI base w v l) (hy : rdI w y u) (hsz : l.length + y.length ≤ 1000000) (hbase : base ≤ w.heap.size)
    (h : ∀ o' c' w', owI base w' (.slice o' (l.length + y.length) c') (l ++ y) → w.grownBy w' v.ownBlock → ((Value.slice o' (l.length + y.length) c').ownBlock = v.ownBlock ∨ (Value.slice o' (l.length + y.length) c').ownBlock = some w.heap.size) → K (a.put o.dst (.slice o' (l.length + y.length) c')) w') :
    if Region.wanted o (yielded ops a.tmps) = true then Oper.wp Tryz.prog o a w K Q else E := by
  have hw : Region.wanted o (yielded ops a.tmps) = true := by simp [Region.wanted, hgd]
  rw [if_pos hw]
  obtain ⟨o', c', w', hr, h2, h3, h4⟩ := run_app_owI base o.type v l y u hown hy hsz hbase
  unfold Oper.wp execOp
  simp only [ho, resolve, invoke, builtin, Sem.run_bind, Sem.run_pure, Result.andThen_ok, List.map_toArray, List.map_cons, List.map_nil, hs, hx, hr]
  exact h o' c' w' h2 h3 h4
end

/-- All that lay there lies there still, but for the blocks with B. -/
def Fr (B : Nat → Prop) (W W' : World) : Prop := (W'.os = W.os ∧ W'.tape = W.tape ∧ W'.output = W.output ∧ W.heap.size ≤ W'.heap.size) ∧ ∀ k o, W.heap[k]? = some o → ¬ B k → W'.heap[k]? = some o
theorem Fr.refl (B : Nat → Prop) (W : World) : Fr B W W := ⟨⟨rfl, rfl, rfl, Nat.le_refl _⟩, fun _ _ h _ => h⟩
theorem Fr.trans {B : Nat → Prop} {X Y Z : World} (h : Fr B X Y) (k : Fr B Y Z) : Fr B X Z :=
  ⟨⟨k.1.1.trans h.1.1, k.1.2.1.trans h.1.2.1, k.1.2.2.1.trans h.1.2.2.1, Nat.le_trans h.1.2.2.2 k.1.2.2.2⟩, fun j o hj hB => k.2 j o (h.2 j o hj hB) hB⟩
theorem Fr.size {B : Nat → Prop} {W W' : World} (h : Fr B W W') : W.heap.size ≤ W'.heap.size := h.1.2.2.2
theorem Fr.mono {B C : Nat → Prop} {W W' : World} (h : Fr B W W') (hBC : ∀ k, k < W.heap.size → B k → C k) : Fr C W W' :=
  ⟨h.1, fun k o hk hC => h.2 k o hk (fun hB => hC (hBC k (Array.getElem?_eq_some_iff.1 hk).1 hB))⟩
theorem Fr.of_below {B : Nat → Prop} {W W' : World} (h : Below W.heap.size W W') : Fr B W W' :=
  ⟨⟨h.os, h.tape, h.output, h.size⟩, fun k o hk _ => (h.block k (Array.getElem?_eq_some_iff.1 hk).1).trans hk⟩
theorem Fr.below {B : Nat → Prop} {lo : Nat} {W W' : World} (h : Fr B W W') (h1 : ∀ k, B k → lo ≤ k) (h2 : lo ≤ W.heap.size) : Below lo W W' :=
  ⟨h.1.1, h.1.2.1, h.1.2.2.1, h.size, fun k hk => by
    have hl : k < W.heap.size := by omega
    have e := Array.getElem?_eq_getElem hl
    rw [e]
    exact h.2 k _ e (fun hB => by have := h1 k hB; omega)⟩
theorem Fr.set {B : Nat → Prop} (W : World) (b i : Nat) (v : Value) (hB : B b) : Fr B W (W.setCell ⟨b, i, none⟩ v) :=
  ⟨⟨rfl, rfl, rfl, by simp [World.setCell]⟩, fun k o hk h1 => (Below.heap_setCell _ _ _ _ (fun e => h1 (by subst e; exact hB))).trans hk⟩
theorem Fr.grown {B : Nat → Prop} {W W' : World} {row : Option Nat} (hg : W.grownBy W' row) (hr : ∀ r, row = some r → B r) : Fr B W W' :=
  ⟨⟨hg.os, hg.tape, hg.output, hg.size⟩, fun k o hk h1 => (hg.block k (Array.getElem?_eq_some_iff.1 hk).1 (fun e => h1 (hr k e.symm))).trans hk⟩
theorem Fr.cell {B : Nat → Prop} {W W' : World} (h : Fr B W W') (a : Addr) (c : Value) (h1 : ¬ B a.block) (hc : W.cell? a = some c) : W'.cell? a = some c := by
  have hl := World.block_lt_of_cell? W a hc
  have e := Array.getElem?_eq_getElem hl
  exact (World.cell?_of_block (h := (h.2 _ _ e h1).trans e.symm)).trans hc

end Go.Proofs.YtkigeegahepnaaaGreatDoor

namespace Go.Proofs.YtkigeegahepnaaaGreatDoor
open Go.RowKit

/-- A call. -/
structure Cl where
  tok : Int
  kd : Int
  ph : ByteArray
  ty : ByteArray
  ps : List G
/-- An answer. -/
structure An where
  en : Bool
  ok : Bool
  ph : ByteArray
/-- A cloud: its store, the calls with their answers, the tokens in flight. -/
structure CSt where
  s : St
  L : List (Cl × An)
  fl : List Int
def zAn : An := ⟨false, false, ⟨#[]⟩⟩
def zCl : Cl := ⟨0, 0, ⟨#[]⟩, ⟨#[]⟩, []⟩
def zC : CSt := ⟨⟨[], 0⟩, [], []⟩
def findC : List (Cl × An) → Int → Option (Cl × An)
  | [], _ => none
  | p :: t, z => if p.1.tok = z then some p else findC t z
def mayNotB (x : Cl) : Bool :=
  decide (x.tok < 1) || !(decide (0 ≤ x.kd) && decide (x.kd ≤ 2)) || (decide (x.kd = 0) != decide (x.ph = ⟨#[]⟩)) || (decide (x.kd = 2) && decide (0 < x.ps.length)) || (decide (x.kd = 1) && decide (x.ty = ⟨#[]⟩)) || x.ps.any (·.unk)
def setA : List (Cl × An) → Int → An → List (Cl × An)
  | [], _, _ => []
  | p :: t, z, a => if p.1.tok = z then (p.1, a) :: t else p :: setA t z a
def askC (c : CSt) (z : Int) : An × Bool := match findC c.L z with | some p => (p.2, true) | none => (zAn, false)

/-! Laws of finding. -/
theorem findC_none {L : List (Cl × An)} {z : Int} : findC L z = none ↔ ∀ p ∈ L, p.1.tok ≠ z := by
  induction L with
  | nil => simp [findC]
  | cons p t ih =>
    unfold findC
    by_cases h : p.1.tok = z
    · simp [h]
    · simp [h, ih]
theorem findC_some {L : List (Cl × An)} {z : Int} {p : Cl × An} (h : findC L z = some p) : p ∈ L ∧ p.1.tok = z := by
  induction L with
  | nil => simp [findC] at h
  | cons q t ih =>
    unfold findC at h
    by_cases hq : q.1.tok = z
    · rw [if_pos hq] at h
      cases h
      exact ⟨by simp, hq⟩
    · rw [if_neg hq] at h
      exact ⟨List.mem_cons_of_mem _ (ih h).1, (ih h).2⟩
theorem findC_mem {L : List (Cl × An)} (hu : L.Pairwise (fun p q => p.1.tok ≠ q.1.tok)) {p : Cl × An} (h : p ∈ L) : findC L p.1.tok = some p := by
  induction L with
  | nil => cases h
  | cons q t ih =>
    obtain ⟨h1, h2⟩ := List.pairwise_cons.1 hu
    unfold findC
    rcases List.mem_cons.1 h with rfl | h
    · rw [if_pos rfl]
    · rw [if_neg (h1 p h), ih h2 h]
theorem findC_snoc (L : List (Cl × An)) (x : Cl × An) (z : Int) : findC (L ++ [x]) z = (findC L z).or (if x.1.tok = z then some x else none) := by
  induction L with
  | nil => simp [findC]
  | cons q t ih =>
    rw [List.cons_append]
    unfold findC
    by_cases hq : q.1.tok = z
    · rw [if_pos hq, if_pos hq]; rfl
    · rw [if_neg hq, if_neg hq, ih]
theorem setA_toks (L : List (Cl × An)) (z : Int) (a : An) : (setA L z a).map (·.1) = L.map (·.1) := by
  induction L with
  | nil => rfl
  | cons q t ih =>
    unfold setA
    by_cases hq : q.1.tok = z
    · rw [if_pos hq]; rfl
    · rw [if_neg hq, List.map_cons, List.map_cons, ih]
theorem findC_setA (L : List (Cl × An)) (z z' : Int) (a : An) : findC (setA L z a) z' = if z' = z then (findC L z).map (fun p => (p.1, a)) else findC L z' := by
  induction L with
  | nil => simp [setA, findC]
  | cons q t ih =>
    unfold setA
    by_cases hq : q.1.tok = z
    · rw [if_pos hq]
      unfold findC
      by_cases hz : z' = z
      · subst hz
        rw [if_pos hq, if_pos rfl, if_pos hq]; rfl
      · rw [if_neg (by rw [hq]; exact fun e => hz e.symm), if_neg hz, if_neg (by rw [hq]; exact fun e => hz e.symm)]
    · rw [if_neg hq]
      unfold findC
      rw [ih]
      by_cases hz : z' = z
      · subst hz
        rw [if_neg hq, if_pos rfl, if_pos rfl, if_neg hq]
      · rw [if_neg hz, if_neg hz]
theorem setA_len (L : List (Cl × An)) (z : Int) (a : An) : (setA L z a).length = L.length := by
  have := congrArg List.length (setA_toks L z a)
  simpa using this

end Go.Proofs.YtkigeegahepnaaaGreatDoor

namespace Go.Proofs.YtkigeegahepnaaaGreatDoor
open Go.RowKit

def i8Z (z : Int) : Prop := -128 ≤ z ∧ z ≤ 127
def okX (x : Cl) : Prop := okZ x.tok ∧ i8Z x.kd ∧ x.ph.size ≤ maxLen ∧ x.ty.size ≤ maxLen
/-- A call as a value. -/
def isX (W : World) (x : Cl) (v : Value) : Prop := ∃ pv, v = .agg #[.int .i64 x.tok, .int .i8 x.kd, .string x.ph, .string x.ty, pv] ∧ isGs W x.ps pv ∧ okX x
/-- .. at an address. -/
def isXat (W : World) (x : Cl) (a : Addr) : Prop := ∃ pv, W.cell? a = some (.int .i64 x.tok) ∧ W.cell? ⟨a.block, a.off + 1, none⟩ = some (.int .i8 x.kd) ∧ W.cell? ⟨a.block, a.off + 2, none⟩ = some (.string x.ph) ∧ W.cell? ⟨a.block, a.off + 3, none⟩ = some (.string x.ty) ∧ W.cell? ⟨a.block, a.off + 4, none⟩ = some pv ∧ isGs W x.ps pv ∧ okX x
def isXs (W : World) (L : List Cl) (v : Value) : Prop := ∃ a cap, slv v L.length a cap ∧ ∀ i (h : i < L.length), isXat W L[i] (a.add (i * 5))
theorem isX_below {W W' : World} (hb : Below W.heap.size W W') {x : Cl} {v : Value} (h : isX W x v) : isX W' x v := by
  obtain ⟨pv, h1, h2, h3⟩ := h
  exact ⟨pv, h1, isGs_below hb h2, h3⟩
theorem isXat_below {W W' : World} (hb : Below W.heap.size W W') {x : Cl} {a : Addr} (h : isXat W x a) : isXat W' x a := by
  obtain ⟨pv, g0, g1, g2, g3, g4, h2, h3⟩ := h
  have k := cell_below hb
  exact ⟨pv, k _ _ g0, k _ _ g1, k _ _ g2, k _ _ g3, k _ _ g4, isGs_below hb h2, h3⟩
theorem isXs_below {W W' : World} (hb : Below W.heap.size W W') {L : List Cl} {v : Value} (h : isXs W L v) : isXs W' L v := by
  obtain ⟨a, cap, h1, h2⟩ := h
  exact ⟨a, cap, h1, fun i hi => isXat_below hb (h2 i hi)⟩
theorem isX_form {W : World} {x : Cl} {v : Value} (h : isX W x v) : ∃ (o : Option Addr) (cap : Nat), v = .agg #[.int .i64 x.tok, .int .i8 x.kd, .string x.ph, .string x.ty, .slice o x.ps.length cap] ∧ isGs W x.ps (.slice o x.ps.length cap) ∧ okX x := by
  obtain ⟨pv, h1, hg, h3⟩ := h
  have hg' := hg
  obtain ⟨a, cap, ⟨o, rfl, _⟩, _⟩ := hg
  exact ⟨o, cap, h1, hg', h3⟩
/-- A deed. -/
structure Ac where
  dO : Int
  n : Int
  x : Cl
def isAat (W : World) (y : Ac) (a : Addr) : Prop := ∃ pv, W.cell? a = some (.int .i64 y.dO) ∧ W.cell? ⟨a.block, a.off + 1, none⟩ = some (.int .i64 y.n) ∧ W.cell? ⟨a.block, a.off + 2, none⟩ = some (.int .i64 y.x.tok) ∧ W.cell? ⟨a.block, a.off + 3, none⟩ = some (.int .i8 y.x.kd) ∧ W.cell? ⟨a.block, a.off + 4, none⟩ = some (.string y.x.ph) ∧
  W.cell? ⟨a.block, a.off + 5, none⟩ = some (.string y.x.ty) ∧ W.cell? ⟨a.block, a.off + 6, none⟩ = some pv ∧ isGs W y.x.ps pv ∧ okX y.x ∧ okZ y.dO ∧ okZ y.n
def isAs (W : World) (L : List Ac) (v : Value) : Prop := ∃ a cap, slv v L.length a cap ∧ ∀ i (h : i < L.length), isAat W L[i] (a.add (i * 7))
theorem isAat_below {W W' : World} (hb : Below W.heap.size W W') {x : Ac} {a : Addr} (h : isAat W x a) : isAat W' x a := by
  obtain ⟨pv, g0, g1, g2, g3, g4, g5, g6, h2, h3⟩ := h
  have k := cell_below hb
  exact ⟨pv, k _ _ g0, k _ _ g1, k _ _ g2, k _ _ g3, k _ _ g4, k _ _ g5, k _ _ g6, isGs_below hb h2, h3⟩
theorem isAs_below {W W' : World} (hb : Below W.heap.size W W') {L : List Ac} {v : Value} (h : isAs W L v) : isAs W' L v := by
  obtain ⟨a, cap, h1, h2⟩ := h
  exact ⟨a, cap, h1, fun i hi => isAat_below hb (h2 i hi)⟩
theorem isAat_seven {W : World} {y : Ac} {a : Addr} (h : isAat W y a) : ∃ (o : Option Addr) (cap : Nat), W.cell? a = some (.int .i64 y.dO) ∧ W.cell? ⟨a.block, a.off + 1, none⟩ = some (.int .i64 y.n) ∧ W.cell? ⟨a.block, a.off + 2, none⟩ = some (.int .i64 y.x.tok) ∧ W.cell? ⟨a.block, a.off + 3, none⟩ = some (.int .i8 y.x.kd) ∧ W.cell? ⟨a.block, a.off + 4, none⟩ = some (.string y.x.ph) ∧
    W.cell? ⟨a.block, a.off + 5, none⟩ = some (.string y.x.ty) ∧ W.cell? ⟨a.block, a.off + 6, none⟩ = some (.slice o y.x.ps.length cap) ∧ isGs W y.x.ps (.slice o y.x.ps.length cap) ∧ okX y.x ∧ okZ y.dO ∧ okZ y.n := by
  obtain ⟨pv, g0, g1, g2, g3, g4, g5, g6, hg, h3⟩ := h
  have hg' := hg
  obtain ⟨a, cap, ⟨o, rfl, _⟩, _⟩ := hg
  exact ⟨o, cap, g0, g1, g2, g3, g4, g5, g6, hg', h3⟩

/-- The box in which a call lies. -/
abbrev bxX (x : Cl) (o : Option Addr) (cap : Nat) : Obj := .cells #[.int .i64 x.tok, .int .i8 x.kd, .string x.ph, .string x.ty, .slice o x.ps.length cap] 32
theorem five_cells {W : World} {B : Nat} {c0 c1 c2 c3 c4 : Value} {t : TypeId} (h : W.heap[B]? = some (.cells #[c0, c1, c2, c3, c4] t (0, 0))) : W.cell? ⟨B, 0, none⟩ = some c0 ∧ W.cell? ⟨B, 1, none⟩ = some c1 ∧ W.cell? ⟨B, 2, none⟩ = some c2 ∧ W.cell? ⟨B, 3, none⟩ = some c3 ∧ W.cell? ⟨B, 4, none⟩ = some c4 := by
  simp [World.cell?, h]
end Go.Proofs.YtkigeegahepnaaaGreatDoor

namespace Go.Proofs.YtkigeegahepnaaaGreatDoor
open Go.RowKit

theorem rowIs_five {w : World} {b : Nat} {c0 c1 c2 c3 c4 : Value} {t : TypeId} (h : w.heap[b]? = some (.cells #[c0, c1, c2, c3, c4] t (0, 0))) : w.rowIs b t 5 (fun i => (#[c0, c1, c2, c3, c4][i]?).getD undef) :=
  ⟨_, h, rfl, fun i hi => by
    match i, hi with
    | 0, _ => rfl
    | 1, _ => rfl
    | 2, _ => rfl
    | 3, _ => rfl
    | 4, _ => rfl⟩
theorem box_five4 {w : World} {b : Nat} {c0 c1 c2 c3 c4 : Value} {t : TypeId} (u : Value) (h : w.heap[b]? = some (.cells #[c0, c1, c2, c3, c4] t (0, 0))) :
    ∃ y, ((∃ u, w.cell? ⟨b, 4, none⟩ = some u) ∧ w.frozen? ⟨b, 4, none⟩ = false ∧ w.setCell ⟨b, 4, none⟩ u = y) ∧ y.heap[b]? = some (.cells #[c0, c1, c2, c3, u] t (0, 0)) ∧ w.grownBy y (some b) := by
  have h1 : (w.setCell ⟨b, 4, none⟩ u).heap[b]? = some (.cells #[c0, c1, c2, c3, u] t (0, 0)) := by simp [World.setCell, Array.getElem?_modify, h]
  have g1 := rowIs_five h
  exact ⟨_, ⟨⟨_, g1.cell (show 4 < 5 by decide)⟩, g1.frozen _, rfl⟩, h1, grown_set _ _ _ _⟩
/-- Five cells of a row are set. -/
theorem store_five {w : World} {b n : Nat} {t : TypeId} {f : Nat → Value} (h : w.rowIs b t n f) (p : Nat) (hp : p + 4 < n) (c0 c1 c2 c3 c4 : Value) :
    ∃ w1 w2 w3 w4 w5 f', ((∃ u, w.cell? ⟨b, p, none⟩ = some u) ∧ w.frozen? ⟨b, p, none⟩ = false ∧ w.setCell ⟨b, p, none⟩ c0 = w1) ∧ ((∃ u, w1.cell? ⟨b, p + 1, none⟩ = some u) ∧ w1.frozen? ⟨b, p + 1, none⟩ = false ∧ w1.setCell ⟨b, p + 1, none⟩ c1 = w2) ∧ ((∃ u, w2.cell? ⟨b, p + 2, none⟩ = some u) ∧ w2.frozen? ⟨b, p + 2, none⟩ = false ∧ w2.setCell ⟨b, p + 2, none⟩ c2 = w3) ∧ ((∃ u, w3.cell? ⟨b, p + 3, none⟩ = some u) ∧ w3.frozen? ⟨b, p + 3, none⟩ = false ∧ w3.setCell ⟨b, p + 3, none⟩ c3 = w4) ∧ ((∃ u, w4.cell? ⟨b, p + 4, none⟩ = some u) ∧ w4.frozen? ⟨b, p + 4, none⟩ = false ∧ w4.setCell ⟨b, p + 4, none⟩ c4 = w5) ∧
      w5.rowIs b t n f' ∧ w.grownBy w5 (some b) ∧ f' p = c0 ∧ f' (p + 1) = c1 ∧ f' (p + 2) = c2 ∧ f' (p + 3) = c3 ∧ f' (p + 4) = c4 ∧ ∀ i, i < p ∨ p + 4 < i → f' i = f i := by
  have h1 := h.set p c0
  have h2 := h1.set (p + 1) c1
  have h3 := h2.set (p + 2) c2
  have h4 := h3.set (p + 3) c3
  have h5 := h4.set (p + 4) c4
  refine ⟨_, _, _, _, _, _, ⟨⟨_, h.cell (show p < n by omega)⟩, h.frozen _, rfl⟩, ⟨⟨_, h1.cell (show p + 1 < n by omega)⟩, h1.frozen _, rfl⟩, ⟨⟨_, h2.cell (show p + 2 < n by omega)⟩, h2.frozen _, rfl⟩, ⟨⟨_, h3.cell (show p + 3 < n by omega)⟩, h3.frozen _, rfl⟩, ⟨⟨_, h4.cell (show p + 4 < n by omega)⟩, h4.frozen _, rfl⟩, h5, ?_, ?_, ?_, ?_, ?_, ?_, ?_⟩
  · exact grown_trans (grown_trans (grown_trans (grown_trans (grown_set _ _ _ _) (grown_set _ _ _ _)) (grown_set _ _ _ _)) (grown_set _ _ _ _)) (grown_set _ _ _ _)
  all_goals try (simp; done)
  intro i hi
  rw [if_neg (by omega), if_neg (by omega), if_neg (by omega), if_neg (by omega), if_neg (by omega)]

end Go.Proofs.YtkigeegahepnaaaGreatDoor

namespace Go.Proofs.YtkigeegahepnaaaGreatDoor
open Go.RowKit

theorem eqa_run (W : World) (e o : Bool) (q : ByteArray) (e' o' : Bool) (q' : ByteArray) : (Op.equal 38 (.agg #[.bool e, .bool o, .string q]) (.agg #[.bool e', .bool o', .string q'])).run Tryz.prog W = .ok ((e == e') && ((o == o') && (q.toList == q'.toList))) W := by
  have hs : Tryz.prog.stoodInHeld 38 = false := by kernel_rfl
  have p0 : ∀ (a b c : Value) W, (part 4 #[a, b, c] 0).run Tryz.prog W = .ok a W := fun a b c W => by kernel_rfl
  have p1 : ∀ (a b c : Value) W, (part 4 #[a, b, c] 1).run Tryz.prog W = .ok b W := fun a b c W => by kernel_rfl
  have p2 : ∀ (a b c : Value) W, (part 9 #[a, b, c] 2).run Tryz.prog W = .ok c W := fun a b c W => by kernel_rfl
  have eb : ∀ a b W, (Op.equalIn 9999 4 (.bool a) (.bool b)).run Tryz.prog W = .ok (a == b) W := fun a b W => run_equalIn_bool W 9998 _ a b Tryz.underlying4
  have es : ∀ a b W, (Op.equalIn 9999 9 (.string a) (.string b)).run Tryz.prog W = .ok (a.toList == b.toList) W := fun a b W => run_equalIn_string W 9998 _ a b Tryz.underlying9
  generalize hq : (q.toList == q'.toList) = r
  simp only [Op.equal, Op.maxDepth]
  rw [Op.equalIn]
  simp [run_underlying Tryz.underlying38, hs, p0, p1, p2, eb, es, hq]
  cases e <;> cases e' <;> cases o <;> cases o' <;> cases r <;> rfl
theorem eq_an (W : World) (e o : Bool) (q : ByteArray) (e' o' : Bool) (q' : ByteArray) : (binOp .eql 38 (.agg #[.bool e, .bool o, .string q]) (.agg #[.bool e', .bool o', .string q'])).run Tryz.prog W = .ok (.bool ((e == e') && ((o == o') && (q.toList == q'.toList)))) W := by
  simp only [binOp, Sem.run_bind, eqa_run, Result.andThen_ok, Sem.run_pure]
theorem ne_an (W : World) (e o : Bool) (q : ByteArray) (e' o' : Bool) (q' : ByteArray) : (binOp .neq 38 (.agg #[.bool e, .bool o, .string q]) (.agg #[.bool e', .bool o', .string q'])).run Tryz.prog W = .ok (.bool (!((e == e') && ((o == o') && (q.toList == q'.toList))))) W := by
  simp only [binOp, Sem.run_bind, eqa_run, Result.andThen_ok, Sem.run_pure]
end Go.Proofs.YtkigeegahepnaaaGreatDoor
