/-
  A map that the call has made, its keys texts, its elements whatever they are: told by a function. · The provider's types, plain: the rows; what is known after so many rows; the variable that holds them. · The program's types: a map of maps, made anew by each call. · Nothing of a map's keys in their order is wanted here. · The types' names; attributes.
-/
import Derived.Test.YtdckldfekepopaaGreatDoorZA
import Derived.Maps.OwnSet
import Derived.Maps.RangeWalk
import Derived.Maps.Views
import Derived.Maps.Ext
import Derived.Sort.KeysCollected
import Derived.Deep.MidRow
import Derived.Handy
import Derived.WalkKit
import Derived.Lib.Hide
import Derived.Test.YtdckldfekepopaaGreatDoorZD
set_option linter.unusedVariables false
set_option linter.unusedSimpArgs false
namespace Go.Proofs.YtdckldfekepopaaGreatDoor
open Go.RowKit Go.Maps Go.ChangeMaps Go.WideMaps

/-- An element reads as itself. -/
def Rh (v : Value) : Option (DataW Value × List MemPlace) := some (.held v, [])
def kyS (s : ByteArray) : Lit := .string s.data.toList
def tokO : Option Value → DataW Value
  | some v => .held v
  | none => .nil
theorem kyS_inj {s t : ByteArray} (h : kyS s = kyS t) : s = t := by
  have : s.data.toList = t.data.toList := by simpa [kyS] using h
  exact ByteArray.ext (Array.toList_inj.1 this)
theorem tokO_inj {a b : Option Value} (h : tokO a = tokO b) : a = b := by
  cases a <;> cases b <;> simp_all [tokO]

/-- Block b of W is a map of at most n texts that leads to what f says. -/
def MapIs (P : Program) (k : TypeId) (W : World) (b n : Nat) (f : ByteArray → Option Value) : Prop :=
  ∃ D : DataW Value, W.ownsMap P k Rh b n D ∧ ∀ s, D.atKey (kyS s) .nil = tokO (f s)

section
variable {P : Program} {k e t : TypeId} {W : World} {b n : Nat} {f : ByteArray → Option Value}

theorem MapIs.made (P : Program) (k : TypeId) (W : World) : MapIs P k (W.alloc (.map #[] 0)) W.heap.size 0 (fun _ => none) :=
  ⟨_, World.ownsMap_made W P k Rh, fun s => by simp [DataW.atKey, tokO]⟩

theorem MapIs.mono (h : MapIs P k W b n f) {n' : Nat} (hn : n ≤ n') : MapIs P k W b n' f := by
  obtain ⟨D, hD, hf⟩ := h
  exact ⟨D, hD.mono hn, hf⟩

theorem MapIs.kept (h : MapIs P k W b n f) {W' : World} {row : Option Nat} (hg : W.grownBy W' row) (hne : some b ≠ row) : MapIs P k W' b n f := by
  obtain ⟨D, hD, hf⟩ := h
  exact ⟨D, hD.kept hg hne, hf⟩

theorem MapIs.lt (h : MapIs P k W b n f) : b < W.heap.size := by
  obtain ⟨D, hD, hf⟩ := h
  exact hD.lt

theorem MapIs.look (h : MapIs P k W b n f) (K : Keyed P k) (hk : P.underlying k = some .string) (ht : P.underlying t = some (.map k e)) (c : Bool) {z : Value} (hz : (zeroValue e).run P W = .ok z W) {s : ByteArray} (hs : s.size ≤ maxLen) :
    (Instr.lookup t (.map (some b)) (.string s) c).run P W = .ok (if c then .tuple #[(f s).getD z, .bool (f s).isSome] else (f s).getD z) W := by
  obtain ⟨D, ⟨es, clock, hb, F, _, rfl⟩, hf⟩ := h
  have hf' := hf s
  rcases Maps.fit_look c K ht hz hb F (keyOf_string_mk hk hs) with ⟨hrun, _, hat⟩ | ⟨e0, y, _, _, hrun, hRv, hat, _⟩
  · rw [kyS, hat .nil] at hf'
    have : f s = none := tokO_inj hf'.symm
    rw [hrun, this]
    rfl
  · rw [kyS, hat .nil] at hf'
    cases hRv
    have : f s = some e0.val := tokO_inj hf'.symm
    rw [hrun, this]
    rfl

theorem MapIs.update (h : MapIs P k W b n f) (K : Keyed P k) (hk : P.underlying k = some .string) (ht : P.underlying t = some (.map k e)) (hn : n < maxLen) {s : ByteArray} (hs : s.size ≤ maxLen) (v : Value) :
    ∃ w', (Instr.mapUpdate t (.map (some b)) (.string s) v).run P W = .ok () w' ∧ MapIs P k w' b (n + 1) (fun s' => if s' = s then some v else f s') ∧ W.grownBy w' (some b) := by
  obtain ⟨D, hD, hf⟩ := h
  obtain ⟨w', hr, ho, hg⟩ := hD.update K ht hn (keyOf_string_mk hk hs) (show Rh v = some (.held v, []) from rfl)
  refine ⟨w', hr, ⟨_, ho, fun s' => ?_⟩, hg⟩
  by_cases e : s' = s
  · subst e
    show (D.put (kyS s') (.held v)).atKey (kyS s') .nil = tokO (if s' = s' then some v else f s')
    rw [if_pos rfl, atKey_put_same hD.isMap (show WideAt.IsKeyLit (kyS s') from trivial)]
    rfl
  · show (D.put (kyS s) (.held v)).atKey (kyS s') .nil = tokO (if s' = s then some v else f s')
    rw [if_neg e, atKey_put_other (fun e' => e (kyS_inj e')), ← hf s']

/-- A range over the map is under way: 'left' says which names are still to come. -/
def RangeIs (P : Program) (k : TypeId) (W : World) (b r n : Nat) (f : ByteArray → Option Value) (left : ByteArray → Bool) (cnt : Nat) : Prop :=
  ∃ (D : DataW Value) (L : Lit → Bool), W.ranges P k Rh b r n D L cnt ∧ (∀ s, D.atKey (kyS s) .nil = tokO (f s)) ∧ ∀ s, L (kyS s) = left s

theorem has_of_tok {D : DataW Value} (hm : IsMap D) {s : ByteArray} {o : Option Value} (h : D.atKey (kyS s) .nil = tokO o) (hh : ∀ v, o = some v → o ≠ none) (hne : ∀ es, D = .map es → ∀ p ∈ es, p.2 ≠ .nil) : has D (kyS s) = o.isSome := by
  obtain ⟨es, rfl⟩ := hm
  cases o with
  | none =>
    cases hh' : has (.map es) (kyS s) with
    | false => rfl
    | true =>
      exfalso
      rw [has_eq, List.any_eq_true] at hh'
      obtain ⟨p, hp, hps⟩ := hh'
      simp only [DataW.atKey, tokO] at h
      cases hf : es.find? (fun p => p.1.sameKey (kyS s)) with
      | none =>
        rw [List.find?_eq_none] at hf
        exact hf p hp hps
      | some q =>
        rw [hf] at h
        exact hne es rfl q (List.mem_of_find?_eq_some hf) h
  | some v =>
    cases hh' : has (.map es) (kyS s) with
    | true => rfl
    | false =>
      rw [atKey_of_not_has hh'] at h
      cases h

theorem owns_held {D : DataW Value} (h : W.ownsMap P k Rh b n D) : ∀ es, D = .map es → ∀ p ∈ es, p.2 ≠ .nil := by
  obtain ⟨es0, clock, hb, F, _, rfl⟩ := h
  intro es e p hp
  cases e
  obtain ⟨x, hx, rfl⟩ := List.mem_map.1 (mem_sorted.1 hp)
  obtain ⟨y, hy⟩ := F.reads x hx
  obtain ⟨z, hz, hd⟩ := WideElems.rd_val hy
  cases hz
  rw [WideElems.rg_of hy, hd]
  simp

theorem MapIs.has (h : MapIs P k W b n f) : ∃ D : DataW Value, W.ownsMap P k Rh b n D ∧ (∀ s, Maps.has D (kyS s) = (f s).isSome) ∧ ∀ s, D.atKey (kyS s) .nil = tokO (f s) := by
  obtain ⟨D, hD, hf⟩ := h
  exact ⟨D, hD, fun s => has_of_tok hD.isMap (hf s) (fun v e => by rw [e]; simp) (owns_held hD), hf⟩

theorem RangeIs.owns {r cnt : Nat} {left : ByteArray → Bool} (h : RangeIs P k W b r n f left cnt) : MapIs P k W b n f := by
  obtain ⟨D, L, hr, hf, _⟩ := h
  exact ⟨D, hr.owns, hf⟩
theorem RangeIs.left_eq {r cnt : Nat} {left : ByteArray → Bool} (h : RangeIs P k W b r n f left cnt) : W.rangeLeft b r = cnt := by
  obtain ⟨D, L, hr, hf, _⟩ := h
  exact hr.left_eq
theorem RangeIs.lt {r cnt : Nat} {left : ByteArray → Bool} (h : RangeIs P k W b r n f left cnt) : r < W.heap.size := by
  obtain ⟨D, L, hr, hf, _⟩ := h
  exact hr.lt
theorem RangeIs.kept {r cnt : Nat} {left : ByteArray → Bool} (h : RangeIs P k W b r n f left cnt) {W' : World} {row : Option Nat} (hg : W.grownBy W' row) (hb : some b ≠ row) (hr : some r ≠ row) : RangeIs P k W' b r n f left cnt := by
  obtain ⟨D, L, hrg, hf, hl⟩ := h
  exact ⟨D, L, hrg.kept hg hb hr, hf, hl⟩

theorem sameKey_ky (z s : ByteArray) : (kyS z).sameKey (kyS s) = decide (z = s) := by
  by_cases e : z = s
  · subst e
    rw [decide_eq_true rfl]
    exact WideAt.sameKey_self trivial
  · rw [decide_eq_false e]
    exact sameKey_ne (fun e' => e (kyS_inj e'))

/-- 'range m'. -/
theorem wpList_range_map {ops : Array Oper} {rest : List Oper} {o : Oper} {a : Act} {Q : Exit → Act → World → Prop} (hg : o.guard = none) (m : Operand) (t : TypeId) (hop : o.op = Op.range t m) (k e : TypeId) (K : Keyed P k) (ht : P.underlying t = some (.map k e))
    (hm : a.eval m = .map (some b)) (h : MapIs P k W b n f)
    (hK : ∀ w' cnt, RangeIs P k w' b W.heap.size n f (fun s => (f s).isSome) cnt → W.grownBy w' none → w'.heap.size = W.heap.size + 1 → wpList P ops Q rest (a.put o.dst (.pointer (some ⟨W.heap.size, 0, none⟩))) w') :
    wpList P ops Q (o :: rest) a W := by
  obtain ⟨D, hD, hh, hf⟩ := h.has
  refine wpList_range_own W hg m t hop k e K ht Rh b n D hm hD ?_
  intro w0 hr hg0 hs0
  exact hK w0 _ ⟨D, _, hr, hf, hh⟩ hg0 hs0

/-- The step. -/
theorem wpList_next_map {ops : Array Oper} {rest : List Oper} {o : Oper} {a : Act} {Q : Exit → Act → World → Prop} (hg : o.guard = none) (it : Operand) (hop : o.op = Op.next it false) (k : TypeId) (K : Keyed P k) (hk : P.underlying k = some .string) (b r n : Nat) (f : ByteArray → Option Value) (left : ByteArray → Bool) (cnt : Nat)
    (hit : a.eval it = .pointer (some ⟨r, 0, none⟩)) (h : RangeIs P k W b r n f left cnt)
    (hDone : cnt = 0 → (∀ s : ByteArray, left s = false) → wpList P ops Q rest (a.put o.dst (.tuple #[.bool false])) W)
    (hMore : ∀ (s : ByteArray) (c : Value) (w' : World) (cnt' : Nat), s.size ≤ maxLen → left s = true → f s = some c → RangeIs P k w' b r n f (fun z => left z && !decide (z = s)) cnt' → cnt' < cnt → W.grownBy w' (some r) → w'.heap.size = W.heap.size →
      (Instr.entry (.pointer (some ⟨r, 0, none⟩))).run P w' = .ok (.tuple #[.string s, c]) w' → wpList P ops Q rest (a.put o.dst (.tuple #[.bool true, .string s, c])) w') :
    wpList P ops Q (o :: rest) a W := by
  obtain ⟨D, L, hr, hf, hl⟩ := h
  refine wpList_next_ranges W hg it hop k K Rh Value.string (fun v : Value => v) (fun key kl hkey => ?_) (fun v y _ => ⟨v, rfl⟩) b r n D L cnt hit hr (fun h0 hL => hDone h0 (fun s => by rw [← hl s]; exact hL _)) ?_
  · obtain ⟨x, rfl, _, _⟩ := Maps.keyOf_str hk hkey
    exact ⟨_, rfl⟩
  · intro s c kl y w' cnt' hkey hlk hR hat hrg hlt hgr hsz hen
    obtain ⟨x, ex, rfl, hx⟩ := Maps.keyOf_str hk hkey
    have es : kyS s = .string x := by
      simp only [encStr, Value.string.injEq] at ex
      rw [ex]; simp [kyS]
    have hsl : s.size ≤ maxLen := by
      have : s.data.toList = x := by simpa [kyS] using es
      have h2 := congrArg List.length this
      rw [Array.length_toList] at h2
      exact Nat.le_trans (Nat.le_of_eq h2) hx
    rw [← es] at hlk hat hrg
    cases hR
    refine hMore s c w' cnt' hsl (by rw [← hl s]; exact hlk) (tokO_inj (by rw [← hf s, hat .nil]; rfl)) ⟨D, _, hrg, hf, fun z => ?_⟩ hlt hgr hsz hen
    show (L (kyS z) && !(kyS z).sameKey (kyS s)) = _
    rw [hl z, sameKey_ky]

/-- 'm[k]', 'v, ok := m[k]' at the operation. -/
theorem wpList_lookup_map {ops : Array Oper} {rest : List Oper} {o : Oper} {a : Act} {Q : Exit → Act → World → Prop} (hg : o.guard = none) (m x : Operand) (t : TypeId) (c : Bool) (hop : o.op = Op.lookup t m x c) (k e : TypeId) (K : Keyed P k) (hk : P.underlying k = some .string) (ht : P.underlying t = some (.map k e))
    {z : Value} (hz : (zeroValue e).run P W = .ok z W) (hm : a.eval m = .map (some b)) (h : MapIs P k W b n f) (s : ByteArray) (hx : a.eval x = .string s) (hs : s.size ≤ maxLen)
    (hK : wpList P ops Q rest (a.put o.dst (if c then .tuple #[(f s).getD z, .bool (f s).isSome] else (f s).getD z)) W) : wpList P ops Q (o :: rest) a W := by
  refine wpList_plain hg fun K' hK' => ?_
  have hrun := h.look K hk ht c hz hs
  generalize (if c then Value.tuple #[(f s).getD z, .bool (f s).isSome] else (f s).getD z) = rr at hrun hK
  unfold Oper.wp
  simp [execOp, hop, hm, hx, hrun, Result.andThen]
  exact hK' _ _ hK

/-- 'm[k] = v' at the operation. -/
theorem wpList_update_map {ops : Array Oper} {rest : List Oper} {o : Oper} {a : Act} {Q : Exit → Act → World → Prop} (hg : o.guard = none) (m x v : Operand) (t : TypeId) (hop : o.op = Op.mapUpdate t m x v) (k e : TypeId) (K : Keyed P k) (hk : P.underlying k = some .string) (ht : P.underlying t = some (.map k e))
    (hm : a.eval m = .map (some b)) (h : MapIs P k W b n f) (hn : n < maxLen) (s : ByteArray) (hx : a.eval x = .string s) (hs : s.size ≤ maxLen) (u : Value) (hu : a.eval v = u)
    (hK : ∀ w', MapIs P k w' b (n + 1) (fun s' => if s' = s then some u else f s') → W.grownBy w' (some b) → wpList P ops Q rest (a.put o.dst undef) w') : wpList P ops Q (o :: rest) a W := by
  refine wpList_plain hg fun K' hK' => ?_
  obtain ⟨w', hrun, h1, h2⟩ := h.update K hk ht hn hs u
  unfold Oper.wp
  simp [execOp, hop, hm, hx, hu, hrun, Result.andThen]
  exact hK' _ _ (hK w' h1 h2)

end
end Go.Proofs.YtdckldfekepopaaGreatDoor

namespace Go.Proofs.YtdckldfekepopaaGreatDoor
open Go.RowKit

abbrev sDisk : ByteArray := ⟨#[68, 105, 115, 107]⟩
abbrev sNet : ByteArray := ⟨#[78, 101, 116]⟩
abbrev sNode : ByteArray := ⟨#[78, 111, 100, 101]⟩
abbrev sRule : ByteArray := ⟨#[82, 117, 108, 101]⟩
/-- A row: the type, the property's name, its kind, whether it replaces. -/
structure RwS where
  K : ByteArray
  nm : ByteArray
  q : Int
  r : Bool
deriving DecidableEq
def rwS : RwS := ⟨⟨#[]⟩, ⟨#[]⟩, 0, false⟩
def rowsL : List RwS := [
  ⟨sDisk, ⟨#[83, 105, 122, 101]⟩, 2, false⟩,
  ⟨sDisk, ⟨#[84, 97, 103, 115]⟩, 4, false⟩,
  ⟨sDisk, ⟨#[75, 105, 110, 100]⟩, 3, true⟩,
  ⟨sNet, ⟨#[76, 97, 98, 101, 108]⟩, 3, false⟩,
  ⟨sNet, ⟨#[82, 97, 110, 103, 101]⟩, 3, true⟩,
  ⟨sNode, ⟨#[67, 111, 117, 110, 116]⟩, 2, false⟩,
  ⟨sNode, ⟨#[68, 105, 115, 107]⟩, 3, false⟩,
  ⟨sNode, ⟨#[73, 109, 97, 103, 101]⟩, 3, true⟩,
  ⟨sNode, ⟨#[78, 101, 116]⟩, 3, true⟩,
  ⟨sRule, ⟨#[78, 111, 100, 101]⟩, 3, false⟩,
  ⟨sRule, ⟨#[80, 111, 114, 116]⟩, 2, true⟩]
def encRW (x : RwS) : List Value := [.string x.K, .string x.nm, .int .i8 x.q, .bool x.r]
def rowsV : List Value := rowsL.flatMap encRW
/-- The row that says of a property, among the first i; the last one, if there were more. -/
def specJ (i : Nat) (K s : ByteArray) : Option RwS := (rowsL.take i).reverse.find? (fun x => decide (x.K = K) && decide (x.nm = s))
def knownJ (i : Nat) (K : ByteArray) : Bool := (rowsL.take i).any (fun x => decide (x.K = K))
def encSp (x : RwS) : Value := .agg #[.string x.nm, .int .i8 x.q, .bool x.r]
def spec (K s : ByteArray) : Option RwS := specJ 11 K s
def known (K : ByteArray) : Bool := knownJ 11 K

theorem rows_len : rowsL.length = 11 := rfl
theorem take_succ (j : Nat) (hj : j < 11) : rowsL.take (j + 1) = rowsL.take j ++ [rowsL.getD j rwS] := by
  rw [List.take_succ_eq_append_getElem (by rw [rows_len]; exact hj)]
  congr 2
  rw [List.getD_eq_getElem?_getD, List.getElem?_eq_getElem (by rw [rows_len]; exact hj)]
  rfl
theorem specJ_succ (j : Nat) (hj : j < 11) (K s : ByteArray) : specJ (j + 1) K s = if (rowsL.getD j rwS).K = K ∧ (rowsL.getD j rwS).nm = s then some (rowsL.getD j rwS) else specJ j K s := by
  unfold specJ
  rw [take_succ j hj, List.reverse_append, List.reverse_singleton, List.singleton_append, List.find?_cons]
  by_cases h : (rowsL.getD j rwS).K = K ∧ (rowsL.getD j rwS).nm = s
  · rw [if_pos h, decide_eq_true h.1, decide_eq_true h.2]; rfl
  · rw [if_neg h]
    have : (decide ((rowsL.getD j rwS).K = K) && decide ((rowsL.getD j rwS).nm = s)) = false := by
      rw [Bool.and_eq_false_iff, decide_eq_false_iff_not, decide_eq_false_iff_not]
      by_cases h1 : (rowsL.getD j rwS).K = K
      · exact .inr (fun h2 => h ⟨h1, h2⟩)
      · exact .inl h1
    rw [this]
theorem knownJ_succ (j : Nat) (hj : j < 11) (K : ByteArray) : knownJ (j + 1) K = (knownJ j K || decide ((rowsL.getD j rwS).K = K)) := by
  unfold knownJ
  rw [take_succ j hj, List.any_append]
  simp
theorem specJ_none (j : Nat) (K s : ByteArray) (h : knownJ j K = false) : specJ j K s = none := by
  unfold specJ
  rw [List.find?_eq_none]
  intro x hx hp
  have h2 := List.any_eq_false.1 h x (List.mem_reverse.1 hx)
  simp only [Bool.and_eq_true, decide_eq_true_eq] at hp
  exact h2 (decide_eq_true hp.1)
theorem small_row : ∀ j, j < 11 → (rowsL.getD j rwS).K.size ≤ 64 ∧ (rowsL.getD j rwS).nm.size ≤ 64 := by decide

/-- The variable of the package holds the rows. -/
def RowsE (w : World) : Prop := ∃ t fr, w.heap[0]? = some (.cells rowsV.toArray t fr)
theorem RowsE.below {n : Nat} {w w' : World} (h : RowsE w) (hb : Below n w w') (hn : 1 ≤ n) : RowsE w' := by
  obtain ⟨t, fr, h⟩ := h
  exact ⟨t, fr, (hb.block _ (by omega)).trans h⟩
theorem ix_rows (j : Nat) (hj : j < 11) (w : World) :
    (Instr.index 123 (.agg rowsV.toArray) (.int .i64 j)).run Tryz.prog w = .ok (.agg (encRW (rowsL.getD j rwS)).toArray) w := by
  rcases (show j = 0 ∨ j = 1 ∨ j = 2 ∨ j = 3 ∨ j = 4 ∨ j = 5 ∨ j = 6 ∨ j = 7 ∨ j = 8 ∨ j = 9 ∨ j = 10 by omega) with rfl | rfl | rfl | rfl | rfl | rfl | rfl | rfl | rfl | rfl | rfl
  all_goals clear hj; kernel_rfl
end Go.Proofs.YtdckldfekepopaaGreatDoor

namespace Go.Proofs.YtdckldfekepopaaGreatDoor
open Go.RowKit Go.Maps Go.ChangeMaps Go.WideMaps

theorem lawS : Keyed Tryz.prog 9 := string_keyed Tryz.underlying9
theorem zeroMM (w : World) : (zeroValue 100).run Tryz.prog w = .ok (.map none) w := by kernel_rfl
theorem zeroSp (w : World) : (zeroValue 93).run Tryz.prog w = .ok (.agg #[.string ⟨#[]⟩, .int .i8 0, .bool false]) w := by kernel_rfl

/-- The maps after j rows: the outer one at b, an inner one for each type that is known. -/
def TSt (wr : World) (b j : Nat) : Prop := ∃ bs : ByteArray → Nat,
  MapIs Tryz.prog 9 wr b j (fun K => if knownJ j K then some (.map (some (bs K))) else none) ∧
  (∀ K, knownJ j K = true → MapIs Tryz.prog 9 wr (bs K) j (fun s => (specJ j K s).map encSp) ∧ b < bs K) ∧
  ∀ K K', knownJ j K = true → knownJ j K' = true → bs K = bs K' → K = K'

theorem TSt.kept {wr W' : World} {b j : Nat} (h : TSt wr b j) (hg : wr.grownBy W' none) : TSt W' b j := by
  obtain ⟨bs, h1, h2, h3⟩ := h
  exact ⟨bs, h1.kept hg (by simp), fun K hK => ⟨(h2 K hK).1.kept hg (by simp), (h2 K hK).2⟩, h3⟩

/-- The inner map gains a property. -/
theorem TSt.put {W W' : World} {b j : Nat} (hj : j < 11) (bs : ByteArray → Nat) {x : RwS} (hx : rowsL.getD j rwS = x)
    (h1 : MapIs Tryz.prog 9 W b (j + 1) (fun K => if knownJ (j + 1) K then some (.map (some (bs K))) else none))
    (h2 : ∀ K, K ≠ x.K → knownJ j K = true → MapIs Tryz.prog 9 W (bs K) j (fun s => (specJ j K s).map encSp) ∧ b < bs K)
    (h3 : ∀ K K', knownJ (j + 1) K = true → knownJ (j + 1) K' = true → bs K = bs K' → K = K') (hb : b < bs x.K)
    (h4 : MapIs Tryz.prog 9 W' (bs x.K) (j + 1) (fun s => if s = x.nm then some (encSp x) else (specJ j x.K s).map encSp)) (hg : W.grownBy W' (some (bs x.K))) : TSt W' b (j + 1) := by
  have hk : ∀ K, knownJ (j + 1) K = (knownJ j K || decide (x.K = K)) := fun K => by rw [knownJ_succ j hj, hx]
  have hs : ∀ K s, specJ (j + 1) K s = if x.K = K ∧ x.nm = s then some x else specJ j K s := fun K s => by rw [specJ_succ j hj, hx]
  refine ⟨bs, h1.kept hg (by simp; omega), fun K hK => ?_, h3⟩
  by_cases e : K = x.K
  · subst e
    refine ⟨?_, hb⟩
    have e2 : (fun s => (specJ (j + 1) x.K s).map encSp) = (fun s => if s = x.nm then some (encSp x) else (specJ j x.K s).map encSp) := by
      funext s
      rw [hs]
      by_cases e : s = x.nm
      · rw [if_pos e, if_pos ⟨rfl, e.symm⟩]; rfl
      · rw [if_neg e, if_neg (fun h => e h.2.symm)]
    rw [e2]
    exact h4
  · have hK' : knownJ j K = true := by
      rw [hk] at hK
      rcases Bool.or_eq_true _ _ ▸ hK with h | h
      · exact h
      · exact absurd (of_decide_eq_true h).symm e
    obtain ⟨hm, hlt⟩ := h2 K e hK'
    refine ⟨?_, hlt⟩
    have e2 : (fun s => (specJ (j + 1) K s).map encSp) = (fun s => (specJ j K s).map encSp) := by
      funext s
      rw [hs, if_neg (fun h => e h.1.symm)]
    rw [e2]
    exact (hm.kept hg (fun he => e (h3 K x.K hK (by rw [hk]; simp) (by injection he)))).mono (by omega)

/-- What types answers: b leads to the maps of all rows. -/
def TypesAt (W : World) (b : Nat) : Prop := TSt W b 11

set_option maxRecDepth 100000 in
set_option maxHeartbeats 4000000 in
theorem types_any (w : World) (hR : RowsE w) (hw : 1 ≤ w.heap.size) :
    Calls Tryz.prog 60 #[] w fun e w' => ∃ b, e = .returned (.map (some b)) ∧ w.heap.size ≤ b ∧ TypesAt w' b ∧ Below w.heap.size w w' := by
  have hmm := @run_makeMap Tryz.prog
  have hix := ix_rows
  have HM0 := Lib.hid (MapIs.made Tryz.prog 9 w)
  obtain ⟨t0, fr0, h0⟩ := hR
  have hrng : (w.alloc (.map #[] 0)).rangeAt 0 0 rowsV := fun j v hv => by rw [cell_of_row _ _ _ _ _ _ ((Below.heap_alloc w _ _ (by omega)).trans h0)]; simpa using hv
  have hsz : (Tryz.prog.info? 123).map (·.size) = some rowsV.length := by kernel_rfl
  generalize hrv : rowsV = rv at *
  clear h0 hrv
  go_enter Tryz.func60, Tryz.ntmps60
  go_wp2_with (refine wpList_load_mid rfl _ _ rfl 0 0 rfl rv _ hrng Tryz.underlying123 rfl hsz ?_)
  go_loopw [6] (fun i wr => ∃ j : Nat, j ≤ 11 ∧ i = .int .i64 j ∧ Hid (TSt wr w.heap.size j) ∧ Hid (Below w.heap.size w wr)) (fun i _ => 11 - (intOf i).toNat)
  case atStart =>
    refine ⟨0, by omega, rfl, Lib.hid ⟨fun _ => 0, HM0.out, fun K hK => ?_, fun K K' hK => ?_⟩, Lib.hid (by go_grown)⟩
    · cases hK
    · cases hK
  case round =>
    obtain ⟨j, hj, rfl, hT, hB⟩ := hrel
    by_cases hlt : j < 11
    · have hx := hix j hlt
      have hsm := small_row j hlt
      obtain ⟨x, hxe⟩ : ∃ x, rowsL.getD j rwS = x := ⟨_, rfl⟩
      rw [hxe] at hx hsm
      obtain ⟨K, nm, q, r⟩ := x
      simp only [encRW] at hx hsm
      clear hix
      have hks : ∀ K', knownJ (j + 1) K' = (knownJ j K' || decide (K = K')) := fun K' => by rw [knownJ_succ j hlt, hxe]
      obtain ⟨bs, h1, h2, h3⟩ := hT.out
      have hBs := hB.out.size
      have hlB : w.heap.size < wr.heap.size := h1.lt
      have g1 := World.grownBy_alloc wr (.cells #[.string K, .string nm, .int .i8 q, .bool r] 122) none
      have z1 : (wr.alloc (.cells #[.string K, .string nm, .int .i8 q, .bool r] 122)).heap.size = wr.heap.size + 1 := by simp
      have HB1 := Lib.hid (hB.out.grown g1 hBs (fun k e => by cases e))
      have m1 := h1.kept g1 (by simp)
      have hKl : K.size ≤ maxLen := by unfold maxLen; omega
      have hnl : nm.size ≤ maxLen := by unfold maxLen; omega
      have hlk := m1.look lawS Tryz.underlying9 Tryz.underlying101 false (zeroMM _) hKl
      by_cases hk : knownJ j K = true
      · rw [if_pos hk] at hlk
        simp only [Option.getD_some, Bool.false_eq_true, if_false] at hlk
        have m2 := (h2 K hk).1.kept g1 (by simp)
        have hblt := (h2 K hk).2
        obtain ⟨w2, hr2, hm2, hg2⟩ := m2.update lawS Tryz.underlying9 Tryz.underlying100 (by unfold maxLen; omega) hnl (.agg #[.string nm, .int .i8 q, .bool r])
        have hfin : TSt w2 w.heap.size (j + 1) := by
          refine TSt.put hlt bs hxe ?_ (fun K' hne hk' => ⟨(h2 K' hk').1.kept g1 (by simp), (h2 K' hk').2⟩) ?_ hblt hm2 hg2
          · have e : (fun K' => if knownJ (j + 1) K' = true then some (Value.map (some (bs K'))) else none) = (fun K' => if knownJ j K' = true then some (Value.map (some (bs K'))) else none) := by
              funext K'
              rw [hks]
              by_cases e : K = K'
              · subst e; rw [hk]; rfl
              · rw [decide_eq_false e, Bool.or_false]
            rw [e]
            exact m1.mono (by omega)
          · have e : ∀ K', knownJ (j + 1) K' = true → knownJ j K' = true := fun K' h => by
              rw [hks] at h
              by_cases e : K = K'
              · subst e; exact hk
              · rwa [decide_eq_false e, Bool.or_false] at h
            exact fun a b ha hb => h3 a b (e a ha) (e b hb)
        have HF := Lib.hid hfin
        have HB2 := Lib.hid (HB1.out.grown hg2 (by omega) (fun k e => by cases e; omega))
        clear hfin hm2 m2 m1 h1 h2 h3 hT hks hg2 HB1 hB g1
        go_wp2_with fail
        rename_i hq
        refine hq _ _ ?_
        go_wp2_with fail
        go_roundw
        case rel => exact ⟨j + 1, by omega, by go_num, HF, HB2⟩
        case measure => simp [intOf]; omega
      · rw [if_neg hk] at hlk
        simp only [Option.getD_none, Bool.false_eq_true, if_false] at hlk
        have hkf : knownJ j K = false := by simpa using hk
        have g2 := World.grownBy_alloc (wr.alloc (.cells #[.string K, .string nm, .int .i8 q, .bool r] 122)) (.map #[] 0) none
        have m0 := MapIs.made Tryz.prog 9 (wr.alloc (.cells #[.string K, .string nm, .int .i8 q, .bool r] 122))
        rw [z1] at m0
        obtain ⟨w2, hr2, hm2, hg2⟩ := (m1.kept g2 (by simp)).update lawS Tryz.underlying9 Tryz.underlying101 (by unfold maxLen; omega) hKl (.map (some (wr.heap.size + 1)))
        have m3 := m0.kept hg2 (by simp; omega)
        have hlk2 := hm2.look lawS Tryz.underlying9 Tryz.underlying101 false (zeroMM _) hKl
        rw [if_pos rfl] at hlk2
        simp only [Option.getD_some, Bool.false_eq_true, if_false] at hlk2
        obtain ⟨w3, hr3, hm3, hg3⟩ := m3.update lawS Tryz.underlying9 Tryz.underlying100 (by unfold maxLen; omega) hnl (.agg #[.string nm, .int .i8 q, .bool r])
        have hfin : TSt w3 w.heap.size (j + 1) := by
          have eb : (fun K' => if K' = K then wr.heap.size + 1 else bs K') K = wr.heap.size + 1 := if_pos rfl
          have hlo : ∀ K', knownJ j K' = true → bs K' < wr.heap.size := fun K' h => (h2 K' h).1.lt
          refine TSt.put (W := w2) hlt (fun K' => if K' = K then wr.heap.size + 1 else bs K') hxe ?_ (fun K' hne hk' => ?_) (fun a b ha hb hab => ?_) ?_ ?_ ?_
          · have e : (fun K' => if knownJ (j + 1) K' = true then some (Value.map (some (if K' = K then wr.heap.size + 1 else bs K'))) else none) = (fun K' => if K' = K then some (.map (some (wr.heap.size + 1))) else if knownJ j K' = true then some (Value.map (some (bs K'))) else none) := by
              funext K'
              rw [hks]
              by_cases e : K' = K
              · subst e; simp
              · rw [decide_eq_false (fun h => e h.symm), Bool.or_false, if_neg e, if_neg e]
            rw [e]
            exact hm2
          · show MapIs Tryz.prog 9 w2 (if K' = K then wr.heap.size + 1 else bs K') j _ ∧ w.heap.size < (if K' = K then wr.heap.size + 1 else bs K')
            rw [if_neg hne]
            refine ⟨(((h2 K' hk').1.kept g1 (by simp)).kept g2 (by simp)).kept hg2 ?_, (h2 K' hk').2⟩
            have := (h2 K' hk').2
            simp; omega
          · have key : ∀ c, knownJ (j + 1) c = true → c ≠ K → knownJ j c = true := fun c h e => by
              rwa [hks, decide_eq_false (fun h => e h.symm), Bool.or_false] at h
            have hab' : (if a = K then wr.heap.size + 1 else bs a) = (if b = K then wr.heap.size + 1 else bs b) := hab
            by_cases ea : a = K
            · by_cases eb' : b = K
              · rw [ea, eb']
              · rw [if_pos ea, if_neg eb'] at hab'
                have := hlo b (key b hb eb')
                omega
            · by_cases eb' : b = K
              · rw [if_neg ea, if_pos eb'] at hab'
                have := hlo a (key a ha ea)
                omega
              · rw [if_neg ea, if_neg eb'] at hab'
                exact h3 a b (key a ha ea) (key b hb eb') hab'
          · show w.heap.size < (if K = K then wr.heap.size + 1 else bs K)
            rw [if_pos rfl]; omega
          · show MapIs Tryz.prog 9 w3 (if K = K then wr.heap.size + 1 else bs K) (j + 1) (fun s => if s = nm then some (.agg #[.string nm, .int .i8 q, .bool r]) else (specJ j K s).map encSp)
            rw [if_pos rfl]
            have e : (fun s => if s = nm then some (Value.agg #[.string nm, .int .i8 q, .bool r]) else (specJ j K s).map encSp) = (fun s => if s = nm then some (Value.agg #[.string nm, .int .i8 q, .bool r]) else none) := by
              funext s
              rw [specJ_none j K s hkf]; rfl
            rw [e]
            exact hm3.mono (by omega)
          · show w2.grownBy w3 (some (if K = K then wr.heap.size + 1 else bs K))
            rw [if_pos rfl]
            exact hg3
        have hcb : ∀ i u, ((wr.alloc (.cells #[.string K, .string nm, .int .i8 q, .bool r] 122)).alloc (.map #[] 0)).cell? ⟨wr.heap.size, i, none⟩ = some u → w2.cell? ⟨wr.heap.size, i, none⟩ = some u := fun i u h =>
          (World.cell?_of_block (hg2.block wr.heap.size (by simp; omega) (by simp; omega))).trans h
        have hc0 := hcb 0 (.string K) (by simp)
        have hc1 := hcb 1 (.string nm) (by simp)
        have hc2 := hcb 2 (.int .i8 q) (by simp)
        have hc3 := hcb 3 (.bool r) (by simp)
        have HF := Lib.hid hfin
        have HB2 := Lib.hid (HB1.out.grown g2 (by omega) (fun k e => by cases e))
        have HB3 := Lib.hid (HB2.out.grown hg2 HB2.out.size (fun k e => by cases e; omega))
        have HB4 := Lib.hid (HB3.out.grown hg3 HB3.out.size (fun k e => by cases e; omega))
        clear hfin hm2 m3 m0 m1 h1 h2 h3 hT hks hg2 HB1 hB g1 g2 hm3 hg3 HB2 HB3 hcb
        go_wp2_with fail
        rename_i hq
        refine hq _ _ ?_
        go_wp2_with fail
        go_roundw
        case rel => exact ⟨j + 1, by omega, by go_num, HF, HB4⟩
        case measure => simp [intOf]; omega
    · obtain rfl : j = 11 := by omega
      have hBs := hB.out.size
      go_wp2_with fail
      go_ret
      exact ⟨_, rfl, Nat.le_refl _, hT.out, hB.out⟩
end Go.Proofs.YtdckldfekepopaaGreatDoor

namespace Go.Proofs.YtdckldfekepopaaGreatDoor
end Go.Proofs.YtdckldfekepopaaGreatDoor

namespace Go.Proofs.YtdckldfekepopaaGreatDoor
open Go.RowKit Go.Maps Go.ChangeMaps Go.WideMaps

theorem lit_no {s : ByteArray} {l : List UInt8} (h : s ≠ ⟨l.toArray⟩) : (s.toList == l) = false := by
  rw [beq_eq_false_iff_ne]
  intro e
  apply h
  rw [ByteArray.toList_eq] at e
  ext1
  rw [← e, Array.toArray_toList]
theorem known_iff (K : ByteArray) : known K = true ↔ K ∈ [sDisk, sNet, sNode, sRule] := by
  unfold known knownJ
  simp only [rowsL, List.take_succ_cons, List.take_zero, List.any_cons, List.any_nil, Bool.or_false, Bool.or_eq_true, decide_eq_true_eq, List.mem_cons, List.not_mem_nil, or_false]
  constructor
  · rintro (rfl | rfl | rfl | rfl | rfl | rfl | rfl | rfl | rfl | rfl | rfl) <;> simp
  · rintro (rfl | rfl | rfl | rfl) <;> simp

/-- What a name of a type leads to. -/
theorem TypesAt.look {W : World} {b : Nat} (h : TypesAt W b) : ∃ bs : ByteArray → Nat,
    MapIs Tryz.prog 9 W b 11 (fun K => if known K then some (.map (some (bs K))) else none) ∧ ∀ K, known K = true → MapIs Tryz.prog 9 W (bs K) 11 (fun s => (spec K s).map encSp) ∧ b < bs K := by
  obtain ⟨bs, h1, h2, _⟩ := h
  exact ⟨bs, h1, h2⟩

theorem TypesAt.yes {W : World} {b : Nat} (h : TypesAt W b) {K : ByteArray} (hk : known K = true) (hl : K.size ≤ maxLen) (c : Bool) :
    ∃ b', (Instr.lookup 101 (.map (some b)) (.string K) c).run Tryz.prog W = .ok (if c then .tuple #[.map (some b'), .bool true] else .map (some b')) W ∧ MapIs Tryz.prog 9 W b' 11 (fun s => (spec K s).map encSp) ∧ b < b' := by
  obtain ⟨bs, hm, h2⟩ := h.look
  have hlk := hm.look lawS Tryz.underlying9 Tryz.underlying101 c (zeroMM _) hl
  rw [if_pos hk] at hlk
  exact ⟨bs K, hlk, (h2 K hk).1, (h2 K hk).2⟩
theorem TypesAt.no {W : World} {b : Nat} (h : TypesAt W b) {K : ByteArray} (hk : known K = false) (hl : K.size ≤ maxLen) (c : Bool) :
    (Instr.lookup 101 (.map (some b)) (.string K) c).run Tryz.prog W = .ok (if c then .tuple #[.map none, .bool false] else .map none) W := by
  obtain ⟨bs, hm, h2⟩ := h.look
  have hlk := hm.look lawS Tryz.underlying9 Tryz.underlying101 c (zeroMM _) hl
  rw [hk, if_neg Bool.false_ne_true] at hlk
  exact hlk

/-- An attribute: its text, what is wrong. -/
def attrV (kind phys name : ByteArray) : ByteArray × Int :=
  if known kind then (if name = ⟨#[65, 114, 110]⟩ then (kind ++ ⟨#[58]⟩ ++ phys, 0) else if name = ⟨#[90, 111, 110, 101]⟩ then (phys.extract (phys.size - 1) phys.size, 0) else (⟨#[]⟩, 91)) else (⟨#[]⟩, 90)

end Go.Proofs.YtdckldfekepopaaGreatDoor
