/-
  A map that the call has made, its keys texts, its elements whatever they are: told by a function. · The provider's types, plain: the rows; what is known after so many rows; the variable that holds them. · The program's types: a map of maps, made anew by each call. · (nothing here) · The types' names; attributes. · Properties that are given, as they read; which values may be: the program's holds. · The program's holds at any kind: a list's parts are looked at one by one. · Are two values the same, but for what their lists hold? Are two lists one? · Is a value the zero one? (The program's alike, held against it.)
-/
import Derived.Test.YtkigeegahepnaaaGreatDoorGA
import Derived.Maps.OwnSet
import Derived.Maps.RangeWalk
import Derived.Maps.Views
import Derived.Maps.Ext
import Derived.Sort.KeysCollected
import Derived.Deep.MidRow
import Derived.Handy
import Derived.WalkKit
import Derived.Lib.Hide
import Derived.Test.YtkigeegahepnaaaGreatDoorGB
import Derived.Test.YtkigeegahepnaaaGreatDoorGI
import Derived.Deep.LoopGhost
set_option linter.unusedVariables false
set_option linter.unusedSimpArgs false
namespace Go.Proofs.YtkigeegahepnaaaGreatDoor
open Go.RowKit Go.Maps Go.ChangeMaps Go.WideMaps

/-- An element reads as itself. -/
def Rh (v : Value) : Option (DataW Value × List MemPlace) := some (.held v, [])
def kyS (s : ByteArray) : Lit := .string s.data.toList
def tokO : Option Value → DataW Value
  | some v => .held v
  | none => .nil
theorem kyS_inj {s t : ByteArray} (h : kyS s = kyS t) : s = t := by
  have : s.data.toList = t.data.toList := by simpa [kyS] using h
  exact ByteArray.ext (Array.toList_inj.1 this)
theorem tokO_inj {a b : Option Value} (h : tokO a = tokO b) : a = b := by
  cases a <;> cases b <;> simp_all [tokO]

/-- Block b of W is a map of at most n texts that leads to what f says. -/
def MapIs (P : Program) (k : TypeId) (W : World) (b n : Nat) (f : ByteArray → Option Value) : Prop :=
  ∃ D : DataW Value, W.ownsMap P k Rh b n D ∧ ∀ s, D.atKey (kyS s) .nil = tokO (f s)

section
variable {P : Program} {k e t : TypeId} {W : World} {b n : Nat} {f : ByteArray → Option Value}

theorem MapIs.made (P : Program) (k : TypeId) (W : World) : MapIs P k (W.alloc (.map #[] 0)) W.heap.size 0 (fun _ => none) :=
  ⟨_, World.ownsMap_made W P k Rh, fun s => by simp [DataW.atKey, tokO]⟩

theorem MapIs.mono (h : MapIs P k W b n f) {n' : Nat} (hn : n ≤ n') : MapIs P k W b n' f := by
  obtain ⟨D, hD, hf⟩ := h
  exact ⟨D, hD.mono hn, hf⟩

theorem MapIs.kept (h : MapIs P k W b n f) {W' : World} {row : Option Nat} (hg : W.grownBy W' row) (hne : some b ≠ row) : MapIs P k W' b n f := by
  obtain ⟨D, hD, hf⟩ := h
  exact ⟨D, hD.kept hg hne, hf⟩

theorem MapIs.lt (h : MapIs P k W b n f) : b < W.heap.size := by
  obtain ⟨D, hD, hf⟩ := h
  exact hD.lt

theorem MapIs.look (h : MapIs P k W b n f) (K : Keyed P k) (hk : P.underlying k = some .string) (ht : P.underlying t = some (.map k e)) (c : Bool) {z : Value} (hz : (zeroValue e).run P W = .ok z W) {s : ByteArray} (hs : s.size ≤ maxLen) :
    (Instr.lookup t (.map (some b)) (.string s) c).run P W = .ok (if c then .tuple #[(f s).getD z, .bool (f s).isSome] else (f s).getD z) W := by
  obtain ⟨D, ⟨es, clock, hb, F, _, rfl⟩, hf⟩ := h
  have hf' := hf s
  rcases Maps.fit_look c K ht hz hb F (keyOf_string_mk hk hs) with ⟨hrun, _, hat⟩ | ⟨e0, y, _, _, hrun, hRv, hat, _⟩
  · rw [kyS, hat .nil] at hf'
    have : f s = none := tokO_inj hf'.symm
    rw [hrun, this]
    rfl
  · rw [kyS, hat .nil] at hf'
    cases hRv
    have : f s = some e0.val := tokO_inj hf'.symm
    rw [hrun, this]
    rfl

theorem MapIs.update (h : MapIs P k W b n f) (K : Keyed P k) (hk : P.underlying k = some .string) (ht : P.underlying t = some (.map k e)) (hn : n < maxLen) {s : ByteArray} (hs : s.size ≤ maxLen) (v : Value) :
    ∃ w', (Instr.mapUpdate t (.map (some b)) (.string s) v).run P W = .ok () w' ∧ MapIs P k w' b (n + 1) (fun s' => if s' = s then some v else f s') ∧ W.grownBy w' (some b) := by
  obtain ⟨D, hD, hf⟩ := h
  obtain ⟨w', hr, ho, hg⟩ := hD.update K ht hn (keyOf_string_mk hk hs) (show Rh v = some (.held v, []) from rfl)
  refine ⟨w', hr, ⟨_, ho, fun s' => ?_⟩, hg⟩
  by_cases e : s' = s
  · subst e
    show (D.put (kyS s') (.held v)).atKey (kyS s') .nil = tokO (if s' = s' then some v else f s')
    rw [if_pos rfl, atKey_put_same hD.isMap (show WideAt.IsKeyLit (kyS s') from trivial)]
    rfl
  · show (D.put (kyS s) (.held v)).atKey (kyS s') .nil = tokO (if s' = s then some v else f s')
    rw [if_neg e, atKey_put_other (fun e' => e (kyS_inj e')), ← hf s']

/-- A range over the map is under way: 'left' says which names are still to come. -/
def RangeIs (P : Program) (k : TypeId) (W : World) (b r n : Nat) (f : ByteArray → Option Value) (left : ByteArray → Bool) (cnt : Nat) : Prop :=
  ∃ (D : DataW Value) (L : Lit → Bool), W.ranges P k Rh b r n D L cnt ∧ (∀ s, D.atKey (kyS s) .nil = tokO (f s)) ∧ ∀ s, L (kyS s) = left s

theorem has_of_tok {D : DataW Value} (hm : IsMap D) {s : ByteArray} {o : Option Value} (h : D.atKey (kyS s) .nil = tokO o) (hh : ∀ v, o = some v → o ≠ none) (hne : ∀ es, D = .map es → ∀ p ∈ es, p.2 ≠ .nil) : has D (kyS s) = o.isSome := by
  obtain ⟨es, rfl⟩ := hm
  cases o with
  | none =>
    cases hh' : has (.map es) (kyS s) with
    | false => rfl
    | true =>
      exfalso
      rw [has_eq, List.any_eq_true] at hh'
      obtain ⟨p, hp, hps⟩ := hh'
      simp only [DataW.atKey, tokO] at h
      cases hf : es.find? (fun p => p.1.sameKey (kyS s)) with
      | none =>
        rw [List.find?_eq_none] at hf
        exact hf p hp hps
      | some q =>
        rw [hf] at h
        exact hne es rfl q (List.mem_of_find?_eq_some hf) h
  | some v =>
    cases hh' : has (.map es) (kyS s) with
    | true => rfl
    | false =>
      rw [atKey_of_not_has hh'] at h
      cases h

theorem owns_held {D : DataW Value} (h : W.ownsMap P k Rh b n D) : ∀ es, D = .map es → ∀ p ∈ es, p.2 ≠ .nil := by
  obtain ⟨es0, clock, hb, F, _, rfl⟩ := h
  intro es e p hp
  cases e
  obtain ⟨x, hx, rfl⟩ := List.mem_map.1 (mem_sorted.1 hp)
  obtain ⟨y, hy⟩ := F.reads x hx
  obtain ⟨z, hz, hd⟩ := WideElems.rd_val hy
  cases hz
  rw [WideElems.rg_of hy, hd]
  simp

theorem MapIs.has (h : MapIs P k W b n f) : ∃ D : DataW Value, W.ownsMap P k Rh b n D ∧ (∀ s, Maps.has D (kyS s) = (f s).isSome) ∧ ∀ s, D.atKey (kyS s) .nil = tokO (f s) := by
  obtain ⟨D, hD, hf⟩ := h
  exact ⟨D, hD, fun s => has_of_tok hD.isMap (hf s) (fun v e => by rw [e]; simp) (owns_held hD), hf⟩

theorem RangeIs.owns {r cnt : Nat} {left : ByteArray → Bool} (h : RangeIs P k W b r n f left cnt) : MapIs P k W b n f := by
  obtain ⟨D, L, hr, hf, _⟩ := h
  exact ⟨D, hr.owns, hf⟩
theorem RangeIs.left_eq {r cnt : Nat} {left : ByteArray → Bool} (h : RangeIs P k W b r n f left cnt) : W.rangeLeft b r = cnt := by
  obtain ⟨D, L, hr, hf, _⟩ := h
  exact hr.left_eq
theorem RangeIs.lt {r cnt : Nat} {left : ByteArray → Bool} (h : RangeIs P k W b r n f left cnt) : r < W.heap.size := by
  obtain ⟨D, L, hr, hf, _⟩ := h
  exact hr.lt
theorem RangeIs.kept {r cnt : Nat} {left : ByteArray → Bool} (h : RangeIs P k W b r n f left cnt) {W' : World} {row : Option Nat} (hg : W.grownBy W' row) (hb : some b ≠ row) (hr : some r ≠ row) : RangeIs P k W' b r n f left cnt := by
  obtain ⟨D, L, hrg, hf, hl⟩ := h
  exact ⟨D, L, hrg.kept hg hb hr, hf, hl⟩

theorem sameKey_ky (z s : ByteArray) : (kyS z).sameKey (kyS s) = decide (z = s) := by
  by_cases e : z = s
  · subst e
    rw [decide_eq_true rfl]
    exact WideAt.sameKey_self trivial
  · rw [decide_eq_false e]
    exact sameKey_ne (fun e' => e (kyS_inj e'))

/-- 'range m'. -/
theorem wpList_range_map {ops : Array Oper} {rest : List Oper} {o : Oper} {a : Act} {Q : Exit → Act → World → Prop} (hg : o.guard = none) (m : Operand) (t : TypeId) (hop : o.op = Op.range t m) (k e : TypeId) (K : Keyed P k) (ht : P.underlying t = some (.map k e))
    (hm : a.eval m = .map (some b)) (h : MapIs P k W b n f)
    (hK : ∀ w' cnt, RangeIs P k w' b W.heap.size n f (fun s => (f s).isSome) cnt → W.grownBy w' none → w'.heap.size = W.heap.size + 1 → wpList P ops Q rest (a.put o.dst (.pointer (some ⟨W.heap.size, 0, none⟩))) w') :
    wpList P ops Q (o :: rest) a W := by
  obtain ⟨D, hD, hh, hf⟩ := h.has
  refine wpList_range_own W hg m t hop k e K ht Rh b n D hm hD ?_
  intro w0 hr hg0 hs0
  exact hK w0 _ ⟨D, _, hr, hf, hh⟩ hg0 hs0

/-- The step. -/
theorem wpList_next_map {ops : Array Oper} {rest : List Oper} {o : Oper} {a : Act} {Q : Exit → Act → World → Prop} (hg : o.guard = none) (it : Operand) (hop : o.op = Op.next it false) (k : TypeId) (K : Keyed P k) (hk : P.underlying k = some .string) (b r n : Nat) (f : ByteArray → Option Value) (left : ByteArray → Bool) (cnt : Nat)
    (hit : a.eval it = .pointer (some ⟨r, 0, none⟩)) (h : RangeIs P k W b r n f left cnt)
    (hDone : cnt = 0 → (∀ s : ByteArray, left s = false) → wpList P ops Q rest (a.put o.dst (.tuple #[.bool false])) W)
    (hMore : ∀ (s : ByteArray) (c : Value) (w' : World) (cnt' : Nat), s.size ≤ maxLen → left s = true → f s = some c → RangeIs P k w' b r n f (fun z => left z && !decide (z = s)) cnt' → cnt' < cnt → W.grownBy w' (some r) → w'.heap.size = W.heap.size →
      (Instr.entry (.pointer (some ⟨r, 0, none⟩))).run P w' = .ok (.tuple #[.string s, c]) w' → wpList P ops Q rest (a.put o.dst (.tuple #[.bool true, .string s, c])) w') :
    wpList P ops Q (o :: rest) a W := by
  obtain ⟨D, L, hr, hf, hl⟩ := h
  refine wpList_next_ranges W hg it hop k K Rh Value.string (fun v : Value => v) (fun key kl hkey => ?_) (fun v y _ => ⟨v, rfl⟩) b r n D L cnt hit hr (fun h0 hL => hDone h0 (fun s => by rw [← hl s]; exact hL _)) ?_
  · obtain ⟨x, rfl, _, _⟩ := Maps.keyOf_str hk hkey
    exact ⟨_, rfl⟩
  · intro s c kl y w' cnt' hkey hlk hR hat hrg hlt hgr hsz hen
    obtain ⟨x, ex, rfl, hx⟩ := Maps.keyOf_str hk hkey
    have es : kyS s = .string x := by
      simp only [encStr, Value.string.injEq] at ex
      rw [ex]; simp [kyS]
    have hsl : s.size ≤ maxLen := by
      have : s.data.toList = x := by simpa [kyS] using es
      have h2 := congrArg List.length this
      rw [Array.length_toList] at h2
      exact Nat.le_trans (Nat.le_of_eq h2) hx
    rw [← es] at hlk hat hrg
    cases hR
    refine hMore s c w' cnt' hsl (by rw [← hl s]; exact hlk) (tokO_inj (by rw [← hf s, hat .nil]; rfl)) ⟨D, _, hrg, hf, fun z => ?_⟩ hlt hgr hsz hen
    show (L (kyS z) && !(kyS z).sameKey (kyS s)) = _
    rw [hl z, sameKey_ky]

/-- 'm[k]', 'v, ok := m[k]' at the operation. -/
theorem wpList_lookup_map {ops : Array Oper} {rest : List Oper} {o : Oper} {a : Act} {Q : Exit → Act → World → Prop} (hg : o.guard = none) (m x : Operand) (t : TypeId) (c : Bool) (hop : o.op = Op.lookup t m x c) (k e : TypeId) (K : Keyed P k) (hk : P.underlying k = some .string) (ht : P.underlying t = some (.map k e))
    {z : Value} (hz : (zeroValue e).run P W = .ok z W) (hm : a.eval m = .map (some b)) (h : MapIs P k W b n f) (s : ByteArray) (hx : a.eval x = .string s) (hs : s.size ≤ maxLen)
    (hK : wpList P ops Q rest (a.put o.dst (if c then .tuple #[(f s).getD z, .bool (f s).isSome] else (f s).getD z)) W) : wpList P ops Q (o :: rest) a W := by
  refine wpList_plain hg fun K' hK' => ?_
  have hrun := h.look K hk ht c hz hs
  generalize (if c then Value.tuple #[(f s).getD z, .bool (f s).isSome] else (f s).getD z) = rr at hrun hK
  unfold Oper.wp
  simp [execOp, hop, hm, hx, hrun, Result.andThen]
  exact hK' _ _ hK

/-- 'm[k] = v' at the operation. -/
theorem wpList_update_map {ops : Array Oper} {rest : List Oper} {o : Oper} {a : Act} {Q : Exit → Act → World → Prop} (hg : o.guard = none) (m x v : Operand) (t : TypeId) (hop : o.op = Op.mapUpdate t m x v) (k e : TypeId) (K : Keyed P k) (hk : P.underlying k = some .string) (ht : P.underlying t = some (.map k e))
    (hm : a.eval m = .map (some b)) (h : MapIs P k W b n f) (hn : n < maxLen) (s : ByteArray) (hx : a.eval x = .string s) (hs : s.size ≤ maxLen) (u : Value) (hu : a.eval v = u)
    (hK : ∀ w', MapIs P k w' b (n + 1) (fun s' => if s' = s then some u else f s') → W.grownBy w' (some b) → wpList P ops Q rest (a.put o.dst undef) w') : wpList P ops Q (o :: rest) a W := by
  refine wpList_plain hg fun K' hK' => ?_
  obtain ⟨w', hrun, h1, h2⟩ := h.update K hk ht hn hs u
  unfold Oper.wp
  simp [execOp, hop, hm, hx, hu, hrun, Result.andThen]
  exact hK' _ _ (hK w' h1 h2)

end
end Go.Proofs.YtkigeegahepnaaaGreatDoor

namespace Go.Proofs.YtkigeegahepnaaaGreatDoor
open Go.RowKit

abbrev sDisk : ByteArray := ⟨#[68, 105, 115, 107]⟩
abbrev sNet : ByteArray := ⟨#[78, 101, 116]⟩
abbrev sNode : ByteArray := ⟨#[78, 111, 100, 101]⟩
abbrev sRule : ByteArray := ⟨#[82, 117, 108, 101]⟩
/-- A row: the type, the property's name, its kind, whether it replaces. -/
structure RwS where
  K : ByteArray
  nm : ByteArray
  q : Int
  r : Bool
deriving DecidableEq
def rwS : RwS := ⟨⟨#[]⟩, ⟨#[]⟩, 0, false⟩
def rowsL : List RwS := [
  ⟨sDisk, ⟨#[83, 105, 122, 101]⟩, 2, false⟩,
  ⟨sDisk, ⟨#[84, 97, 103, 115]⟩, 4, false⟩,
  ⟨sDisk, ⟨#[75, 105, 110, 100]⟩, 3, true⟩,
  ⟨sNet, ⟨#[76, 97, 98, 101, 108]⟩, 3, false⟩,
  ⟨sNet, ⟨#[82, 97, 110, 103, 101]⟩, 3, true⟩,
  ⟨sNode, ⟨#[67, 111, 117, 110, 116]⟩, 2, false⟩,
  ⟨sNode, ⟨#[68, 105, 115, 107]⟩, 3, false⟩,
  ⟨sNode, ⟨#[73, 109, 97, 103, 101]⟩, 3, true⟩,
  ⟨sNode, ⟨#[78, 101, 116]⟩, 3, true⟩,
  ⟨sRule, ⟨#[78, 111, 100, 101]⟩, 3, false⟩,
  ⟨sRule, ⟨#[80, 111, 114, 116]⟩, 2, true⟩]
def encRW (x : RwS) : List Value := [.string x.K, .string x.nm, .int .i8 x.q, .bool x.r]
def rowsV : List Value := rowsL.flatMap encRW
/-- The row that says of a property, among the first i; the last one, if there were more. -/
def specJ (i : Nat) (K s : ByteArray) : Option RwS := (rowsL.take i).reverse.find? (fun x => decide (x.K = K) && decide (x.nm = s))
def knownJ (i : Nat) (K : ByteArray) : Bool := (rowsL.take i).any (fun x => decide (x.K = K))
def encSp (x : RwS) : Value := .agg #[.string x.nm, .int .i8 x.q, .bool x.r]
def spec (K s : ByteArray) : Option RwS := specJ 11 K s
def known (K : ByteArray) : Bool := knownJ 11 K

theorem rows_len : rowsL.length = 11 := rfl
theorem take_succ (j : Nat) (hj : j < 11) : rowsL.take (j + 1) = rowsL.take j ++ [rowsL.getD j rwS] := by
  rw [List.take_succ_eq_append_getElem (by rw [rows_len]; exact hj)]
  congr 2
  rw [List.getD_eq_getElem?_getD, List.getElem?_eq_getElem (by rw [rows_len]; exact hj)]
  rfl
theorem specJ_succ (j : Nat) (hj : j < 11) (K s : ByteArray) : specJ (j + 1) K s = if (rowsL.getD j rwS).K = K ∧ (rowsL.getD j rwS).nm = s then some (rowsL.getD j rwS) else specJ j K s := by
  unfold specJ
  rw [take_succ j hj, List.reverse_append, List.reverse_singleton, List.singleton_append, List.find?_cons]
  by_cases h : (rowsL.getD j rwS).K = K ∧ (rowsL.getD j rwS).nm = s
  · rw [if_pos h, decide_eq_true h.1, decide_eq_true h.2]; rfl
  · rw [if_neg h]
    have : (decide ((rowsL.getD j rwS).K = K) && decide ((rowsL.getD j rwS).nm = s)) = false := by
      rw [Bool.and_eq_false_iff, decide_eq_false_iff_not, decide_eq_false_iff_not]
      by_cases h1 : (rowsL.getD j rwS).K = K
      · exact .inr (fun h2 => h ⟨h1, h2⟩)
      · exact .inl h1
    rw [this]
theorem knownJ_succ (j : Nat) (hj : j < 11) (K : ByteArray) : knownJ (j + 1) K = (knownJ j K || decide ((rowsL.getD j rwS).K = K)) := by
  unfold knownJ
  rw [take_succ j hj, List.any_append]
  simp
theorem specJ_none (j : Nat) (K s : ByteArray) (h : knownJ j K = false) : specJ j K s = none := by
  unfold specJ
  rw [List.find?_eq_none]
  intro x hx hp
  have h2 := List.any_eq_false.1 h x (List.mem_reverse.1 hx)
  simp only [Bool.and_eq_true, decide_eq_true_eq] at hp
  exact h2 (decide_eq_true hp.1)
theorem small_row : ∀ j, j < 11 → (rowsL.getD j rwS).K.size ≤ 64 ∧ (rowsL.getD j rwS).nm.size ≤ 64 := by decide

/-- The variable of the package holds the rows. -/
def RowsE (w : World) : Prop := ∃ t fr, w.heap[0]? = some (.cells rowsV.toArray t fr)
theorem RowsE.below {n : Nat} {w w' : World} (h : RowsE w) (hb : Below n w w') (hn : 1 ≤ n) : RowsE w' := by
  obtain ⟨t, fr, h⟩ := h
  exact ⟨t, fr, (hb.block _ (by omega)).trans h⟩
theorem ix_rows (j : Nat) (hj : j < 11) (w : World) :
    (Instr.index 149 (.agg rowsV.toArray) (.int .i64 j)).run Tryz.prog w = .ok (.agg (encRW (rowsL.getD j rwS)).toArray) w := by
  rcases (show j = 0 ∨ j = 1 ∨ j = 2 ∨ j = 3 ∨ j = 4 ∨ j = 5 ∨ j = 6 ∨ j = 7 ∨ j = 8 ∨ j = 9 ∨ j = 10 by omega) with rfl | rfl | rfl | rfl | rfl | rfl | rfl | rfl | rfl | rfl | rfl
  all_goals clear hj; kernel_rfl
end Go.Proofs.YtkigeegahepnaaaGreatDoor

namespace Go.Proofs.YtkigeegahepnaaaGreatDoor
open Go.RowKit Go.Maps Go.ChangeMaps Go.WideMaps

theorem lawS : Keyed Tryz.prog 9 := string_keyed Tryz.underlying9
theorem zeroMM (w : World) : (zeroValue 120).run Tryz.prog w = .ok (.map none) w := by kernel_rfl
theorem zeroSp (w : World) : (zeroValue 125).run Tryz.prog w = .ok (.agg #[.string ⟨#[]⟩, .int .i8 0, .bool false]) w := by kernel_rfl

/-- The maps after j rows: the outer one at b, an inner one for each type that is known. -/
def TSt (wr : World) (b j : Nat) : Prop := ∃ bs : ByteArray → Nat,
  MapIs Tryz.prog 9 wr b j (fun K => if knownJ j K then some (.map (some (bs K))) else none) ∧
  (∀ K, knownJ j K = true → MapIs Tryz.prog 9 wr (bs K) j (fun s => (specJ j K s).map encSp) ∧ b < bs K) ∧
  ∀ K K', knownJ j K = true → knownJ j K' = true → bs K = bs K' → K = K'

theorem TSt.kept {wr W' : World} {b j : Nat} (h : TSt wr b j) (hg : wr.grownBy W' none) : TSt W' b j := by
  obtain ⟨bs, h1, h2, h3⟩ := h
  exact ⟨bs, h1.kept hg (by simp), fun K hK => ⟨(h2 K hK).1.kept hg (by simp), (h2 K hK).2⟩, h3⟩

/-- The inner map gains a property. -/
theorem TSt.put {W W' : World} {b j : Nat} (hj : j < 11) (bs : ByteArray → Nat) {x : RwS} (hx : rowsL.getD j rwS = x)
    (h1 : MapIs Tryz.prog 9 W b (j + 1) (fun K => if knownJ (j + 1) K then some (.map (some (bs K))) else none))
    (h2 : ∀ K, K ≠ x.K → knownJ j K = true → MapIs Tryz.prog 9 W (bs K) j (fun s => (specJ j K s).map encSp) ∧ b < bs K)
    (h3 : ∀ K K', knownJ (j + 1) K = true → knownJ (j + 1) K' = true → bs K = bs K' → K = K') (hb : b < bs x.K)
    (h4 : MapIs Tryz.prog 9 W' (bs x.K) (j + 1) (fun s => if s = x.nm then some (encSp x) else (specJ j x.K s).map encSp)) (hg : W.grownBy W' (some (bs x.K))) : TSt W' b (j + 1) := by
  have hk : ∀ K, knownJ (j + 1) K = (knownJ j K || decide (x.K = K)) := fun K => by rw [knownJ_succ j hj, hx]
  have hs : ∀ K s, specJ (j + 1) K s = if x.K = K ∧ x.nm = s then some x else specJ j K s := fun K s => by rw [specJ_succ j hj, hx]
  refine ⟨bs, h1.kept hg (by simp; omega), fun K hK => ?_, h3⟩
  by_cases e : K = x.K
  · subst e
    refine ⟨?_, hb⟩
    have e2 : (fun s => (specJ (j + 1) x.K s).map encSp) = (fun s => if s = x.nm then some (encSp x) else (specJ j x.K s).map encSp) := by
      funext s
      rw [hs]
      by_cases e : s = x.nm
      · rw [if_pos e, if_pos ⟨rfl, e.symm⟩]; rfl
      · rw [if_neg e, if_neg (fun h => e h.2.symm)]
    rw [e2]
    exact h4
  · have hK' : knownJ j K = true := by
      rw [hk] at hK
      rcases Bool.or_eq_true _ _ ▸ hK with h | h
      · exact h
      · exact absurd (of_decide_eq_true h).symm e
    obtain ⟨hm, hlt⟩ := h2 K e hK'
    refine ⟨?_, hlt⟩
    have e2 : (fun s => (specJ (j + 1) K s).map encSp) = (fun s => (specJ j K s).map encSp) := by
      funext s
      rw [hs, if_neg (fun h => e h.1.symm)]
    rw [e2]
    exact (hm.kept hg (fun he => e (h3 K x.K hK (by rw [hk]; simp) (by injection he)))).mono (by omega)

/-- What types answers: b leads to the maps of all rows. -/
def TypesAt (W : World) (b : Nat) : Prop := TSt W b 11

set_option maxRecDepth 100000 in
set_option maxHeartbeats 4000000 in
theorem types_any (w : World) (hR : RowsE w) (hw : 1 ≤ w.heap.size) :
    Calls Tryz.prog 68 #[] w fun e w' => ∃ b, e = .returned (.map (some b)) ∧ w.heap.size ≤ b ∧ TypesAt w' b ∧ Below w.heap.size w w' := by
  have hmm := @run_makeMap Tryz.prog
  have hix := ix_rows
  have HM0 := Lib.hid (MapIs.made Tryz.prog 9 w)
  obtain ⟨t0, fr0, h0⟩ := hR
  have hrng : (w.alloc (.map #[] 0)).rangeAt 0 0 rowsV := fun j v hv => by rw [cell_of_row _ _ _ _ _ _ ((Below.heap_alloc w _ _ (by omega)).trans h0)]; simpa using hv
  have hsz : (Tryz.prog.info? 149).map (·.size) = some rowsV.length := by kernel_rfl
  generalize hrv : rowsV = rv at *
  clear h0 hrv
  go_enter Tryz.func68, Tryz.ntmps68
  go_wp2_with (refine wpList_load_mid rfl _ _ rfl 0 0 rfl rv _ hrng Tryz.underlying149 rfl hsz ?_)
  go_loopw [6] (fun i wr => ∃ j : Nat, j ≤ 11 ∧ i = .int .i64 j ∧ Hid (TSt wr w.heap.size j) ∧ Hid (Below w.heap.size w wr)) (fun i _ => 11 - (intOf i).toNat)
  case atStart =>
    refine ⟨0, by omega, rfl, Lib.hid ⟨fun _ => 0, HM0.out, fun K hK => ?_, fun K K' hK => ?_⟩, Lib.hid (by go_grown)⟩
    · cases hK
    · cases hK
  case round =>
    obtain ⟨j, hj, rfl, hT, hB⟩ := hrel
    by_cases hlt : j < 11
    · have hx := hix j hlt
      have hsm := small_row j hlt
      obtain ⟨x, hxe⟩ : ∃ x, rowsL.getD j rwS = x := ⟨_, rfl⟩
      rw [hxe] at hx hsm
      obtain ⟨K, nm, q, r⟩ := x
      simp only [encRW] at hx hsm
      clear hix
      have hks : ∀ K', knownJ (j + 1) K' = (knownJ j K' || decide (K = K')) := fun K' => by rw [knownJ_succ j hlt, hxe]
      obtain ⟨bs, h1, h2, h3⟩ := hT.out
      have hBs := hB.out.size
      have hlB : w.heap.size < wr.heap.size := h1.lt
      have g1 := World.grownBy_alloc wr (.cells #[.string K, .string nm, .int .i8 q, .bool r] 148) none
      have z1 : (wr.alloc (.cells #[.string K, .string nm, .int .i8 q, .bool r] 148)).heap.size = wr.heap.size + 1 := by simp
      have HB1 := Lib.hid (hB.out.grown g1 hBs (fun k e => by cases e))
      have m1 := h1.kept g1 (by simp)
      have hKl : K.size ≤ maxLen := by unfold maxLen; omega
      have hnl : nm.size ≤ maxLen := by unfold maxLen; omega
      have hlk := m1.look lawS Tryz.underlying9 Tryz.underlying122 false (zeroMM _) hKl
      by_cases hk : knownJ j K = true
      · rw [if_pos hk] at hlk
        simp only [Option.getD_some, Bool.false_eq_true, if_false] at hlk
        have m2 := (h2 K hk).1.kept g1 (by simp)
        have hblt := (h2 K hk).2
        obtain ⟨w2, hr2, hm2, hg2⟩ := m2.update lawS Tryz.underlying9 Tryz.underlying120 (by unfold maxLen; omega) hnl (.agg #[.string nm, .int .i8 q, .bool r])
        have hfin : TSt w2 w.heap.size (j + 1) := by
          refine TSt.put hlt bs hxe ?_ (fun K' hne hk' => ⟨(h2 K' hk').1.kept g1 (by simp), (h2 K' hk').2⟩) ?_ hblt hm2 hg2
          · have e : (fun K' => if knownJ (j + 1) K' = true then some (Value.map (some (bs K'))) else none) = (fun K' => if knownJ j K' = true then some (Value.map (some (bs K'))) else none) := by
              funext K'
              rw [hks]
              by_cases e : K = K'
              · subst e; rw [hk]; rfl
              · rw [decide_eq_false e, Bool.or_false]
            rw [e]
            exact m1.mono (by omega)
          · have e : ∀ K', knownJ (j + 1) K' = true → knownJ j K' = true := fun K' h => by
              rw [hks] at h
              by_cases e : K = K'
              · subst e; exact hk
              · rwa [decide_eq_false e, Bool.or_false] at h
            exact fun a b ha hb => h3 a b (e a ha) (e b hb)
        have HF := Lib.hid hfin
        have HB2 := Lib.hid (HB1.out.grown hg2 (by omega) (fun k e => by cases e; omega))
        clear hfin hm2 m2 m1 h1 h2 h3 hT hks hg2 HB1 hB g1
        go_wp2_with fail
        rename_i hq
        refine hq _ _ ?_
        go_wp2_with fail
        go_roundw
        case rel => exact ⟨j + 1, by omega, by go_num, HF, HB2⟩
        case measure => simp [intOf]; omega
      · rw [if_neg hk] at hlk
        simp only [Option.getD_none, Bool.false_eq_true, if_false] at hlk
        have hkf : knownJ j K = false := by simpa using hk
        have g2 := World.grownBy_alloc (wr.alloc (.cells #[.string K, .string nm, .int .i8 q, .bool r] 148)) (.map #[] 0) none
        have m0 := MapIs.made Tryz.prog 9 (wr.alloc (.cells #[.string K, .string nm, .int .i8 q, .bool r] 148))
        rw [z1] at m0
        obtain ⟨w2, hr2, hm2, hg2⟩ := (m1.kept g2 (by simp)).update lawS Tryz.underlying9 Tryz.underlying122 (by unfold maxLen; omega) hKl (.map (some (wr.heap.size + 1)))
        have m3 := m0.kept hg2 (by simp; omega)
        have hlk2 := hm2.look lawS Tryz.underlying9 Tryz.underlying122 false (zeroMM _) hKl
        rw [if_pos rfl] at hlk2
        simp only [Option.getD_some, Bool.false_eq_true, if_false] at hlk2
        obtain ⟨w3, hr3, hm3, hg3⟩ := m3.update lawS Tryz.underlying9 Tryz.underlying120 (by unfold maxLen; omega) hnl (.agg #[.string nm, .int .i8 q, .bool r])
        have hfin : TSt w3 w.heap.size (j + 1) := by
          have eb : (fun K' => if K' = K then wr.heap.size + 1 else bs K') K = wr.heap.size + 1 := if_pos rfl
          have hlo : ∀ K', knownJ j K' = true → bs K' < wr.heap.size := fun K' h => (h2 K' h).1.lt
          refine TSt.put (W := w2) hlt (fun K' => if K' = K then wr.heap.size + 1 else bs K') hxe ?_ (fun K' hne hk' => ?_) (fun a b ha hb hab => ?_) ?_ ?_ ?_
          · have e : (fun K' => if knownJ (j + 1) K' = true then some (Value.map (some (if K' = K then wr.heap.size + 1 else bs K'))) else none) = (fun K' => if K' = K then some (.map (some (wr.heap.size + 1))) else if knownJ j K' = true then some (Value.map (some (bs K'))) else none) := by
              funext K'
              rw [hks]
              by_cases e : K' = K
              · subst e; simp
              · rw [decide_eq_false (fun h => e h.symm), Bool.or_false, if_neg e, if_neg e]
            rw [e]
            exact hm2
          · show MapIs Tryz.prog 9 w2 (if K' = K then wr.heap.size + 1 else bs K') j _ ∧ w.heap.size < (if K' = K then wr.heap.size + 1 else bs K')
            rw [if_neg hne]
            refine ⟨(((h2 K' hk').1.kept g1 (by simp)).kept g2 (by simp)).kept hg2 ?_, (h2 K' hk').2⟩
            have := (h2 K' hk').2
            simp; omega
          · have key : ∀ c, knownJ (j + 1) c = true → c ≠ K → knownJ j c = true := fun c h e => by
              rwa [hks, decide_eq_false (fun h => e h.symm), Bool.or_false] at h
            have hab' : (if a = K then wr.heap.size + 1 else bs a) = (if b = K then wr.heap.size + 1 else bs b) := hab
            by_cases ea : a = K
            · by_cases eb' : b = K
              · rw [ea, eb']
              · rw [if_pos ea, if_neg eb'] at hab'
                have := hlo b (key b hb eb')
                omega
            · by_cases eb' : b = K
              · rw [if_neg ea, if_pos eb'] at hab'
                have := hlo a (key a ha ea)
                omega
              · rw [if_neg ea, if_neg eb'] at hab'
                exact h3 a b (key a ha ea) (key b hb eb') hab'
          · show w.heap.size < (if K = K then wr.heap.size + 1 else bs K)
            rw [if_pos rfl]; omega
          · show MapIs Tryz.prog 9 w3 (if K = K then wr.heap.size + 1 else bs K) (j + 1) (fun s => if s = nm then some (.agg #[.string nm, .int .i8 q, .bool r]) else (specJ j K s).map encSp)
            rw [if_pos rfl]
            have e : (fun s => if s = nm then some (Value.agg #[.string nm, .int .i8 q, .bool r]) else (specJ j K s).map encSp) = (fun s => if s = nm then some (Value.agg #[.string nm, .int .i8 q, .bool r]) else none) := by
              funext s
              rw [specJ_none j K s hkf]; rfl
            rw [e]
            exact hm3.mono (by omega)
          · show w2.grownBy w3 (some (if K = K then wr.heap.size + 1 else bs K))
            rw [if_pos rfl]
            exact hg3
        have hcb : ∀ i u, ((wr.alloc (.cells #[.string K, .string nm, .int .i8 q, .bool r] 148)).alloc (.map #[] 0)).cell? ⟨wr.heap.size, i, none⟩ = some u → w2.cell? ⟨wr.heap.size, i, none⟩ = some u := fun i u h =>
          (World.cell?_of_block (hg2.block wr.heap.size (by simp; omega) (by simp; omega))).trans h
        have hc0 := hcb 0 (.string K) (by simp)
        have hc1 := hcb 1 (.string nm) (by simp)
        have hc2 := hcb 2 (.int .i8 q) (by simp)
        have hc3 := hcb 3 (.bool r) (by simp)
        have HF := Lib.hid hfin
        have HB2 := Lib.hid (HB1.out.grown g2 (by omega) (fun k e => by cases e))
        have HB3 := Lib.hid (HB2.out.grown hg2 HB2.out.size (fun k e => by cases e; omega))
        have HB4 := Lib.hid (HB3.out.grown hg3 HB3.out.size (fun k e => by cases e; omega))
        clear hfin hm2 m3 m0 m1 h1 h2 h3 hT hks hg2 HB1 hB g1 g2 hm3 hg3 HB2 HB3 hcb
        go_wp2_with fail
        rename_i hq
        refine hq _ _ ?_
        go_wp2_with fail
        go_roundw
        case rel => exact ⟨j + 1, by omega, by go_num, HF, HB4⟩
        case measure => simp [intOf]; omega
    · obtain rfl : j = 11 := by omega
      have hBs := hB.out.size
      go_wp2_with fail
      go_ret
      exact ⟨_, rfl, Nat.le_refl _, hT.out, hB.out⟩
end Go.Proofs.YtkigeegahepnaaaGreatDoor

namespace Go.Proofs.YtkigeegahepnaaaGreatDoor
end Go.Proofs.YtkigeegahepnaaaGreatDoor

namespace Go.Proofs.YtkigeegahepnaaaGreatDoor
open Go.RowKit Go.Maps Go.ChangeMaps Go.WideMaps

theorem lit_no {s : ByteArray} {l : List UInt8} (h : s ≠ ⟨l.toArray⟩) : (s.toList == l) = false := by
  rw [beq_eq_false_iff_ne]
  intro e
  apply h
  rw [ByteArray.toList_eq] at e
  ext1
  rw [← e, Array.toArray_toList]
theorem known_iff (K : ByteArray) : known K = true ↔ K ∈ [sDisk, sNet, sNode, sRule] := by
  unfold known knownJ
  simp only [rowsL, List.take_succ_cons, List.take_zero, List.any_cons, List.any_nil, Bool.or_false, Bool.or_eq_true, decide_eq_true_eq, List.mem_cons, List.not_mem_nil, or_false]
  constructor
  · rintro (rfl | rfl | rfl | rfl | rfl | rfl | rfl | rfl | rfl | rfl | rfl) <;> simp
  · rintro (rfl | rfl | rfl | rfl) <;> simp

/-- What a name of a type leads to. -/
theorem TypesAt.look {W : World} {b : Nat} (h : TypesAt W b) : ∃ bs : ByteArray → Nat,
    MapIs Tryz.prog 9 W b 11 (fun K => if known K then some (.map (some (bs K))) else none) ∧ ∀ K, known K = true → MapIs Tryz.prog 9 W (bs K) 11 (fun s => (spec K s).map encSp) ∧ b < bs K := by
  obtain ⟨bs, h1, h2, _⟩ := h
  exact ⟨bs, h1, h2⟩

theorem TypesAt.yes {W : World} {b : Nat} (h : TypesAt W b) {K : ByteArray} (hk : known K = true) (hl : K.size ≤ maxLen) (c : Bool) :
    ∃ b', (Instr.lookup 122 (.map (some b)) (.string K) c).run Tryz.prog W = .ok (if c then .tuple #[.map (some b'), .bool true] else .map (some b')) W ∧ MapIs Tryz.prog 9 W b' 11 (fun s => (spec K s).map encSp) ∧ b < b' := by
  obtain ⟨bs, hm, h2⟩ := h.look
  have hlk := hm.look lawS Tryz.underlying9 Tryz.underlying122 c (zeroMM _) hl
  rw [if_pos hk] at hlk
  exact ⟨bs K, hlk, (h2 K hk).1, (h2 K hk).2⟩
theorem TypesAt.no {W : World} {b : Nat} (h : TypesAt W b) {K : ByteArray} (hk : known K = false) (hl : K.size ≤ maxLen) (c : Bool) :
    (Instr.lookup 122 (.map (some b)) (.string K) c).run Tryz.prog W = .ok (if c then .tuple #[.map none, .bool false] else .map none) W := by
  obtain ⟨bs, hm, h2⟩ := h.look
  have hlk := hm.look lawS Tryz.underlying9 Tryz.underlying122 c (zeroMM _) hl
  rw [hk, if_neg Bool.false_ne_true] at hlk
  exact hlk

/-- An attribute: its text, what is wrong. -/
def attrV (kind phys name : ByteArray) : ByteArray × Int :=
  if known kind then (if name = ⟨#[65, 114, 110]⟩ then (kind ++ ⟨#[58]⟩ ++ phys, 0) else if name = ⟨#[90, 111, 110, 101]⟩ then (phys.extract (phys.size - 1) phys.size, 0) else (⟨#[]⟩, 91)) else (⟨#[]⟩, 90)

end Go.Proofs.YtkigeegahepnaaaGreatDoor

namespace Go.Proofs.YtkigeegahepnaaaGreatDoor
open Go.RowKit

/-- A property that is given. -/
structure G where
  nm : ByteArray
  unk : Bool
  v : V
def isG (W : World) (g : G) (v : Value) : Prop := ∃ c0 c1 c2 c3 c4 c5, v = .agg #[.string g.nm, .bool g.unk, c0, c1, c2, c3, c4, c5] ∧ isV W g.v (.agg #[c0, c1, c2, c3, c4, c5]) ∧ g.nm.size ≤ maxLen
/-- .. at an address. -/
def isGat (W : World) (g : G) (a : Addr) : Prop := ∃ c0 c1 c2 c3 c4 c5, W.cell? a = some (.string g.nm) ∧ W.cell? ⟨a.block, a.off + 1, none⟩ = some (.bool g.unk) ∧
  W.cell? ⟨a.block, a.off + 2, none⟩ = some c0 ∧ W.cell? ⟨a.block, a.off + 3, none⟩ = some c1 ∧ W.cell? ⟨a.block, a.off + 4, none⟩ = some c2 ∧ W.cell? ⟨a.block, a.off + 5, none⟩ = some c3 ∧ W.cell? ⟨a.block, a.off + 6, none⟩ = some c4 ∧ W.cell? ⟨a.block, a.off + 7, none⟩ = some c5 ∧
  isV W g.v (.agg #[c0, c1, c2, c3, c4, c5]) ∧ g.nm.size ≤ maxLen
def isGs (W : World) (L : List G) (v : Value) : Prop := ∃ a cap, slv v L.length a cap ∧ ∀ i (h : i < L.length), isGat W L[i] (a.add (i * 8))
theorem isG_below {W W' : World} (hb : Below W.heap.size W W') {g : G} {v : Value} (h : isG W g v) : isG W' g v := by
  obtain ⟨c0, c1, c2, c3, c4, c5, h1, h2, h3⟩ := h
  exact ⟨c0, c1, c2, c3, c4, c5, h1, isV_below hb h2, h3⟩
theorem isGat_below {W W' : World} (hb : Below W.heap.size W W') {g : G} {a : Addr} (h : isGat W g a) : isGat W' g a := by
  obtain ⟨c0, c1, c2, c3, c4, c5, g0, g1, g2, g3, g4, g5, g6, g7, h2, h3⟩ := h
  have k := cell_below hb
  exact ⟨c0, c1, c2, c3, c4, c5, k _ _ g0, k _ _ g1, k _ _ g2, k _ _ g3, k _ _ g4, k _ _ g5, k _ _ g6, k _ _ g7, isV_below hb h2, h3⟩
theorem isGs_below {W W' : World} (hb : Below W.heap.size W W') {L : List G} {v : Value} (h : isGs W L v) : isGs W' L v := by
  obtain ⟨a, cap, h1, h2⟩ := h
  exact ⟨a, cap, h1, fun i hi => isGat_below hb (h2 i hi)⟩

/-- The package's variables hold utf8's two tables, and the rows. -/
def Env9 (w : World) : Prop := Env w ∧ RowsE w
theorem Env9.kb {w w' : World} (h : Env9 w) (hb : Below w.heap.size w w') : Env9 w' := ⟨h.1.kb hb, h.2.below hb (by have := h.1.1; omega)⟩

def wordB (s : ByteArray) : Bool := decide (s.size ≤ 64) && validS s
noncomputable def leafB (u : V) : Bool := decide (u.kind = 3) && decide (pcheckV u = 0) && wordB u.text
noncomputable def holdsB (x : V) (q : Int) : Bool := decide (x.kind = q) && decide (pcheckV x = 0) && (if q = 3 then wordB x.text else if q = 4 then decide (x.list.length ≤ 8) && x.list.all leafB else true)

set_option maxHeartbeats 1000000 in
theorem Word_any (s : ByteArray) (hs : s.size ≤ maxLen) (w : World) (hE : Env w) : Calls Tryz.prog 110 #[.string s] w fun e w' => e = .returned (.bool (wordB s)) ∧ Below w.heap.size w w' := by
  have HV := Lib.hid (valid_any s hs w hE)
  unfold wordB
  generalize validS s = r at *
  unfold maxLen at hs
  clear hE
  by_cases h : s.size ≤ 64
  · rw [decide_eq_true h, Bool.true_and]
    have h' : decide ((s.size : Int) ≤ 64) = true := decide_eq_true (by omega)
    go_enter Tryz.func110, Tryz.ntmps110
    go_wp2_with (go_at_call 127; refine HV.out.mono ?_; rintro e w5 ⟨rfl, hb5⟩)
    go_ret
    exact ⟨rfl, hb5⟩
  · rw [decide_eq_false h, Bool.false_and]
    have h' : decide ((s.size : Int) ≤ 64) = false := decide_eq_false (by omega)
    go_enter Tryz.func110, Tryz.ntmps110
    go_wp2_with fail
    go_ret
    exact ⟨rfl, Below.refl _ _⟩

theorem isV_parts {W : World} {x : V} {k n : Int} {b : Bool} {s : ByteArray} {o : Option Addr} {m c : Nat} {d : Value} (h : isV W x (.agg #[.int .i8 k, .bool b, .int .i64 n, .string s, .slice o m c, d])) :
    x.kind = k ∧ x.text = s ∧ s.size ≤ maxLen ∧ ∃ a, slv (.slice o m c) x.list.length a c ∧ m = x.list.length ∧ isVs W x.list a := by
  obtain ⟨k', b', n', s', l, ks⟩ := x
  unfold isV at h
  obtain ⟨lv, kv, e, _, _, h4, ⟨a, cap, h5, h6⟩, _⟩ := h
  simp only [Value.agg.injEq, Array.mk.injEq, List.cons.injEq, Value.int.injEq, Value.string.injEq, true_and, and_true] at e
  obtain ⟨rfl, _, _, rfl, rfl, rfl⟩ := e
  have hh := h5
  obtain ⟨o', e, _⟩ := h5
  simp only [Value.slice.injEq] at e
  obtain ⟨rfl, rfl, rfl⟩ := e
  exact ⟨rfl, rfl, h4, a, hh, rfl, h6⟩

set_option maxRecDepth 100000 in
set_option maxHeartbeats 4000000 in
/-- holds of a text. -/
theorem holdsT_any (x : V) (v : Value) (w : World) (hE : Env w) (hM : sizeV x ≤ 1000000) (hF : fineV x) (h : isV w x v) :
    Calls Tryz.prog 90 #[v, .int .i8 3] w fun e w' => e = .returned (.bool (leafB x)) ∧ Below w.heap.size w w' := by
  obtain ⟨k, b, n, s, o, m, c, o2, m2, c2, rfl⟩ := isV_six h
  obtain ⟨hk, ht, hs, _⟩ := isV_parts h
  have HB0 : Hid (KB w (w.alloc (.cells #[.int .i8 k, .bool b, .int .i64 n, .string s, .slice o m c, .slice o2 m2 c2] 97))) := Lib.hid kbA
  have P2 : Hid (∀ w1, KB (w.alloc (.cells #[.int .i8 k, .bool b, .int .i64 n, .string s, .slice o m c, .slice o2 m2 c2] 97)) w1 → Calls Tryz.prog 109 #[.agg #[.int .i8 k, .bool b, .int .i64 n, .string s, .slice o m c, .slice o2 m2 c2]] w1 fun e w' => e = .returned (.int .i64 (pcheckV x)) ∧ KB (w.alloc (.cells #[.int .i8 k, .bool b, .int .i64 n, .string s, .slice o m c, .slice o2 m2 c2] 97)) w') := Lib.hid fun w1 hK => Calls.kb hK (pcheck_any x _ w1 ((hE.kb kbA).kb hK) hM hF (isV_below hK (isV_below kbA h)))
  have PW : Hid (∀ w1, KB (w.alloc (.cells #[.int .i8 k, .bool b, .int .i64 n, .string s, .slice o m c, .slice o2 m2 c2] 97)) w1 → Calls Tryz.prog 110 #[.string s] w1 fun e w' => e = .returned (.bool (wordB s)) ∧ KB (w.alloc (.cells #[.int .i8 k, .bool b, .int .i64 n, .string s, .slice o m c, .slice o2 m2 c2] 97)) w') := Lib.hid fun w1 hK => Calls.kb hK (Word_any s hs w1 ((hE.kb kbA).kb hK))
  have HC : Hid (∀ w1, KB (w.alloc (.cells #[.int .i8 k, .bool b, .int .i64 n, .string s, .slice o m c, .slice o2 m2 c2] 97)) w1 → w1.cell? ⟨w.heap.size, 3, none⟩ = some (.string s)) := Lib.hid fun w1 hK => cell_below hK _ _ (by simp)
  unfold leafB
  rw [hk, ht]
  generalize pcheckV x = C at *
  generalize wordB s = R at *
  clear h hE hM hF hk ht
  by_cases h3 : k = 3
  · subst h3
    rw [decide_eq_true rfl, Bool.true_and]
    by_cases hC : C = 0
    · subst hC
      rw [decide_eq_true rfl, Bool.true_and]
      go_enter Tryz.func90, Tryz.ntmps90
      go_wp2_with (go_at_call 109; refine (P2.out _ (Below.refl _ _)).mono ?_; rintro e w5 ⟨rfl, hb5⟩; have m3 := HC.out w5 hb5)
      go_wp2_with (go_at_call 110; refine (PW.out _ hb5).mono ?_; rintro e w6 ⟨rfl, hb6⟩)
      go_ret
      exact ⟨rfl, HB0.out.trans (hb6.mono HB0.out.size)⟩
    · rw [decide_eq_false hC, Bool.false_and]
      have z1 : (C == 0) = false := beqI hC
      have z2 : (C != 0) = true := bne_iff_ne.2 hC
      go_enter Tryz.func90, Tryz.ntmps90
      go_wp2_with (go_at_call 109; refine (P2.out _ (Below.refl _ _)).mono ?_; rintro e w5 ⟨rfl, hb5⟩; have m3 := HC.out w5 hb5)
      go_wp2_with fail
      go_ret
      exact ⟨rfl, HB0.out.trans (hb5.mono HB0.out.size)⟩
  · rw [decide_eq_false h3, Bool.false_and]
    have z1 : (k == 3) = false := beqI h3
    have z2 : (k != 3) = true := bne_iff_ne.2 h3
    go_enter Tryz.func90, Tryz.ntmps90
    go_wp2_with fail
    go_ret
    exact ⟨rfl, HB0.out⟩
end Go.Proofs.YtkigeegahepnaaaGreatDoor

namespace Go.Proofs.YtkigeegahepnaaaGreatDoor
open Go.RowKit

set_option maxRecDepth 100000 in
set_option maxHeartbeats 4000000 in
theorem noWord_any (x : V) (v : Value) (w : World) (hE : Env w) (hM : sizeV x ≤ 1000000) (hF : fineV x) (h : isV w x v) :
    Calls Tryz.prog 112 #[v] w fun e w' => e = .returned (.bool (!leafB x)) ∧ Below w.heap.size w w' := by
  obtain ⟨k, b, n, s, o, m, c, o2, m2, c2, rfl⟩ := isV_six h
  have HB0 : Hid (KB w (w.alloc (.cells #[.int .i8 k, .bool b, .int .i64 n, .string s, .slice o m c, .slice o2 m2 c2] 97))) := Lib.hid kbA
  have P2 : Hid (Calls Tryz.prog 90 #[.agg #[.int .i8 k, .bool b, .int .i64 n, .string s, .slice o m c, .slice o2 m2 c2], .int .i8 3] (w.alloc (.cells #[.int .i8 k, .bool b, .int .i64 n, .string s, .slice o m c, .slice o2 m2 c2] 97)) fun e w' => e = .returned (.bool (leafB x)) ∧ KB (w.alloc (.cells #[.int .i8 k, .bool b, .int .i64 n, .string s, .slice o m c, .slice o2 m2 c2] 97)) w') := Lib.hid (holdsT_any x _ _ (hE.kb kbA) hM hF (isV_below kbA h))
  generalize leafB x = r at *
  clear h hE hM hF
  go_enter Tryz.func112, Tryz.ntmps112
  go_wp2_with (go_at_call 90; refine P2.out.mono ?_; rintro e w5 ⟨rfl, hb5⟩)
  go_ret
  exact ⟨rfl, HB0.out.trans (hb5.mono HB0.out.size)⟩

set_option maxRecDepth 100000 in
set_option maxHeartbeats 4000000 in
/-- slices.IndexFunc of the parts: is there one that is no word? -/
theorem idxV_any (l : List V) (a : Addr) (o : Option Addr) (cap : Nat) (w : World) (hE : Env w) (hl : l.length ≤ 1000000) (hP : ∀ u ∈ l, sizeV u ≤ 1000000 ∧ fineV u) (h : slv (.slice o l.length cap) l.length a cap) (hs : isVs w l a) :
    Calls Tryz.prog 128 #[.slice o l.length cap, .func (.func 112) #[] #[]] w fun e w' => (∃ i : Int, e = .returned (.int .i64 i) ∧ decide (0 ≤ i) = !(l.all leafB)) ∧ Below w.heap.size w w' := by
  obtain ⟨o', e, hc1, hc2, ho⟩ := h
  simp only [Value.slice.injEq, and_true] at e
  obtain rfl := e
  unfold maxLen at hc2
  have HK := Lib.hid hs
  have HE := Lib.hid hE
  have HP := Lib.hid hP
  obtain ⟨r, hr⟩ : ∃ r, (!(l.all leafB)) = r := ⟨_, rfl⟩
  rw [hr]
  have HR := Lib.hid hr
  have ef : ∀ args w, (callFunc 112 args).run Tryz.prog w = .ok (.enter 112 args) w := enters_of Tryz.func112 (by kernel_rfl) rfl
  clear hs hr hE hP
  go_enter Tryz.func128, Tryz.ntmps128
  go_wp2_with fail
  go_loopw [8] (fun i wr => ∃ (j : Nat), j ≤ l.length ∧ i = .int .i64 j ∧ Hid ((l.take j).all leafB = true) ∧ Hid (Below w.heap.size w wr)) (fun i _ => l.length - (intOf i).toNat)
  case atStart => exact ⟨0, by omega, rfl, Lib.hid rfl, Lib.hid (Below.refl _ _)⟩
  case round =>
    obtain ⟨j, hj, rfl, hA, hB⟩ := hrel
    by_cases hlt : j < l.length
    · obtain rfl := ho (by omega)
      obtain ⟨c0, c1, c2, c3, c4, c5, q0, q1, q2, q3, q4, q5, hx⟩ := isVs_at l a j hlt (isVs_keep (cell_below hB.out) l a HK.out)
      have hp := HP.out l[j] (List.getElem_mem hlt)
      have HN := Lib.hid (noWord_any l[j] _ wr (HE.out.below hB.out HE.out.1) hp.1 hp.2 hx)
      clear hx hp
      cases hv : leafB l[j] with
      | false =>
        rw [hv] at HN
        have hr2 : r = true := by
          rw [← HR.out]
          have : l.all leafB = false := by
            rw [Bool.eq_false_iff]
            intro h
            have := List.all_eq_true.1 h _ (List.getElem_mem hlt)
            rw [hv] at this; cases this
          rw [this]; rfl
        have HR2 := Lib.hid hr2
        clear hr2 hv
        go_wp2_with (go_at_fn 112; refine HN.out.mono ?_; rintro e w5 ⟨rfl, hb5⟩)
        go_ret
        exact ⟨⟨_, rfl, by rw [HR2.out, decide_eq_true]; omega⟩, hB.out.trans (hb5.mono hB.out.size)⟩
      | true =>
        rw [hv] at HN
        have HA : Hid ((l.take (j + 1)).all leafB = true) := Lib.hid (by rw [List.take_succ_eq_append_getElem hlt, List.all_append, hA.out]; simp [hv])
        clear hv
        go_wp2_with (go_at_fn 112; refine HN.out.mono ?_; rintro e w5 ⟨rfl, hb5⟩)
        go_roundw
        case rel => exact ⟨j + 1, by omega, by go_num, HA, Lib.hid (hB.out.trans (hb5.mono hB.out.size))⟩
        case measure => simp [intOf]; omega
    · obtain rfl : j = l.length := by omega
      have HRES : Hid (r = false) := Lib.hid (by
        have := hA.out
        rw [List.take_of_length_le (Nat.le_refl _)] at this
        rw [← HR.out, this]; rfl)
      go_wp2_with fail
      go_ret
      exact ⟨⟨_, rfl, by rw [HRES.out]; rfl⟩, hB.out⟩

set_option maxHeartbeats 1000000 in
theorem contV_any (l : List V) (a : Addr) (o : Option Addr) (cap : Nat) (w : World) (hE : Env w) (hl : l.length ≤ 1000000) (hP : ∀ u ∈ l, sizeV u ≤ 1000000 ∧ fineV u) (h : slv (.slice o l.length cap) l.length a cap) (hs : isVs w l a) :
    Calls Tryz.prog 111 #[.slice o l.length cap, .func (.func 112) #[] #[]] w fun e w' => e = .returned (.bool (!(l.all leafB))) ∧ Below w.heap.size w w' := by
  have HI := Lib.hid (idxV_any l a o cap w hE hl hP h hs)
  generalize (!(l.all leafB)) = r at *
  clear hE hP h hs
  go_enter Tryz.func111, Tryz.ntmps111
  go_wp2_with (go_at_call 128; refine HI.out.mono ?_; rintro e w5 ⟨⟨i, rfl, hi⟩, hb5⟩)
  go_ret
  exact ⟨ret_bool (by rw [← hi]), hb5⟩

theorem size_in {x u : V} (h : u ∈ x.list) : sizeV u ≤ sizeV x := by
  obtain ⟨j, hj, rfl⟩ := List.getElem_of_mem h
  have := sizeVs_get x.list j hj
  obtain ⟨k, b, n, s, l, ks⟩ := x
  simp only [sizeV, V.list] at *
  omega
theorem fine_in {x u : V} (h : u ∈ x.list) (hF : fineV x) : fineV u := fun y hy => hF y (part_in h y hy)

set_option maxRecDepth 100000 in
set_option maxHeartbeats 4000000 in
/-- holds. -/
theorem holds_any (x : V) (q : Int) (hq : q = 2 ∨ q = 3 ∨ q = 4) (v : Value) (w : World) (hE : Env w) (hM : sizeV x ≤ 1000000) (hF : fineV x) (h : isV w x v) :
    Calls Tryz.prog 90 #[v, .int .i8 q] w fun e w' => e = .returned (.bool (holdsB x q)) ∧ Below w.heap.size w w' := by
  by_cases hq3 : q = 3
  · subst hq3
    exact holdsT_any x v w hE hM hF h
  obtain ⟨k, b, n, s, o, m, c, o2, m2, c2, rfl⟩ := isV_six h
  obtain ⟨hk, ht, hs, a, hsl, rfl, hvs⟩ := isV_parts h
  have HB0 : Hid (KB w (w.alloc (.cells #[.int .i8 k, .bool b, .int .i64 n, .string s, .slice o x.list.length c, .slice o2 m2 c2] 97))) := Lib.hid kbA
  have P2 : Hid (∀ w1, KB (w.alloc (.cells #[.int .i8 k, .bool b, .int .i64 n, .string s, .slice o x.list.length c, .slice o2 m2 c2] 97)) w1 → Calls Tryz.prog 109 #[.agg #[.int .i8 k, .bool b, .int .i64 n, .string s, .slice o x.list.length c, .slice o2 m2 c2]] w1 fun e w' => e = .returned (.int .i64 (pcheckV x)) ∧ KB (w.alloc (.cells #[.int .i8 k, .bool b, .int .i64 n, .string s, .slice o x.list.length c, .slice o2 m2 c2] 97)) w') := Lib.hid fun w1 hK => Calls.kb hK (pcheck_any x _ w1 ((hE.kb kbA).kb hK) hM hF (isV_below hK (isV_below kbA h)))
  have PC : Hid (∀ w1, KB (w.alloc (.cells #[.int .i8 k, .bool b, .int .i64 n, .string s, .slice o x.list.length c, .slice o2 m2 c2] 97)) w1 → Calls Tryz.prog 111 #[.slice o x.list.length c, .func (.func 112) #[] #[]] w1 fun e w' => e = .returned (.bool (!(x.list.all leafB))) ∧ KB (w.alloc (.cells #[.int .i8 k, .bool b, .int .i64 n, .string s, .slice o x.list.length c, .slice o2 m2 c2] 97)) w') := Lib.hid fun w1 hK => Calls.kb hK (contV_any x.list a o c w1 ((hE.kb kbA).kb hK) (Nat.le_trans (Nat.le_trans (sizeVs_len _) (by obtain ⟨k', b', n', s', l, ks⟩ := x; simp only [sizeV, V.list]; omega)) hM) (fun u hu => ⟨Nat.le_trans (size_in hu) hM, fine_in hu hF⟩) hsl (isVs_keep (cell_below hK) _ _ (isVs_keep (cell_below kbA) _ _ hvs)))
  have HC : Hid (∀ w1, KB (w.alloc (.cells #[.int .i8 k, .bool b, .int .i64 n, .string s, .slice o x.list.length c, .slice o2 m2 c2] 97)) w1 → w1.cell? ⟨w.heap.size, 4, none⟩ = some (.slice o x.list.length c)) := Lib.hid fun w1 hK => cell_below hK _ _ (by simp)
  unfold holdsB
  rw [hk, if_neg hq3]
  have hlen : x.list.length ≤ 1000000 := Nat.le_trans (Nat.le_trans (sizeVs_len _) (by obtain ⟨k', b', n', s', l, ks⟩ := x; simp only [sizeV, V.list]; omega)) hM
  generalize x.list.all leafB = R at *
  generalize x.list.length = L at *
  generalize pcheckV x = C at *
  clear h hE hM hF hk ht hsl hvs
  by_cases h3 : k = q
  · subst h3
    have y1 : (k == k) = true := beq_self_eq_true k
    have y2 : (k != k) = false := by simp
    rw [decide_eq_true rfl, Bool.true_and]
    by_cases hC : C = 0
    · subst hC
      rw [decide_eq_true rfl, Bool.true_and]
      rcases hq with rfl | h9 | rfl
      · go_enter Tryz.func90, Tryz.ntmps90
        go_wp2_with (go_at_call 109; refine (P2.out _ (Below.refl _ _)).mono ?_; rintro e w5 ⟨rfl, hb5⟩)
        go_wp2_with fail
        go_ret
        exact ⟨rfl, HB0.out.trans (hb5.mono HB0.out.size)⟩
      · exact absurd h9 hq3
      · rw [if_pos rfl]
        by_cases h8 : L ≤ 8
        · have g1 : decide ((L : Int) ≤ 8) = true := decide_eq_true (by omega)
          rw [decide_eq_true h8, Bool.true_and]
          go_enter Tryz.func90, Tryz.ntmps90
          go_wp2_with (go_at_call 109; refine (P2.out _ (Below.refl _ _)).mono ?_; rintro e w5 ⟨rfl, hb5⟩; have m3 := HC.out w5 hb5)
          go_wp2_with (go_at_call 111; refine (PC.out _ hb5).mono ?_; rintro e w6 ⟨rfl, hb6⟩)
          go_ret
          exact ⟨ret_bool (by simp), HB0.out.trans (hb6.mono HB0.out.size)⟩
        · have g1 : decide ((L : Int) ≤ 8) = false := decide_eq_false (by omega)
          rw [decide_eq_false h8, Bool.false_and]
          go_enter Tryz.func90, Tryz.ntmps90
          go_wp2_with (go_at_call 109; refine (P2.out _ (Below.refl _ _)).mono ?_; rintro e w5 ⟨rfl, hb5⟩; have m3 := HC.out w5 hb5)
          go_wp2_with fail
          go_ret
          exact ⟨rfl, HB0.out.trans (hb5.mono HB0.out.size)⟩
    · rw [decide_eq_false hC, Bool.false_and]
      have z1 : (C == 0) = false := beqI hC
      have z2 : (C != 0) = true := bne_iff_ne.2 hC
      go_enter Tryz.func90, Tryz.ntmps90
      go_wp2_with (go_at_call 109; refine (P2.out _ (Below.refl _ _)).mono ?_; rintro e w5 ⟨rfl, hb5⟩)
      go_wp2_with fail
      go_ret
      exact ⟨rfl, HB0.out.trans (hb5.mono HB0.out.size)⟩
  · rw [decide_eq_false h3, Bool.false_and]
    have z1 : (k == q) = false := beqI h3
    have z2 : (k != q) = true := bne_iff_ne.2 h3
    rcases hq with rfl | h9 | rfl
    · go_enter Tryz.func90, Tryz.ntmps90
      go_wp2_with fail
      go_ret
      exact ⟨rfl, HB0.out⟩
    · exact absurd h9 hq3
    · go_enter Tryz.func90, Tryz.ntmps90
      go_wp2_with fail
      go_ret
      exact ⟨rfl, HB0.out⟩
end Go.Proofs.YtkigeegahepnaaaGreatDoor

namespace Go.Proofs.YtkigeegahepnaaaGreatDoor
open Go.RowKit

set_option maxRecDepth 100000 in
set_option maxHeartbeats 4000000 in
theorem eqKs_any (ks ts : List ByteArray) (v u : Value) (w : World) (hl : ks.length ≤ 1000000) (h : isK w ks v) (h' : isK w ts u) :
    Calls Tryz.prog 124 #[v, u] w fun e w' => e = .returned (.bool (decide (ks = ts))) ∧ Below w.heap.size w w' := by
  obtain ⟨a, cap, ⟨o, rfl, hc1, hc2, ho⟩, hks⟩ := h
  obtain ⟨a', cap', ⟨o', rfl, hc1', hc2', ho'⟩, hts⟩ := h'
  unfold maxLen at hc2 hc2'
  have HK := Lib.hid hks
  have HT := Lib.hid hts
  clear hks hts
  by_cases hlen : ks.length = ts.length
  · obtain ⟨r, hr⟩ : ∃ r, decide (ks = ts) = r := ⟨_, rfl⟩
    rw [hr]
    have HR := Lib.hid hr
    have HL := Lib.hid hlen
    rw [← hlen] at hc1' ho' ⊢
    clear hr hlen
    go_enter Tryz.func124, Tryz.ntmps124
    go_wp2_with fail
    go_loopw [13] (fun i wr => ∃ j : Nat, j ≤ ks.length ∧ i = .int .i64 j ∧ Hid (ks.take j = ts.take j) ∧ Hid (Below w.heap.size w wr)) (fun i _ => ks.length - (intOf i).toNat)
    case atStart => exact ⟨0, by omega, rfl, Lib.hid (by simp), Lib.hid (Below.refl _ _)⟩
    case round =>
      obtain ⟨j, hj, rfl, hA, hB⟩ := hrel
      by_cases hlt : j < ks.length
      · obtain rfl := ho (by omega)
        obtain rfl := ho' (by omega)
        have hlt' : j < ts.length := by rw [← HL.out]; exact hlt
        have q0 := cell_below hB.out _ _ (HK.out j hlt).1
        have q1 := cell_below hB.out _ _ (HT.out j hlt').1
        by_cases he : ks[j] = ts[j]
        · have HA : Hid (ks.take (j + 1) = ts.take (j + 1)) := Lib.hid (by rw [List.take_succ_eq_append_getElem hlt, List.take_succ_eq_append_getElem hlt', hA.out, he])
          rw [← he] at q1
          have z : (ks[j].toList == ks[j].toList) = true := beq_self_eq_true _
          clear he hA hlt'
          generalize ks[j] = s at *
          go_wp2_with fail
          go_quiet (fail)
          go_wp2_with fail
          go_roundw
          case rel => exact ⟨j + 1, by omega, by go_num, HA, Lib.hid (hB.out.trans (drewB _ _ _))⟩
          case measure => simp [intOf]; omega
        · have HF : Hid (r = false) := Lib.hid (by
            rw [← HR.out]
            exact decide_eq_false (fun e => he (by subst e; rfl)))
          have z := beq_toList he
          clear he hA HR
          generalize ks[j] = s at *
          generalize ts[j] = t at *
          clear hlt'
          go_wp2_with fail
          go_quiet (fail)
          go_wp2_with fail
          go_ret
          exact ⟨ret_bool HF.out.symm, hB.out.trans (drewB _ _ _)⟩
      · obtain rfl : j = ks.length := by omega
        have HF : Hid (r = true) := Lib.hid (by
          have h := hA.out
          rw [List.take_of_length_le (Nat.le_refl _), List.take_of_length_le (Nat.le_of_eq HL.out.symm)] at h
          rw [← HR.out]
          exact decide_eq_true h)
        go_wp2_with fail
        go_ret
        exact ⟨ret_bool HF.out.symm, hB.out⟩
  · have hne : ks ≠ ts := fun e => hlen (by rw [e])
    rw [decide_eq_false hne]
    have z1 : (ks.length == ts.length) = false := beq_eq_false_iff_ne.2 hlen
    have z2 : ((ks.length : Int) == (ts.length : Int)) = false := beq_eq_false_iff_ne.2 (by omega)
    have z3 : ((ks.length : Int) != (ts.length : Int)) = true := bne_iff_ne.2 (by omega)
    clear HK HT hne
    generalize ks.length = L at *
    generalize ts.length = L' at *
    go_enter Tryz.func124, Tryz.ntmps124
    go_wp2_with fail
    go_ret
    exact ⟨rfl, Below.refl _ _⟩

set_option maxHeartbeats 2000000 in
/-- Two lists of nothing are one. -/
theorem one_nil (o o' : Option Addr) (c c' : Nat) (w : World) :
    Calls Tryz.prog 108 #[.slice o 0 c, .slice o' 0 c'] w fun e w' => e = .returned (.bool true) ∧ Below w.heap.size w w' := by
  go_enter Tryz.func108, Tryz.ntmps108
  go_wp2_with fail
  go_quiet (fail)
  go_wp2_with fail
  go_ret
  exact ⟨rfl, drewB _ _ _⟩

/-- The same, but for what the lists hold. -/
def butB (x y : V) : Bool := decide (x.kind = y.kind) && (decide (x.bool = y.bool) && (decide (x.num = y.num) && (decide (x.text = y.text) && (decide (x.keys = y.keys) && decide (x.list.length = y.list.length)))))

theorem isV_all {W : World} {x : V} {k n : Int} {b : Bool} {s : ByteArray} {o : Option Addr} {m c : Nat} {d : Value} (h : isV W x (.agg #[.int .i8 k, .bool b, .int .i64 n, .string s, .slice o m c, d])) :
    x.kind = k ∧ x.bool = b ∧ x.num = n ∧ x.text = s ∧ m = x.list.length ∧ isK W x.keys d := by
  obtain ⟨k', b', n', s', l, ks⟩ := x
  unfold isV at h
  obtain ⟨lv, kv, e, _, _, h4, ⟨a, cap, ⟨o', e2, _⟩, h6⟩, h7⟩ := h
  simp only [Value.agg.injEq, Array.mk.injEq, List.cons.injEq, Value.int.injEq, Value.string.injEq, Value.bool.injEq, true_and, and_true] at e
  obtain ⟨rfl, rfl, rfl, rfl, rfl, rfl⟩ := e
  simp only [Value.slice.injEq] at e2
  obtain ⟨_, rfl, _⟩ := e2
  exact ⟨rfl, rfl, rfl, rfl, rfl, h7⟩

set_option maxRecDepth 100000 in
set_option maxHeartbeats 8000000 in
theorem alikeBut_any (x y : V) (v u : Value) (w : World) (hM : x.keys.length ≤ 1000000) (h : isV w x v) (h' : isV w y u) :
    Calls Tryz.prog 107 #[v, u] w fun e w' => e = .returned (.bool (butB x y)) ∧ Below w.heap.size w w' := by
  obtain ⟨k, b, n, s, o, m, c, o2, m2, c2, rfl⟩ := isV_six h
  obtain ⟨k', b', n', s', o', m', c', o2', m2', c2', rfl⟩ := isV_six h'
  obtain ⟨e1, e2, e3, e4, e5, hk⟩ := isV_all h
  obtain ⟨d1, d2, d3, d4, d5, hk'⟩ := isV_all h'
  have HB : Hid (KB w ((w.alloc (.cells #[.int .i8 k, .bool b, .int .i64 n, .string s, .slice o m c, .slice o2 m2 c2] 97)).alloc (.cells #[.int .i8 k', .bool b', .int .i64 n', .string s', .slice o' m' c', .slice o2' m2' c2'] 97))) := Lib.hid KB.two
  have HK : Hid (Calls Tryz.prog 124 #[.slice o2 m2 c2, .slice o2' m2' c2'] ((w.alloc (.cells #[.int .i8 k, .bool b, .int .i64 n, .string s, .slice o m c, .slice o2 m2 c2] 97)).alloc (.cells #[.int .i8 k', .bool b', .int .i64 n', .string s', .slice o' m' c', .slice o2' m2' c2'] 97)) fun e w' => e = .returned (.bool (decide (x.keys = y.keys))) ∧ Below ((w.alloc (.cells #[.int .i8 k, .bool b, .int .i64 n, .string s, .slice o m c, .slice o2 m2 c2] 97)).alloc (.cells #[.int .i8 k', .bool b', .int .i64 n', .string s', .slice o' m' c', .slice o2' m2' c2'] 97)).heap.size ((w.alloc (.cells #[.int .i8 k, .bool b, .int .i64 n, .string s, .slice o m c, .slice o2 m2 c2] 97)).alloc (.cells #[.int .i8 k', .bool b', .int .i64 n', .string s', .slice o' m' c', .slice o2' m2' c2'] 97)) w') :=
    Lib.hid (eqKs_any x.keys y.keys _ _ _ hM (isK_keep (cell_below KB.two) hk) (isK_keep (cell_below KB.two) hk'))
  have hcl : ∀ w1, Below ((w.alloc (.cells #[.int .i8 k, .bool b, .int .i64 n, .string s, .slice o m c, .slice o2 m2 c2] 97)).alloc (.cells #[.int .i8 k', .bool b', .int .i64 n', .string s', .slice o' m' c', .slice o2' m2' c2'] 97)).heap.size ((w.alloc (.cells #[.int .i8 k, .bool b, .int .i64 n, .string s, .slice o m c, .slice o2 m2 c2] 97)).alloc (.cells #[.int .i8 k', .bool b', .int .i64 n', .string s', .slice o' m' c', .slice o2' m2' c2'] 97)) w1 → w1.cell? ⟨w.heap.size, 4, none⟩ = some (.slice o m c) ∧ w1.cell? ⟨w.heap.size + 1, 4, none⟩ = some (.slice o' m' c') := fun w1 h1 => ⟨cell_below h1 _ _ (by simp), cell_below h1 _ _ (by simp)⟩
  have HCL := Lib.hid hcl
  have hr : butB x y = (decide (k = k') && (decide (b = b') && (decide (n = n') && (decide (s = s') && (decide (x.keys = y.keys) && decide (m = m')))))) := by
    unfold butB
    rw [e1, e2, e3, e4, d1, d2, d3, d4, e5, d5]
  rw [hr]
  generalize decide (x.keys = y.keys) = R at *
  clear h h' e1 e2 e3 e4 e5 d1 d2 d3 d4 d5 hk hk' hcl hr
  by_cases q1 : k = k'
  · subst q1
    rw [decide_eq_true rfl, Bool.true_and]
    by_cases q2 : b = b'
    · subst q2
      rw [decide_eq_true rfl, Bool.true_and]
      by_cases q3 : n = n'
      · subst q3
        rw [decide_eq_true rfl, Bool.true_and]
        by_cases q4 : s = s'
        · subst q4
          rw [decide_eq_true rfl, Bool.true_and]
          have z4 : (s.toList == s.toList) = true := beq_self_eq_true _
          cases R with
          | false =>
            rw [Bool.false_and]
            go_enter Tryz.func107, Tryz.ntmps107
            go_wp2_with (go_at_call 124; refine HK.out.mono ?_; rintro e w5 ⟨rfl, hb5⟩; obtain ⟨p1, p2⟩ := HCL.out _ hb5)
            go_ret
            exact ⟨rfl, HB.out.trans (hb5.mono HB.out.size)⟩
          | true =>
            rw [Bool.true_and]
            by_cases q5 : m = m'
            · subst q5
              rw [decide_eq_true rfl]
              go_enter Tryz.func107, Tryz.ntmps107
              go_wp2_with (go_at_call 124; refine HK.out.mono ?_; rintro e w5 ⟨rfl, hb5⟩; obtain ⟨p1, p2⟩ := HCL.out _ hb5)
              go_ret
              exact ⟨ret_bool (by simp), HB.out.trans (hb5.mono HB.out.size)⟩
            · rw [decide_eq_false q5]
              have y1 : (m == m') = false := beq_eq_false_iff_ne.2 q5
              have y2 : ((m : Int) == (m' : Int)) = false := beq_eq_false_iff_ne.2 (by omega)
              go_enter Tryz.func107, Tryz.ntmps107
              go_wp2_with (go_at_call 124; refine HK.out.mono ?_; rintro e w5 ⟨rfl, hb5⟩; obtain ⟨p1, p2⟩ := HCL.out _ hb5)
              go_ret
              exact ⟨ret_bool (by simp), HB.out.trans (hb5.mono HB.out.size)⟩
        · rw [decide_eq_false q4, Bool.false_and]
          have z := beq_toList q4
          go_enter Tryz.func107, Tryz.ntmps107
          go_wp2_with fail
          go_ret
          exact ⟨rfl, HB.out⟩
      · rw [decide_eq_false q3, Bool.false_and]
        have z : (n == n') = false := beqI q3
        go_enter Tryz.func107, Tryz.ntmps107
        go_wp2_with fail
        go_ret
        exact ⟨rfl, HB.out⟩
    · rw [decide_eq_false q2, Bool.false_and]
      have z : (b == b') = false := beq_eq_false_iff_ne.2 q2
      go_enter Tryz.func107, Tryz.ntmps107
      go_wp2_with fail
      go_ret
      exact ⟨rfl, HB.out⟩
  · rw [decide_eq_false q1, Bool.false_and]
    have z : (k == k') = false := beqI q1
    go_enter Tryz.func107, Tryz.ntmps107
    go_wp2_with fail
    go_ret
    exact ⟨rfl, HB.out⟩
end Go.Proofs.YtkigeegahepnaaaGreatDoor

namespace Go.Proofs.YtkigeegahepnaaaGreatDoor
open Go.RowKit

def zV : V := .mk 0 false 0 ⟨#[]⟩ [] []
theorem butZ (x : V) : butB x zV = sm x zV := by
  cases hb : butB x zV with
  | true =>
    symm
    apply sm_yes
    unfold butB at hb
    simp only [Bool.and_eq_true, decide_eq_true_eq] at hb
    obtain ⟨k, b, n, s, l, ks⟩ := x
    obtain ⟨h1, h2, h3, h4, h5, h6⟩ := hb
    unfold zV at *
    simp only [V.kind, V.bool, V.num, V.text, V.keys, V.list, List.length_nil] at h1 h2 h3 h4 h5 h6
    rw [h1, h2, h3, h4, h5, List.eq_nil_of_length_eq_zero h6]
  | false =>
    symm
    apply sm_no
    intro e
    subst e
    have : butB zV zV = true := by unfold butB zV; simp
    rw [this] at hb
    cases hb

theorem three_rows (U : World) (X Y P : Array Value) (t t' t'' : TypeId) :
    (∀ i, (((U.alloc (.cells X t)).alloc (.cells Y t')).alloc (.cells P t'')).cell? ⟨U.heap.size, i, none⟩ = X[i]?) ∧ (∀ i, (((U.alloc (.cells X t)).alloc (.cells Y t')).alloc (.cells P t'')).cell? ⟨U.heap.size + 1, i, none⟩ = Y[i]?) ∧
    ∀ i, (((U.alloc (.cells X t)).alloc (.cells Y t')).alloc (.cells P t'')).cell? ⟨U.heap.size + 1 + 1, i, none⟩ = P[i]? := by
  have z1 : (U.alloc (.cells X t)).heap.size = U.heap.size + 1 := by simp
  have z2 : ((U.alloc (.cells X t)).alloc (.cells Y t')).heap.size = U.heap.size + 1 + 1 := by simp
  refine ⟨fun i => cell_of_row _ _ _ _ _ _ (((MapKept.heap_alloc _ _).2 U.heap.size (by omega)).trans (((MapKept.heap_alloc _ _).2 U.heap.size (by omega)).trans (MapKept.heap_alloc U _).1)), fun i => ?_, fun i => ?_⟩
  · refine cell_of_row _ _ _ Y t' (0, 0) (((MapKept.heap_alloc _ _).2 (U.heap.size + 1) (by omega)).trans ?_)
    have h := (MapKept.heap_alloc (U.alloc (.cells X t)) (.cells Y t')).1
    rw [z1] at h; exact h
  · refine cell_of_row _ _ _ P t'' (0, 0) ?_
    have h := (MapKept.heap_alloc ((U.alloc (.cells X t)).alloc (.cells Y t')) (.cells P t'')).1
    rw [z2] at h; exact h

set_option maxRecDepth 100000 in
set_option maxHeartbeats 8000000 in
theorem alikeZ_any (x : V) (v u : Value) (w : World) (hM : x.keys.length ≤ 1000000) (h : isV w x v) (h' : isV w zV u) :
    Calls Tryz.prog 89 #[v, u] w fun e w' => e = .returned (.bool (sm x zV)) ∧ Below w.heap.size w w' := by
  obtain ⟨k, b, n, s, o, m, c, o2, m2, c2, rfl⟩ := isV_six h
  obtain ⟨k', b', n', s', o', m', c', o2', m2', c2', rfl⟩ := isV_six h'
  obtain ⟨_, _, _, _, hm, _⟩ := isV_all h
  obtain ⟨_, _, _, _, hm', _⟩ := isV_all h'
  obtain rfl : m' = 0 := hm'
  have hbz : butB x zV = true → m = 0 := fun hb => by
    unfold butB at hb
    simp only [Bool.and_eq_true, decide_eq_true_eq] at hb
    rw [hm]
    exact hb.2.2.2.2.2
  have HBUT : Hid (∀ w1, KB w w1 → Calls Tryz.prog 107 #[.agg #[.int .i8 k, .bool b, .int .i64 n, .string s, .slice o m c, .slice o2 m2 c2], .agg #[.int .i8 k', .bool b', .int .i64 n', .string s', .slice o' 0 c', .slice o2' m2' c2']] w1 fun e w' => e = .returned (.bool (butB x zV)) ∧ Below w1.heap.size w1 w') := Lib.hid fun w1 hK => alikeBut_any x zV _ _ w1 hM (isV_below hK h) (isV_below hK h')
  have HONE : Hid (∀ w1, Calls Tryz.prog 108 #[.slice o 0 c, .slice o' 0 c'] w1 fun e w' => e = .returned (.bool true) ∧ Below w1.heap.size w1 w') := Lib.hid fun w1 => one_nil o o' c c' w1
  rw [butZ] at HBUT hbz
  obtain ⟨r, hr⟩ : ∃ r, sm x zV = r := ⟨_, rfl⟩
  rw [hr] at HBUT hbz ⊢
  clear h h' hm hM hr
  have HB5 : Hid (Below w.heap.size w (((((w.alloc (.cells #[.int .i8 k, .bool b, .int .i64 n, .string s, .slice o m c, .slice o2 m2 c2] 97)).alloc (.cells #[.int .i8 k', .bool b', .int .i64 n', .string s', .slice o' 0 c', .slice o2' m2' c2'] 97)).alloc (.cells #[.int .i8 k, .bool b, .int .i64 n, .string s, .slice o m c, .slice o2 m2 c2] 97)).alloc (.cells #[.int .i8 k', .bool b', .int .i64 n', .string s', .slice o' 0 c', .slice o2' m2' c2'] 97)).alloc (.cells #[.slice (some ⟨w.heap.size + 1 + 1, 0, none⟩) 1 1, .slice (some ⟨w.heap.size + 1 + 1 + 1, 0, none⟩) 1 1] 162))) := Lib.hid (((((Below.refl _ _).alloc (Nat.le_refl _) _).alloc (by simp) _).alloc (by simp; omega) _).alloc (by simp; omega) _ |>.alloc (by simp; omega) _)
  have hU : ((w.alloc (.cells #[.int .i8 k, .bool b, .int .i64 n, .string s, .slice o m c, .slice o2 m2 c2] 97)).alloc (.cells #[.int .i8 k', .bool b', .int .i64 n', .string s', .slice o' 0 c', .slice o2' m2' c2'] 97)).heap.size = w.heap.size + 1 + 1 := by simp
  have h3 := three_rows ((w.alloc (.cells #[.int .i8 k, .bool b, .int .i64 n, .string s, .slice o m c, .slice o2 m2 c2] 97)).alloc (.cells #[.int .i8 k', .bool b', .int .i64 n', .string s', .slice o' 0 c', .slice o2' m2' c2'] 97)) (#[.int .i8 k, .bool b, .int .i64 n, .string s, .slice o m c, .slice o2 m2 c2] : Array Value) (#[.int .i8 k', .bool b', .int .i64 n', .string s', .slice o' 0 c', .slice o2' m2' c2'] : Array Value) (#[.slice (some ⟨w.heap.size + 1 + 1, 0, none⟩) 1 1, .slice (some ⟨w.heap.size + 1 + 1 + 1, 0, none⟩) 1 1] : Array Value) 97 97 162
  rw [hU] at h3
  have Fx0 : (((((w.alloc (.cells #[.int .i8 k, .bool b, .int .i64 n, .string s, .slice o m c, .slice o2 m2 c2] 97)).alloc (.cells #[.int .i8 k', .bool b', .int .i64 n', .string s', .slice o' 0 c', .slice o2' m2' c2'] 97)).alloc (.cells #[.int .i8 k, .bool b, .int .i64 n, .string s, .slice o m c, .slice o2 m2 c2] 97)).alloc (.cells #[.int .i8 k', .bool b', .int .i64 n', .string s', .slice o' 0 c', .slice o2' m2' c2'] 97)).alloc (.cells #[.slice (some ⟨w.heap.size + 1 + 1, 0, none⟩) 1 1, .slice (some ⟨w.heap.size + 1 + 1 + 1, 0, none⟩) 1 1] 162)).cell? ⟨w.heap.size + 1 + 1, 0, none⟩ = some (.int .i8 k) := (h3.1 0).trans rfl
  have Fx1 : (((((w.alloc (.cells #[.int .i8 k, .bool b, .int .i64 n, .string s, .slice o m c, .slice o2 m2 c2] 97)).alloc (.cells #[.int .i8 k', .bool b', .int .i64 n', .string s', .slice o' 0 c', .slice o2' m2' c2'] 97)).alloc (.cells #[.int .i8 k, .bool b, .int .i64 n, .string s, .slice o m c, .slice o2 m2 c2] 97)).alloc (.cells #[.int .i8 k', .bool b', .int .i64 n', .string s', .slice o' 0 c', .slice o2' m2' c2'] 97)).alloc (.cells #[.slice (some ⟨w.heap.size + 1 + 1, 0, none⟩) 1 1, .slice (some ⟨w.heap.size + 1 + 1 + 1, 0, none⟩) 1 1] 162)).cell? ⟨w.heap.size + 1 + 1, 1, none⟩ = some (.bool b) := (h3.1 1).trans rfl
  have Fx2 : (((((w.alloc (.cells #[.int .i8 k, .bool b, .int .i64 n, .string s, .slice o m c, .slice o2 m2 c2] 97)).alloc (.cells #[.int .i8 k', .bool b', .int .i64 n', .string s', .slice o' 0 c', .slice o2' m2' c2'] 97)).alloc (.cells #[.int .i8 k, .bool b, .int .i64 n, .string s, .slice o m c, .slice o2 m2 c2] 97)).alloc (.cells #[.int .i8 k', .bool b', .int .i64 n', .string s', .slice o' 0 c', .slice o2' m2' c2'] 97)).alloc (.cells #[.slice (some ⟨w.heap.size + 1 + 1, 0, none⟩) 1 1, .slice (some ⟨w.heap.size + 1 + 1 + 1, 0, none⟩) 1 1] 162)).cell? ⟨w.heap.size + 1 + 1, 2, none⟩ = some (.int .i64 n) := (h3.1 2).trans rfl
  have Fx3 : (((((w.alloc (.cells #[.int .i8 k, .bool b, .int .i64 n, .string s, .slice o m c, .slice o2 m2 c2] 97)).alloc (.cells #[.int .i8 k', .bool b', .int .i64 n', .string s', .slice o' 0 c', .slice o2' m2' c2'] 97)).alloc (.cells #[.int .i8 k, .bool b, .int .i64 n, .string s, .slice o m c, .slice o2 m2 c2] 97)).alloc (.cells #[.int .i8 k', .bool b', .int .i64 n', .string s', .slice o' 0 c', .slice o2' m2' c2'] 97)).alloc (.cells #[.slice (some ⟨w.heap.size + 1 + 1, 0, none⟩) 1 1, .slice (some ⟨w.heap.size + 1 + 1 + 1, 0, none⟩) 1 1] 162)).cell? ⟨w.heap.size + 1 + 1, 3, none⟩ = some (.string s) := (h3.1 3).trans rfl
  have Fx4 : (((((w.alloc (.cells #[.int .i8 k, .bool b, .int .i64 n, .string s, .slice o m c, .slice o2 m2 c2] 97)).alloc (.cells #[.int .i8 k', .bool b', .int .i64 n', .string s', .slice o' 0 c', .slice o2' m2' c2'] 97)).alloc (.cells #[.int .i8 k, .bool b, .int .i64 n, .string s, .slice o m c, .slice o2 m2 c2] 97)).alloc (.cells #[.int .i8 k', .bool b', .int .i64 n', .string s', .slice o' 0 c', .slice o2' m2' c2'] 97)).alloc (.cells #[.slice (some ⟨w.heap.size + 1 + 1, 0, none⟩) 1 1, .slice (some ⟨w.heap.size + 1 + 1 + 1, 0, none⟩) 1 1] 162)).cell? ⟨w.heap.size + 1 + 1, 4, none⟩ = some (.slice o m c) := (h3.1 4).trans rfl
  have Fx5 : (((((w.alloc (.cells #[.int .i8 k, .bool b, .int .i64 n, .string s, .slice o m c, .slice o2 m2 c2] 97)).alloc (.cells #[.int .i8 k', .bool b', .int .i64 n', .string s', .slice o' 0 c', .slice o2' m2' c2'] 97)).alloc (.cells #[.int .i8 k, .bool b, .int .i64 n, .string s, .slice o m c, .slice o2 m2 c2] 97)).alloc (.cells #[.int .i8 k', .bool b', .int .i64 n', .string s', .slice o' 0 c', .slice o2' m2' c2'] 97)).alloc (.cells #[.slice (some ⟨w.heap.size + 1 + 1, 0, none⟩) 1 1, .slice (some ⟨w.heap.size + 1 + 1 + 1, 0, none⟩) 1 1] 162)).cell? ⟨w.heap.size + 1 + 1, 5, none⟩ = some (.slice o2 m2 c2) := (h3.1 5).trans rfl
  have Fy0 : (((((w.alloc (.cells #[.int .i8 k, .bool b, .int .i64 n, .string s, .slice o m c, .slice o2 m2 c2] 97)).alloc (.cells #[.int .i8 k', .bool b', .int .i64 n', .string s', .slice o' 0 c', .slice o2' m2' c2'] 97)).alloc (.cells #[.int .i8 k, .bool b, .int .i64 n, .string s, .slice o m c, .slice o2 m2 c2] 97)).alloc (.cells #[.int .i8 k', .bool b', .int .i64 n', .string s', .slice o' 0 c', .slice o2' m2' c2'] 97)).alloc (.cells #[.slice (some ⟨w.heap.size + 1 + 1, 0, none⟩) 1 1, .slice (some ⟨w.heap.size + 1 + 1 + 1, 0, none⟩) 1 1] 162)).cell? ⟨w.heap.size + 1 + 1 + 1, 0, none⟩ = some (.int .i8 k') := (h3.2.1 0).trans rfl
  have Fy1 : (((((w.alloc (.cells #[.int .i8 k, .bool b, .int .i64 n, .string s, .slice o m c, .slice o2 m2 c2] 97)).alloc (.cells #[.int .i8 k', .bool b', .int .i64 n', .string s', .slice o' 0 c', .slice o2' m2' c2'] 97)).alloc (.cells #[.int .i8 k, .bool b, .int .i64 n, .string s, .slice o m c, .slice o2 m2 c2] 97)).alloc (.cells #[.int .i8 k', .bool b', .int .i64 n', .string s', .slice o' 0 c', .slice o2' m2' c2'] 97)).alloc (.cells #[.slice (some ⟨w.heap.size + 1 + 1, 0, none⟩) 1 1, .slice (some ⟨w.heap.size + 1 + 1 + 1, 0, none⟩) 1 1] 162)).cell? ⟨w.heap.size + 1 + 1 + 1, 1, none⟩ = some (.bool b') := (h3.2.1 1).trans rfl
  have Fy2 : (((((w.alloc (.cells #[.int .i8 k, .bool b, .int .i64 n, .string s, .slice o m c, .slice o2 m2 c2] 97)).alloc (.cells #[.int .i8 k', .bool b', .int .i64 n', .string s', .slice o' 0 c', .slice o2' m2' c2'] 97)).alloc (.cells #[.int .i8 k, .bool b, .int .i64 n, .string s, .slice o m c, .slice o2 m2 c2] 97)).alloc (.cells #[.int .i8 k', .bool b', .int .i64 n', .string s', .slice o' 0 c', .slice o2' m2' c2'] 97)).alloc (.cells #[.slice (some ⟨w.heap.size + 1 + 1, 0, none⟩) 1 1, .slice (some ⟨w.heap.size + 1 + 1 + 1, 0, none⟩) 1 1] 162)).cell? ⟨w.heap.size + 1 + 1 + 1, 2, none⟩ = some (.int .i64 n') := (h3.2.1 2).trans rfl
  have Fy3 : (((((w.alloc (.cells #[.int .i8 k, .bool b, .int .i64 n, .string s, .slice o m c, .slice o2 m2 c2] 97)).alloc (.cells #[.int .i8 k', .bool b', .int .i64 n', .string s', .slice o' 0 c', .slice o2' m2' c2'] 97)).alloc (.cells #[.int .i8 k, .bool b, .int .i64 n, .string s, .slice o m c, .slice o2 m2 c2] 97)).alloc (.cells #[.int .i8 k', .bool b', .int .i64 n', .string s', .slice o' 0 c', .slice o2' m2' c2'] 97)).alloc (.cells #[.slice (some ⟨w.heap.size + 1 + 1, 0, none⟩) 1 1, .slice (some ⟨w.heap.size + 1 + 1 + 1, 0, none⟩) 1 1] 162)).cell? ⟨w.heap.size + 1 + 1 + 1, 3, none⟩ = some (.string s') := (h3.2.1 3).trans rfl
  have Fy4 : (((((w.alloc (.cells #[.int .i8 k, .bool b, .int .i64 n, .string s, .slice o m c, .slice o2 m2 c2] 97)).alloc (.cells #[.int .i8 k', .bool b', .int .i64 n', .string s', .slice o' 0 c', .slice o2' m2' c2'] 97)).alloc (.cells #[.int .i8 k, .bool b, .int .i64 n, .string s, .slice o m c, .slice o2 m2 c2] 97)).alloc (.cells #[.int .i8 k', .bool b', .int .i64 n', .string s', .slice o' 0 c', .slice o2' m2' c2'] 97)).alloc (.cells #[.slice (some ⟨w.heap.size + 1 + 1, 0, none⟩) 1 1, .slice (some ⟨w.heap.size + 1 + 1 + 1, 0, none⟩) 1 1] 162)).cell? ⟨w.heap.size + 1 + 1 + 1, 4, none⟩ = some (.slice o' 0 c') := (h3.2.1 4).trans rfl
  have Fy5 : (((((w.alloc (.cells #[.int .i8 k, .bool b, .int .i64 n, .string s, .slice o m c, .slice o2 m2 c2] 97)).alloc (.cells #[.int .i8 k', .bool b', .int .i64 n', .string s', .slice o' 0 c', .slice o2' m2' c2'] 97)).alloc (.cells #[.int .i8 k, .bool b, .int .i64 n, .string s, .slice o m c, .slice o2 m2 c2] 97)).alloc (.cells #[.int .i8 k', .bool b', .int .i64 n', .string s', .slice o' 0 c', .slice o2' m2' c2'] 97)).alloc (.cells #[.slice (some ⟨w.heap.size + 1 + 1, 0, none⟩) 1 1, .slice (some ⟨w.heap.size + 1 + 1 + 1, 0, none⟩) 1 1] 162)).cell? ⟨w.heap.size + 1 + 1 + 1, 5, none⟩ = some (.slice o2' m2' c2') := (h3.2.1 5).trans rfl
  have Fp0 : (((((w.alloc (.cells #[.int .i8 k, .bool b, .int .i64 n, .string s, .slice o m c, .slice o2 m2 c2] 97)).alloc (.cells #[.int .i8 k', .bool b', .int .i64 n', .string s', .slice o' 0 c', .slice o2' m2' c2'] 97)).alloc (.cells #[.int .i8 k, .bool b, .int .i64 n, .string s, .slice o m c, .slice o2 m2 c2] 97)).alloc (.cells #[.int .i8 k', .bool b', .int .i64 n', .string s', .slice o' 0 c', .slice o2' m2' c2'] 97)).alloc (.cells #[.slice (some ⟨w.heap.size + 1 + 1, 0, none⟩) 1 1, .slice (some ⟨w.heap.size + 1 + 1 + 1, 0, none⟩) 1 1] 162)).cell? ⟨w.heap.size + 1 + 1 + 1 + 1, 0, none⟩ = some (.slice (some ⟨w.heap.size + 1 + 1, 0, none⟩) 1 1) := (h3.2.2 0).trans rfl
  have Fp1 : (((((w.alloc (.cells #[.int .i8 k, .bool b, .int .i64 n, .string s, .slice o m c, .slice o2 m2 c2] 97)).alloc (.cells #[.int .i8 k', .bool b', .int .i64 n', .string s', .slice o' 0 c', .slice o2' m2' c2'] 97)).alloc (.cells #[.int .i8 k, .bool b, .int .i64 n, .string s, .slice o m c, .slice o2 m2 c2] 97)).alloc (.cells #[.int .i8 k', .bool b', .int .i64 n', .string s', .slice o' 0 c', .slice o2' m2' c2'] 97)).alloc (.cells #[.slice (some ⟨w.heap.size + 1 + 1, 0, none⟩) 1 1, .slice (some ⟨w.heap.size + 1 + 1 + 1, 0, none⟩) 1 1] 162)).cell? ⟨w.heap.size + 1 + 1 + 1 + 1, 1, none⟩ = some (.slice (some ⟨w.heap.size + 1 + 1 + 1, 0, none⟩) 1 1) := (h3.2.2 1).trans rfl
  clear h3 hU
  cases r with
  | true =>
    obtain rfl : 0 = m := (hbz rfl).symm
    go_enter Tryz.func89, Tryz.ntmps89
    go_wp2_with fail
    generalize (((((w.alloc (.cells #[.int .i8 k, .bool b, .int .i64 n, .string s, .slice o 0 c, .slice o2 m2 c2] 97)).alloc (.cells #[.int .i8 k', .bool b', .int .i64 n', .string s', .slice o' 0 c', .slice o2' m2' c2'] 97)).alloc (.cells #[.int .i8 k, .bool b, .int .i64 n, .string s, .slice o 0 c, .slice o2 m2 c2] 97)).alloc (.cells #[.int .i8 k', .bool b', .int .i64 n', .string s', .slice o' 0 c', .slice o2' m2' c2'] 97)).alloc (.cells #[.slice (some ⟨w.heap.size + 1 + 1, 0, none⟩) 1 1, .slice (some ⟨w.heap.size + 1 + 1 + 1, 0, none⟩) 1 1] 162)) = W5 at *
    go_loopg [5] 1 (fun g lv wr => (g = 1 ∧ lv = .slice (some ⟨w.heap.size + 1 + 1 + 1 + 1, 0, none⟩) 1 1 ∧ Hid (Below W5.heap.size W5 wr)) ∨ (g = 0 ∧ lv = .slice (some ⟨w.heap.size + 1 + 1 + 1 + 1, 0, none⟩) 0 1 ∧ Hid (true = true) ∧ Hid (Below W5.heap.size W5 wr)))
    case atStart => exact .inl ⟨rfl, rfl, Lib.hid (Below.refl _ _)⟩
    case round =>
      rcases hrel with ⟨rfl, rfl, hB⟩ | ⟨rfl, rfl, hR, hB⟩
      · have hBw := HB5.out.trans (hB.out.mono HB5.out.size)
        have Gx0 := cell_below hB.out _ _ Fx0
        have Gx1 := cell_below hB.out _ _ Fx1
        have Gx2 := cell_below hB.out _ _ Fx2
        have Gx3 := cell_below hB.out _ _ Fx3
        have Gx4 := cell_below hB.out _ _ Fx4
        have Gx5 := cell_below hB.out _ _ Fx5
        have Gy0 := cell_below hB.out _ _ Fy0
        have Gy1 := cell_below hB.out _ _ Fy1
        have Gy2 := cell_below hB.out _ _ Fy2
        have Gy3 := cell_below hB.out _ _ Fy3
        have Gy4 := cell_below hB.out _ _ Fy4
        have Gy5 := cell_below hB.out _ _ Fy5
        have Gp0 := cell_below hB.out _ _ Fp0
        have Gp1 := cell_below hB.out _ _ Fp1
        have hbp : Below wr.heap.size wr (wr.alloc (.cells #[.slice (some ⟨w.heap.size + 1 + 1, 0, none⟩) 1 1, .slice (some ⟨w.heap.size + 1 + 1 + 1, 0, none⟩) 1 1] 162)) := (Below.refl _ _).alloc (Nat.le_refl _) _
        have Hq0 : (wr.alloc (.cells #[.slice (some ⟨w.heap.size + 1 + 1, 0, none⟩) 1 1, .slice (some ⟨w.heap.size + 1 + 1 + 1, 0, none⟩) 1 1] 162)).cell? ⟨wr.heap.size, 0, none⟩ = some (.slice (some ⟨w.heap.size + 1 + 1, 0, none⟩) 1 1) := by simp
        have Hq1 : (wr.alloc (.cells #[.slice (some ⟨w.heap.size + 1 + 1, 0, none⟩) 1 1, .slice (some ⟨w.heap.size + 1 + 1 + 1, 0, none⟩) 1 1] 162)).cell? ⟨wr.heap.size, 1, none⟩ = some (.slice (some ⟨w.heap.size + 1 + 1 + 1, 0, none⟩) 1 1) := by simp
        have Hx0 := cell_below hbp _ _ Gx0
        have Hx1 := cell_below hbp _ _ Gx1
        have Hx2 := cell_below hbp _ _ Gx2
        have Hx3 := cell_below hbp _ _ Gx3
        have Hx4 := cell_below hbp _ _ Gx4
        have Hx5 := cell_below hbp _ _ Gx5
        have Hy0 := cell_below hbp _ _ Gy0
        have Hy1 := cell_below hbp _ _ Gy1
        have Hy2 := cell_below hbp _ _ Gy2
        have Hy3 := cell_below hbp _ _ Gy3
        have Hy4 := cell_below hbp _ _ Gy4
        have Hy5 := cell_below hbp _ _ Gy5
        have Hp0 := cell_below hbp _ _ Gp0
        have Hp1 := cell_below hbp _ _ Gp1
        have HBP := Lib.hid (hBw.trans (hbp.mono hBw.size))
        have HB9 := Lib.hid (hB.out.trans (hbp.mono hB.out.size))
        clear hbp hBw hB
        go_wp2_with fail
        generalize (wr.alloc (.cells #[.slice (some ⟨w.heap.size + 1 + 1, 0, none⟩) 1 1, .slice (some ⟨w.heap.size + 1 + 1 + 1, 0, none⟩) 1 1] 162)) = wp at *
        go_loopw [5, 33] (fun lv i w6 => lv = .slice (some ⟨w.heap.size + 1 + 1 + 1 + 1, 0, none⟩) 0 1 ∧ (i = .int .i64 0 ∨ (i = .int .i64 1 ∧ Hid (true = true))) ∧ Hid (Below wp.heap.size wp w6)) (fun _ i _ => 1 - (intOf i).toNat)
        case atStart => exact ⟨rfl, .inl rfl, Lib.hid (Below.refl _ _)⟩
        case round =>
          obtain ⟨rfl, hi, hB6⟩ := hrel
          rcases hi with rfl | ⟨rfl, hR⟩
          · have hBw6 := HBP.out.trans (hB6.out.mono HBP.out.size)
            have Kx0 := cell_below hB6.out _ _ Hx0
            have Kx1 := cell_below hB6.out _ _ Hx1
            have Kx2 := cell_below hB6.out _ _ Hx2
            have Kx3 := cell_below hB6.out _ _ Hx3
            have Kx4 := cell_below hB6.out _ _ Hx4
            have Kx5 := cell_below hB6.out _ _ Hx5
            have Ky0 := cell_below hB6.out _ _ Hy0
            have Ky1 := cell_below hB6.out _ _ Hy1
            have Ky2 := cell_below hB6.out _ _ Hy2
            have Ky3 := cell_below hB6.out _ _ Hy3
            have Ky4 := cell_below hB6.out _ _ Hy4
            have Ky5 := cell_below hB6.out _ _ Hy5
            have Kp0 := cell_below hB6.out _ _ Hp0
            have Kp1 := cell_below hB6.out _ _ Hp1
            have Kq0 := cell_below hB6.out _ _ Hq0
            have Kq1 := cell_below hB6.out _ _ Hq1
            have hbA : Below wr.heap.size wr (wr.alloc (.cells #[.int .i8 k, .bool b, .int .i64 n, .string s, .slice o 0 c, .slice o2 m2 c2] 97)) := (Below.refl _ _).alloc (Nat.le_refl _) _
            have Mq1 := cell_below hbA _ _ Kq1
            have My0 := cell_below hbA _ _ Ky0
            have My1 := cell_below hbA _ _ Ky1
            have My2 := cell_below hbA _ _ Ky2
            have My3 := cell_below hbA _ _ Ky3
            have My4 := cell_below hbA _ _ Ky4
            have My5 := cell_below hbA _ _ Ky5
            clear hbA
            have hcl : ∀ w8, Below ((wr.alloc (.cells #[.int .i8 k, .bool b, .int .i64 n, .string s, .slice o 0 c, .slice o2 m2 c2] 97)).alloc (.cells #[.int .i8 k', .bool b', .int .i64 n', .string s', .slice o' 0 c', .slice o2' m2' c2'] 97)).heap.size ((wr.alloc (.cells #[.int .i8 k, .bool b, .int .i64 n, .string s, .slice o 0 c, .slice o2 m2 c2] 97)).alloc (.cells #[.int .i8 k', .bool b', .int .i64 n', .string s', .slice o' 0 c', .slice o2' m2' c2'] 97)) w8 → w8.cell? ⟨wr.heap.size, 4, none⟩ = some (.slice o 0 c) ∧ w8.cell? ⟨wr.heap.size + 1, 4, none⟩ = some (.slice o' 0 c') := fun w8 h8 => ⟨cell_below h8 _ _ (by simp), cell_below h8 _ _ (by simp)⟩
            have HCL := Lib.hid hcl
            have hb67 : Below wr.heap.size wr ((wr.alloc (.cells #[.int .i8 k, .bool b, .int .i64 n, .string s, .slice o 0 c, .slice o2 m2 c2] 97)).alloc (.cells #[.int .i8 k', .bool b', .int .i64 n', .string s', .slice o' 0 c', .slice o2' m2' c2'] 97)) := ((Below.refl _ _).alloc (Nat.le_refl _) _).alloc (by simp) _
            have HB67 := Lib.hid hb67
            have HX := Lib.hid (HBUT.out _ (hBw6.trans (hb67.mono hBw6.size)))
            clear hcl hb67
            go_wp2_with (go_at_call 107; refine HX.out.mono ?_; rintro e w8 ⟨rfl, hb8⟩; obtain ⟨m1, m2'⟩ := HCL.out _ hb8)
            go_wp2_with (go_at_call 108; refine (HONE.out _).mono ?_; rintro e w9 ⟨rfl, hb9⟩)
            go_roundw
            case rel => exact ⟨rfl, .inr ⟨rfl, Lib.hid (by simp)⟩, Lib.hid (hB6.out.trans ((HB67.out.trans ((hb8.trans (hb9.mono hb8.size)).mono HB67.out.size)).mono hB6.out.size))⟩
            case measure => simp [intOf]
          · go_wp2_with fail
            go_roundg 0
            case measure => omega
            case rel => exact .inr ⟨rfl, rfl, Lib.hid (by simp), Lib.hid (HB9.out.trans (hB6.out.mono HB9.out.size))⟩
      · go_wp2_with fail
        go_ret
        exact ⟨rfl, HB5.out.trans (hB.out.mono HB5.out.size)⟩
  | false =>
    clear hbz
    go_enter Tryz.func89, Tryz.ntmps89
    go_wp2_with fail
    generalize (((((w.alloc (.cells #[.int .i8 k, .bool b, .int .i64 n, .string s, .slice o m c, .slice o2 m2 c2] 97)).alloc (.cells #[.int .i8 k', .bool b', .int .i64 n', .string s', .slice o' 0 c', .slice o2' m2' c2'] 97)).alloc (.cells #[.int .i8 k, .bool b, .int .i64 n, .string s, .slice o m c, .slice o2 m2 c2] 97)).alloc (.cells #[.int .i8 k', .bool b', .int .i64 n', .string s', .slice o' 0 c', .slice o2' m2' c2'] 97)).alloc (.cells #[.slice (some ⟨w.heap.size + 1 + 1, 0, none⟩) 1 1, .slice (some ⟨w.heap.size + 1 + 1 + 1, 0, none⟩) 1 1] 162)) = W5 at *
    go_loopg [5] 1 (fun g lv wr => (g = 1 ∧ lv = .slice (some ⟨w.heap.size + 1 + 1 + 1 + 1, 0, none⟩) 1 1 ∧ Hid (Below W5.heap.size W5 wr)) ∨ (g = 0 ∧ lv = .slice (some ⟨w.heap.size + 1 + 1 + 1 + 1, 0, none⟩) 0 1 ∧ Hid (false = true) ∧ Hid (Below W5.heap.size W5 wr)))
    case atStart => exact .inl ⟨rfl, rfl, Lib.hid (Below.refl _ _)⟩
    case round =>
      rcases hrel with ⟨rfl, rfl, hB⟩ | ⟨rfl, rfl, hR, hB⟩
      · have hBw := HB5.out.trans (hB.out.mono HB5.out.size)
        have Gx0 := cell_below hB.out _ _ Fx0
        have Gx1 := cell_below hB.out _ _ Fx1
        have Gx2 := cell_below hB.out _ _ Fx2
        have Gx3 := cell_below hB.out _ _ Fx3
        have Gx4 := cell_below hB.out _ _ Fx4
        have Gx5 := cell_below hB.out _ _ Fx5
        have Gy0 := cell_below hB.out _ _ Fy0
        have Gy1 := cell_below hB.out _ _ Fy1
        have Gy2 := cell_below hB.out _ _ Fy2
        have Gy3 := cell_below hB.out _ _ Fy3
        have Gy4 := cell_below hB.out _ _ Fy4
        have Gy5 := cell_below hB.out _ _ Fy5
        have Gp0 := cell_below hB.out _ _ Fp0
        have Gp1 := cell_below hB.out _ _ Fp1
        have hbp : Below wr.heap.size wr (wr.alloc (.cells #[.slice (some ⟨w.heap.size + 1 + 1, 0, none⟩) 1 1, .slice (some ⟨w.heap.size + 1 + 1 + 1, 0, none⟩) 1 1] 162)) := (Below.refl _ _).alloc (Nat.le_refl _) _
        have Hq0 : (wr.alloc (.cells #[.slice (some ⟨w.heap.size + 1 + 1, 0, none⟩) 1 1, .slice (some ⟨w.heap.size + 1 + 1 + 1, 0, none⟩) 1 1] 162)).cell? ⟨wr.heap.size, 0, none⟩ = some (.slice (some ⟨w.heap.size + 1 + 1, 0, none⟩) 1 1) := by simp
        have Hq1 : (wr.alloc (.cells #[.slice (some ⟨w.heap.size + 1 + 1, 0, none⟩) 1 1, .slice (some ⟨w.heap.size + 1 + 1 + 1, 0, none⟩) 1 1] 162)).cell? ⟨wr.heap.size, 1, none⟩ = some (.slice (some ⟨w.heap.size + 1 + 1 + 1, 0, none⟩) 1 1) := by simp
        have Hx0 := cell_below hbp _ _ Gx0
        have Hx1 := cell_below hbp _ _ Gx1
        have Hx2 := cell_below hbp _ _ Gx2
        have Hx3 := cell_below hbp _ _ Gx3
        have Hx4 := cell_below hbp _ _ Gx4
        have Hx5 := cell_below hbp _ _ Gx5
        have Hy0 := cell_below hbp _ _ Gy0
        have Hy1 := cell_below hbp _ _ Gy1
        have Hy2 := cell_below hbp _ _ Gy2
        have Hy3 := cell_below hbp _ _ Gy3
        have Hy4 := cell_below hbp _ _ Gy4
        have Hy5 := cell_below hbp _ _ Gy5
        have Hp0 := cell_below hbp _ _ Gp0
        have Hp1 := cell_below hbp _ _ Gp1
        have HBP := Lib.hid (hBw.trans (hbp.mono hBw.size))
        have HB9 := Lib.hid (hB.out.trans (hbp.mono hB.out.size))
        clear hbp hBw hB
        go_wp2_with fail
        generalize (wr.alloc (.cells #[.slice (some ⟨w.heap.size + 1 + 1, 0, none⟩) 1 1, .slice (some ⟨w.heap.size + 1 + 1 + 1, 0, none⟩) 1 1] 162)) = wp at *
        go_loopw [5, 33] (fun lv i w6 => lv = .slice (some ⟨w.heap.size + 1 + 1 + 1 + 1, 0, none⟩) 0 1 ∧ (i = .int .i64 0 ∨ (i = .int .i64 1 ∧ Hid (false = true))) ∧ Hid (Below wp.heap.size wp w6)) (fun _ i _ => 1 - (intOf i).toNat)
        case atStart => exact ⟨rfl, .inl rfl, Lib.hid (Below.refl _ _)⟩
        case round =>
          obtain ⟨rfl, hi, hB6⟩ := hrel
          rcases hi with rfl | ⟨rfl, hR⟩
          · have hBw6 := HBP.out.trans (hB6.out.mono HBP.out.size)
            have Kx0 := cell_below hB6.out _ _ Hx0
            have Kx1 := cell_below hB6.out _ _ Hx1
            have Kx2 := cell_below hB6.out _ _ Hx2
            have Kx3 := cell_below hB6.out _ _ Hx3
            have Kx4 := cell_below hB6.out _ _ Hx4
            have Kx5 := cell_below hB6.out _ _ Hx5
            have Ky0 := cell_below hB6.out _ _ Hy0
            have Ky1 := cell_below hB6.out _ _ Hy1
            have Ky2 := cell_below hB6.out _ _ Hy2
            have Ky3 := cell_below hB6.out _ _ Hy3
            have Ky4 := cell_below hB6.out _ _ Hy4
            have Ky5 := cell_below hB6.out _ _ Hy5
            have Kp0 := cell_below hB6.out _ _ Hp0
            have Kp1 := cell_below hB6.out _ _ Hp1
            have Kq0 := cell_below hB6.out _ _ Hq0
            have Kq1 := cell_below hB6.out _ _ Hq1
            have hbA : Below wr.heap.size wr (wr.alloc (.cells #[.int .i8 k, .bool b, .int .i64 n, .string s, .slice o m c, .slice o2 m2 c2] 97)) := (Below.refl _ _).alloc (Nat.le_refl _) _
            have Mq1 := cell_below hbA _ _ Kq1
            have My0 := cell_below hbA _ _ Ky0
            have My1 := cell_below hbA _ _ Ky1
            have My2 := cell_below hbA _ _ Ky2
            have My3 := cell_below hbA _ _ Ky3
            have My4 := cell_below hbA _ _ Ky4
            have My5 := cell_below hbA _ _ Ky5
            clear hbA
            have hcl : ∀ w8, Below ((wr.alloc (.cells #[.int .i8 k, .bool b, .int .i64 n, .string s, .slice o m c, .slice o2 m2 c2] 97)).alloc (.cells #[.int .i8 k', .bool b', .int .i64 n', .string s', .slice o' 0 c', .slice o2' m2' c2'] 97)).heap.size ((wr.alloc (.cells #[.int .i8 k, .bool b, .int .i64 n, .string s, .slice o m c, .slice o2 m2 c2] 97)).alloc (.cells #[.int .i8 k', .bool b', .int .i64 n', .string s', .slice o' 0 c', .slice o2' m2' c2'] 97)) w8 → w8.cell? ⟨wr.heap.size, 4, none⟩ = some (.slice o m c) ∧ w8.cell? ⟨wr.heap.size + 1, 4, none⟩ = some (.slice o' 0 c') := fun w8 h8 => ⟨cell_below h8 _ _ (by simp), cell_below h8 _ _ (by simp)⟩
            have HCL := Lib.hid hcl
            have hb67 : Below wr.heap.size wr ((wr.alloc (.cells #[.int .i8 k, .bool b, .int .i64 n, .string s, .slice o m c, .slice o2 m2 c2] 97)).alloc (.cells #[.int .i8 k', .bool b', .int .i64 n', .string s', .slice o' 0 c', .slice o2' m2' c2'] 97)) := ((Below.refl _ _).alloc (Nat.le_refl _) _).alloc (by simp) _
            have HB67 := Lib.hid hb67
            have HX := Lib.hid (HBUT.out _ (hBw6.trans (hb67.mono hBw6.size)))
            clear hcl hb67
            go_wp2_with (go_at_call 107; refine HX.out.mono ?_; rintro e w8 ⟨rfl, hb8⟩; obtain ⟨m1, m2'⟩ := HCL.out _ hb8)
            go_ret
            exact ⟨rfl, hBw6.trans ((HB67.out.trans (hb8.mono HB67.out.size)).mono hBw6.size)⟩
          · cases hR.out
      · cases hR.out
end Go.Proofs.YtkigeegahepnaaaGreatDoor
