/-
  A map that the call has made, its keys texts, its elements whatever they are: told by a function.
-/
import Derived.Test.YtgbagdfcdljleaaDoorBaseP
import Derived.Maps.OwnSet
import Derived.Maps.RangeWalk
import Derived.Maps.Views
import Derived.Maps.Ext
import Derived.Sort.KeysCollected
set_option linter.unusedVariables false
namespace Go.Proofs.YtgbagdfcdljleaaDoor
open Go.RowKit Go.Maps Go.ChangeMaps Go.WideMaps

/-- An element reads as itself. -/
def Rh (v : Value) : Option (DataW Value × List MemPlace) := some (.held v, [])
def kyS (s : ByteArray) : Lit := .string s.data.toList
def tokO : Option Value → DataW Value
  | some v => .held v
  | none => .nil
theorem kyS_inj {s t : ByteArray} (h : kyS s = kyS t) : s = t := by
  have : s.data.toList = t.data.toList := by simpa [kyS] using h
  exact ByteArray.ext (Array.toList_inj.1 this)
theorem tokO_inj {a b : Option Value} (h : tokO a = tokO b) : a = b := by
  cases a <;> cases b <;> simp_all [tokO]

/-- Block b of W is a map of at most n texts that leads to what f says. -/
def MapIs (P : Program) (k : TypeId) (W : World) (b n : Nat) (f : ByteArray → Option Value) : Prop :=
  ∃ D : DataW Value, W.ownsMap P k Rh b n D ∧ ∀ s, D.atKey (kyS s) .nil = tokO (f s)

section
variable {P : Program} {k e t : TypeId} {W : World} {b n : Nat} {f : ByteArray → Option Value}

theorem MapIs.made (P : Program) (k : TypeId) (W : World) : MapIs P k (W.alloc (.map #[] 0)) W.heap.size 0 (fun _ => none) :=
  ⟨_, World.ownsMap_made W P k Rh, fun s => by simp [DataW.atKey, tokO]⟩

theorem MapIs.mono (h : MapIs P k W b n f) {n' : Nat} (hn : n ≤ n') : MapIs P k W b n' f := by
  obtain ⟨D, hD, hf⟩ := h
  exact ⟨D, hD.mono hn, hf⟩

theorem MapIs.kept (h : MapIs P k W b n f) {W' : World} {row : Option Nat} (hg : W.grownBy W' row) (hne : some b ≠ row) : MapIs P k W' b n f := by
  obtain ⟨D, hD, hf⟩ := h
  exact ⟨D, hD.kept hg hne, hf⟩

theorem MapIs.lt (h : MapIs P k W b n f) : b < W.heap.size := by
  obtain ⟨D, hD, hf⟩ := h
  exact hD.lt

theorem MapIs.look (h : MapIs P k W b n f) (K : Keyed P k) (hk : P.underlying k = some .string) (ht : P.underlying t = some (.map k e)) (c : Bool) {z : Value} (hz : (zeroValue e).run P W = .ok z W) {s : ByteArray} (hs : s.size ≤ maxLen) :
    (Instr.lookup t (.map (some b)) (.string s) c).run P W = .ok (if c then .tuple #[(f s).getD z, .bool (f s).isSome] else (f s).getD z) W := by
  obtain ⟨D, ⟨es, clock, hb, F, _, rfl⟩, hf⟩ := h
  have hf' := hf s
  rcases Maps.fit_look c K ht hz hb F (keyOf_string_mk hk hs) with ⟨hrun, _, hat⟩ | ⟨e0, y, _, _, hrun, hRv, hat, _⟩
  · rw [kyS, hat .nil] at hf'
    have : f s = none := tokO_inj hf'.symm
    rw [hrun, this]
    rfl
  · rw [kyS, hat .nil] at hf'
    cases hRv
    have : f s = some e0.val := tokO_inj hf'.symm
    rw [hrun, this]
    rfl

theorem MapIs.update (h : MapIs P k W b n f) (K : Keyed P k) (hk : P.underlying k = some .string) (ht : P.underlying t = some (.map k e)) (hn : n < maxLen) {s : ByteArray} (hs : s.size ≤ maxLen) (v : Value) :
    ∃ w', (Instr.mapUpdate t (.map (some b)) (.string s) v).run P W = .ok () w' ∧ MapIs P k w' b (n + 1) (fun s' => if s' = s then some v else f s') ∧ W.grownBy w' (some b) := by
  obtain ⟨D, hD, hf⟩ := h
  obtain ⟨w', hr, ho, hg⟩ := hD.update K ht hn (keyOf_string_mk hk hs) (show Rh v = some (.held v, []) from rfl)
  refine ⟨w', hr, ⟨_, ho, fun s' => ?_⟩, hg⟩
  by_cases e : s' = s
  · subst e
    show (D.put (kyS s') (.held v)).atKey (kyS s') .nil = tokO (if s' = s' then some v else f s')
    rw [if_pos rfl, atKey_put_same hD.isMap (show WideAt.IsKeyLit (kyS s') from trivial)]
    rfl
  · show (D.put (kyS s) (.held v)).atKey (kyS s') .nil = tokO (if s' = s then some v else f s')
    rw [if_neg e, atKey_put_other (fun e' => e (kyS_inj e')), ← hf s']

/-- A range over the map is under way: 'left' says which names are still to come. -/
def RangeIs (P : Program) (k : TypeId) (W : World) (b r n : Nat) (f : ByteArray → Option Value) (left : ByteArray → Bool) (cnt : Nat) : Prop :=
  ∃ (D : DataW Value) (L : Lit → Bool), W.ranges P k Rh b r n D L cnt ∧ (∀ s, D.atKey (kyS s) .nil = tokO (f s)) ∧ ∀ s, L (kyS s) = left s

theorem has_of_tok {D : DataW Value} (hm : IsMap D) {s : ByteArray} {o : Option Value} (h : D.atKey (kyS s) .nil = tokO o) (hh : ∀ v, o = some v → o ≠ none) (hne : ∀ es, D = .map es → ∀ p ∈ es, p.2 ≠ .nil) : has D (kyS s) = o.isSome := by
  obtain ⟨es, rfl⟩ := hm
  cases o with
  | none =>
    cases hh' : has (.map es) (kyS s) with
    | false => rfl
    | true =>
      exfalso
      rw [has_eq, List.any_eq_true] at hh'
      obtain ⟨p, hp, hps⟩ := hh'
      simp only [DataW.atKey, tokO] at h
      cases hf : es.find? (fun p => p.1.sameKey (kyS s)) with
      | none =>
        rw [List.find?_eq_none] at hf
        exact hf p hp hps
      | some q =>
        rw [hf] at h
        exact hne es rfl q (List.mem_of_find?_eq_some hf) h
  | some v =>
    cases hh' : has (.map es) (kyS s) with
    | true => rfl
    | false =>
      rw [atKey_of_not_has hh'] at h
      cases h

theorem owns_held {D : DataW Value} (h : W.ownsMap P k Rh b n D) : ∀ es, D = .map es → ∀ p ∈ es, p.2 ≠ .nil := by
  obtain ⟨es0, clock, hb, F, _, rfl⟩ := h
  intro es e p hp
  cases e
  obtain ⟨x, hx, rfl⟩ := List.mem_map.1 (mem_sorted.1 hp)
  obtain ⟨y, hy⟩ := F.reads x hx
  obtain ⟨z, hz, hd⟩ := WideElems.rd_val hy
  cases hz
  rw [WideElems.rg_of hy, hd]
  simp

theorem MapIs.has (h : MapIs P k W b n f) : ∃ D : DataW Value, W.ownsMap P k Rh b n D ∧ (∀ s, Maps.has D (kyS s) = (f s).isSome) ∧ ∀ s, D.atKey (kyS s) .nil = tokO (f s) := by
  obtain ⟨D, hD, hf⟩ := h
  exact ⟨D, hD, fun s => has_of_tok hD.isMap (hf s) (fun v e => by rw [e]; simp) (owns_held hD), hf⟩

theorem RangeIs.owns {r cnt : Nat} {left : ByteArray → Bool} (h : RangeIs P k W b r n f left cnt) : MapIs P k W b n f := by
  obtain ⟨D, L, hr, hf, _⟩ := h
  exact ⟨D, hr.owns, hf⟩
theorem RangeIs.left_eq {r cnt : Nat} {left : ByteArray → Bool} (h : RangeIs P k W b r n f left cnt) : W.rangeLeft b r = cnt := by
  obtain ⟨D, L, hr, hf, _⟩ := h
  exact hr.left_eq
theorem RangeIs.lt {r cnt : Nat} {left : ByteArray → Bool} (h : RangeIs P k W b r n f left cnt) : r < W.heap.size := by
  obtain ⟨D, L, hr, hf, _⟩ := h
  exact hr.lt
theorem RangeIs.kept {r cnt : Nat} {left : ByteArray → Bool} (h : RangeIs P k W b r n f left cnt) {W' : World} {row : Option Nat} (hg : W.grownBy W' row) (hb : some b ≠ row) (hr : some r ≠ row) : RangeIs P k W' b r n f left cnt := by
  obtain ⟨D, L, hrg, hf, hl⟩ := h
  exact ⟨D, L, hrg.kept hg hb hr, hf, hl⟩

theorem sameKey_ky (z s : ByteArray) : (kyS z).sameKey (kyS s) = decide (z = s) := by
  by_cases e : z = s
  · subst e
    rw [decide_eq_true rfl]
    exact WideAt.sameKey_self trivial
  · rw [decide_eq_false e]
    exact sameKey_ne (fun e' => e (kyS_inj e'))

/-- 'range m'. -/
theorem wpList_range_map {ops : Array Oper} {rest : List Oper} {o : Oper} {a : Act} {Q : Exit → Act → World → Prop} (hg : o.guard = none) (m : Operand) (t : TypeId) (hop : o.op = Op.range t m) (k e : TypeId) (K : Keyed P k) (ht : P.underlying t = some (.map k e))
    (hm : a.eval m = .map (some b)) (h : MapIs P k W b n f)
    (hK : ∀ w' cnt, RangeIs P k w' b W.heap.size n f (fun s => (f s).isSome) cnt → W.grownBy w' none → w'.heap.size = W.heap.size + 1 → wpList P ops Q rest (a.put o.dst (.pointer (some ⟨W.heap.size, 0, none⟩))) w') :
    wpList P ops Q (o :: rest) a W := by
  obtain ⟨D, hD, hh, hf⟩ := h.has
  refine wpList_range_own W hg m t hop k e K ht Rh b n D hm hD ?_
  intro w0 hr hg0 hs0
  exact hK w0 _ ⟨D, _, hr, hf, hh⟩ hg0 hs0

/-- The step. -/
theorem wpList_next_map {ops : Array Oper} {rest : List Oper} {o : Oper} {a : Act} {Q : Exit → Act → World → Prop} (hg : o.guard = none) (it : Operand) (hop : o.op = Op.next it false) (k : TypeId) (K : Keyed P k) (hk : P.underlying k = some .string) (b r n : Nat) (f : ByteArray → Option Value) (left : ByteArray → Bool) (cnt : Nat)
    (hit : a.eval it = .pointer (some ⟨r, 0, none⟩)) (h : RangeIs P k W b r n f left cnt)
    (hDone : cnt = 0 → (∀ s : ByteArray, left s = false) → wpList P ops Q rest (a.put o.dst (.tuple #[.bool false])) W)
    (hMore : ∀ (s : ByteArray) (c : Value) (w' : World) (cnt' : Nat), s.size ≤ maxLen → left s = true → f s = some c → RangeIs P k w' b r n f (fun z => left z && !decide (z = s)) cnt' → cnt' < cnt → W.grownBy w' (some r) → w'.heap.size = W.heap.size →
      (Instr.entry (.pointer (some ⟨r, 0, none⟩))).run P w' = .ok (.tuple #[.string s, c]) w' → wpList P ops Q rest (a.put o.dst (.tuple #[.bool true, .string s, c])) w') :
    wpList P ops Q (o :: rest) a W := by
  obtain ⟨D, L, hr, hf, hl⟩ := h
  refine wpList_next_ranges W hg it hop k K Rh Value.string (fun v : Value => v) (fun key kl hkey => ?_) (fun v y _ => ⟨v, rfl⟩) b r n D L cnt hit hr (fun h0 hL => hDone h0 (fun s => by rw [← hl s]; exact hL _)) ?_
  · obtain ⟨x, rfl, _, _⟩ := Maps.keyOf_str hk hkey
    exact ⟨_, rfl⟩
  · intro s c kl y w' cnt' hkey hlk hR hat hrg hlt hgr hsz hen
    obtain ⟨x, ex, rfl, hx⟩ := Maps.keyOf_str hk hkey
    have es : kyS s = .string x := by
      simp only [encStr, Value.string.injEq] at ex
      rw [ex]; simp [kyS]
    have hsl : s.size ≤ maxLen := by
      have : s.data.toList = x := by simpa [kyS] using es
      have h2 := congrArg List.length this
      rw [Array.length_toList] at h2
      exact Nat.le_trans (Nat.le_of_eq h2) hx
    rw [← es] at hlk hat hrg
    cases hR
    refine hMore s c w' cnt' hsl (by rw [← hl s]; exact hlk) (tokO_inj (by rw [← hf s, hat .nil]; rfl)) ⟨D, _, hrg, hf, fun z => ?_⟩ hlt hgr hsz hen
    show (L (kyS z) && !(kyS z).sameKey (kyS s)) = _
    rw [hl z, sameKey_ky]

/-- 'm[k]', 'v, ok := m[k]' at the operation. -/
theorem wpList_lookup_map {ops : Array Oper} {rest : List Oper} {o : Oper} {a : Act} {Q : Exit → Act → World → Prop} (hg : o.guard = none) (m x : Operand) (t : TypeId) (c : Bool) (hop : o.op = Op.lookup t m x c) (k e : TypeId) (K : Keyed P k) (hk : P.underlying k = some .string) (ht : P.underlying t = some (.map k e))
    {z : Value} (hz : (zeroValue e).run P W = .ok z W) (hm : a.eval m = .map (some b)) (h : MapIs P k W b n f) (s : ByteArray) (hx : a.eval x = .string s) (hs : s.size ≤ maxLen)
    (hK : wpList P ops Q rest (a.put o.dst (if c then .tuple #[(f s).getD z, .bool (f s).isSome] else (f s).getD z)) W) : wpList P ops Q (o :: rest) a W := by
  refine wpList_plain hg fun K' hK' => ?_
  have hrun := h.look K hk ht c hz hs
  generalize (if c then Value.tuple #[(f s).getD z, .bool (f s).isSome] else (f s).getD z) = rr at hrun hK
  unfold Oper.wp
  simp [execOp, hop, hm, hx, hrun, Result.andThen]
  exact hK' _ _ hK

/-- 'm[k] = v' at the operation. -/
theorem wpList_update_map {ops : Array Oper} {rest : List Oper} {o : Oper} {a : Act} {Q : Exit → Act → World → Prop} (hg : o.guard = none) (m x v : Operand) (t : TypeId) (hop : o.op = Op.mapUpdate t m x v) (k e : TypeId) (K : Keyed P k) (hk : P.underlying k = some .string) (ht : P.underlying t = some (.map k e))
    (hm : a.eval m = .map (some b)) (h : MapIs P k W b n f) (hn : n < maxLen) (s : ByteArray) (hx : a.eval x = .string s) (hs : s.size ≤ maxLen) (u : Value) (hu : a.eval v = u)
    (hK : ∀ w', MapIs P k w' b (n + 1) (fun s' => if s' = s then some u else f s') → W.grownBy w' (some b) → wpList P ops Q rest (a.put o.dst undef) w') : wpList P ops Q (o :: rest) a W := by
  refine wpList_plain hg fun K' hK' => ?_
  obtain ⟨w', hrun, h1, h2⟩ := h.update K hk ht hn hs u
  unfold Oper.wp
  simp [execOp, hop, hm, hx, hu, hrun, Result.andThen]
  exact hK' _ _ (hK w' h1 h2)

end
end Go.Proofs.YtgbagdfcdljleaaDoor
