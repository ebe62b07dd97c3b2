/-
  CloudAnswers, plain; a map's keys, all of them. · A cloud, and a map beside it.
-/
import Derived.Test.YtkigeegahepnaaaGreatDoorHJ
import Derived.Test.YtkigeegahepnaaaGreatDoorHA
set_option linter.unusedVariables false
set_option linter.unusedSimpArgs false
namespace Go.Proofs.YtkigeegahepnaaaGreatDoor
open Go.RowKit Go.Maps Go.ChangeMaps Go.WideMaps Go.WideShapes

/-- The entries' keys: all that lead somewhere. -/
theorem MapZ.keys2 {P : Program} {k : TypeId} {W : World} {b n : Nat} {f : Int → Option Value} (h : MapZ P k W b n f) (K : Keyed P k) (hk : P.underlying k = some (.int .i64)) :
    ∃ zs : List Int, zs.Nodup ∧ (∀ z, z ∈ zs ↔ (okZ z ∧ f z ≠ none) ∨ z ∈ zs) ∧ (∀ z ∈ zs, okZ z ∧ f z ≠ none) ∧ (∀ z, f z ≠ none → z ∈ zs) ∧ ∃ (es : Array MapEntry) (clock : Nat), W.heap[b]? = some (.map es clock) ∧ es.size = zs.length := by
  obtain ⟨D, hD, hf⟩ := h
  obtain ⟨es0, hD0, hpw, -⟩ := hD.entries K
  obtain ⟨es1, hD1, hko⟩ := hD.keysOf
  obtain rfl : es0 = es1 := by rw [hD0] at hD1; simpa using hD1
  have hown := owns_held hD es0 hD0
  have hks : ∀ p ∈ es0, ∃ z, p.1 = kyZ z ∧ okZ z := fun p hp => by
    obtain ⟨v, hv⟩ := hko p hp
    obtain ⟨z, h1, h2, -⟩ := litZ hk hv
    exact ⟨z, h1, h2⟩
  have hzs : ∃ zs : List Int, es0.map (·.1) = zs.map kyZ := by
    clear hpw hown hD0 hD1 hko
    induction es0 with
    | nil => exact ⟨[], rfl⟩
    | cons p t ih =>
      obtain ⟨z, hz, -⟩ := hks p (by simp)
      obtain ⟨zs, h⟩ := ih (fun q hq => hks q (List.mem_cons_of_mem _ hq))
      exact ⟨z :: zs, by rw [List.map_cons, List.map_cons, h, hz]⟩
  obtain ⟨zs, hz⟩ := hzs
  have hlen : es0.length = zs.length := by simpa using congrArg List.length hz
  obtain ⟨es, clock, hb, F, hsz, hDe⟩ := hD
  have hsize : es.size = zs.length := by
    have e : es0 = (es.toList.map (WideElems.rg P k Rh)).foldr DataW.insert [] := by rw [hD0] at hDe; simpa using hDe
    have := (sorted_perm (es.toList.map (WideElems.rg P k Rh))).length_eq
    rw [← e] at this
    simp only [List.length_map, Array.length_toList] at this
    omega
  have hall : ∀ z, f z ≠ none → z ∈ zs := fun z hne => by
    by_cases hm : z ∈ zs
    · exact hm
    · have h2 := hf z
      rw [hD0, WideAt.atKey_none DataW.nil (fun p hp e => hm (by
        have h3 : p.1 ∈ es0.map (·.1) := List.mem_map_of_mem hp
        rw [hz] at h3
        obtain ⟨z', h4, h5⟩ := List.mem_map.1 h3
        rw [e] at h5
        rwa [← kyZ_inj h5]))] at h2
      exact absurd (tokO_inj (show tokO (f z) = tokO none from h2.symm)) hne
  have hin : ∀ z ∈ zs, okZ z ∧ f z ≠ none := fun z hzm => by
    have hm : kyZ z ∈ es0.map (·.1) := by rw [hz]; exact List.mem_map_of_mem hzm
    obtain ⟨p, hp, hpz⟩ := List.mem_map.1 hm
    refine ⟨?_, fun e => ?_⟩
    · obtain ⟨z', h1, h2⟩ := hks p hp
      rw [hpz] at h1
      rw [kyZ_inj h1]; exact h2
    · have h2 := hf z
      rw [e, hD0] at h2
      have h3 := WideAt.atKey_mem (d := p.2) (entries := es0) DataW.nil (show WideAt.IsKeyLit (kyZ z) from trivial) hpw (by rw [← hpz]; exact hp)
      rw [h3] at h2
      exact hown p hp h2
  refine ⟨zs, ?_, fun z => ⟨.inr, fun h => h.elim (fun h => hall z h.2) id⟩, hin, hall, es, clock, hb, hsize⟩
  have h1 : (es0.map (·.1)).Nodup := List.pairwise_map.2 hpw
  rw [hz] at h1
  exact (List.pairwise_map.1 h1).imp fun hne e => hne (by rw [e])

/-! Answers. -/
def anV (a : An) : Value := .agg #[.bool a.en, .bool a.ok, .string a.ph]
/-- What the law was told of the calls that ended. -/
def tF (c : CSt) (z : Int) : Option Value := match findC c.L z with | some p => if p.2.en = true then some (anV p.2) else none | none => none
theorem tF_some {c : CSt} {z : Int} {p : Cl × An} (h : findC c.L z = some p) : tF c z = if p.2.en = true then some (anV p.2) else none := by unfold tF; rw [h]
theorem tF_submit {c : CSt} {x : Cl} (z : Int) : tF (submitC c x).1 z = tF c z := by
  unfold submitC
  split
  · split
    · rfl
    · rename_i hf
      have hf' : findC c.L x.tok = none := by
        cases hff : findC c.L x.tok with
        | none => rfl
        | some p => rw [hff] at hf; exact absurd rfl hf
      show tF ⟨c.s, c.L ++ [(x, zAn)], c.fl ++ [x.tok]⟩ z = tF c z
      unfold tF
      dsimp only
      rw [findC_snoc]
      by_cases e : x.tok = z
      · subst e
        rw [hf', Option.none_or, if_pos rfl]
        rfl
      · dsimp only
        rw [if_neg e, Option.or_none]
  · rfl
theorem tF_end {c : CSt} {n : Nat} (hg : goodC c n) {i : Nat} (hi : i < c.fl.length) (well : Bool) : tF c c.fl[i] = none ∧ ∀ x, findC c.L c.fl[i] = some (x, zAn) → ∀ z, tF (endC c i well).1 z = if z = c.fl[i] then some (anV (endA c.s x well).2) else tF c z := by
  obtain ⟨x, hx, -⟩ := hg.at hi
  refine ⟨by rw [tF_some hx]; rfl, fun x' hx' z => ?_⟩
  rw [endC_good hg hi well hx']
  have hen := endA_en c.s x' well
  show tF ⟨_, setA c.L c.fl[i] (endA c.s x' well).2, _⟩ z = _
  unfold tF
  dsimp only
  rw [findC_setA]
  by_cases e : z = c.fl[i]
  · rw [if_pos e, if_pos e, hx']
    dsimp only [Option.map_some]
    rw [if_pos hen]
  · rw [if_neg e, if_neg e]
/-- A call that has not ended is in flight, and has the zero answer; one that has ended is not in flight. -/
theorem ended_iff {c : CSt} {n : Nat} (hg : goodC c n) {p : Cl × An} (hp : p ∈ c.L) : (p.2.en = false → p.2 = zAn ∧ p.1.tok ∈ c.fl) ∧ (p.2.en = true → p.1.tok ∉ c.fl) := by
  have key : ∀ q ∈ c.L, q.1.tok = p.1.tok → q = p := fun q hq e => by
    have h1 := hg.find hq
    have h2 := hg.find hp
    rw [e, h2] at h1
    exact (Option.some.inj h1).symm
  refine ⟨fun he => ?_, fun he hm => ?_⟩
  · have hm := hg.out p hp he
    obtain ⟨q, h1, h2, h3⟩ := hg.fl _ hm
    rw [key q h1 h2] at h3
    exact ⟨h3, hm⟩
  · obtain ⟨q, h1, h2, h3⟩ := hg.fl _ hm
    rw [key q h1 h2] at h3
    rw [h3] at he
    cases he
/-- Those that ended and those in flight are all. -/
theorem ended_count {c : CSt} {n : Nat} (hg : goodC c n) {zs : List Int} (hn : zs.Nodup) (h1 : ∀ z ∈ zs, tF c z ≠ none) (h2 : ∀ z, tF c z ≠ none → z ∈ zs) : c.fl.length + zs.length = c.L.length := by
  have hmem : ∀ z, tF c z ≠ none → ∃ p ∈ c.L, p.1.tok = z ∧ p.2.en = true := fun z hz => by
    cases hf : findC c.L z with
    | none => exact absurd (by unfold tF; rw [hf]) hz
    | some p =>
      obtain ⟨h3, h4⟩ := findC_some hf
      refine ⟨p, h3, h4, ?_⟩
      rw [tF_some hf] at hz
      by_cases he : p.2.en = true
      · exact he
      · rw [if_neg he] at hz; exact absurd rfl hz
  have htn : (toks c.L).Nodup := by
    unfold toks
    exact List.pairwise_map.2 hg.uniq
  have hd : (c.fl ++ zs).Nodup := by
    rw [List.nodup_append]
    refine ⟨hg.flu, hn, fun a ha b hb e => ?_⟩
    subst e
    obtain ⟨p, h3, h4, h5⟩ := hmem a (h1 a hb)
    exact (ended_iff hg h3).2 h5 (by rw [h4]; exact ha)
  have e1 := nodup_le hd (m := toks c.L) (fun z hz => by
    rcases List.mem_append.1 hz with h | h
    · obtain ⟨p, h3, h4, -⟩ := hg.fl z h
      rw [← h4]; exact List.mem_map_of_mem h3
    · obtain ⟨p, h3, h4, -⟩ := hmem z (h1 z h)
      rw [← h4]; exact List.mem_map_of_mem h3)
  have e2 := nodup_le htn (m := c.fl ++ zs) (fun z hz => by
    obtain ⟨p, hp, rfl⟩ := List.mem_map.1 hz
    rw [List.mem_append]
    cases he : p.2.en with
    | false => exact .inl ((ended_iff hg hp).1 he).2
    | true =>
      refine .inr (h2 _ ?_)
      rw [tF_some (hg.find hp), if_pos he]
      exact fun h => by cases h)
  rw [List.length_append, toks_len] at e1 e2
  omega
end Go.Proofs.YtkigeegahepnaaaGreatDoor

namespace Go.Proofs.YtkigeegahepnaaaGreatDoor
open Go.RowKit Go.Maps Go.Deep

/-- A cloud and a map keyed by numbers, in new memory; a box beside them. -/
def OneM (w0 : World) (b : Nat) (c : CSt) (m : Nat) (n : Nat) (f : Int → Option Value) (bo : Option (Nat × Obj)) (W : World) : Prop :=
  ∃ P, CA W P b c ∧ (∀ k, P k → w0.heap.size ≤ k) ∧ ¬ P m ∧ w0.heap.size ≤ m ∧ MapZ Tryz.prog 3 W m n f ∧ KB w0 W ∧ ∀ p, bo = some p → W.heap[p.1]? = some p.2 ∧ ¬ P p.1 ∧ p.1 ≠ m
section
variable {w0 W W' : World} {b m n : Nat} {c : CSt} {f : Int → Option Value} {bo : Option (Nat × Obj)}
theorem OneM.kb (h : OneM w0 b c m n f bo W) : KB w0 W := by
  obtain ⟨P, h1, h2, h3, h4, h5, h6, h7⟩ := h
  exact h6
theorem OneM.map (h : OneM w0 b c m n f bo W) : MapZ Tryz.prog 3 W m n f := by
  obtain ⟨P, h1, h2, h3, h4, h5, h6, h7⟩ := h
  exact h5
theorem OneM.box {B : Nat} {o : Obj} (h : OneM w0 b c m n f (some (B, o)) W) : W.heap[B]? = some o := by
  obtain ⟨P, h1, h2, h3, h4, h5, h6, h7⟩ := h
  exact (h7 _ rfl).1
theorem OneM.congr {f' : Int → Option Value} {n' : Nat} (h : OneM w0 b c m n f bo W) (hn : n ≤ n') (hf : ∀ z, f z = f' z) : OneM w0 b c m n' f' bo W := by
  obtain rfl : f = f' := funext hf
  obtain ⟨P, h1, h2, h3, h4, h5, h6, h7⟩ := h
  exact ⟨P, h1, h2, h3, h4, h5.mono hn, h6, h7⟩
theorem OneM.nobox (h : OneM w0 b c m n f bo W) : OneM w0 b c m n f none W := by
  obtain ⟨P, h1, h2, h3, h4, h5, h6, h7⟩ := h
  exact ⟨P, h1, h2, h3, h4, h5, h6, fun p e => by cases e⟩
theorem MapZ.below' {P : Program} {k : TypeId} {W W' : World} {b n : Nat} {f : Int → Option Value} (h : MapZ P k W b n f) (hb : Below W.heap.size W W') : MapZ P k W' b n f :=
  h.block (hb.block _ h.lt)
theorem OneM.below (h : OneM w0 b c m n f bo W) (hb : Below W.heap.size W W') : OneM w0 b c m n f bo W' := by
  obtain ⟨P, h1, h2, h3, h4, h5, h6, h7⟩ := h
  exact ⟨P, h1.below hb, h2, h3, h4, h5.below' hb, h6.trans (hb.mono h6.size), fun p e => ⟨(hb.block _ (Array.getElem?_eq_some_iff.1 (h7 p e).1).1).trans (h7 p e).1, (h7 p e).2⟩⟩
theorem OneM.alloc (h : OneM w0 b c m n f bo W) (cs : Array Value) (t : TypeId) : OneM w0 b c m n f (some (W.heap.size, .cells cs t (0, 0))) (W.alloc (.cells cs t)) := by
  have hb : Below W.heap.size W (W.alloc (.cells cs t)) := kbA
  obtain ⟨P, h1, h2, h3, h4, h5, h6, h7⟩ := h
  exact ⟨P, h1.below hb, h2, h3, h4, h5.below' hb, h6.trans (hb.mono h6.size), fun p e => by
    cases e
    exact ⟨World.alloc_heap_new _ _, fun hk => absurd (h1.lt _ hk) (Nat.lt_irrefl _), fun e => by have := h5.lt; dsimp only at e; omega⟩⟩
/-- The cloud is touched. -/
theorem OneM.touch (h : OneM w0 b c m n f bo W) : ∃ P, OnK W P b c W ∧ ∀ c' W', OnK W P b c' W' → OneM w0 b c' m n f bo W' := by
  obtain ⟨P, h1, h2, h3, h4, h5, h6, h7⟩ := h
  refine ⟨P, h1.on, fun c' W' ho => ?_⟩
  obtain ⟨P', g1, g2⟩ := CA.of ho
  have hF := ho.fr
  have e := Array.getElem?_eq_getElem h5.lt
  refine ⟨P', g1, fun k hk => ?_, fun hk => ?_, h4, h5.block ((hF.2 _ _ e h3).trans e.symm), h6.trans (hF.below h2 h6.size), fun p e => ?_⟩
  · rcases g2 k hk with h | h
    · exact h2 k h
    · exact Nat.le_trans h6.size h
  · rcases g2 _ hk with h | h
    · exact h3 h
    · have := h5.lt; omega
  · obtain ⟨q1, q2, q3⟩ := h7 p e
    refine ⟨hF.2 _ _ q1 q2, fun hk => ?_, q3⟩
    rcases g2 _ hk with h | h
    · exact q2 h
    · have := (Array.getElem?_eq_some_iff.1 q1).1; omega
/-- The map is written. -/
theorem OneM.upd (h : OneM w0 b c m n f bo W) {t : TypeId} {e : TypeId} (ht : Tryz.prog.underlying t = some (.map 3 e)) (hn : n < 1000000) {z : Int} (hz : okZ z) (v : Value) :
    ∃ w', (Instr.mapUpdate t (.map (some m)) (.int .i64 z) v).run Tryz.prog W = .ok () w' ∧ Hid (OneM w0 b c m (n + 1) (fun z' => if z' = z then some v else f z') bo w') := by
  obtain ⟨P, h1, h2, h3, h4, h5, h6, h7⟩ := h
  obtain ⟨w', hr, hm, hg⟩ := h5.update lawZ Tryz.underlying3 ht (by unfold maxLen; omega) hz v
  have hF : Fr (fun k => k = m) W w' := Fr.grown hg (fun r e => (Option.some.inj e).symm)
  have hN : NoS W (fun k => k = m) := fun a s hc hk => by
    obtain ⟨D, ⟨es, clock, hb, -⟩, -⟩ := h5
    refine NoS_of_block (k := m) (fun cs t fr hh s' => ?_) hc hk
    rw [hb] at hh
    cases hh
  exact ⟨w', hr, Lib.hid ⟨P, h1.other hF hN (fun k hk e => h3 (e ▸ hk)), h2, h3, h4, hm, h6.trans (hF.below (fun k e => by rw [e]; exact h4) h6.size), fun p e => ⟨hF.2 _ _ (h7 p e).1 (h7 p e).2.2, (h7 p e).2⟩⟩⟩
end
/-- A new map beside a new cloud. -/
theorem OneM.new (w : World) : OneM w w.heap.size zC (w.heap.size + 1) 0 (fun _ => none) none ((w.alloc (.cells #[.slice none 0 0, .int .i64 0, .map none, .slice none 0 0, .slice none 0 0] 72)).alloc (.map #[] 0)) := by
  have hb1 : KB w (w.alloc (.cells #[.slice none 0 0, .int .i64 0, .map none, .slice none 0 0, .slice none 0 0] 72)) := kbA
  have hb2 : KB (w.alloc (.cells #[.slice none 0 0, .int .i64 0, .map none, .slice none 0 0, .slice none 0 0] 72)) ((w.alloc (.cells #[.slice none 0 0, .int .i64 0, .map none, .slice none 0 0, .slice none 0 0] 72)).alloc (.map #[] 0)) := kbA
  obtain ⟨P1, g1, g2⟩ := CA.of (OnK.new w)
  have hs : (w.alloc (.cells #[.slice none 0 0, .int .i64 0, .map none, .slice none 0 0, .slice none 0 0] 72)).heap.size = w.heap.size + 1 := by simp
  have hm := MapZ.made Tryz.prog 3 (w.alloc (.cells #[.slice none 0 0, .int .i64 0, .map none, .slice none 0 0, .slice none 0 0] 72))
  rw [hs] at hm
  exact ⟨P1, g1.below hb2, fun k hk => (g2 k hk).elim id id, fun hk => by have := g1.lt _ hk; rw [hs] at this; omega, by omega, hm, hb1.trans (hb2.mono hb1.size), fun p e => by cases e⟩
theorem zeroAns (w : World) : (zeroValue 38).run Tryz.prog w = .ok (.agg #[.bool false, .bool false, .string ⟨#[]⟩]) w := by kernel_rfl
theorem zeroBool (w : World) : (zeroValue 4).run Tryz.prog w = .ok (.bool false) w := by kernel_rfl
end Go.Proofs.YtkigeegahepnaaaGreatDoor
