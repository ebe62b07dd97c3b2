/-
  What is read lies where texts lie: frames that leave all blocks with texts alone. Clouds in memory. · The cloud's copy of a value (it calls itself). · The cloud's copy of a value, walked.
-/
import Derived.Test.YtkigeegahepnaaaGreatDoorGT
import Derived.Test.YtkigeegahepnaaaGreatDoorGP
import Derived.Deep.RegionWith
set_option linter.unusedVariables false
set_option linter.unusedSimpArgs false
namespace Go.Proofs.YtkigeegahepnaaaGreatDoor
open Go.RowKit Go.Maps

/-- No text lies in a block with B. -/
def NoS (W : World) (B : Nat → Prop) : Prop := ∀ a s, W.cell? a = some (.string s) → ¬ B a.block
mutual
theorem isVa_nos {W : World} {B : Nat → Prop} (hB : NoS W B) : ∀ (x : V) (v : Value), isV W x v → isVa W (fun q => ¬ B q) x v
  | .mk k bb n s l ks, v, h => by
    unfold isV at h
    unfold isVa
    obtain ⟨lv, kv, h1, h2, h3, h4, ⟨a, cap, h5, h7⟩, ⟨a2, cap2, k1, k3⟩⟩ := h
    refine ⟨lv, kv, h1, h2, h3, h4, ⟨a, cap, h5, fun h0 => ?_, isVas_nos hB l a h7⟩, ⟨a2, cap2, k1, fun h0 => ?_, k3⟩⟩
    · match l, h0, h7 with
      | .mk k' bb' n' s' l' ks' :: t, _, h7 =>
        unfold isVs at h7
        obtain ⟨⟨c0, c1, c2, c3, c4, c5, g0, g1, g2, g3, g4, g5, hx⟩, ht⟩ := h7
        unfold isV at hx
        obtain ⟨lv', kv', e1, _⟩ := hx
        simp only [Value.agg.injEq, Array.mk.injEq, List.cons.injEq, and_true] at e1
        obtain ⟨rfl, rfl, rfl, rfl, rfl, rfl⟩ := e1
        have := hB _ _ g3
        rwa [add_block] at this
    · have := hB _ _ (k3 0 h0).1
      rwa [add_block] at this
theorem isVas_nos {W : World} {B : Nat → Prop} (hB : NoS W B) : ∀ (l : List V) (a : Addr), isVs W l a → isVas W (fun q => ¬ B q) l a
  | [], _, _ => by unfold isVas; trivial
  | x :: t, a, h => by
    unfold isVs at h
    unfold isVas
    obtain ⟨⟨c0, c1, c2, c3, c4, c5, g0, g1, g2, g3, g4, g5, hx⟩, ht⟩ := h
    exact ⟨⟨c0, c1, c2, c3, c4, c5, g0, g1, g2, g3, g4, g5, isVa_nos hB x _ hx⟩, isVas_nos hB t _ ht⟩
end
theorem isGsa_nos {W : World} {B : Nat → Prop} (hB : NoS W B) {L : List G} {v : Value} (h : isGs W L v) : isGsa W (fun q => ¬ B q) L v := by
  obtain ⟨a, cap, h1, h2⟩ := h
  refine ⟨a, cap, h1, fun h0 => ?_, fun i hi => ?_⟩
  · obtain ⟨_, _, _, _, _, _, g0, _⟩ := h2 0 h0
    have := hB _ _ g0
    rwa [add_block] at this
  · obtain ⟨c0, c1, c2, c3, c4, c5, g0, g1, g2, g3, g4, g5, g6, g7, hv, hn⟩ := h2 i hi
    exact ⟨c0, c1, c2, c3, c4, c5, g0, g1, g2, g3, g4, g5, g6, g7, isVa_nos hB _ _ hv, hn⟩
theorem isTsa_nos {W : World} {B : Nat → Prop} (hB : NoS W B) {L : List Th} {v : Value} (h : isTs W L v) : isTsa W (fun q => ¬ B q) L v := by
  obtain ⟨a, cap, h1, h2⟩ := h
  refine ⟨a, cap, h1, fun h0 => ?_, fun i hi => ?_⟩
  · obtain ⟨_, g0, _⟩ := h2 0 h0
    have := hB _ _ g0
    rwa [add_block] at this
  · obtain ⟨pv, g0, g1, g2, hg, hn⟩ := h2 i hi
    exact ⟨pv, g0, g1, g2, isGsa_nos hB hg, hn⟩
theorem isGs_fr {W W' : World} {B : Nat → Prop} (hB : NoS W B) (hF : Fr B W W') {L : List G} {v : Value} (h : isGs W L v) : isGs W' L v :=
  isGs_of_a (isGsa_keep (fun a c hq hc => hF.cell a c hq hc) (isGsa_nos hB h))
theorem isTs_fr {W W' : World} {B : Nat → Prop} (hB : NoS W B) (hF : Fr B W W') {L : List Th} {v : Value} (h : isTs W L v) : isTs W' L v :=
  isTs_of_a (isTsa_keep (fun a c hq hc => hF.cell a c hq hc) (isTsa_nos hB h))
theorem isS_fr {W W' : World} {B : Nat → Prop} (hB : NoS W B) (hF : Fr B W W') {s : St} {v : Value} (h : isS W s v) : isS W' s v := by
  obtain ⟨lv, e, hts, hm⟩ := h
  exact ⟨lv, e, isTs_fr hB hF hts, hm⟩
theorem isX_fr {W W' : World} {B : Nat → Prop} (hB : NoS W B) (hF : Fr B W W') {x : Cl} {v : Value} (h : isX W x v) : isX W' x v := by
  obtain ⟨pv, e, hg, hx⟩ := h
  exact ⟨pv, e, isGs_fr hB hF hg, hx⟩
theorem NoS.fr {W W' : World} {B C : Nat → Prop} (h : NoS W' B) (hC : NoS W' C) : NoS W' (fun k => B k ∨ C k) := fun a s hc hk => hk.elim (h a s hc) (hC a s hc)

/-! Clouds. -/
/-- An element of the map: a call and its answer. -/
def isTo (W : World) (p : Cl × An) (v : Value) : Prop := ∃ pv, v = .agg #[.int .i64 p.1.tok, .int .i8 p.1.kd, .string p.1.ph, .string p.1.ty, pv, .bool p.2.en, .bool p.2.ok, .string p.2.ph] ∧ isGs W p.1.ps pv
def toldZ (W : World) (L : List (Cl × An)) (f : Int → Option Value) (z : Int) : Prop := match findC L z with | some p => ∃ v, f z = some v ∧ isTo W p v | none => f z = none
def mapR (W : World) (N : Nat) (L : List (Cl × An)) (mv : Value) : Prop := (mv = .map none ∧ L = []) ∨ ∃ m f, mv = .map (some m) ∧ MapZ Tryz.prog 3 W m N f ∧ ∀ z, okZ z → toldZ W L f z
/-- A cloud lies in block b: its store, its calls with their answers, the tokens that it was given, those in flight. -/
structure isC (W : World) (N b : Nat) (s : St) (L : List (Cl × An)) (tk fl : List Int) (lv mv tv fv : Value) : Prop where
  box : W.heap[b]? = some (.cells #[lv, .int .i64 s.made, mv, tv, fv] 72 (0, 0))
  st : isS W s (.agg #[lv, .int .i64 s.made])
  mp : mapR W N L mv
  tk : owI 0 W tv tk
  fl : owI 0 W fv fl
  ne : ∀ k, tv.ownBlock = some k → fv.ownBlock ≠ some k
/-- The blocks that it owns. -/
def Fp (b : Nat) (mv tv fv : Value) (k : Nat) : Prop := k = b ∨ mv = .map (some k) ∨ tv.ownBlock = some k ∨ fv.ownBlock = some k
theorem NoS_of_block {W : World} {k : Nat} (h : ∀ cs t fr, W.heap[k]? = some (.cells cs t fr) → ∀ s, Value.string s ∉ cs.toList) {a : Addr} {s : ByteArray} (hc : W.cell? a = some (.string s)) : a.block ≠ k := fun e => by
  unfold World.cell? at hc
  rw [e] at hc
  cases hk : W.heap[k]? with
  | none => rw [hk] at hc; simp at hc
  | some o =>
    rw [hk] at hc
    cases o with
    | cells cs t fr =>
      dsimp only at hc
      split at hc
      · cases hc
      · exact h _ _ _ hk s (by
          rw [Array.mem_toList_iff]
          exact Array.mem_of_getElem? hc)
    | _ => simp at hc
section
variable {W W' : World} {N b : Nat} {s : St} {L : List (Cl × An)} {tk fl : List Int} {lv mv tv fv : Value}
theorem isC.forms (h : isC W N b s L tk fl lv mv tv fv) : ∃ o cap ot ct of cf m, lv = .slice o s.l.length cap ∧ tv = .slice ot tk.length ct ∧ fv = .slice of fl.length cf ∧ mv = .map m := by
  obtain ⟨lv', e, ⟨a', cap', ⟨o', e', -⟩, -⟩, -⟩ := h.st
  simp only [Value.agg.injEq, Array.mk.injEq, List.cons.injEq, and_true] at e
  subst e
  obtain ⟨ot, ct, et, -⟩ := h.tk.form
  obtain ⟨of, cf, ef, -⟩ := h.fl.form
  have hm : ∃ m, mv = .map m := by
    rcases h.mp with ⟨e, -⟩ | ⟨m, f, e, -⟩
    · exact ⟨_, e⟩
    · exact ⟨_, e⟩
  obtain ⟨m, em⟩ := hm
  exact ⟨_, _, _, _, _, _, _, e', et, ef, em⟩
theorem isC.nos (h : isC W N b s L tk fl lv mv tv fv) : NoS W (Fp b mv tv fv) := by
  intro a s' hc hk
  rcases hk with hk | hk | hk | hk
  · refine NoS_of_block (k := b) (fun cs t fr hh s'' => ?_) hc hk
    rw [h.box] at hh
    simp only [Option.some.injEq, Obj.cells.injEq] at hh
    obtain ⟨rfl, -⟩ := hh
    obtain ⟨o, cap, ot, ct, of, cf, m, rfl, rfl, rfl, rfl⟩ := h.forms
    simp
  · rcases h.mp with ⟨e, -⟩ | ⟨m, f, e, ⟨D, ⟨es, clock, hb, -⟩, -⟩, -⟩
    · rw [e] at hk; cases hk
    · rw [e] at hk
      simp only [Value.map.injEq, Option.some.injEq] at hk
      refine NoS_of_block (k := m) (fun cs t fr hh s'' => ?_) hc hk.symm
      rw [hb] at hh
      cases hh
  · obtain ⟨_, _, cur, hcur, hns⟩ := h.tk.lt _ hk
    refine NoS_of_block (k := a.block) (fun cs t fr hh s'' => ?_) hc rfl
    rw [hcur] at hh
    simp only [Option.some.injEq, Obj.cells.injEq] at hh
    obtain ⟨rfl, -⟩ := hh
    exact hns s''
  · obtain ⟨_, _, cur, hcur, hns⟩ := h.fl.lt _ hk
    refine NoS_of_block (k := a.block) (fun cs t fr hh s'' => ?_) hc rfl
    rw [hcur] at hh
    simp only [Option.some.injEq, Obj.cells.injEq] at hh
    obtain ⟨rfl, -⟩ := hh
    exact hns s''
theorem isC.lt (h : isC W N b s L tk fl lv mv tv fv) : ∀ k, Fp b mv tv fv k → k < W.heap.size := by
  intro k hk
  rcases hk with hk | hk | hk | hk
  · subst hk
    exact (Array.getElem?_eq_some_iff.1 h.box).1
  · rcases h.mp with ⟨e, -⟩ | ⟨m, f, e, hm, -⟩
    · rw [e] at hk; cases hk
    · rw [e] at hk
      simp only [Value.map.injEq, Option.some.injEq] at hk
      subst hk
      exact hm.lt
  · exact (h.tk.lt _ hk).2.1
  · exact (h.fl.lt _ hk).2.1
theorem MapZ.block {P : Program} {k : TypeId} {n : Nat} {f : Int → Option Value} (h : MapZ P k W b n f) (hb : W'.heap[b]? = W.heap[b]?) : MapZ P k W' b n f := by
  obtain ⟨D, ⟨es, clock, h1, h2⟩, hf⟩ := h
  exact ⟨D, ⟨es, clock, hb.trans h1, h2⟩, hf⟩
theorem toldZ_of {f : Int → Option Value} {z : Int} (hk : ∀ (l : List G) (v : Value), isGs W l v → isGs W' l v) (h : toldZ W L f z) : toldZ W' L f z := by
  unfold toldZ at h ⊢
  split at h
  · obtain ⟨v, h1, pv, h2, h3⟩ := h
    exact ⟨v, h1, pv, h2, hk _ _ h3⟩
  · exact h
theorem mapR_of (hk : ∀ (l : List G) (v : Value), isGs W l v → isGs W' l v) (hb : ∀ m, mv = .map (some m) → W'.heap[m]? = W.heap[m]?) (h : mapR W N L mv) : mapR W' N L mv := by
  rcases h with e | ⟨m, f, e, hm, hf⟩
  · exact .inl e
  · exact .inr ⟨m, f, e, hm.block (hb m e), fun z hz => toldZ_of hk (hf z hz)⟩
/-- The cloud's blocks are unlike. -/
theorem isC.apart (h : isC W N b s L tk fl lv mv tv fv) : mv ≠ .map (some b) ∧ tv.ownBlock ≠ some b ∧ fv.ownBlock ≠ some b ∧ (∀ m, mv = .map (some m) → tv.ownBlock ≠ some m ∧ fv.ownBlock ≠ some m) := by
  have hob : ∀ v x, owI 0 W v x → v.ownBlock ≠ some b := fun v x ho e => by
    obtain ⟨_, _, cur, hcur, _⟩ := ho.lt _ e
    rw [h.box] at hcur
    simp only [Option.some.injEq, Obj.cells.injEq] at hcur
    exact absurd hcur.2.1 (by decide)
  refine ⟨fun e => ?_, hob _ _ h.tk, hob _ _ h.fl, fun m e => ?_⟩
  · rcases h.mp with ⟨e', -⟩ | ⟨m, f, e', ⟨D, ⟨es, clock, hb, -⟩, -⟩, -⟩
    · rw [e] at e'; cases e'
    · rw [e] at e'
      simp only [Value.map.injEq, Option.some.injEq] at e'
      subst e'
      rw [h.box] at hb
      cases hb
  · have hmb : ∀ v x, owI 0 W v x → v.ownBlock ≠ some m := fun v x ho eo => by
      obtain ⟨_, _, cur, hcur, _⟩ := ho.lt _ eo
      rcases h.mp with ⟨e', -⟩ | ⟨m', f, e', ⟨D, ⟨es, clock, hb, -⟩, -⟩, -⟩
      · rw [e] at e'; cases e'
      · rw [e] at e'
        simp only [Value.map.injEq, Option.some.injEq] at e'
        subst e'
        rw [hcur] at hb
        cases hb
    exact ⟨hmb _ _ h.tk, hmb _ _ h.fl⟩
/-- What is done elsewhere leaves it as it is. -/
theorem isC.fr {B : Nat → Prop} (h : isC W N b s L tk fl lv mv tv fv) (hN : NoS W B) (hF : Fr B W W') (hd : ∀ k, Fp b mv tv fv k → ¬ B k) : isC W' N b s L tk fl lv mv tv fv := by
  refine ⟨hF.2 _ _ h.box (hd _ (.inl rfl)), isS_fr hN hF h.st, mapR_of (fun l v hg => isGs_fr hN hF hg) (fun m e => ?_) h.mp, h.tk.keep fun k o e ho => hF.2 k o ho (hd k (.inr (.inr (.inl e)))), h.fl.keep fun k o e ho => hF.2 k o ho (hd k (.inr (.inr (.inr e)))), h.ne⟩
  have e' := Array.getElem?_eq_getElem (h.lt m (.inr (.inl e)))
  rw [e']
  exact hF.2 _ _ e' (hd _ (.inr (.inl e)))
theorem isC.below (h : isC W N b s L tk fl lv mv tv fv) (hb : Below W.heap.size W W') : isC W' N b s L tk fl lv mv tv fv :=
  h.fr (B := fun _ => False) (fun _ _ _ h => h) (Fr.of_below hb) (fun _ _ h => h)
end
theorem owI_nil (W : World) (base : Nat) : owI base W (.slice none 0 0) [] := .inl ⟨rfl, rfl⟩
theorem isC.new (w : World) : isC (w.alloc (.cells #[.slice none 0 0, .int .i64 0, .map none, .slice none 0 0, .slice none 0 0] 72)) 0 w.heap.size ⟨[], 0⟩ [] [] [] (.slice none 0 0) (.map none) (.slice none 0 0) (.slice none 0 0) :=
  ⟨World.alloc_heap_new _ _, ⟨_, rfl, ⟨⟨0, 0, none⟩, 0, ⟨none, rfl, Nat.le_refl _, by unfold maxLen; omega, fun h => absurd h (by decide)⟩, fun i h => absurd h (by simp)⟩, by show (-9223372036854775808 : Int) ≤ 0 ∧ (0 : Int) ≤ 9223372036854775807; omega⟩, .inl ⟨rfl, rfl⟩, owI_nil _ _, owI_nil _ _, fun k h => by cases h⟩
/-- What a call of the cloud's leaves: the cloud, and all else. -/
def OnC (w : World) (P : Nat → Prop) (N b : Nat) (s : St) (L : List (Cl × An)) (tk fl : List Int) (W : World) : Prop :=
  ∃ lv mv tv fv, isC W N b s L tk fl lv mv tv fv ∧ Fr P w W ∧ ∀ k, Fp b mv tv fv k → P k ∨ w.heap.size ≤ k
theorem OnC.start {w : World} {N b : Nat} {s : St} {L : List (Cl × An)} {tk fl : List Int} {lv mv tv fv : Value} (h : isC w N b s L tk fl lv mv tv fv) : OnC w (Fp b mv tv fv) N b s L tk fl w := ⟨lv, mv, tv, fv, h, Fr.refl _ _, fun k hk => .inl hk⟩
/-- Steps, one behind the other. -/
theorem OnC.step {w W W' : World} {P Q : Nat → Prop} {N b : Nat} {s : St} {L : List (Cl × An)} {tk fl : List Int} (hF : Fr P w W) (hQ : ∀ k, Q k → P k ∨ w.heap.size ≤ k) (h : OnC W Q N b s L tk fl W') : OnC w P N b s L tk fl W' := by
  obtain ⟨lv, mv, tv, fv, hc, hf, hp⟩ := h
  refine ⟨lv, mv, tv, fv, hc, ⟨⟨hf.1.1.trans hF.1.1, hf.1.2.1.trans hF.1.2.1, hf.1.2.2.1.trans hF.1.2.2.1, Nat.le_trans hF.size hf.size⟩, fun k o ho hk => hf.2 k o (hF.2 k o ho hk) (fun hq => ?_)⟩, fun k hk => ?_⟩
  · have hl := (Array.getElem?_eq_some_iff.1 ho).1
    rcases hQ k hq with h | h
    · exact hk h
    · omega
  · rcases hp k hk with h | h
    · exact hQ k h
    · exact .inr (Nat.le_trans hF.size h)
theorem OnC.from {w W W' : World} {P : Nat → Prop} {N b : Nat} {s : St} {L : List (Cl × An)} {tk fl : List Int} (hb : Below w.heap.size w W) (h : OnC W P N b s L tk fl W') : OnC w P N b s L tk fl W' :=
  OnC.step (Fr.of_below hb) (fun k hk => .inl hk) h
end Go.Proofs.YtkigeegahepnaaaGreatDoor

namespace Go.Proofs.YtkigeegahepnaaaGreatDoor
open Go.RowKit Go.Shelf

theorem isVas_all {W : World} {B : Nat → Prop} : ∀ (l : List V) (a : Addr), (∀ i (h : i < l.length), ∃ c0 c1 c2 c3 c4 c5, W.cell? (a.add (i * 6)) = some c0 ∧ W.cell? (a.add (i * 6 + 1)) = some c1 ∧ W.cell? (a.add (i * 6 + 2)) = some c2 ∧ W.cell? (a.add (i * 6 + 3)) = some c3 ∧ W.cell? (a.add (i * 6 + 4)) = some c4 ∧ W.cell? (a.add (i * 6 + 5)) = some c5 ∧ isVa W B l[i] (.agg #[c0, c1, c2, c3, c4, c5])) → isVas W B l a
  | [], a, _ => by unfold isVas; trivial
  | x :: t, a, h => by
    unfold isVas
    have e : a.add 0 = a := by simp [Addr.add]
    refine ⟨?_, isVas_all t (a.add 6) (fun i hi => ?_)⟩
    · obtain ⟨c0, c1, c2, c3, c4, c5, g0, g1, g2, g3, g4, g5, hx⟩ := h 0 (by simp)
      simp only [Nat.zero_mul, Nat.zero_add, e] at g0 g1 g2 g3 g4 g5
      exact ⟨c0, c1, c2, c3, c4, c5, g0, g1, g2, g3, g4, g5, hx⟩
    · obtain ⟨c0, c1, c2, c3, c4, c5, g0, g1, g2, g3, g4, g5, hx⟩ := h (i + 1) (by simpa using hi)
      refine ⟨c0, c1, c2, c3, c4, c5, ?_, ?_, ?_, ?_, ?_, ?_, hx⟩
      · rw [add_add, show 6 + i * 6 = (i + 1) * 6 by omega]; exact g0
      · rw [add_add, show 6 + (i * 6 + 1) = (i + 1) * 6 + 1 by omega]; exact g1
      · rw [add_add, show 6 + (i * 6 + 2) = (i + 1) * 6 + 2 by omega]; exact g2
      · rw [add_add, show 6 + (i * 6 + 3) = (i + 1) * 6 + 3 by omega]; exact g3
      · rw [add_add, show 6 + (i * 6 + 4) = (i + 1) * 6 + 4 by omega]; exact g4
      · rw [add_add, show 6 + (i * 6 + 5) = (i + 1) * 6 + 5 by omega]; exact g5
/-- A row of values of the call's own; each reads as the list says. -/
def Vro (W : World) (B : Nat → Prop) (l : List V) (g cap : Nat) : Prop := ∃ f, W.rowIs g 97 (cap * 6) f ∧ ∀ i (h : i < l.length), isVa W B l[i] (.agg #[f (i * 6), f (i * 6 + 1), f (i * 6 + 2), f (i * 6 + 3), f (i * 6 + 4), f (i * 6 + 5)])
theorem Vro.of {W : World} {B : Nat → Prop} {l : List V} {g cap : Nat} {f : Nat → Value} (hr : W.rowIs g 97 (cap * 6) f) (hl : l.length ≤ cap) (h : isVas W B l ⟨g, 0, none⟩) : Vro W B l g cap := by
  refine ⟨f, hr, fun i hi => ?_⟩
  obtain ⟨c0, c1, c2, c3, c4, c5, g0, g1, g2, g3, g4, g5, hx⟩ := isVas_get l _ i hi h
  rw [add0'] at g0 g1 g2 g3 g4 g5
  have c := fun k (hk : k < 6) => hr.cell (show i * 6 + k < cap * 6 by omega)
  have k0 := c 0 (by omega)
  rw [Nat.add_zero] at k0
  rw [k0] at g0
  rw [c 1 (by omega)] at g1
  rw [c 2 (by omega)] at g2
  rw [c 3 (by omega)] at g3
  rw [c 4 (by omega)] at g4
  rw [c 5 (by omega)] at g5
  rw [Option.some.inj g0, Option.some.inj g1, Option.some.inj g2, Option.some.inj g3, Option.some.inj g4, Option.some.inj g5]
  exact hx
theorem Vro.vas {W : World} {B : Nat → Prop} {l : List V} {g cap : Nat} (h : Vro W B l g cap) (hl : l.length ≤ cap) : isVas W B l ⟨g, 0, none⟩ := by
  obtain ⟨f, hr, hf⟩ := h
  refine isVas_all l _ (fun i hi => ?_)
  have c := fun k (hk : k < 6) => hr.cell (show i * 6 + k < cap * 6 by omega)
  have k0 := c 0 (by omega)
  rw [Nat.add_zero] at k0
  simp only [add0']
  exact ⟨_, _, _, _, _, _, k0, c 1 (by omega), c 2 (by omega), c 3 (by omega), c 4 (by omega), c 5 (by omega), hf i hi⟩
theorem Vro.keep {W W' : World} {B : Nat → Prop} {l : List V} {g cap : Nat} (h : Vro W B l g cap) (hc : ∀ a c, B a.block → W.cell? a = some c → W'.cell? a = some c) (hg : W'.heap[g]? = W.heap[g]?) : Vro W' B l g cap := by
  obtain ⟨f, hr, hf⟩ := h
  exact ⟨f, hr.of_block hg, fun i hi => isVa_keep hc _ _ (hf i hi)⟩
/-- What lies there as the copy is made: the value's box, the result's, the two new rows. -/
structure CV (w : World) (P : Nat → Prop) (k : Int) (b : Bool) (n : Int) (s : ByteArray) (l : List V) (ks : List ByteArray) (ol : Option Addr) (gL capL : Nat) (ok : Option Addr) (gK capK : Nat) (W : World) : Prop where
  bel : Below w.heap.size w W
  sz : w.heap.size + 2 ≤ W.heap.size
  box : W.heap[w.heap.size]? = some (.cells #[.int .i8 k, .bool b, .int .i64 n, .string s, .slice ol l.length capL, .slice ok ks.length capK] 97 (0, 0))
  res : W.heap[w.heap.size + 1]? = some (.cells #[.int .i8 0, .bool false, .int .i64 0, .string ⟨#[]⟩, .slice none 0 0, .slice none 0 0] 97 (0, 0))
  cL : l.length ≤ capL ∧ capL ≤ maxLen
  row : 0 < l.length → ol = some ⟨gL, 0, none⟩ ∧ w.heap.size + 2 ≤ gL ∧ gL < W.heap.size ∧ Vro W (fun q => P q ∧ q ≠ gL ∧ q ≠ w.heap.size ∧ q ≠ w.heap.size + 1) l gL capL
  kys : isKa W (fun q => P q ∧ q ≠ w.heap.size ∧ q ≠ w.heap.size + 1 ∧ (0 < l.length → q ≠ gL)) ks (.slice ok ks.length capK)
theorem CV.below {w : World} {P : Nat → Prop} {k : Int} {b : Bool} {n : Int} {s : ByteArray} {l : List V} {ks : List ByteArray} {ol : Option Addr} {gL capL : Nat} {ok : Option Addr} {gK capK : Nat} {W W' : World} (h : CV w P k b n s l ks ol gL capL ok gK capK W) (hb : Below W.heap.size W W') : CV w P k b n s l ks ol gL capL ok gK capK W' := by
  have hz := h.sz
  refine ⟨h.bel.trans (hb.mono h.bel.size), Nat.le_trans hz hb.size, (hb.block _ (by omega)).trans h.box, (hb.block _ (by omega)).trans h.res, h.cL, fun h0 => ?_, isKa_keep (fun a c _ hc => cell_below hb _ _ hc) h.kys⟩
  obtain ⟨e, h1, h2, h3⟩ := h.row h0
  exact ⟨e, h1, Nat.lt_of_lt_of_le h2 hb.size, h3.keep (fun a c _ hc => cell_below hb _ _ hc) (hb.block _ h2)⟩
/-- A part is put in the place of itself. -/
theorem CV.set {w : World} {P : Nat → Prop} {k : Int} {b : Bool} {n : Int} {s : ByteArray} {l : List V} {ks : List ByteArray} {ol : Option Addr} {gL capL : Nat} {ok : Option Addr} {gK capK : Nat} {W : World} (h : CV w P k b n s l ks ol gL capL ok gK capK W) (j : Nat) (hj : j < l.length) (c0 c1 c2 c3 c4 c5 : Value) (hc : ∀ u ∈ [c0, c1, c2, c3, c4, c5], u.oneCell' = true)
    (hv : isVa W (fun q => P q ∧ q ≠ gL ∧ q ≠ w.heap.size ∧ q ≠ w.heap.size + 1) l[j] (.agg #[c0, c1, c2, c3, c4, c5])) :
    ∃ w1 w2 w3 w4 w5 w6, ((∃ u, W.cell? ⟨gL, j * 6, none⟩ = some u) ∧ W.frozen? ⟨gL, j * 6, none⟩ = false ∧ W.setCell ⟨gL, j * 6, none⟩ c0 = w1) ∧ ((∃ u, w1.cell? ⟨gL, j * 6 + 1, none⟩ = some u) ∧ w1.frozen? ⟨gL, j * 6 + 1, none⟩ = false ∧ w1.setCell ⟨gL, j * 6 + 1, none⟩ c1 = w2) ∧ ((∃ u, w2.cell? ⟨gL, j * 6 + 2, none⟩ = some u) ∧ w2.frozen? ⟨gL, j * 6 + 2, none⟩ = false ∧ w2.setCell ⟨gL, j * 6 + 2, none⟩ c2 = w3) ∧ ((∃ u, w3.cell? ⟨gL, j * 6 + 3, none⟩ = some u) ∧ w3.frozen? ⟨gL, j * 6 + 3, none⟩ = false ∧ w3.setCell ⟨gL, j * 6 + 3, none⟩ c3 = w4) ∧ ((∃ u, w4.cell? ⟨gL, j * 6 + 4, none⟩ = some u) ∧ w4.frozen? ⟨gL, j * 6 + 4, none⟩ = false ∧ w4.setCell ⟨gL, j * 6 + 4, none⟩ c4 = w5) ∧ ((∃ u, w5.cell? ⟨gL, j * 6 + 5, none⟩ = some u) ∧ w5.frozen? ⟨gL, j * 6 + 5, none⟩ = false ∧ w5.setCell ⟨gL, j * 6 + 5, none⟩ c5 = w6) ∧
      CV w P k b n s l ks ol gL capL ok gK capK w6 := by
  obtain ⟨e, h1, h2, f, hr, hf⟩ := h.row (by omega)
  have hcl := h.cL.1
  obtain ⟨w1, w2, w3, w4, w5, w6, f', s1, s2, s3, s4, s5, s6, hr6, hg6, u0, u1, u2, u3, u4, u5, hold⟩ := store_six3 hr (j * 6) (by omega) c0 c1 c2 c3 c4 c5
  refine ⟨w1, w2, w3, w4, w5, w6, s1, s2, s3, s4, s5, s6, ?_⟩
  have hk : ∀ (a : Addr) c, a.block ≠ gL → W.cell? a = some c → w6.cell? a = some c := fun a c ha hc => hg6.cell hc (fun e => ha (Option.some.inj e))
  have hz := h.sz
  have hs := h.bel.size
  refine ⟨h.bel.grown hg6 hs (fun r e => by cases e; omega), Nat.le_trans hz hg6.size, (hg6.block _ (by omega) (fun e => by have := Option.some.inj e; omega)).trans h.box, (hg6.block _ (by omega) (fun e => by have := Option.some.inj e; omega)).trans h.res, h.cL, fun _ => ⟨e, h1, Nat.lt_of_lt_of_le h2 hg6.size, f', hr6, fun i hi => ?_⟩, isKa_keep (fun a c ha hc => hk a c (ha.2.2.2 (by omega)) hc) h.kys⟩
  by_cases eij : i = j
  · subst eij
    rw [u0, u1, u2, u3, u4, u5]
    exact isVa_keep (fun a c ha hc => hk a c ha.2.1 hc) _ _ hv
  · have ho : ∀ m, m < 6 → f' (i * 6 + m) = f (i * 6 + m) := fun m hm => hold _ (by
      by_cases e2 : i < j
      · exact .inl (by omega)
      · exact .inr (by omega))
    have o0 := ho 0 (by omega)
    rw [Nat.add_zero] at o0
    rw [o0, ho 1 (by omega), ho 2 (by omega), ho 3 (by omega), ho 4 (by omega), ho 5 (by omega)]
    exact isVa_keep (fun a c ha hc => hk a c ha.2.1 hc) _ _ (hf i hi)
/-- The value's box is read back into the result's. -/
theorem CV.ends {w : World} {P : Nat → Prop} {k : Int} {b : Bool} {n : Int} {s : ByteArray} {l : List V} {ks : List ByteArray} {ol : Option Addr} {gL capL : Nat} {ok : Option Addr} {gK capK : Nat} {W : World} (h : CV w P k b n s l ks ol gL capL ok gK capK W) (hP : ∀ q, w.heap.size ≤ q → P q) (hk : (-128 ≤ k ∧ k ≤ 127)) (hn : (-9223372036854775808 ≤ n ∧ n ≤ 9223372036854775807)) (hs : s.size ≤ maxLen) :
    ∃ x1 x2 x3 x4 x5 x6, ((∃ u, W.cell? ⟨w.heap.size + 1, 0, none⟩ = some u) ∧ W.frozen? ⟨w.heap.size + 1, 0, none⟩ = false ∧ W.setCell ⟨w.heap.size + 1, 0, none⟩ (.int .i8 k) = x1) ∧ ((∃ u, x1.cell? ⟨w.heap.size + 1, 1, none⟩ = some u) ∧ x1.frozen? ⟨w.heap.size + 1, 1, none⟩ = false ∧ x1.setCell ⟨w.heap.size + 1, 1, none⟩ (.bool b) = x2) ∧ ((∃ u, x2.cell? ⟨w.heap.size + 1, 2, none⟩ = some u) ∧ x2.frozen? ⟨w.heap.size + 1, 2, none⟩ = false ∧ x2.setCell ⟨w.heap.size + 1, 2, none⟩ (.int .i64 n) = x3) ∧ ((∃ u, x3.cell? ⟨w.heap.size + 1, 3, none⟩ = some u) ∧ x3.frozen? ⟨w.heap.size + 1, 3, none⟩ = false ∧ x3.setCell ⟨w.heap.size + 1, 3, none⟩ (.string s) = x4) ∧ ((∃ u, x4.cell? ⟨w.heap.size + 1, 4, none⟩ = some u) ∧ x4.frozen? ⟨w.heap.size + 1, 4, none⟩ = false ∧ x4.setCell ⟨w.heap.size + 1, 4, none⟩ (.slice ol l.length capL) = x5) ∧ ((∃ u, x5.cell? ⟨w.heap.size + 1, 5, none⟩ = some u) ∧ x5.frozen? ⟨w.heap.size + 1, 5, none⟩ = false ∧ x5.setCell ⟨w.heap.size + 1, 5, none⟩ (.slice ok ks.length capK) = x6) ∧
      Hid ((x6.cell? ⟨w.heap.size + 1, 0, none⟩ = some (.int .i8 k) ∧ x6.cell? ⟨w.heap.size + 1, 1, none⟩ = some (.bool b) ∧ x6.cell? ⟨w.heap.size + 1, 2, none⟩ = some (.int .i64 n) ∧ x6.cell? ⟨w.heap.size + 1, 3, none⟩ = some (.string s) ∧ x6.cell? ⟨w.heap.size + 1, 4, none⟩ = some (.slice ol l.length capL) ∧ x6.cell? ⟨w.heap.size + 1, 5, none⟩ = some (.slice ok ks.length capK)) ∧
        isVa x6 P (.mk k b n s l ks) (.agg #[.int .i8 k, .bool b, .int .i64 n, .string s, .slice ol l.length capL, .slice ok ks.length capK]) ∧ Below w.heap.size w x6) := by
  obtain ⟨x1, x2, x3, x4, x5, x6, f', s1, s2, s3, s4, s5, s6, hr6, hg6, u0, u1, u2, u3, u4, u5, -⟩ := store_six3 (rowIs_six h.res) 0 (by decide) (.int .i8 k) (.bool b) (.int .i64 n) (.string s) (.slice ol l.length capL) (.slice ok ks.length capK)
  simp only [Nat.zero_add] at s2 s3 s4 s5 s6 u1 u2 u3 u4 u5
  have d := fun i (hi : i < 6) => hr6.cell hi
  have d0 := d 0 (by omega)
  have d1 := d 1 (by omega)
  have d2 := d 2 (by omega)
  have d3 := d 3 (by omega)
  have d4 := d 4 (by omega)
  have d5 := d 5 (by omega)
  rw [u0] at d0
  rw [u1] at d1
  rw [u2] at d2
  rw [u3] at d3
  rw [u4] at d4
  rw [u5] at d5
  have hkk : ∀ (a : Addr) c, a.block ≠ w.heap.size + 1 → W.cell? a = some c → x6.cell? a = some c := fun a c ha hc => hg6.cell hc (fun e => ha (Option.some.inj e))
  refine ⟨x1, x2, x3, x4, x5, x6, s1, s2, s3, s4, s5, s6, Lib.hid ⟨⟨d0, d1, d2, d3, d4, d5⟩, ?_, h.bel.grown hg6 h.bel.size (fun r e => by cases e; omega)⟩⟩
  unfold isVa
  have hKS := isKa_mono (fun q hq => hq.1) (isKa_keep (fun a c ha hc => hkk a c ha.2.2.1 hc) h.kys)
  refine ⟨_, _, rfl, hk, hn, hs, ?_, hKS⟩
  rcases Nat.eq_zero_or_pos l.length with h0 | h0
  · obtain rfl := List.eq_nil_of_length_eq_zero h0
    exact ⟨⟨0, 0, none⟩, capL, ⟨ol, rfl, Nat.zero_le _, h.cL.2, fun h => absurd h (by simp)⟩, fun h => absurd h (by simp), by unfold isVas; trivial⟩
  · obtain ⟨e, h1, h2, h3⟩ := h.row h0
    refine ⟨⟨gL, 0, none⟩, capL, ⟨ol, rfl, h.cL.1, h.cL.2, fun _ => e⟩, fun _ => hP _ (show w.heap.size ≤ gL by omega), ?_⟩
    exact (isVas_mono (fun q hq => hq.1) _ _ (Vro.vas (h3.keep (fun a c ha hc => hkk a c ha.2.2.2 hc) (hg6.block _ h2 (fun e => by have := Option.some.inj e; omega))) h.cL.1))
end Go.Proofs.YtkigeegahepnaaaGreatDoor

namespace Go.Proofs.YtkigeegahepnaaaGreatDoor
open Go.RowKit Go.Shelf

/-- Both clones are made and stored: what lies there then. -/
theorem CV.start {w w3 w4 y2 W1 : World} {P : Nat → Prop} {k n : Int} {b : Bool} {s : ByteArray} {l : List V} {ks : List ByteArray} {o o2 : Option Addr} {cap cap2 : Nat} {ol okk : Option Addr} {gL capL gK capK lo lo2 : Nat}
    (hP : ∀ q, w.heap.size ≤ q → P q) (h : isVa w (fun q => P q ∧ q < w.heap.size) (.mk k b n s l ks) (.agg #[.int .i8 k, .bool b, .int .i64 n, .string s, .slice o l.length cap, .slice o2 ks.length cap2]))
    (hB0 : KB w W1) (hz : w.heap.size + 2 ≤ lo) (hlo : W1.heap.size ≤ lo) (h3 : Below W1.heap.size W1 w3) (hz2 : w3.heap.size ≤ lo2) (h4 : Below w3.heap.size w3 w4)
    (hcl : Cln w3 lo 97 6 o l.length ol gL capL) (hck : Cln w4 lo2 9 1 o2 ks.length okk gK capK)
    (hr : W1.heap[w.heap.size + 1]? = some (.cells #[.int .i8 0, .bool false, .int .i64 0, .string ⟨#[]⟩, .slice none 0 0, .slice none 0 0] 97 (0, 0))) (hsz : W1.heap.size = w.heap.size + 2)
    (hy : y2.heap[w.heap.size]? = some (.cells #[.int .i8 k, .bool b, .int .i64 n, .string s, .slice ol l.length capL, .slice okk ks.length capK] 97 (0, 0))) (hg : w4.grownBy y2 (some w.heap.size)) :
    CV w P k b n s l ks ol gL capL okk gK capK y2 := by
  have z3 := h3.size
  have z4 := h4.size
  have zy := hg.size
  have b4 : KB w w4 := hB0.trans ((h3.trans (h4.mono h3.size)).mono hB0.size)
  have b3 : KB w w3 := hB0.trans (h3.mono hB0.size)
  unfold isVa at h
  obtain ⟨lv, kv, e, -, -, -, ⟨a, c1, ⟨o1, e1, -, -, ho⟩, hba, hvas⟩, hks⟩ := h
  simp only [Value.agg.injEq, Array.mk.injEq, List.cons.injEq, true_and, and_true] at e
  obtain ⟨rfl, rfl⟩ := e
  simp only [Value.slice.injEq, true_and] at e1
  obtain ⟨rfl, rfl⟩ := e1
  obtain ⟨cl1, cl2, hL⟩ := hcl
  obtain ⟨ck1, ck2, hK⟩ := hck
  have kk : ∀ (a : Addr) c, a.block ≠ w.heap.size → w4.cell? a = some c → y2.cell? a = some c := fun a c ha hc => hg.cell hc (fun e => ha (Option.some.inj e))
  refine ⟨b4.grown hg b4.size (fun r e => by cases e; exact Nat.le_refl _), by omega, hy, ?_, ⟨cl1, cl2⟩, fun h0 => ?_, ?_⟩
  · exact (hg.block _ (by omega) (fun e => by have := Option.some.inj e; omega)).trans ((h4.block _ (by omega)).trans ((h3.block _ (by omega)).trans hr))
  · obtain ⟨q1, q2, q3, ⟨f, q4⟩, q5⟩ := hL h0
    refine ⟨q1, by omega, by omega, ?_⟩
    have v3 : isVas w3 (fun q => P q ∧ q < w.heap.size) l ⟨gL, 0, none⟩ := isVas_moved l a _ (fun j hj => q5 a (ho h0) j hj) (isVas_keep (fun a c _ hc => cell_below b3 _ _ hc) l a hba hvas)
    have r3 := Vro.of q4 cl1 v3
    obtain ⟨f', r4, hf'⟩ := r3
    have r5 : Vro w3 (fun q => P q ∧ q ≠ gL ∧ q ≠ w.heap.size ∧ q ≠ w.heap.size + 1) l gL capL := ⟨f', r4, fun i hi => isVa_mono (fun q hq => ⟨hq.1, by have := hq.2; omega, by have := hq.2; omega, by have := hq.2; omega⟩) _ _ (hf' i hi)⟩
    refine r5.keep (fun a c ha hc => kk a c ha.2.2.1 (cell_below h4 _ _ hc)) ((hg.block _ (by omega) (fun e => by have := Option.some.inj e; omega)).trans (h4.block _ q3))
  · have k4 : isKa w4 (fun q => P q ∧ q ≠ w.heap.size ∧ q ≠ w.heap.size + 1 ∧ (0 < l.length → q ≠ gL)) ks (.slice o2 ks.length cap2) :=
      isKa_mono (fun q hq => ⟨hq.1, by have := hq.2; omega, by have := hq.2; omega, fun h0 => by have := hq.2; have := (hL h0).2.1; omega⟩) (isKa_keep (fun a c _ hc => cell_below b4 _ _ hc) hks)
    have k5 := isKa_moved (o' := okk) (c' := capK) (g := gK) ck1 ck2 (fun h0 => (hK h0).1) (fun h0 => ⟨hP _ (by have := (hK h0).2.1; omega), by have := (hK h0).2.1; omega, by have := (hK h0).2.1; omega, fun h0' => by have := (hK h0).2.1; have := (hL h0').2.2.1; omega⟩) (fun a ea j hj => (hK (by omega)).2.2.2.2 a ea j (by omega)) ks k4
    exact isKa_keep (fun a c ha hc => kk a c ha.2.1 hc) k5

set_option maxRecDepth 100000 in
set_option maxHeartbeats 8000000 in
theorem ccV_any : ∀ (N : Nat) (x : V) (v : Value) (w : World) (P : Nat → Prop), sizeV x ≤ N → N ≤ 1000000 → fineV x → (∀ q, w.heap.size ≤ q → P q) → isVa w (fun q => P q ∧ q < w.heap.size) x v →
    Calls Tryz.prog 71 #[v] w fun e w' => ∃ v', e = .returned v' ∧ isVa w' P x v' ∧ Below w.heap.size w w'
  | 0, x, v, w, P, hN, _, _, _, h => absurd (sizeV_pos x) (by omega)
  | N + 1, x, v, w, P, hN, hM, hF, hP, ha => by
    obtain ⟨kk, b, n, s, l, ks⟩ := x
    have ha' := ha
    unfold isVa at ha'
    obtain ⟨lv, kv, rfl, hkk, hn, hs, ⟨a, cap, ⟨o, rfl, hc1, hc2, ho⟩, hBa, hvas⟩, ⟨a2, cap2, ⟨o2, rfl, hc3, hc4, ho2⟩, hBk, hks⟩⟩ := ha'
    have HMK := Lib.hid (And.intro hkk (And.intro hn hs))
    have hll : l.length ≤ 1000000 := by have := sizeVs_len l; rw [sizeV] at hN; omega
    have hkl : ks.length ≤ 3000 := hF (.mk kk b n s l ks) (by rw [walkV]; exact List.mem_cons_self)
    have hB0 : KB w ((w.alloc (.cells #[.int .i8 kk, .bool b, .int .i64 n, .string s, .slice o l.length cap, .slice o2 ks.length cap2] 97)).alloc (.cells #[.int .i8 0, .bool false, .int .i64 0, .string ⟨#[]⟩, .slice none 0 0, .slice none 0 0] 97)) := by unfold KB; go_grown
    have bX : ((w.alloc (.cells #[.int .i8 kk, .bool b, .int .i64 n, .string s, .slice o l.length cap, .slice o2 ks.length cap2] 97)).alloc (.cells #[.int .i8 0, .bool false, .int .i64 0, .string ⟨#[]⟩, .slice none 0 0, .slice none 0 0] 97)).heap[w.heap.size]? = some (.cells #[.int .i8 kk, .bool b, .int .i64 n, .string s, .slice o l.length cap, .slice o2 ks.length cap2] 97 (0, 0)) := (Below.heap_alloc _ _ _ (by simp)).trans (World.alloc_heap_new w _)
    have bR := World.alloc_heap_new (w.alloc (.cells #[.int .i8 kk, .bool b, .int .i64 n, .string s, .slice o l.length cap, .slice o2 ks.length cap2] 97)) (.cells #[.int .i8 0, .bool false, .int .i64 0, .string ⟨#[]⟩, .slice none 0 0, .slice none 0 0] 97)
    have hsz : ((w.alloc (.cells #[.int .i8 kk, .bool b, .int .i64 n, .string s, .slice o l.length cap, .slice o2 ks.length cap2] 97)).alloc (.cells #[.int .i8 0, .bool false, .int .i64 0, .string ⟨#[]⟩, .slice none 0 0, .slice none 0 0] 97)).heap.size = w.heap.size + 2 := by simp
    rw [World.size_alloc] at bR
    have HA := Lib.hid ha
    have HP := Lib.hid hP
    have HF := Lib.hid hF
    clear ha hP hF hvas hBa hks hBk ho ho2 hkk hn hs
    go_enter Tryz.func71, Tryz.ntmps71
    go_wp2_with fail
    generalize hW1 : (w.alloc (.cells #[.int .i8 kk, .bool b, .int .i64 n, .string s, .slice o l.length cap, .slice o2 ks.length cap2] 97)).alloc (.cells #[.int .i8 0, .bool false, .int .i64 0, .string ⟨#[]⟩, .slice none 0 0, .slice none 0 0] 97) = W1 at *
    clear hW1
    have hxw : isVa W1 (fun q => P q ∧ q < w.heap.size) (.mk kk b n s l ks) (.agg #[.int .i8 kk, .bool b, .int .i64 n, .string s, .slice o l.length cap, .slice o2 ks.length cap2]) := isVa_keep (fun a c _ hc => cell_below hB0 _ _ hc) _ _ HA.out
    have CL : Hid (∀ w1, KB W1 w1 → Calls Tryz.prog 91 #[.slice o l.length cap] w1 fun e w' => (∃ ol g c, e = .returned (.slice ol l.length c) ∧ Cln w' w1.heap.size 97 6 o l.length ol g c) ∧ Below w1.heap.size w1 w') := Lib.hid fun w1 hK => clnL hxw hll w1 hK
    have CK : Hid (∀ w1, KB W1 w1 → Calls Tryz.prog 92 #[.slice o2 ks.length cap2] w1 fun e w' => (∃ ol g c, e = .returned (.slice ol ks.length c) ∧ Cln w' w1.heap.size 9 1 o2 ks.length ol g c) ∧ Below w1.heap.size w1 w') := Lib.hid fun w1 hK => clnK hxw (by omega) w1 hK
    have HXW := Lib.hid hxw
    have HB0 := Lib.hid hB0
    have HR := Lib.hid bR
    have HSZ := Lib.hid hsz
    have HBX := Lib.hid bX
    obtain ⟨r0, r1, r2, r3, r4, r5⟩ := six_cells bX
    clear hxw hB0 bX bR r0 r1 r2 r3 hsz
    go_region_with (first
      | (go_at_call 91; refine (CL.out _ ?_).mono ?_; exact drewB1 _ _; rintro e w3 ⟨⟨ol, gL, capL, rfl, hcl⟩, hb3⟩; have r5 := cell_below hb3 _ _ (show W1.drew.cell? ⟨w.heap.size, 5, none⟩ = _ from r5))
      | (go_at_call 92; refine (CK.out _ ?_).mono ?_; exact below_drew_of hb3; rintro e w4 ⟨⟨okk, gK, capK, rfl, hck⟩, hb4⟩; have bX4 := (hb4.block _ (by have := HSZ.out; have := (below_drew_of hb3).size; omega)).trans (((below_drew_of hb3).block _ (by have := HSZ.out; omega)).trans HBX.out); obtain ⟨y1, y2, ⟨⟨_, q1⟩, q1', q1''⟩, ⟨⟨_, q2⟩, q2', q2''⟩, hy2, hgy⟩ := box_set (.slice ol l.length capL) (.slice okk ks.length capK) bX4))
    all_goals
      have HC := Lib.hid (CV.start (y2 := y2) HP.out HA.out HB0.out (show w.heap.size + 2 ≤ W1.drew.heap.size from Nat.le_of_eq HSZ.out.symm) (Nat.le_refl _) (below_drew_of hb3) (Nat.le_refl _) hb4 hcl hck HR.out HSZ.out hy2 hgy)
      clear hb3 hb4 hcl hck hy2 hgy bX4 q1 q1' q1'' q2 q2' q2'' CL CK r4 r5
      obtain ⟨r0, r1, r2, r3, r4, r5⟩ := six_cells HC.out.box
      clear r0 r1 r2 r3 r5
      go_wp2_with fail
      go_loopw [16] (fun i wr => ∃ j : Nat, j ≤ l.length ∧ i = .int .i64 j ∧ Hid (CV w P kk b n s l ks ol gL capL okk gK capK wr)) (fun i _ => l.length - (intOf i).toNat)
      case atStart => exact ⟨0, by omega, rfl, HC⟩
      case round =>
        obtain ⟨j, hj, rfl, hC⟩ := hrel
        clear HC r4
        by_cases hlt : j < l.length
        · obtain ⟨rfl, hg1, hg2, f, hf1, hf2⟩ := hC.out.row (by omega)
          have hcl := hC.out.cL
          unfold maxLen at hcl
          have hv := hf2 j hlt
          have e0 := hf1.cell (show j * 6 < capL * 6 by omega)
          have e1 := hf1.cell (show j * 6 + 1 < capL * 6 by omega)
          have e2 := hf1.cell (show j * 6 + 2 < capL * 6 by omega)
          have e3 := hf1.cell (show j * 6 + 3 < capL * 6 by omega)
          have e4 := hf1.cell (show j * 6 + 4 < capL * 6 by omega)
          have e5 := hf1.cell (show j * 6 + 5 < capL * 6 by omega)
          obtain ⟨k', b', n', s', o1, m1, p1, o3, m3, p3, hag⟩ := isV_six (isV_of_a _ _ hv)
          rw [hag] at hv
          simp only [Value.agg.injEq, Array.mk.injEq, List.cons.injEq, and_true] at hag
          obtain ⟨a0, a1, a2', a3, a4, a5⟩ := hag
          rw [a0] at e0
          rw [a1] at e1
          rw [a2'] at e2
          rw [a3] at e3
          rw [a4] at e4
          rw [a5] at e5
          have HI : Hid (∀ w1, KB wr w1 → Calls Tryz.prog 71 #[.agg #[.int .i8 k', .bool b', .int .i64 n', .string s', .slice o1 m1 p1, .slice o3 m3 p3]] w1 fun e w' => ∃ v', e = .returned v' ∧ isVa w' (fun q => P q ∧ q ≠ gL ∧ q ≠ w.heap.size ∧ q ≠ w.heap.size + 1) l[j] v' ∧ Below w1.heap.size w1 w') := Lib.hid fun w1 hK => ccV_any N l[j] _ w1 (fun q => P q ∧ q ≠ gL ∧ q ≠ w.heap.size ∧ q ≠ w.heap.size + 1) (by have := sizeVs_get l j hlt; rw [sizeV] at hN; omega) (by omega) (fun z hz => HF.out z (walk_part (List.getElem_mem hlt) rfl z hz))
            (fun q hq => ⟨HP.out q (by have := hC.out.bel.size; have := hK.size; omega), by have := hK.size; omega, by have := hK.size; omega, by have := hK.size; omega⟩) (isVa_mono (fun q hq => ⟨hq.1, by have := hq.2; have := hK.size; omega⟩) _ _ (isVa_keep (fun a c _ hc => cell_below hK _ _ hc) _ _ (isVa_lt _ _ hv)))
          obtain ⟨b0, b1, b2, b3, b4, b5⟩ := six_cells hC.out.box
          have hA1 : KB wr (wr.alloc (.cells #[.int .i8 k', .bool b', .int .i64 n', .string s', .slice o1 m1 p1, .slice o3 m3 p3] 97)) := kbA
          have n1 := World.alloc_heap_new wr (.cells #[.int .i8 k', .bool b', .int .i64 n', .string s', .slice o1 m1 p1, .slice o3 m3 p3] 97)
          have b4w := cell_below hA1 _ _ b4
          have hC1 := hC.out.below hA1
          have hz1 : (wr.alloc (.cells #[.int .i8 k', .bool b', .int .i64 n', .string s', .slice o1 m1 p1, .slice o3 m3 p3] 97)).heap.size = wr.heap.size + 1 := by simp
          have HC1 := Lib.hid hC1
          have HA1 := Lib.hid hA1
          have HN1 := Lib.hid n1
          have HZ1 := Lib.hid hz1
          have HB4 := Lib.hid b4w
          clear hf1 hf2 a0 a1 a2' a3 a4 a5 hv hC b0 b1 b2 b3 b5 hC1 hA1 n1 hz1 b4w
          generalize hxj : l[j] = xj at *
          have HXJ := Lib.hid hxj
          clear hxj
          go_wp2_with fail
          generalize hWr : wr.alloc (.cells #[.int .i8 k', .bool b', .int .i64 n', .string s', .slice o1 m1 p1, .slice o3 m3 p3] 97) = Wr at *
          clear hWr e0 e1 e2 e3 e4 e5 b4
          obtain ⟨t0, t1, t2, t3, t4, t5⟩ := six_cells HN1.out
          have b4w := HB4.out
          trace_state
          go_region_with (go_at_call 71; refine (HI.out _ (HA1.out.trans (drewB1 _ _))).mono ?_; rintro e w6 ⟨v6, rfl, hva, hb6⟩; obtain ⟨k6, b6, n6, s6, o6, m6, p6, o7, m7, p7, rfl⟩ := isV_six (isV_of_a _ _ hva); have b4w := cell_below hb6 _ _ (show Wr.drew.cell? ⟨w.heap.size, 4, none⟩ = _ from b4w); obtain ⟨w1, w2, w3, w4, w5, w7, ⟨⟨_, q1⟩, q1', q1''⟩, ⟨⟨_, q2⟩, q2', q2''⟩, ⟨⟨_, q3⟩, q3', q3''⟩, ⟨⟨_, q4⟩, q4', q4''⟩, ⟨⟨_, q5⟩, q5', q5''⟩, ⟨⟨_, q6⟩, q6', q6''⟩, hCn⟩ := (HC1.out.below (below_drew_of hb6)).set j hlt (.int .i8 k6) (.bool b6) (.int .i64 n6) (.string s6) (.slice o6 m6 p6) (.slice o7 m7 p7) (by simp [Value.oneCell']) (by rw [HXJ.out]; exact hva))
          all_goals
            have HCn := Lib.hid hCn
            clear hCn hva hb6 q1 q1' q1'' q2 q2' q2'' q3 q3' q3'' q4 q4' q4'' q5 q5' q5'' q6 q6' q6'' b4w t0 t1 t2 t3 t4 t5 HI HC1
            go_wp2_with fail
            go_roundw
            case rel => exact ⟨j + 1, by omega, by go_num, HCn⟩
            case measure => simp [intOf]; omega
        · obtain rfl : j = l.length := by omega
          obtain ⟨x1, x2, x3, x4, x5, x6, ⟨⟨_, q1⟩, q1', q1''⟩, ⟨⟨_, q2⟩, q2', q2''⟩, ⟨⟨_, q3⟩, q3', q3''⟩, ⟨⟨_, q4⟩, q4', q4''⟩, ⟨⟨_, q5⟩, q5', q5''⟩, ⟨⟨_, q6⟩, q6', q6''⟩, HD⟩ := hC.out.ends HP.out HMK.out.1 HMK.out.2.1 HMK.out.2.2
          obtain ⟨b0, b1, b2, b3, b4, b5⟩ := six_cells hC.out.box
          clear hC
          go_wp2_with fail
          obtain ⟨⟨d0, d1, d2, d3, d4, d5⟩, hx, hb⟩ := HD.out
          refine bodyPost_ret (v := .agg #[.int .i8 kk, .bool b, .int .i64 n, .string s, .slice ol l.length capL, .slice okk ks.length capK]) (by simp [results, Tryz.results71, go_sem, d0, d1, d2, d3, d4, d5]) rfl ?_
          exact ⟨_, rfl, hx, hb⟩
end Go.Proofs.YtkigeegahepnaaaGreatDoor
