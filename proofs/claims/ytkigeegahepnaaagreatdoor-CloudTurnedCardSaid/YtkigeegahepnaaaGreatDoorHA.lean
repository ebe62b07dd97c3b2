/-
  Clouds, plain: what Submit and End do; what a cloud keeps to. · Clouds in memory: steps. · How many entries a map keyed by numbers has. · Values that may be have no keys: what is read of them lies in no box of a call's own. · The cloud's effect and take. · The cloud's take. · What is wrong with a call.
-/
import Derived.Test.YtkigeegahepnaaaGreatDoorGR
import Derived.Test.YtkigeegahepnaaaGreatDoorGT
import Derived.Test.YtkigeegahepnaaaGreatDoorGU
import Derived.Test.YtkigeegahepnaaaGreatDoorHG
import Derived.Deep.RegionWith
import Derived.Deep.RegionHeld3
import Derived.Deep.Cut
import Derived.Deep.CutBlock
import Derived.Deep.CutRange
import Derived.Deep.DeepCutAuto
import Derived.Test.YtkigeegahepnaaaGreatDoorGW
set_option linter.unusedVariables false
set_option linter.unusedSimpArgs false
namespace Go.Proofs.YtkigeegahepnaaaGreatDoor
open Go.RowKit

noncomputable def wrongC (x : Cl) : Int := if mayNotB x = true then 2 else if x.kd = 2 then 0 else checkL x.ty x.ps
noncomputable def submitC (c : CSt) (x : Cl) : CSt × Int :=
  if wrongC x = 0 then (if (findC c.L x.tok).isSome = true then (c, 0) else (⟨c.s, c.L ++ [(x, zAn)], c.fl ++ [x.tok]⟩, 0)) else (c, wrongC x)
noncomputable def effectL (s : St) (x : Cl) : St × ByteArray × Int :=
  if x.kd = 0 then createL s x.ty x.ps else if x.kd = 1 then ((updateL s x.ph x.ps).1, ⟨#[]⟩, (updateL s x.ph x.ps).2) else ((deleteL s x.ph).1, ⟨#[]⟩, (deleteL s x.ph).2)
noncomputable def takeL (s : St) (x : Cl) : St × An :=
  if (effectL s x).2.2 = 0 then ((effectL s x).1, ⟨true, true, (effectL s x).2.1⟩) else (s, ⟨true, false, ⟨#[]⟩⟩)
noncomputable def endA (s : St) (x : Cl) (well : Bool) : St × An := if well = true then takeL s x else (s, ⟨true, false, ⟨#[]⟩⟩)
noncomputable def endC (c : CSt) (k : Int) (well : Bool) : CSt × Int × An × Int :=
  if 0 ≤ k ∧ k < c.fl.length then
    (⟨(endA c.s ((findC c.L (c.fl.getD k.toNat 0)).getD (zCl, zAn)).1 well).1, setA c.L (c.fl.getD k.toNat 0) (endA c.s ((findC c.L (c.fl.getD k.toNat 0)).getD (zCl, zAn)).1 well).2, c.fl.take k.toNat ++ c.fl.drop (k.toNat + 1)⟩,
      c.fl.getD k.toNat 0, (endA c.s ((findC c.L (c.fl.getD k.toNat 0)).getD (zCl, zAn)).1 well).2, 0)
  else (c, 0, zAn, 4)
/-! What a cloud keeps to. -/
def fineX (x : Cl) : Prop := greatG x.ps = false ∧ x.ty.size ≤ 200 ∧ x.ph.size ≤ 200 ∧ okZ x.tok ∧ (-128 ≤ x.kd ∧ x.kd ≤ 127)
structure goodC (c : CSt) (n : Nat) : Prop where
  len : c.L.length ≤ n
  okS : okS c.s
  fine : ∀ t ∈ c.s.l, t.ty.size ≤ 400 ∧ fineG t.ps
  slen : c.s.l.length + c.fl.length ≤ c.L.length
  made : c.s.made + c.fl.length ≤ c.L.length
  uniq : c.L.Pairwise (fun p q => p.1.tok ≠ q.1.tok)
  calls : ∀ p ∈ c.L, fineX p.1 ∧ wrongC p.1 = 0
  fl : ∀ z ∈ c.fl, ∃ p ∈ c.L, p.1.tok = z ∧ p.2 = zAn
  flu : c.fl.Nodup
  out : ∀ p ∈ c.L, p.2.en = false → p.1.tok ∈ c.fl
end Go.Proofs.YtkigeegahepnaaaGreatDoor

namespace Go.Proofs.YtkigeegahepnaaaGreatDoor
open Go.RowKit Go.Maps

theorem box_five {w : World} {b : Nat} {c0 c1 c2 c3 c4 : Value} {t : TypeId} (h : w.heap[b]? = some (.cells #[c0, c1, c2, c3, c4] t (0, 0))) (u : Value) :
    (∃ y, ((∃ u, w.cell? ⟨b, 2, none⟩ = some u) ∧ w.frozen? ⟨b, 2, none⟩ = false ∧ w.setCell ⟨b, 2, none⟩ u = y) ∧ y.heap[b]? = some (.cells #[c0, c1, u, c3, c4] t (0, 0)) ∧ w.grownBy y (some b)) ∧
    (∃ y, ((∃ u, w.cell? ⟨b, 3, none⟩ = some u) ∧ w.frozen? ⟨b, 3, none⟩ = false ∧ w.setCell ⟨b, 3, none⟩ u = y) ∧ y.heap[b]? = some (.cells #[c0, c1, c2, u, c4] t (0, 0)) ∧ w.grownBy y (some b)) ∧
    (∃ y, ((∃ u, w.cell? ⟨b, 4, none⟩ = some u) ∧ w.frozen? ⟨b, 4, none⟩ = false ∧ w.setCell ⟨b, 4, none⟩ u = y) ∧ y.heap[b]? = some (.cells #[c0, c1, c2, c3, u] t (0, 0)) ∧ w.grownBy y (some b)) := by
  have g := rowIs_five h
  refine ⟨⟨_, ⟨⟨_, g.cell (show 2 < 5 by decide)⟩, g.frozen _, rfl⟩, by simp [World.setCell, Array.getElem?_modify, h], grown_set _ _ _ _⟩, ⟨_, ⟨⟨_, g.cell (show 3 < 5 by decide)⟩, g.frozen _, rfl⟩, by simp [World.setCell, Array.getElem?_modify, h], grown_set _ _ _ _⟩, ⟨_, ⟨⟨_, g.cell (show 4 < 5 by decide)⟩, g.frozen _, rfl⟩, by simp [World.setCell, Array.getElem?_modify, h], grown_set _ _ _ _⟩⟩
theorem box_five01 {w : World} {b : Nat} {c0 c1 c2 c3 c4 : Value} {t : TypeId} (h : w.heap[b]? = some (.cells #[c0, c1, c2, c3, c4] t (0, 0))) (u0 u1 : Value) :
    ∃ y1 y2, ((∃ u, w.cell? ⟨b, 0, none⟩ = some u) ∧ w.frozen? ⟨b, 0, none⟩ = false ∧ w.setCell ⟨b, 0, none⟩ u0 = y1) ∧ ((∃ u, y1.cell? ⟨b, 1, none⟩ = some u) ∧ y1.frozen? ⟨b, 1, none⟩ = false ∧ y1.setCell ⟨b, 1, none⟩ u1 = y2) ∧ y2.heap[b]? = some (.cells #[u0, u1, c2, c3, c4] t (0, 0)) ∧ w.grownBy y2 (some b) := by
  have g := rowIs_five h
  have h1 : (w.setCell ⟨b, 0, none⟩ u0).heap[b]? = some (.cells #[u0, c1, c2, c3, c4] t (0, 0)) := by simp [World.setCell, Array.getElem?_modify, h]
  have g1 := rowIs_five h1
  have h2 : ((w.setCell ⟨b, 0, none⟩ u0).setCell ⟨b, 1, none⟩ u1).heap[b]? = some (.cells #[u0, u1, c2, c3, c4] t (0, 0)) := by
    generalize w.setCell ⟨b, 0, none⟩ u0 = y at h1
    simp [World.setCell, Array.getElem?_modify, h1]
  exact ⟨_, _, ⟨⟨_, g.cell (show 0 < 5 by decide)⟩, g.frozen _, rfl⟩, ⟨⟨_, g1.cell (show 1 < 5 by decide)⟩, g1.frozen _, rfl⟩, h2, grown_trans (grown_set _ _ _ _) (grown_set _ _ _ _)⟩

section
variable {W w' y : World} {N b : Nat} {s : St} {L : List (Cl × An)} {tk fl : List Int} {lv mv tv fv : Value}
theorem isC.bl (h : isC W N b s L tk fl lv mv tv fv) : b < W.heap.size := h.lt b (.inl rfl)
/-- All but what is named stays as it is. -/
theorem isC.put (h : isC W N b s L tk fl lv mv tv fv) {N' : Nat} {L' : List (Cl × An)} {tk' fl' : List Int} {mv' tv' fv' : Value} (hF : Fr (Fp b mv tv fv) W y)
    (hbox : y.heap[b]? = some (.cells #[lv, .int .i64 s.made, mv', tv', fv'] 72 (0, 0))) (hmp : mapR y N' L' mv') (htk : owI 0 y tv' tk') (hfl : owI 0 y fv' fl') (hne : ∀ k, tv'.ownBlock = some k → fv'.ownBlock ≠ some k) :
    isC y N' b s L' tk' fl' lv mv' tv' fv' := ⟨hbox, isS_fr h.nos hF h.st, hmp, htk, hfl, hne⟩
theorem isC.mp_fr (h : isC W N b s L tk fl lv mv tv fv) (hF : Fr (Fp b mv tv fv) W y) (hb : ∀ m, mv = .map (some m) → y.heap[m]? = W.heap[m]?) : mapR y N L mv :=
  mapR_of (fun l v hg => isGs_fr h.nos hF hg) hb h.mp
theorem same_block {B : Nat → Prop} (hF : Fr B W y) {k : Nat} (hk : k < W.heap.size) (hB : ¬ B k) : y.heap[k]? = W.heap[k]? := by
  have e := Array.getElem?_eq_getElem hk
  rw [e]
  exact hF.2 _ _ e hB
/-- The tokens' row grew, and is stored. -/
theorem isC.tok (h : isC W N b s L tk fl lv mv tv fv) {v2 : Value} {tk' : List Int} (own : owI 0 w' v2 tk') (gr : W.grownBy w' tv.ownBlock) (at' : v2.ownBlock = tv.ownBlock ∨ v2.ownBlock = some W.heap.size) :
    ∃ y, ((∃ u, w'.cell? ⟨b, 3, none⟩ = some u) ∧ w'.frozen? ⟨b, 3, none⟩ = false ∧ w'.setCell ⟨b, 3, none⟩ v2 = y) ∧ Hid (isC y N b s L tk' fl lv mv v2 fv ∧ Fr (Fp b mv tv fv) W y ∧ ∀ k, Fp b mv v2 fv k → Fp b mv tv fv k ∨ W.heap.size ≤ k) := by
  obtain ⟨a1, a2, a3, a4⟩ := h.apart
  have hF1 : Fr (fun k => tv.ownBlock = some k) W w' := Fr.grown gr (fun r e => e)
  have hb1 : w'.heap[b]? = some (.cells #[lv, .int .i64 s.made, mv, tv, fv] 72 (0, 0)) := hF1.2 _ _ h.box a2
  obtain ⟨-, ⟨y, hs, hbox, hg⟩, -⟩ := box_five hb1 v2
  have hF2 : Fr (fun k => k = b) w' y := Fr.grown hg (fun r e => (Option.some.inj e).symm)
  have hF : Fr (Fp b mv tv fv) W y := (hF1.mono (fun k _ hk => .inr (.inr (.inl hk)))).trans (hF2.mono (fun k _ hk => .inl hk))
  have hbl := h.bl
  have hv2b : v2.ownBlock ≠ some b := by
    rcases at' with e | e
    · rw [e]; exact a2
    · rw [e]; intro e2; have := Option.some.inj e2; omega
  refine ⟨y, hs, Lib.hid ⟨h.put hF hbox (h.mp_fr hF (fun m e => ?_)) (own.keep fun k o e ho => hF2.2 k o ho (fun e2 => hv2b (by rw [e, e2]))) (h.fl.keep fun k o e ho => hF2.2 k o (hF1.2 k o ho (fun e2 => h.ne k e2 e)) (fun e2 => a3 (by rw [e, e2]))) (fun k e => ?_), hF, fun k hk => ?_⟩⟩
  · have hml := h.lt m (.inr (.inl e))
    exact (same_block hF2 (by have := gr.size; omega) (fun e2 => a1 (by rw [e, e2]))).trans (same_block hF1 hml (fun e2 => (a4 m e).1 e2))
  · rcases at' with e2 | e2
    · rw [e2] at e; exact h.ne k e
    · rw [e2] at e
      have := Option.some.inj e
      intro e3
      have := h.lt k (.inr (.inr (.inr e3)))
      omega
  · rcases hk with hk | hk | hk | hk
    · exact .inl (.inl hk)
    · exact .inl (.inr (.inl hk))
    · rcases at' with e2 | e2
      · rw [e2] at hk; exact .inl (.inr (.inr (.inl hk)))
      · rw [e2] at hk; exact .inr (Nat.le_of_eq (Option.some.inj hk))
    · exact .inl (.inr (.inr (.inr hk)))
/-- The row of those in flight turned, and is stored. -/
theorem isC.fli (h : isC W N b s L tk fl lv mv tv fv) {v2 : Value} {fl' : List Int} (own : owI 0 w' v2 fl') (gr : W.grownBy w' fv.ownBlock) (at' : v2.ownBlock = fv.ownBlock ∨ v2.ownBlock = some W.heap.size) :
    ∃ y, ((∃ u, w'.cell? ⟨b, 4, none⟩ = some u) ∧ w'.frozen? ⟨b, 4, none⟩ = false ∧ w'.setCell ⟨b, 4, none⟩ v2 = y) ∧ Hid (isC y N b s L tk fl' lv mv tv v2 ∧ Fr (Fp b mv tv fv) W y ∧ ∀ k, Fp b mv tv v2 k → Fp b mv tv fv k ∨ W.heap.size ≤ k) := by
  obtain ⟨a1, a2, a3, a4⟩ := h.apart
  have hF1 : Fr (fun k => fv.ownBlock = some k) W w' := Fr.grown gr (fun r e => e)
  have hb1 : w'.heap[b]? = some (.cells #[lv, .int .i64 s.made, mv, tv, fv] 72 (0, 0)) := hF1.2 _ _ h.box a3
  obtain ⟨-, -, y, hs, hbox, hg⟩ := box_five hb1 v2
  have hF2 : Fr (fun k => k = b) w' y := Fr.grown hg (fun r e => (Option.some.inj e).symm)
  have hF : Fr (Fp b mv tv fv) W y := (hF1.mono (fun k _ hk => .inr (.inr (.inr hk)))).trans (hF2.mono (fun k _ hk => .inl hk))
  have hbl := h.bl
  have hv2b : v2.ownBlock ≠ some b := by
    rcases at' with e | e
    · rw [e]; exact a3
    · rw [e]; intro e2; have := Option.some.inj e2; omega
  refine ⟨y, hs, Lib.hid ⟨h.put hF hbox (h.mp_fr hF (fun m e => ?_)) (h.tk.keep fun k o e ho => hF2.2 k o (hF1.2 k o ho (fun e2 => h.ne k e e2)) (fun e2 => a2 (by rw [e, e2]))) (own.keep fun k o e ho => hF2.2 k o ho (fun e2 => hv2b (by rw [e, e2]))) (fun k e => ?_), hF, fun k hk => ?_⟩⟩
  · have hml := h.lt m (.inr (.inl e))
    exact (same_block hF2 (by have := gr.size; omega) (fun e2 => a1 (by rw [e, e2]))).trans (same_block hF1 hml (fun e2 => (a4 m e).2 e2))
  · rcases at' with e2 | e2
    · rw [e2]; exact h.ne k e
    · rw [e2]
      intro e3
      have := Option.some.inj e3
      have := h.lt k (.inr (.inr (.inl e)))
      omega
  · rcases hk with hk | hk | hk | hk
    · exact .inl (.inl hk)
    · exact .inl (.inr (.inl hk))
    · exact .inl (.inr (.inr (.inl hk)))
    · rcases at' with e2 | e2
      · rw [e2] at hk; exact .inl (.inr (.inr (.inr hk)))
      · rw [e2] at hk; exact .inr (Nat.le_of_eq (Option.some.inj hk))
/-- A map is made and stored. -/
theorem isC.mkm (h : isC W N b s [] tk fl lv (.map none) tv fv) :
    ∃ y, ((∃ u, (W.alloc (.map #[] 0)).cell? ⟨b, 2, none⟩ = some u) ∧ (W.alloc (.map #[] 0)).frozen? ⟨b, 2, none⟩ = false ∧ (W.alloc (.map #[] 0)).setCell ⟨b, 2, none⟩ (.map (some W.heap.size)) = y) ∧ Hid (isC y N b s [] tk fl lv (.map (some W.heap.size)) tv fv ∧ Fr (Fp b (.map none) tv fv) W y ∧ ∀ k, Fp b (.map (some W.heap.size)) tv fv k → Fp b (.map none) tv fv k ∨ W.heap.size ≤ k) := by
  obtain ⟨a1, a2, a3, a4⟩ := h.apart
  have hA : KB W (W.alloc (.map #[] 0)) := kbA
  have hbl := h.bl
  have hb1 := (hA.block b hbl).trans h.box
  obtain ⟨⟨y, hs, hbox, hg⟩, -, -⟩ := box_five hb1 (.map (some W.heap.size))
  have hF1 : Fr (fun _ => False) W (W.alloc (.map #[] 0)) := Fr.of_below hA
  have hF2 : Fr (fun k => k = b) (W.alloc (.map #[] 0)) y := Fr.grown hg (fun r e => (Option.some.inj e).symm)
  have hF : Fr (Fp b (.map none) tv fv) W y := (hF1.mono (fun k _ hk => hk.elim)).trans (hF2.mono (fun k _ hk => .inl hk))
  refine ⟨y, hs, Lib.hid ⟨h.put hF hbox (.inr ⟨W.heap.size, fun _ => none, rfl, ((MapZ.made _ _ W).block (same_block hF2 (by simp) (fun e => by omega))).mono (Nat.zero_le _), fun z _ => by unfold toldZ findC; rfl⟩) (h.tk.keep fun k o e ho => hF2.2 k o (hF1.2 k o ho (fun h => h)) (fun e2 => a2 (by rw [e, e2]))) (h.fl.keep fun k o e ho => hF2.2 k o (hF1.2 k o ho (fun h => h)) (fun e2 => a3 (by rw [e, e2]))) h.ne, hF, fun k hk => ?_⟩⟩
  rcases hk with hk | hk | hk | hk
  · exact .inl (.inl hk)
  · simp only [Value.map.injEq, Option.some.injEq] at hk
    exact .inr (Nat.le_of_eq hk)
  · exact .inl (.inr (.inr (.inl hk)))
  · exact .inl (.inr (.inr (.inr hk)))
/-- An element of the map is written. -/
theorem isC.mps {m : Nat} (h : isC W N b s L tk fl lv (.map (some m)) tv fv) {N' : Nat} {L' : List (Cl × An)} {f' : Int → Option Value} (hm : MapZ Tryz.prog 3 w' m N' f') (gr : W.grownBy w' (some m)) (ht : ∀ z, okZ z → toldZ w' L' f' z) :
    isC w' N' b s L' tk fl lv (.map (some m)) tv fv ∧ Fr (Fp b (.map (some m)) tv fv) W w' := by
  obtain ⟨a1, a2, a3, a4⟩ := h.apart
  have hF1 : Fr (fun k => k = m) W w' := Fr.grown gr (fun r e => (Option.some.inj e).symm)
  have hF : Fr (Fp b (.map (some m)) tv fv) W w' := hF1.mono (fun k _ hk => .inr (.inl (by rw [hk])))
  exact ⟨h.put hF (hF1.2 _ _ h.box (fun e => a1 (by rw [e]))) (.inr ⟨m, f', rfl, hm, ht⟩) (h.tk.keep fun k o e ho => hF1.2 k o ho (fun e2 => (a4 m rfl).1 (by rw [e, e2]))) (h.fl.keep fun k o e ho => hF1.2 k o ho (fun e2 => (a4 m rfl).2 (by rw [e, e2]))) h.ne, hF⟩
/-- Another store is put in its place. -/
theorem isC.sto (h : isC W N b s L tk fl lv mv tv fv) {s' : St} {lv' : Value} (hs : isS W s' (.agg #[lv', .int .i64 s'.made])) :
    ∃ y1 y2, ((∃ u, W.cell? ⟨b, 0, none⟩ = some u) ∧ W.frozen? ⟨b, 0, none⟩ = false ∧ W.setCell ⟨b, 0, none⟩ lv' = y1) ∧ ((∃ u, y1.cell? ⟨b, 1, none⟩ = some u) ∧ y1.frozen? ⟨b, 1, none⟩ = false ∧ y1.setCell ⟨b, 1, none⟩ (.int .i64 s'.made) = y2) ∧ Hid (isC y2 N b s' L tk fl lv' mv tv fv ∧ Fr (Fp b mv tv fv) W y2) := by
  obtain ⟨a1, a2, a3, a4⟩ := h.apart
  obtain ⟨y1, y2, s1, s2, hbox, hg⟩ := box_five01 h.box lv' (.int .i64 s'.made)
  have hF2 : Fr (fun k => k = b) W y2 := Fr.grown hg (fun r e => (Option.some.inj e).symm)
  have hF : Fr (Fp b mv tv fv) W y2 := hF2.mono (fun k _ hk => .inl hk)
  refine ⟨y1, y2, s1, s2, Lib.hid ⟨⟨hbox, isS_fr h.nos hF hs, h.mp_fr hF (fun m e => same_block hF2 (h.lt m (.inr (.inl e))) (fun e2 => a1 (by rw [e, e2]))), h.tk.keep fun k o e ho => hF2.2 k o ho (fun e2 => a2 (by rw [e, e2])), h.fl.keep fun k o e ho => hF2.2 k o ho (fun e2 => a3 (by rw [e, e2])), h.ne⟩, hF⟩⟩
end
theorem toldZ_snoc {W : World} {L : List (Cl × An)} {f : Int → Option Value} {x : Cl × An} {v : Value} (hn : findC L x.1.tok = none) (hv : isTo W x v) (h : ∀ z, okZ z → toldZ W L f z) : ∀ z, okZ z → toldZ W (L ++ [x]) (fun z' => if z' = x.1.tok then some v else f z') z := by
  intro z hz
  have := h z hz
  unfold toldZ at this ⊢
  rw [findC_snoc]
  by_cases e : z = x.1.tok
  · subst e
    rw [hn, if_pos rfl]
    exact ⟨v, if_pos rfl, hv⟩
  · rw [if_neg (Ne.symm e), Option.or_none]
    dsimp only
    rw [if_neg e]
    exact this
theorem toldZ_set {W : World} {L : List (Cl × An)} {f : Int → Option Value} {p : Cl × An} {t : Int} {a : An} {v : Value} (hn : findC L t = some p) (hv : isTo W (p.1, a) v) (h : ∀ z, okZ z → toldZ W L f z) : ∀ z, okZ z → toldZ W (setA L t a) (fun z' => if z' = t then some v else f z') z := by
  intro z hz
  have := h z hz
  unfold toldZ at this ⊢
  rw [findC_setA]
  by_cases e : z = t
  · subst e
    rw [if_pos rfl, hn]
    exact ⟨v, if_pos rfl, hv⟩
  · rw [if_neg e]
    dsimp only
    rw [if_neg e]
    exact this
theorem mapR.mono {W : World} {N N' : Nat} {L : List (Cl × An)} {mv : Value} (h : mapR W N L mv) (hn : N ≤ N') : mapR W N' L mv := by
  rcases h with h | ⟨m, f, e, hm, ht⟩
  · exact .inl h
  · exact .inr ⟨m, f, e, hm.mono hn, ht⟩
theorem isC.mono {W : World} {N N' b : Nat} {s : St} {L : List (Cl × An)} {tk fl : List Int} {lv mv tv fv : Value} (h : isC W N b s L tk fl lv mv tv fv) (hn : N ≤ N') : isC W N' b s L tk fl lv mv tv fv :=
  ⟨h.box, h.st, h.mp.mono hn, h.tk, h.fl, h.ne⟩
theorem OnC.mono {w W : World} {P : Nat → Prop} {N N' b : Nat} {s : St} {L : List (Cl × An)} {tk fl : List Int} (h : OnC w P N b s L tk fl W) (hn : N ≤ N') : OnC w P N' b s L tk fl W := by
  obtain ⟨lv, mv, tv, fv, hc, hr⟩ := h
  exact ⟨lv, mv, tv, fv, hc.mono hn, hr⟩
theorem isC.on {w W : World} {N b : Nat} {s : St} {L : List (Cl × An)} {tk fl : List Int} {lv mv tv fv : Value} (h : isC w N b s L tk fl lv mv tv fv) (hb : Below w.heap.size w W) : OnC w (Fp b mv tv fv) N b s L tk fl W :=
  OnC.from hb ⟨lv, mv, tv, fv, h.below hb, Fr.refl _ _, fun k hk => .inl hk⟩

end Go.Proofs.YtkigeegahepnaaaGreatDoor

namespace Go.Proofs.YtkigeegahepnaaaGreatDoor
open Go.RowKit Go.Maps Go.ChangeMaps Go.WideMaps Go.WideShapes

theorem nodup_le {l m : List Int} (hn : l.Nodup) (hs : ∀ z ∈ l, z ∈ m) : l.length ≤ m.length := by
  induction l generalizing m with
  | nil => simp
  | cons a t ih =>
    obtain ⟨h1, h2⟩ := List.nodup_cons.1 hn
    have ha := hs a (by simp)
    have := ih (m := m.erase a) h2 (fun z hz => (List.mem_erase_of_ne (fun e => by subst e; exact h1 hz)).2 (hs z (List.mem_cons_of_mem _ hz)))
    rw [List.length_erase_of_mem ha] at this
    have := List.length_pos_of_mem ha
    simp only [List.length_cons]
    omega
theorem litZ {P : Program} {k : TypeId} (hk : P.underlying k = some (.int .i64)) {v : Value} {l : Lit} (h : keyOf P k v = some l) : ∃ z, l = kyZ z ∧ okZ z ∧ v = .int .i64 z := by
  cases v <;> simp [keyOf, hk, mapKey] at h
  rename_i q a
  obtain ⟨⟨rfl, hw⟩, rfl⟩ := h
  refine ⟨a, rfl, ?_, rfl⟩
  simp [Lit.wf, IntKind.min, IntKind.max, IntKind.bits, IntKind.signed] at hw
  unfold okZ
  omega
/-- The entries' keys. -/
theorem MapZ.keys {P : Program} {k : TypeId} {W : World} {b n : Nat} {f : Int → Option Value} (h : MapZ P k W b n f) (K : Keyed P k) (hk : P.underlying k = some (.int .i64)) :
    ∃ zs : List Int, zs.Nodup ∧ (∀ z ∈ zs, okZ z ∧ f z ≠ none) ∧ MapZ P k W b zs.length f ∧ ∀ (es : Array MapEntry) clock, W.heap[b]? = some (.map es clock) → es.size = zs.length := by
  obtain ⟨D, hD, hf⟩ := h
  obtain ⟨es0, hD0, hpw, -⟩ := hD.entries K
  obtain ⟨es1, hD1, hko⟩ := hD.keysOf
  obtain rfl : es0 = es1 := by rw [hD0] at hD1; simpa using hD1
  have hown := owns_held hD es0 hD0
  have hks : ∀ p ∈ es0, ∃ z, p.1 = kyZ z ∧ okZ z := fun p hp => by
    obtain ⟨v, hv⟩ := hko p hp
    obtain ⟨z, h1, h2, -⟩ := litZ hk hv
    exact ⟨z, h1, h2⟩
  have hzs : ∃ zs : List Int, es0.map (·.1) = zs.map kyZ := by
    clear hpw hown hD0 hD1 hko
    induction es0 with
    | nil => exact ⟨[], rfl⟩
    | cons p t ih =>
      obtain ⟨z, hz, -⟩ := hks p (by simp)
      obtain ⟨zs, h⟩ := ih (fun q hq => hks q (List.mem_cons_of_mem _ hq))
      exact ⟨z :: zs, by rw [List.map_cons, List.map_cons, h, hz]⟩
  obtain ⟨zs, hz⟩ := hzs
  have hlen : es0.length = zs.length := by simpa using congrArg List.length hz
  obtain ⟨es, clock, hb, F, hsz, hDe⟩ := hD
  have hsize : es.size = zs.length := by
    have e : es0 = (es.toList.map (WideElems.rg P k Rh)).foldr DataW.insert [] := by rw [hD0] at hDe; simpa using hDe
    have := (sorted_perm (es.toList.map (WideElems.rg P k Rh))).length_eq
    rw [← e] at this
    simp only [List.length_map, Array.length_toList] at this
    omega
  refine ⟨zs, ?_, fun z hzm => ?_, ⟨D, ⟨es, clock, hb, F, Nat.le_of_eq hsize, hDe⟩, hf⟩, fun es' c' he => ?_⟩
  · have h1 : (es0.map (·.1)).Nodup := List.pairwise_map.2 hpw
    rw [hz] at h1
    exact (List.pairwise_map.1 h1).imp fun hne e => hne (by rw [e])
  · have hm : kyZ z ∈ es0.map (·.1) := by rw [hz]; exact List.mem_map_of_mem hzm
    obtain ⟨p, hp, hpz⟩ := List.mem_map.1 hm
    refine ⟨?_, fun e => ?_⟩
    · obtain ⟨z', h1, h2⟩ := hks p hp
      rw [hpz] at h1
      rw [kyZ_inj h1]; exact h2
    · have h2 := hf z
      rw [e, hD0] at h2
      have h3 := WideAt.atKey_mem (d := p.2) (entries := es0) DataW.nil (show WideAt.IsKeyLit (kyZ z) from trivial) hpw (by rw [← hpz]; exact hp)
      rw [h3] at h2
      exact hown p hp h2
  · rw [hb] at he
    simp only [Option.some.injEq, Obj.map.injEq] at he
    rw [← he.1]
    exact hsize
theorem MapZ.trim {P : Program} {k : TypeId} {W : World} {b n : Nat} {f : Int → Option Value} (h : MapZ P k W b n f) (K : Keyed P k) (hk : P.underlying k = some (.int .i64)) {ks : List Int} (hs : ∀ z, okZ z → f z ≠ none → z ∈ ks) : MapZ P k W b ks.length f := by
  obtain ⟨zs, h1, h2, h3, -⟩ := h.keys K hk
  exact h3.mono (nodup_le h1 (fun z hz => hs z (h2 z hz).1 (h2 z hz).2))
end Go.Proofs.YtkigeegahepnaaaGreatDoor

namespace Go.Proofs.YtkigeegahepnaaaGreatDoor
open Go.RowKit Go.Maps

/-- A box in which no property, no value can lie; a thing at most in the first K cells. -/
structure OddB (W : World) (q K : Nat) : Prop where
  g : ∀ o s b, W.cell? ⟨q, o, none⟩ = some (.string s) → W.cell? ⟨q, o + 1, none⟩ = some (.bool b) → False
  v : ∀ o k b, W.cell? ⟨q, o, none⟩ = some (.int .i8 k) → W.cell? ⟨q, o + 1, none⟩ = some (.bool b) → False
  t : ∀ o s s' oo n c, W.cell? ⟨q, o, none⟩ = some (.string s) → W.cell? ⟨q, o + 1, none⟩ = some (.string s') → W.cell? ⟨q, o + 2, none⟩ = some (.slice oo n c) → o + 2 < K
theorem odd_told {W : World} {q : Nat} {z k : Int} {p y p2 : ByteArray} {o : Option Addr} {n c : Nat} {e1 e2 : Bool} {t : TypeId} (h : W.heap[q]? = some (.cells #[.int .i64 z, .int .i8 k, .string p, .string y, .slice o n c, .bool e1, .bool e2, .string p2] t (0, 0))) : OddB W q 5 := by
  refine ⟨fun i s b h1 h2 => ?_, fun i k b h1 h2 => ?_, fun i s s' oo n c h1 h2 h3 => ?_⟩
  all_goals
    simp only [World.cell?, h] at h1 h2
    rcases i with _ | _ | _ | _ | _ | _ | _ | _ | i <;> simp at h1 h2 <;> try omega
  all_goals
    simp [World.cell?, h] at h3
theorem odd_answer {W : World} {q : Nat} {p2 : ByteArray} {e1 e2 : Bool} {t : TypeId} (h : W.heap[q]? = some (.cells #[.bool e1, .bool e2, .string p2] t (0, 0))) : OddB W q 0 := by
  refine ⟨fun i s b h1 h2 => ?_, fun i k b h1 h2 => ?_, fun i s s' oo n c h1 h2 h3 => ?_⟩
  all_goals
    simp only [World.cell?, h] at h1 h2
    rcases i with _ | _ | _ | i <;> simp at h1 h2
theorem spot_of {W : World} {a : Addr} {c : Value} (h : W.cell? a = some c) : a = ⟨a.block, a.off, none⟩ := by
  have := cell_spot h
  obtain ⟨b, o, s⟩ := a
  obtain rfl : s = none := this
  rfl
theorem isVa_odd {W : World} {q K : Nat} (hT : OddB W q K) {x : V} {v : Value} (hx : heldP x) (h : isV W x v) : isVa W (fun r => r ≠ q) x v := by
  have hk : x.keys = [] := by
    rcases hx with e | e | ⟨e, -⟩ <;> rw [e] <;> rfl
  obtain ⟨k, b, n, s, l, ks⟩ := x
  obtain rfl : ks = [] := hk
  unfold isV at h
  unfold isVa
  obtain ⟨lv, kv, h1, h2, h3, h4, ⟨a, cap, h5, h7⟩, ⟨a2, cap2, k1, k3⟩⟩ := h
  refine ⟨lv, kv, h1, h2, h3, h4, ⟨a, cap, h5, fun h0 e => ?_, ?_⟩, ⟨a2, cap2, k1, fun h0 => absurd h0 (by simp), fun i hi => absurd hi (by simp)⟩⟩
  · match l, h0, h7 with
    | .mk k' b' n' s' l' ks' :: t, _, h7 =>
      unfold isVs at h7
      obtain ⟨⟨c0, c1, c2, c3, c4, c5, g0, g1, g2, g3, g4, g5, hy⟩, -⟩ := h7
      unfold isV at hy
      obtain ⟨lv', kv', e1, _⟩ := hy
      simp only [Value.agg.injEq, Array.mk.injEq, List.cons.injEq, and_true] at e1
      obtain ⟨rfl, rfl, rfl, rfl, rfl, rfl⟩ := e1
      have e1 : a.add 1 = ⟨a.block, a.off + 1, none⟩ := by
        have hs : a.spot = none := cell_spot g0
        obtain ⟨ab, ao, asp⟩ := a
        obtain rfl : asp = none := hs
        simp [Addr.add]
      rw [e1] at g1
      rw [spot_of g0, e] at g0
      rw [e] at g1
      exact hT.v _ _ _ g0 g1
  · -- a list of texts
    have hl : ∀ u ∈ l, u = tV u.text := by
      rcases hx with e | e | ⟨-, e⟩
      · have : l = [] := congrArg V.list e
        subst this
        intro u hu; cases hu
      · have : l = [] := congrArg V.list e
        subst this
        intro u hu; cases hu
      · exact e
    clear hx h1 h5
    induction l generalizing a with
    | nil => unfold isVas; trivial
    | cons y t ih =>
      unfold isVs at h7
      unfold isVas
      obtain ⟨⟨c0, c1, c2, c3, c4, c5, g0, g1, g2, g3, g4, g5, hy⟩, ht⟩ := h7
      refine ⟨⟨c0, c1, c2, c3, c4, c5, g0, g1, g2, g3, g4, g5, ?_⟩, ih _ ht (fun u hu => hl u (List.mem_cons_of_mem _ hu))⟩
      have hy' := hl y (by simp)
      rw [hy'] at hy ⊢
      unfold tV at hy ⊢
      unfold isV at hy
      unfold isVa
      obtain ⟨lv', kv', q1, q2, q3, q4, ⟨a3, cap3, q5, -⟩, ⟨a4, cap4, q6, -⟩⟩ := hy
      exact ⟨lv', kv', q1, q2, q3, q4, ⟨a3, cap3, q5, fun h0 => absurd h0 (by simp), by unfold isVas; trivial⟩, ⟨a4, cap4, q6, fun h0 => absurd h0 (by simp), fun i hi => absurd hi (by simp)⟩⟩
theorem isGsa_odd {W : World} {q K : Nat} (hT : OddB W q K) {L : List G} (hL : ∀ g ∈ L, heldP g.v) {v : Value} (h : isGs W L v) : isGsa W (fun r => r ≠ q) L v := by
  obtain ⟨a, cap, h1, h2⟩ := h
  refine ⟨a, cap, h1, fun h0 e => ?_, fun i hi => ?_⟩
  · obtain ⟨c0, c1, c2, c3, c4, c5, g0, g1, _⟩ := h2 0 h0
    rw [Nat.zero_mul] at g0 g1
    have e0 : a.add 0 = a := by simp [Addr.add]
    rw [e0] at g0 g1
    rw [spot_of g0, e] at g0
    rw [e] at g1
    exact hT.g _ _ _ g0 g1
  · obtain ⟨c0, c1, c2, c3, c4, c5, g0, g1, g2, g3, g4, g5, g6, g7, hv, hn⟩ := h2 i hi
    exact ⟨c0, c1, c2, c3, c4, c5, g0, g1, g2, g3, g4, g5, g6, g7, isVa_odd hT (hL _ (List.getElem_mem hi)) hv, hn⟩
theorem isGs_odd {W W' : World} {q K : Nat} (hT : OddB W q K) (hg : W.grownBy W' (some q)) {L : List G} (hL : ∀ g ∈ L, heldP g.v) {v : Value} (h : isGs W L v) : isGs W' L v :=
  isGs_of_a (isGsa_keep (fun a c hq hc => hg.cell hc (fun e => hq (Option.some.inj e))) (isGsa_odd hT hL h))
theorem isTs_odd {W W' : World} {q K : Nat} (hT : OddB W q K) (hg : W.grownBy W' (some q)) (hK : ∀ i, i < K → W'.cell? ⟨q, i, none⟩ = W.cell? ⟨q, i, none⟩) {L : List Th} (hL : ∀ t ∈ L, ∀ g ∈ t.ps, heldP g.v) {v : Value} (h : isTs W L v) : isTs W' L v := by
  obtain ⟨a, cap, h1, h2⟩ := h
  refine ⟨a, cap, h1, fun i hi => ?_⟩
  obtain ⟨pv, g0, g1, g2, h3, h4⟩ := h2 i hi
  have h3' := isGs_odd hT hg (hL _ (List.getElem_mem hi)) h3
  obtain ⟨o, c, rfl⟩ : ∃ o c, pv = .slice o L[i].ps.length c := by
    obtain ⟨_, c, ⟨o, rfl, _⟩, _⟩ := h3
    exact ⟨o, c, rfl⟩
  generalize a.add (i * 3) = a' at *
  by_cases e : a'.block = q
  · have ha := spot_of g0
    have hlt : a'.off + 2 < K := hT.t a'.off _ _ _ _ _ (by rw [← e, ← ha]; exact g0) (by rw [← e]; exact g1) (by rw [← e]; exact g2)
    refine ⟨_, ?_, ?_, ?_, h3', h4⟩
    · rw [ha, e, hK _ (by omega), ← e, ← ha]; exact g0
    · rw [e, hK _ (by omega), ← e]; exact g1
    · rw [e, hK _ (by omega), ← e]; exact g2
  · have hk : ∀ (a : Addr) c, a.block = a'.block → W.cell? a = some c → W'.cell? a = some c := fun a c ea hc => hg.cell hc (fun e2 => e (by rw [← ea]; exact Option.some.inj e2))
    exact ⟨_, hk _ _ rfl g0, hk _ _ rfl g1, hk _ _ rfl g2, h3', h4⟩
/-- What is held in a store, in calls, has no keys. -/
def heldS (s : St) (L : List (Cl × An)) : Prop := (∀ t ∈ s.l, ∀ g ∈ t.ps, heldP g.v) ∧ ∀ p ∈ L, ∀ g ∈ p.1.ps, heldP g.v
theorem isC.odd {W W' : World} {N b : Nat} {s : St} {L : List (Cl × An)} {tk fl : List Int} {lv mv tv fv : Value} {q K : Nat} (h : isC W N b s L tk fl lv mv tv fv) (hH : heldS s L) (hT : OddB W q K) (hg : W.grownBy W' (some q)) (hK : ∀ i, i < K → W'.cell? ⟨q, i, none⟩ = W.cell? ⟨q, i, none⟩) (hd : ∀ k, Fp b mv tv fv k → k ≠ q) : isC W' N b s L tk fl lv mv tv fv := by
  have hb : ∀ k, Fp b mv tv fv k → W'.heap[k]? = W.heap[k]? := fun k hk => hg.block k (h.lt k hk) (fun e => hd k hk (Option.some.inj e))
  refine ⟨(hb b (.inl rfl)).trans h.box, ?_, ?_, h.tk.keep fun k o e ho => (hb k (.inr (.inr (.inl e)))).trans ho, h.fl.keep fun k o e ho => (hb k (.inr (.inr (.inr e)))).trans ho, h.ne⟩
  · obtain ⟨lv', e, hts, hm⟩ := h.st
    exact ⟨lv', e, isTs_odd hT hg hK hH.1 hts, hm⟩
  · rcases h.mp with e | ⟨m, f, e, hm, hf⟩
    · exact .inl e
    · refine .inr ⟨m, f, e, hm.block (hb m (.inr (.inl e))), fun z hz => ?_⟩
      have := hf z hz
      unfold toldZ at this ⊢
      cases hp : findC L z with
      | none => rw [hp] at this; exact this
      | some p =>
        rw [hp] at this
        obtain ⟨v, q1, pv, q2, q3⟩ := this
        exact ⟨v, q1, pv, q2, isGs_odd hT hg (hH.2 p (findC_some hp).1) q3⟩
theorem held_of_check {K : ByteArray} {ps : List G} (h : checkL K ps = 0) (hu : ps.any (·.unk) = false) : ∀ g ∈ ps, heldP g.v := by
  intro g hg
  obtain ⟨i, hi, rfl⟩ := List.mem_iff_getElem.1 hg
  unfold checkL at h
  split at h
  · split at h
    · rename_i hok
      have hs := okRow_iff.1 hok i hi
      unfold stepB at hs
      rw [getD_g hi] at hs
      cases hsp : spec K ps[i].nm with
      | none => rw [hsp] at hs; cases hs
      | some x =>
        rw [hsp] at hs
        simp only [Bool.and_eq_true] at hs
        have hm := hs.2
        unfold mayB at hm
        have hun : ps[i].unk = false := by
          have := List.any_eq_false.1 hu ps[i] hg
          simpa using this
        rw [hun] at hm
        exact (held_form (spec_facts hsp).2.2.1 (by simpa using hm)).1
    · exact absurd h (by decide)
  · exact absurd h (by decide)
theorem held_of_ok {s : St} (h : okS s) : ∀ t ∈ s.l, ∀ g ∈ t.ps, heldP g.v := by
  intro t ht
  obtain ⟨-, -, hw⟩ := h.2.1 t ht
  obtain ⟨hc, hu⟩ := wrong_zero hw
  exact held_of_check hc hu
theorem held_of_call {x : Cl} (h : wrongC x = 0) : ∀ g ∈ x.ps, heldP g.v := by
  unfold wrongC at h
  split at h
  · exact absurd h (by decide)
  · rename_i hm
    have hm' : mayNotB x = false := by simpa using hm
    unfold mayNotB at hm'
    simp only [Bool.or_eq_false_iff] at hm'
    obtain ⟨⟨⟨⟨⟨-, -⟩, -⟩, h2⟩, -⟩, hu⟩ := hm'
    split at h
    · rename_i hk
      rw [hk] at h2
      have : ¬ (0 < x.ps.length) := by simpa using h2
      have : x.ps = [] := List.eq_nil_of_length_eq_zero (by omega)
      rw [this]
      intro g hg; cases hg
    · exact held_of_check h hu
end Go.Proofs.YtkigeegahepnaaaGreatDoor

namespace Go.Proofs.YtkigeegahepnaaaGreatDoor
open Go.RowKit Go.Maps Go.Deep

theorem NoS_two {W : World} {b : Nat} {c0 c1 : Value} {t : TypeId} (h : W.heap[b]? = some (.cells #[c0, c1] t (0, 0))) (h0 : ∀ s, c0 ≠ .string s) (h1 : ∀ s, c1 ≠ .string s) : NoS W (fun k => k = b) := fun a s hc hk =>
  NoS_of_block (fun cs t fr hh s' hm => by
    rw [h] at hh
    simp only [Option.some.injEq, Obj.cells.injEq] at hh
    obtain ⟨rfl, -⟩ := hh
    simp only [List.mem_cons, List.not_mem_nil, or_false] at hm
    rcases hm with e | e
    · exact h0 s' e.symm
    · exact h1 s' e.symm) hc hk
/-- The result's box is set. -/
theorem res_two {w6 : World} {N : Nat} {t : St} {o : Option Addr} {cap : Nat} {o0 : Option Addr} {n0 cap0 : Nat} {m0 : Int} (hb : w6.heap[N]? = some (.cells #[.slice o0 n0 cap0, .int .i64 m0] 69 (0, 0))) (hs : isS w6 t (.agg #[.slice o t.l.length cap, .int .i64 t.made])) :
    ∃ x1 x2, ((∃ u, w6.cell? ⟨N, 0, none⟩ = some u) ∧ w6.frozen? ⟨N, 0, none⟩ = false ∧ w6.setCell ⟨N, 0, none⟩ (.slice o t.l.length cap) = x1) ∧ ((∃ u, x1.cell? ⟨N, 1, none⟩ = some u) ∧ x1.frozen? ⟨N, 1, none⟩ = false ∧ x1.setCell ⟨N, 1, none⟩ (.int .i64 t.made) = x2) ∧
      x2.cell? ⟨N, 0, none⟩ = some (.slice o t.l.length cap) ∧ x2.cell? ⟨N, 1, none⟩ = some (.int .i64 t.made) ∧ Hid (w6.grownBy x2 (some N) ∧ isS x2 t (.agg #[.slice o t.l.length cap, .int .i64 t.made]) ∧ x2.heap[N]? = some (.cells #[.slice o t.l.length cap, .int .i64 t.made] 69 (0, 0))) ∧ Hid (w6.grownBy x1 (some N)) := by
  obtain ⟨x1, x2, s1, s2, d0, d1, hg, hn⟩ := store_two hb (.slice o t.l.length cap) (.int .i64 t.made)
  refine ⟨x1, x2, s1, s2, d0, d1, Lib.hid ⟨hg, isS_fr (NoS_two hb (fun s h => by cases h) (fun s h => by cases h)) (Fr.grown hg (fun r e => (Option.some.inj e).symm)) hs, hn⟩, Lib.hid (by rw [← s1.2.2]; exact grown_set _ _ _ _)⟩

/-- .. set to itself. -/
theorem two_again {w : World} {N : Nat} {c0 c1 : Value} {t : TypeId} (hb : w.heap[N]? = some (.cells #[c0, c1] t (0, 0))) :
    ∃ x1 x2, ((∃ u, w.cell? ⟨N, 0, none⟩ = some u) ∧ w.frozen? ⟨N, 0, none⟩ = false ∧ w.setCell ⟨N, 0, none⟩ c0 = x1) ∧ ((∃ u, x1.cell? ⟨N, 1, none⟩ = some u) ∧ x1.frozen? ⟨N, 1, none⟩ = false ∧ x1.setCell ⟨N, 1, none⟩ c1 = x2) ∧ x2.cell? ⟨N, 0, none⟩ = some c0 ∧ x2.cell? ⟨N, 1, none⟩ = some c1 ∧ w.grownBy x2 (some N) := by
  obtain ⟨x1, x2, s1, s2, d0, d1, hg, hn⟩ := store_two hb c0 c1
  exact ⟨x1, x2, s1, s2, d0, d1, hg⟩

set_option maxRecDepth 100000 in
set_option maxHeartbeats 8000000 in
theorem effect_any (s : St) (x : Cl) (v u : Value) (w : World) (hE : Env9 w) (hF : fineS s) (hX : fineX x) (h : isS w s v) (hx : isX w x u) :
    Calls Tryz.prog 53 #[v, u] w fun e w' => (∃ v', e = .returned (.tuple #[v', .string (effectL s x).2.1, .int .i64 (effectL s x).2.2]) ∧ isS w' (effectL s x).1 v') ∧ Below w.heap.size w w' := by
  obtain ⟨o, cap, rfl, hts, hm⟩ := isS_two h
  obtain ⟨ox, cx, rfl, hg, hok⟩ := isX_form hx
  have hfg := fineG_of hX.1
  have hK3 : KB w (((w.alloc (.cells #[.slice o s.l.length cap, .int .i64 s.made] 69)).alloc (.cells #[.int .i64 x.tok, .int .i8 x.kd, .string x.ph, .string x.ty, .slice ox x.ps.length cx] 32)).alloc (.cells #[.slice none 0 0, .int .i64 0] 69)) := by unfold KB; go_grown
  have n1 : (((w.alloc (.cells #[.slice o s.l.length cap, .int .i64 s.made] 69)).alloc (.cells #[.int .i64 x.tok, .int .i8 x.kd, .string x.ph, .string x.ty, .slice ox x.ps.length cx] 32)).alloc (.cells #[.slice none 0 0, .int .i64 0] 69)).heap[w.heap.size]? = some (.cells #[.slice o s.l.length cap, .int .i64 s.made] 69 (0, 0)) := (Below.heap_alloc _ _ _ (by simp; omega)).trans ((Below.heap_alloc _ _ _ (by simp)).trans (World.alloc_heap_new w _))
  have n2 : (((w.alloc (.cells #[.slice o s.l.length cap, .int .i64 s.made] 69)).alloc (.cells #[.int .i64 x.tok, .int .i8 x.kd, .string x.ph, .string x.ty, .slice ox x.ps.length cx] 32)).alloc (.cells #[.slice none 0 0, .int .i64 0] 69)).heap[w.heap.size + 1]? = some (.cells #[.int .i64 x.tok, .int .i8 x.kd, .string x.ph, .string x.ty, .slice ox x.ps.length cx] 32 (0, 0)) := (Below.heap_alloc _ _ _ (by simp)).trans (by have := World.alloc_heap_new (w.alloc (.cells #[.slice o s.l.length cap, .int .i64 s.made] 69)) (.cells #[.int .i64 x.tok, .int .i8 x.kd, .string x.ph, .string x.ty, .slice ox x.ps.length cx] 32); rwa [World.size_alloc] at this)
  have n3 : (((w.alloc (.cells #[.slice o s.l.length cap, .int .i64 s.made] 69)).alloc (.cells #[.int .i64 x.tok, .int .i8 x.kd, .string x.ph, .string x.ty, .slice ox x.ps.length cx] 32)).alloc (.cells #[.slice none 0 0, .int .i64 0] 69)).heap[w.heap.size + 2]? = some (.cells #[.slice none 0 0, .int .i64 0] 69 (0, 0)) := by
    have := World.alloc_heap_new ((w.alloc (.cells #[.slice o s.l.length cap, .int .i64 s.made] 69)).alloc (.cells #[.int .i64 x.tok, .int .i8 x.kd, .string x.ph, .string x.ty, .slice ox x.ps.length cx] 32)) (.cells #[.slice none 0 0, .int .i64 0] 69)
    rwa [World.size_alloc, World.size_alloc] at this
  have hsz : (((w.alloc (.cells #[.slice o s.l.length cap, .int .i64 s.made] 69)).alloc (.cells #[.int .i64 x.tok, .int .i8 x.kd, .string x.ph, .string x.ty, .slice ox x.ps.length cx] 32)).alloc (.cells #[.slice none 0 0, .int .i64 0] 69)).heap.size = w.heap.size + 3 := by simp
  have HCR : Hid (∀ w1, KB w w1 → Calls Tryz.prog 75 #[.agg #[.slice o s.l.length cap, .int .i64 s.made], .string x.ty, .slice ox x.ps.length cx] w1 fun e w' => (∃ v', e = .returned (.tuple #[v', .string (createL s x.ty x.ps).2.1, .int .i64 (createL s x.ty x.ps).2.2]) ∧ isS w' (createL s x.ty x.ps).1 v') ∧ Below w1.heap.size w1 w') := Lib.hid fun w1 hK => Create_any s x.ty x.ps _ _ w1 (hE.kb hK) hF (by have := hX.2.1; omega) hfg (isS_below hK h) (isGs_below hK hg)
  have HUP : Hid (∀ w1, KB w w1 → Calls Tryz.prog 76 #[.agg #[.slice o s.l.length cap, .int .i64 s.made], .string x.ph, .slice ox x.ps.length cx] w1 fun e w' => (∃ v', e = .returned (.tuple #[v', .int .i64 (updateL s x.ph x.ps).2]) ∧ isS w' (updateL s x.ph x.ps).1 v') ∧ Below w1.heap.size w1 w') := Lib.hid fun w1 hK => Update_any s x.ph x.ps _ _ w1 (hE.kb hK) hF hfg (isS_below hK h) (isGs_below hK hg)
  have HDE : Hid (∀ w1, KB w w1 → Calls Tryz.prog 77 #[.agg #[.slice o s.l.length cap, .int .i64 s.made], .string x.ph] w1 fun e w' => (∃ v', e = .returned (.tuple #[v', .int .i64 (deleteL s x.ph).2]) ∧ isS w' (deleteL s x.ph).1 v') ∧ Below w1.heap.size w1 w') := Lib.hid fun w1 hK => Delete_any s x.ph _ w1 (hE.kb hK) hF (isS_below hK h)
  unfold effectL
  clear h hts hm hg hok hfg hE hF hX hx
  generalize s.l.length = n at *
  generalize s.made = md at *
  generalize x.kd = q at *
  have HK3 := Lib.hid hK3
  have H3 := Lib.hid (And.intro n3 hsz)
  obtain ⟨a0, a1⟩ := two_cells n1
  obtain ⟨b0, b1, b2, b3, b4⟩ := five_cells n2
  clear hK3 n1 n2 n3 hsz
  go_enter Tryz.func53, Tryz.ntmps53
  by_cases k0 : q = 0
  · rw [if_pos k0]
    subst k0
    generalize createL s x.ty x.ps = C at *
    obtain ⟨t, p, ec⟩ := C
    go_wp2_with fail
    refine (HCR.out _ HK3.out).mono ?_
    rintro e w6 ⟨⟨v', rfl, hs'⟩, hb6⟩
    obtain ⟨o6, c6, rfl, -, -⟩ := isS_two hs'
    have hb := (hb6.block (w.heap.size + 2) (by rw [H3.out.2]; omega)).trans H3.out.1
    obtain ⟨x1, x2, ⟨⟨_, q1⟩, q1', q1''⟩, ⟨⟨_, q2⟩, q2', q2''⟩, d0, d1, HQ, -⟩ := res_two hb hs'
    have HB6 := Lib.hid hb6
    clear hb hs' hb6 a0 a1 b0 b1 b2 b3 b4
    go_wp2_with fail
    refine bodyPost_ret (v := .tuple #[.agg #[.slice o6 t.l.length c6, .int .i64 t.made], .string p, .int .i64 ec]) (by simp [results, Tryz.results53, go_sem, d0, d1]) rfl ?_
    exact ⟨⟨_, rfl, HQ.out.2.1⟩, (HK3.out.trans (HB6.out.mono HK3.out.size)).grown HQ.out.1 (by have := HK3.out.size; have := HB6.out.size; omega) (fun r e => by cases e; omega)⟩
  · rw [if_neg k0]
    have k0b : (q == 0) = false := beqI k0
    by_cases k1 : q = 1
    · rw [if_pos k1]
      subst k1
      generalize updateL s x.ph x.ps = C at *
      obtain ⟨t, ec⟩ := C
      clear k0 k0b
      go_wp2_with fail
      refine (HUP.out _ HK3.out).mono ?_
      rintro e w6 ⟨⟨v', rfl, hs'⟩, hb6⟩
      obtain ⟨o6, c6, rfl, -, -⟩ := isS_two hs'
      have hb := (hb6.block (w.heap.size + 2) (by rw [H3.out.2]; omega)).trans H3.out.1
      obtain ⟨x1, x2, ⟨⟨_, q1⟩, q1', q1''⟩, ⟨⟨_, q2⟩, q2', q2''⟩, d0, d1, HQ, -⟩ := res_two hb hs'
      obtain ⟨x3, x4, ⟨⟨_, q3⟩, q3', q3''⟩, ⟨⟨_, q4⟩, q4', q4''⟩, d2, d3, HQ2, -⟩ := res_two (t := t) (o := o6) (cap := c6) HQ.out.2.2 HQ.out.2.1
      have HB6 := Lib.hid hb6
      clear hb hs' hb6 a0 a1 b0 b1 b2 b3 b4
      go_wp2_with fail
      refine bodyPost_ret (v := .tuple #[.agg #[.slice o6 t.l.length c6, .int .i64 t.made], .string ⟨#[]⟩, .int .i64 ec]) (by simp [results, Tryz.results53, go_sem, d2, d3]) rfl ?_
      exact ⟨⟨_, rfl, HQ2.out.2.1⟩, ((HK3.out.trans (HB6.out.mono HK3.out.size)).grown HQ.out.1 (by have := HK3.out.size; have := HB6.out.size; omega) (fun r e => by cases e; omega)).grown HQ2.out.1 (by have := HK3.out.size; have := HB6.out.size; have := HQ.out.1.size; omega) (fun r e => by cases e; omega)⟩
    · rw [if_neg k1]
      have k1b : (q == 1) = false := beqI k1
      generalize deleteL s x.ph = C at *
      obtain ⟨t, ec⟩ := C
      clear k0 k1
      go_wp2_with fail
      refine (HDE.out _ HK3.out).mono ?_
      rintro e w6 ⟨⟨v', rfl, hs'⟩, hb6⟩
      obtain ⟨o6, c6, rfl, -, -⟩ := isS_two hs'
      have hb := (hb6.block (w.heap.size + 2) (by rw [H3.out.2]; omega)).trans H3.out.1
      obtain ⟨x1, x2, ⟨⟨_, q1⟩, q1', q1''⟩, ⟨⟨_, q2⟩, q2', q2''⟩, d0, d1, HQ, -⟩ := res_two hb hs'
      obtain ⟨x3, x4, ⟨⟨_, q3⟩, q3', q3''⟩, ⟨⟨_, q4⟩, q4', q4''⟩, d2, d3, HQ2, -⟩ := res_two (t := t) (o := o6) (cap := c6) HQ.out.2.2 HQ.out.2.1
      have HB6 := Lib.hid hb6
      clear hb hs' hb6 a0 a1 b0 b1 b2 b3 b4
      go_wp2_with fail
      refine bodyPost_ret (v := .tuple #[.agg #[.slice o6 t.l.length c6, .int .i64 t.made], .string ⟨#[]⟩, .int .i64 ec]) (by simp [results, Tryz.results53, go_sem, d2, d3]) rfl ?_
      exact ⟨⟨_, rfl, HQ2.out.2.1⟩, ((HK3.out.trans (HB6.out.mono HK3.out.size)).grown HQ.out.1 (by have := HK3.out.size; have := HB6.out.size; omega) (fun r e => by cases e; omega)).grown HQ2.out.1 (by have := HK3.out.size; have := HB6.out.size; have := HQ.out.1.size; omega) (fun r e => by cases e; omega)⟩
end Go.Proofs.YtkigeegahepnaaaGreatDoor

namespace Go.Proofs.YtkigeegahepnaaaGreatDoor
open Go.RowKit Go.Maps Go.Deep

theorem hkb_alloc {W w : World} (o : Obj) (h : Hid (KB W w)) : Hid (KB W (w.alloc o)) := Lib.hid (h.out.trans ((kbA (w := w) (o := o)).mono h.out.size))
theorem hkb_dr {W w : World} (h : Hid (KB W w)) : Hid (KB W w.drew) := Lib.hid h.out.drew
/-- What the effect left: a store in a new box. -/
structure TK (w : World) (t : St) (B : Nat) (o : Option Addr) (cap : Nat) (W : World) : Prop where
  bel : KB w W
  low : w.heap.size ≤ B
  box : W.heap[B]? = some (.cells #[.slice o t.l.length cap, .int .i64 t.made] 69 (0, 0))
  st : isS W t (.agg #[.slice o t.l.length cap, .int .i64 t.made])
set_option maxRecDepth 100000 in
set_option maxHeartbeats 8000000 in
theorem take_any (x : Cl) (u : Value) (w : World) {N b : Nat} {s : St} {L : List (Cl × An)} {tk fl : List Int} {lv mv tv fv : Value} (hE : Env9 w) (hF : fineS s) (hX : fineX x) (hx : isX w x u) (h : isC w N b s L tk fl lv mv tv fv) :
    Calls Tryz.prog 39 #[.pointer (some ⟨b, 0, none⟩), u] w fun e w' => e = .returned (.tuple #[.string (takeL s x).2.ph, .bool (takeL s x).2.ok]) ∧ OnC w (Fp b mv tv fv) N b (takeL s x).1 L tk fl w' := by
  obtain ⟨ox, cx, rfl, hg, hok⟩ := isX_form hx
  have hA1 : KB w (w.alloc (.cells #[.int .i64 x.tok, .int .i8 x.kd, .string x.ph, .string x.ty, .slice ox x.ps.length cx] 32)) := kbA
  have n1 := World.alloc_heap_new w (.cells #[.int .i64 x.tok, .int .i8 x.kd, .string x.ph, .string x.ty, .slice ox x.ps.length cx] 32)
  obtain ⟨o, cap, ot, ct, of, cf, m, rfl, rfl, rfl, rfl⟩ := h.forms
  have HEF : Hid (∀ w1, KB (w.alloc (.cells #[.int .i64 x.tok, .int .i8 x.kd, .string x.ph, .string x.ty, .slice ox x.ps.length cx] 32)) w1 → Calls Tryz.prog 53 #[.agg #[.slice o s.l.length cap, .int .i64 s.made], .agg #[.int .i64 x.tok, .int .i8 x.kd, .string x.ph, .string x.ty, .slice ox x.ps.length cx]] w1 fun e w' => (∃ v', e = .returned (.tuple #[v', .string (effectL s x).2.1, .int .i64 (effectL s x).2.2]) ∧ isS w' (effectL s x).1 v') ∧ Below w1.heap.size w1 w') := Lib.hid fun w1 hK => by
    have hk := hA1.trans (hK.mono hA1.size)
    exact effect_any s x _ _ w1 (hE.kb hk) hF hX (isS_below hk h.st) (isX_below hk hx)
  have HC := Lib.hid h
  have bx := five_cells ((hA1.block b h.bl).trans h.box)
  have HA := Lib.hid hA1
  have HN := Lib.hid n1
  have bl := h.bl
  obtain ⟨r, hr⟩ : ∃ r, takeL s x = r := ⟨_, rfl⟩
  rw [hr]
  unfold takeL at hr
  clear hE hF hX hx hg hok h
  generalize effectL s x = C at *
  obtain ⟨t, p, ec⟩ := C
  have HR := Lib.hid hr
  clear hr
  go_enter Tryz.func39, Tryz.ntmps39
  go_upto_region 1 with fail
  generalize w.alloc (.cells #[.int .i64 x.tok, .int .i8 x.kd, .string x.ph, .string x.ty, .slice ox x.ps.length cx] 32) = W1 at *
  go_cut [6, 7, 8] (fun s6 s7 s8 wx => ∃ B o' c', s6 = .pointer (some ⟨B, 0, none⟩) ∧ s7 = .string p ∧ s8 = .int .i64 ec ∧ Hid (TK w t B o' c' wx))
  case first =>
    have HEG : Hid (∀ w1, Hid (KB W1 w1) → Calls Tryz.prog 53 #[.agg #[.slice o s.l.length cap, .int .i64 s.made], .agg #[.int .i64 x.tok, .int .i8 x.kd, .string x.ph, .string x.ty, .slice ox x.ps.length cx]] w1 fun e w' => (∃ v', e = .returned (.tuple #[v', .string p, .int .i64 ec]) ∧ isS w' t v') ∧ Hid (Below w1.heap.size w1 w') ∧ Hid (KB W1 w')) := Lib.hid fun w1 hK => (HEF.out w1 hK.out).mono fun e w' ⟨h, hb⟩ => ⟨h, Lib.hid hb, Lib.hid (hK.out.trans (hb.mono hK.out.size))⟩
    clear HEF
    obtain ⟨r0, r1, r2, r3, r4⟩ := five_cells n1
    obtain ⟨b0, b1, -, -, -⟩ := bx
    clear n1
    have HK0 : Hid (KB W1 W1) := Lib.hid (Below.refl _ _)
    have HS : Hid (∀ W, KB W1 W → (W.cell? ⟨b, 0, none⟩ = some (.slice o s.l.length cap) ∧ W.cell? ⟨b, 1, none⟩ = some (.int .i64 s.made)) ∧ W.cell? ⟨w.heap.size, 0, none⟩ = some (.int .i64 x.tok) ∧ W.cell? ⟨w.heap.size, 1, none⟩ = some (.int .i8 x.kd) ∧ W.cell? ⟨w.heap.size, 2, none⟩ = some (.string x.ph) ∧ W.cell? ⟨w.heap.size, 3, none⟩ = some (.string x.ty) ∧ W.cell? ⟨w.heap.size, 4, none⟩ = some (.slice ox x.ps.length cx)) := Lib.hid fun W hK => ⟨⟨cell_below hK _ _ b0, cell_below hK _ _ b1⟩, cell_below hK _ _ r0, cell_below hK _ _ r1, cell_below hK _ _ r2, cell_below hK _ _ r3, cell_below hK _ _ r4⟩
    go_region_held3 (fun w' => Hid (KB W1 w') ∧ w'.cell? ⟨b, 0, none⟩ = some (.slice o s.l.length cap) ∧ w'.cell? ⟨b, 1, none⟩ = some (.int .i64 s.made) ∧ w'.cell? ⟨w.heap.size, 0, none⟩ = some (.int .i64 x.tok) ∧ w'.cell? ⟨w.heap.size, 1, none⟩ = some (.int .i8 x.kd) ∧ w'.cell? ⟨w.heap.size, 2, none⟩ = some (.string x.ph) ∧ w'.cell? ⟨w.heap.size, 3, none⟩ = some (.string x.ty) ∧ w'.cell? ⟨w.heap.size, 4, none⟩ = some (.slice ox x.ps.length cx))
      (first | (refine ⟨by first | assumption | exact hkb_dr (by assumption) | exact hkb_alloc _ (by assumption) | exact hkb_alloc _ (hkb_dr (by assumption)), ?_⟩; go_keep))
      (first
      | (go_at_call 53; refine (HEG.out _ (by first | assumption | exact hkb_dr (by assumption) | exact hkb_alloc _ (by assumption) | exact hkb_alloc _ (hkb_dr (by assumption)))).mono ?_; rintro e w6 ⟨⟨v', rfl, hs'⟩, hb6, hk6⟩; obtain ⟨o6, c6, rfl, -, -⟩ := isS_two hs'; obtain ⟨⟨_, _⟩, _, _, _, _, _⟩ := HS.out _ hk6.out; first | (have hbz : w6.heap[W1.heap.size]? = some (.cells #[.slice none 0 0, .int .i64 0] 69 (0, 0)) := (hb6.out.block W1.heap.size (by simp)).trans (World.alloc_heap_new _ _); obtain ⟨x1, x2, ⟨⟨_, q1⟩, q1', q1''⟩, ⟨⟨_, q2⟩, q2', q2''⟩, d0, d1, HQ, HQ1⟩ := res_two hbz hs'; have hkx1 : Hid (KB W1 x1) := Lib.hid (hk6.out.grown HQ1.out hk6.out.size (fun r e => by cases e; exact Nat.le_refl _)); have hkx2 : Hid (KB W1 x2) := Lib.hid (hk6.out.grown HQ.out.1 hk6.out.size (fun r e => by cases e; exact Nat.le_refl _)); obtain ⟨⟨_, _⟩, _, _, _, _, _⟩ := HS.out _ hkx1.out; obtain ⟨⟨_, _⟩, _, _, _, _, _⟩ := HS.out _ hkx2.out) | skip))
    all_goals
      go_wp2_with fail
      go_meet
      first
        | exact ⟨_, o6, c6, rfl, rfl, rfl, Lib.hid ⟨HA.out.trans (hkx2.out.mono HA.out.size), HA.out.size, HQ.out.2.2, HQ.out.2.1⟩⟩
        | exact ⟨_, o6, c6, rfl, rfl, rfl, Lib.hid ⟨HA.out.trans ((hkb_alloc _ hk6).out.mono HA.out.size), Nat.le_trans HA.out.size hk6.out.size, World.alloc_heap_new _ _, isS_below kbA hs'⟩⟩
  case rest =>
    obtain ⟨B, o', c', rfl, rfl, rfl, HT⟩ := hcut
    clear HEF bx n1
    obtain ⟨g0, g1⟩ := two_cells HT.out.box
    have HCw := Lib.hid (HC.out.below HT.out.bel)
    by_cases hz : ec = 0
    · subst hz
      have HR2 : Hid (r = (t, ⟨true, true, p⟩)) := Lib.hid (by have := HR.out; rw [if_pos rfl] at this; exact this.symm)
      clear HR
      obtain ⟨y1, y2, ⟨⟨_, q1⟩, q1', q1''⟩, ⟨⟨_, q2⟩, q2', q2''⟩, HY⟩ := HCw.out.sto HT.out.st
      go_wp2_with fail
      go_ret2
      rw [HR2.out]
      exact ⟨rfl, OnC.from HT.out.bel ⟨_, _, _, _, HY.out.1, HY.out.2, fun k hk => .inl hk⟩⟩
    · have HR2 : Hid (r = (s, ⟨true, false, ⟨#[]⟩⟩)) := Lib.hid (by have := HR.out; rw [if_neg hz] at this; exact this.symm)
      clear HR
      have hzb : (ec != 0) = true := bne_iff_ne.2 hz
      have hzb2 : (ec == 0) = false := beqI hz
      go_wp2_with fail
      go_ret2
      rw [HR2.out]
      exact ⟨rfl, HC.out.on HT.out.bel⟩
end Go.Proofs.YtkigeegahepnaaaGreatDoor

namespace Go.Proofs.YtkigeegahepnaaaGreatDoor
open Go.RowKit

set_option maxRecDepth 100000 in
set_option maxHeartbeats 4000000 in
theorem wrongX_any (x : Cl) (v : Value) (w : World) (hE : Env9 w) (hF : fineX x) (h : isX w x v) :
    Calls Tryz.prog 35 #[v] w fun e w' => e = .returned (.int .i64 (wrongC x)) ∧ Below w.heap.size w w' := by
  have hX := h
  obtain ⟨o, cap, rfl, hg, hok⟩ := isX_form h
  have hfg := fineG_of hF.1
  have hA1 : KB w (w.alloc (.cells #[.int .i64 x.tok, .int .i8 x.kd, .string x.ph, .string x.ty, .slice o x.ps.length cap] 32)) := kbA
  have HM := Lib.hid (mayNot_any x _ _ hfg.1 (isX_below hA1 hX))
  have HC : Hid (∀ w1, KB w w1 → Calls Tryz.prog 50 #[.string x.ty, .slice o x.ps.length cap] w1 fun e w' => e = .returned (.int .i64 (checkL x.ty x.ps)) ∧ Below w1.heap.size w1 w') := Lib.hid fun w1 hK => Check_any x.ty x.ps _ w1 (hE.kb hK) (by have := hF.2.1; omega) hfg.1 hfg.2 (isGs_below hK hg)
  have HA1 := Lib.hid hA1
  have HN := Lib.hid (World.alloc_heap_new w (.cells #[.int .i64 x.tok, .int .i8 x.kd, .string x.ph, .string x.ty, .slice o x.ps.length cap] 32))
  unfold wrongC
  generalize mayNotB x = mb at *
  generalize x.kd = q at *
  clear hA1 hX hg hok hfg hE hF h
  cases mb with
  | true =>
    rw [if_pos rfl]
    go_enter Tryz.func35, Tryz.ntmps35
    go_wp2_with (go_at_call 49; refine HM.out.mono ?_; rintro e w5 ⟨rfl, hb5⟩)
    go_ret
    exact ⟨rfl, HA1.out.trans (hb5.mono HA1.out.size)⟩
  | false =>
    rw [if_neg (by decide)]
    by_cases hk : q = 2
    · rw [if_pos hk]
      subst hk
      go_enter Tryz.func35, Tryz.ntmps35
      go_wp2_with (go_at_call 49; refine HM.out.mono ?_; rintro e w5 ⟨rfl, hb5⟩; obtain ⟨r0, r1, r2, r3, r4⟩ := five_cells ((hb5.block w.heap.size (by simp)).trans HN.out))
      go_ret
      exact ⟨rfl, HA1.out.trans (hb5.mono HA1.out.size)⟩
    · rw [if_neg hk]
      have hkb : (q == 2) = false := beqI hk
      clear hk
      go_enter Tryz.func35, Tryz.ntmps35
      go_wp2_with (first
        | (go_at_call 49; refine HM.out.mono ?_; rintro e w5 ⟨rfl, hb5⟩; obtain ⟨r0, r1, r2, r3, r4⟩ := five_cells ((hb5.block w.heap.size (by simp)).trans HN.out))
        | (go_at_call 50; refine (HC.out _ (HA1.out.trans (hb5.mono HA1.out.size))).mono ?_; rintro e w6 ⟨rfl, hb6⟩))
      go_ret
      exact ⟨rfl, (HA1.out.trans (hb5.mono HA1.out.size)).trans (hb6.mono (HA1.out.trans (hb5.mono HA1.out.size)).size)⟩
end Go.Proofs.YtkigeegahepnaaaGreatDoor
