/-
  The cloud's End: what lies there on the way. · A call is put into the map, while a region draws its order. · The cloud's End: the map's update, the result's box, the flight's cut. · The cloud's Submit.
-/
import Derived.Test.YtkigeegahepnaaaGreatDoorHA
import Derived.Test.YtkigeegahepnaaaGreatDoorGV
import Derived.Deep.RegionLaw
import Derived.Deep.RegionWith
import Derived.Deep.RegionHeld3
import Derived.Deep.Cut
import Derived.Deep.CutBlock
import Derived.Deep.CutRange
import Derived.Deep.DeepCutAuto
set_option linter.unusedVariables false
set_option linter.unusedSimpArgs false
namespace Go.Proofs.YtkigeegahepnaaaGreatDoor
open Go.RowKit Go.Maps Go.Deep

theorem lawZ : Keyed Tryz.prog 3 := int_keyed Tryz.underlying3
theorem zeroTold (w : World) : (zeroValue 78).run Tryz.prog w = .ok (.agg #[.int .i64 0, .int .i8 0, .string ⟨#[]⟩, .string ⟨#[]⟩, .slice none 0 0, .bool false, .bool false, .string ⟨#[]⟩]) w := by kernel_rfl
theorem isTo_zero (W : World) : isTo W (zCl, zAn) (.agg #[.int .i64 0, .int .i8 0, .string ⟨#[]⟩, .string ⟨#[]⟩, .slice none 0 0, .bool false, .bool false, .string ⟨#[]⟩]) :=
  ⟨_, rfl, ⟨⟨0, 0, none⟩, 0, ⟨none, rfl, Nat.le_refl _, by unfold maxLen; omega, fun h => absurd h (by decide)⟩, fun i h => absurd h (by simp [zCl])⟩⟩
/-- A look at a token. -/
theorem mapR.look {W : World} {N : Nat} {L : List (Cl × An)} {mv : Value} (h : mapR W N L mv) {z : Int} (hz : okZ z) :
    ∃ u, (∀ W' c, (∀ m, mv = .map (some m) → W'.heap[m]? = W.heap[m]?) → (Instr.lookup 70 mv (.int .i64 z) c).run Tryz.prog W' = .ok (if c then .tuple #[u, .bool (findC L z).isSome] else u) W') ∧ isTo W ((findC L z).getD (zCl, zAn)) u := by
  rcases h with ⟨rfl, rfl⟩ | ⟨m, f, rfl, hm, ht⟩
  · refine ⟨_, fun W' c _ => ?_, isTo_zero W⟩
    have := Maps.look_nil (w := W') c lawZ Tryz.underlying70 (zeroTold W') (keyOf_int_mk Tryz.underlying3 (okZ_wf hz))
    rw [this]
    cases c <;> rfl
  · have hl := fun W' c (hb : ∀ m', Value.map (some m) = .map (some m') → W'.heap[m']? = W.heap[m']?) => (hm.block (hb m rfl)).look lawZ Tryz.underlying3 Tryz.underlying70 c (zeroTold W') hz
    have h2 := ht z hz
    unfold toldZ at h2
    cases hf : findC L z with
    | none =>
      rw [hf] at h2
      dsimp only at h2
      rw [h2] at hl
      exact ⟨_, hl, isTo_zero W⟩
    | some p =>
      rw [hf] at h2
      obtain ⟨v, hv, hto⟩ := h2
      rw [hv] at hl
      exact ⟨v, hl, hto⟩
theorem isTo_form {W : World} {p : Cl × An} {v : Value} (h : isTo W p v) : ∃ (o : Option Addr) (cap : Nat), v = .agg #[.int .i64 p.1.tok, .int .i8 p.1.kd, .string p.1.ph, .string p.1.ty, .slice o p.1.ps.length cap, .bool p.2.en, .bool p.2.ok, .string p.2.ph] ∧ isGs W p.1.ps (.slice o p.1.ps.length cap) := by
  obtain ⟨pv, rfl, hg⟩ := h
  have hg' := hg
  obtain ⟨a, cap, ⟨o, rfl, _⟩, _⟩ := hg
  exact ⟨o, cap, rfl, hg'⟩
theorem isTo_below {W W' : World} (hb : Below W.heap.size W W') {p : Cl × An} {v : Value} (h : isTo W p v) : isTo W' p v := by
  obtain ⟨pv, h1, h2⟩ := h
  exact ⟨pv, h1, isGs_below hb h2⟩
abbrev bxT (x : Cl) (o : Option Addr) (cap : Nat) (a : An) : Obj := .cells #[.int .i64 x.tok, .int .i8 x.kd, .string x.ph, .string x.ty, .slice o x.ps.length cap, .bool a.en, .bool a.ok, .string a.ph] 78 (0, 0)
/-- On the way through End: the cloud; the call's own two boxes: the answer's (of the result) and the one of the call with its answer. -/
structure EN (w : World) (P : Nat → Prop) (N b : Nat) (s : St) (L : List (Cl × An)) (tk fl : List Int) (x : Cl) (o : Option Addr) (cap : Nat) (a : An) (lv mv tv fv : Value) (W : World) : Prop where
  c : isC W N b s L tk fl lv mv tv fv
  fr : Fr P w W
  fp : ∀ k, Fp b mv tv fv k → P k ∨ w.heap.size + 2 ≤ k
  sz : w.heap.size + 2 ≤ W.heap.size
  lo : ∀ k, P k → k < w.heap.size
  box : W.heap[w.heap.size + 1]? = some (bxT x o cap a)
  res : W.heap[w.heap.size]? = some (.cells #[.bool false, .bool false, .string ⟨#[]⟩] 38 (0, 0))
  ps : isGs W x.ps (.slice o x.ps.length cap)
section
variable {w W W' : World} {P : Nat → Prop} {N b : Nat} {s : St} {L : List (Cl × An)} {tk fl : List Int} {x : Cl} {o : Option Addr} {cap : Nat} {a : An} {lv mv tv fv : Value}
/-- A step of the cloud's. -/
theorem EN.step (h : EN w P N b s L tk fl x o cap a lv mv tv fv W) {N' : Nat} {s' : St} {L' : List (Cl × An)} {tk' fl' : List Int} {lv' mv' tv' fv' : Value} (hc : isC W' N' b s' L' tk' fl' lv' mv' tv' fv') (hF : Fr (Fp b mv tv fv) W W') (hp : ∀ k, Fp b mv' tv' fv' k → Fp b mv tv fv k ∨ W.heap.size ≤ k) :
    EN w P N' b s' L' tk' fl' x o cap a lv' mv' tv' fv' W' := by
  have hz := h.sz
  have hn : ∀ k, k < w.heap.size + 2 → ¬ P k → ¬ Fp b mv tv fv k := fun k hk hP hf => by
    rcases h.fp k hf with h | h
    · exact hP h
    · omega
  refine ⟨hc, ?_, fun k hk => ?_, Nat.le_trans hz hF.size, h.lo, hF.2 _ _ h.box (hn _ (by omega) (fun hP => by have := h.lo _ hP; omega)), hF.2 _ _ h.res (hn _ (by omega) (fun hP => by have := h.lo _ hP; omega)), isGs_fr h.c.nos hF h.ps⟩
  · refine ⟨⟨hF.1.1.trans h.fr.1.1, hF.1.2.1.trans h.fr.1.2.1, hF.1.2.2.1.trans h.fr.1.2.2.1, Nat.le_trans h.fr.size hF.size⟩, fun k o ho hk => hF.2 k o (h.fr.2 k o ho hk) (hn k ?_ hk)⟩
    have := (Array.getElem?_eq_some_iff.1 ho).1
    omega
  · rcases hp k hk with h1 | h1
    · exact h.fp k h1
    · exact .inr (by omega)
/-- The call's box is written. -/
theorem EN.own (h : EN w P N b s L tk fl x o cap a lv mv tv fv W) (hH : heldS s L) (hx : ∀ g ∈ x.ps, heldP g.v) {a' : An} (hg : W.grownBy W' (some (w.heap.size + 1))) (hb : W'.heap[w.heap.size + 1]? = some (bxT x o cap a')) : EN w P N b s L tk fl x o cap a' lv mv tv fv W' := by
  have hz := h.sz
  have hT := odd_told h.box
  have hd : ∀ k, Fp b mv tv fv k → k ≠ w.heap.size + 1 := fun k hk e => by
    rcases h.fp k hk with h1 | h1
    · have := h.lo k h1; omega
    · omega
  refine ⟨h.c.odd hH hT hg (fun i hi => ?_) hd, ?_, h.fp, Nat.le_trans hz hg.size, h.lo, hb, (hg.block _ (by omega) (fun e => by have := Option.some.inj e; omega)).trans h.res, isGs_odd hT hg hx h.ps⟩
  · have e1 := h.box
    simp only [World.cell?, hb, e1]
    rcases i with _ | _ | _ | _ | _ | i
    all_goals first | rfl | omega
  · refine ⟨⟨hg.os.trans h.fr.1.1, hg.tape.trans h.fr.1.2.1, hg.output.trans h.fr.1.2.2.1, Nat.le_trans h.fr.size hg.size⟩, fun k o ho hk => ?_⟩
    have hl := (Array.getElem?_eq_some_iff.1 ho).1
    exact (hg.block k (by have := h.fr.size; omega) (fun e => by have := Option.some.inj e; omega)).trans (h.fr.2 k o ho hk)
theorem EN.on (h : EN w P N b s L tk fl x o cap a lv mv tv fv W) : OnC w P N b s L tk fl W := ⟨lv, mv, tv, fv, h.c, h.fr, fun k hk => (h.fp k hk).imp id (fun h => by omega)⟩
/-- The result's box is written: what is left of it all. -/
theorem EN.fin (h : EN w P N b s L tk fl x o cap a lv mv tv fv W) (hH : heldS s L) (hg : W.grownBy W' (some w.heap.size)) : OnC w P N b s L tk fl W' := by
  have hz := h.sz
  have hd : ∀ k, Fp b mv tv fv k → k ≠ w.heap.size := fun k hk e => by
    rcases h.fp k hk with h1 | h1
    · have := h.lo k h1; omega
    · omega
  refine ⟨lv, mv, tv, fv, h.c.odd hH (odd_answer h.res) hg (fun i hi => absurd hi (by omega)) hd, ⟨⟨hg.os.trans h.fr.1.1, hg.tape.trans h.fr.1.2.1, hg.output.trans h.fr.1.2.2.1, Nat.le_trans h.fr.size hg.size⟩, fun k o ho hk => ?_⟩, fun k hk => (h.fp k hk).imp id (fun h => by omega)⟩
  have hl := (Array.getElem?_eq_some_iff.1 ho).1
  exact (hg.block k (by have := h.fr.size; omega) (fun e => by have := Option.some.inj e; omega)).trans (h.fr.2 k o ho hk)
end
theorem eight_told {W : World} {B : Nat} {c0 c1 c2 c3 c4 c5 c6 c7 : Value} {t : TypeId} (h : W.heap[B]? = some (.cells #[c0, c1, c2, c3, c4, c5, c6, c7] t (0, 0))) : W.cell? ⟨B, 0, none⟩ = some c0 ∧ W.cell? ⟨B, 1, none⟩ = some c1 ∧ W.cell? ⟨B, 2, none⟩ = some c2 ∧ W.cell? ⟨B, 3, none⟩ = some c3 ∧ W.cell? ⟨B, 4, none⟩ = some c4 ∧ W.cell? ⟨B, 5, none⟩ = some c5 ∧ W.cell? ⟨B, 6, none⟩ = some c6 ∧ W.cell? ⟨B, 7, none⟩ = some c7 := by
  simp [World.cell?, h]
theorem rowIs_told {w : World} {b : Nat} {c0 c1 c2 c3 c4 c5 c6 c7 : Value} {t : TypeId} (h : w.heap[b]? = some (.cells #[c0, c1, c2, c3, c4, c5, c6, c7] t (0, 0))) : w.rowIs b t 8 (fun i => (#[c0, c1, c2, c3, c4, c5, c6, c7][i]?).getD undef) :=
  ⟨_, h, rfl, fun i hi => by
    match i, hi with
    | 0, _ => rfl
    | 1, _ => rfl
    | 2, _ => rfl
    | 3, _ => rfl
    | 4, _ => rfl
    | 5, _ => rfl
    | 6, _ => rfl
    | 7, _ => rfl⟩
theorem set_told {w : World} {b : Nat} {c0 c1 c2 c3 c4 c5 c6 c7 : Value} {t : TypeId} (h : w.heap[b]? = some (.cells #[c0, c1, c2, c3, c4, c5, c6, c7] t (0, 0))) (u : Value) :
    (∃ y, ((∃ u, w.cell? ⟨b, 5, none⟩ = some u) ∧ w.frozen? ⟨b, 5, none⟩ = false ∧ w.setCell ⟨b, 5, none⟩ u = y) ∧ y.heap[b]? = some (.cells #[c0, c1, c2, c3, c4, u, c6, c7] t (0, 0)) ∧ w.grownBy y (some b)) ∧
    (∃ y, ((∃ u, w.cell? ⟨b, 6, none⟩ = some u) ∧ w.frozen? ⟨b, 6, none⟩ = false ∧ w.setCell ⟨b, 6, none⟩ u = y) ∧ y.heap[b]? = some (.cells #[c0, c1, c2, c3, c4, c5, u, c7] t (0, 0)) ∧ w.grownBy y (some b)) ∧
    (∃ y, ((∃ u, w.cell? ⟨b, 7, none⟩ = some u) ∧ w.frozen? ⟨b, 7, none⟩ = false ∧ w.setCell ⟨b, 7, none⟩ u = y) ∧ y.heap[b]? = some (.cells #[c0, c1, c2, c3, c4, c5, c6, u] t (0, 0)) ∧ w.grownBy y (some b)) := by
  have g := rowIs_told h
  refine ⟨⟨_, ⟨⟨_, g.cell (show 5 < 8 by decide)⟩, g.frozen _, rfl⟩, by simp [World.setCell, Array.getElem?_modify, h], grown_set _ _ _ _⟩, ⟨_, ⟨⟨_, g.cell (show 6 < 8 by decide)⟩, g.frozen _, rfl⟩, by simp [World.setCell, Array.getElem?_modify, h], grown_set _ _ _ _⟩, ⟨_, ⟨⟨_, g.cell (show 7 < 8 by decide)⟩, g.frozen _, rfl⟩, by simp [World.setCell, Array.getElem?_modify, h], grown_set _ _ _ _⟩⟩
end Go.Proofs.YtkigeegahepnaaaGreatDoor

namespace Go.Proofs.YtkigeegahepnaaaGreatDoor
open Go.RowKit Go.Maps Go.Deep

theorem mapR.trim {W : World} {N : Nat} {L : List (Cl × An)} {mv : Value} (h : mapR W N L mv) : mapR W L.length L mv := by
  rcases h with h | ⟨m, f, rfl, hm, ht⟩
  · exact .inl h
  · refine .inr ⟨m, f, rfl, ?_, ht⟩
    have := hm.trim lawZ Tryz.underlying3 (ks := L.map (·.1.tok)) (fun z hz hf => by
      have h2 := ht z hz
      unfold toldZ at h2
      cases hp : findC L z with
      | none => rw [hp] at h2; exact absurd h2 hf
      | some p =>
        obtain ⟨h3, h4⟩ := findC_some hp
        exact List.mem_map.2 ⟨p, h3, h4⟩)
    rwa [List.length_map] at this
theorem isC.trim {W : World} {N b : Nat} {s : St} {L : List (Cl × An)} {tk fl : List Int} {lv mv tv fv : Value} (h : isC W N b s L tk fl lv mv tv fv) : isC W L.length b s L tk fl lv mv tv fv :=
  ⟨h.box, h.st, h.mp.trim, h.tk, h.fl, h.ne⟩
/-- The cloud, with the call or without it. -/
def ST (wd : World) (b m : Nat) (s : St) (L : List (Cl × An)) (tk fl : List Int) (x : Cl) (lv tv fv : Value) (W : World) : Prop :=
  ∃ L0, (L0 = L ∨ L0 = L ++ [(x, zAn)]) ∧ isC W L0.length b s L0 tk fl lv (.map (some m)) tv fv ∧ Fr (Fp b (.map (some m)) tv fv) wd W
section
variable {wd W W' : World} {b m : Nat} {s : St} {L : List (Cl × An)} {tk fl : List Int} {x : Cl} {lv tv fv : Value}
theorem ST.below (h : ST wd b m s L tk fl x lv tv fv W) (hb : Below W.heap.size W W') : ST wd b m s L tk fl x lv tv fv W' := by
  obtain ⟨L0, h1, h2, h3⟩ := h
  exact ⟨L0, h1, h2.below hb, h3.trans (Fr.of_below hb)⟩
theorem st_dr (h : Hid (ST wd b m s L tk fl x lv tv fv W)) : Hid (ST wd b m s L tk fl x lv tv fv W.drew) := Lib.hid (h.out.below (drewB1 _ _))
theorem st_al (o : Obj) (h : Hid (ST wd b m s L tk fl x lv tv fv W)) : Hid (ST wd b m s L tk fl x lv tv fv (W.alloc o)) := Lib.hid (h.out.below kbA)
theorem ST.upd (h : ST wd b m s L tk fl x lv tv fv W) (hL : L.length ≤ 1000000) (hn : findC L x.tok = none) (hz : okZ x.tok) {v : Value} (hv : ∀ W', (∀ (l : List G) (v : Value), isGs W l v → isGs W' l v) → isTo W' (x, zAn) v) :
    ∃ n f, n < maxLen ∧ MapZ Tryz.prog 3 W m n f ∧ ∀ w', MapZ Tryz.prog 3 w' m (n + 1) (fun z => if z = x.tok then some v else f z) → W.grownBy w' (some m) → isC w' (L ++ [(x, zAn)]).length b s (L ++ [(x, zAn)]) tk fl lv (.map (some m)) tv fv ∧ Fr (Fp b (.map (some m)) tv fv) wd w' := by
  obtain ⟨L0, h1, h2, h3⟩ := h
  rcases h2.mp with ⟨e, -⟩ | ⟨m', f, e, hm, hf⟩
  · cases e
  · simp only [Value.map.injEq, Option.some.injEq] at e
    subst e
    have hl0 : L0.length ≤ 1000001 := by
      rcases h1 with rfl | rfl
      · omega
      · simp; omega
    refine ⟨L0.length, f, by unfold maxLen; omega, hm, fun w' hm' hg => ?_⟩
    have hF : Fr (Fp b (.map (some m)) tv fv) W w' := (Fr.grown (B := fun k => k = m) hg (fun r e => (Option.some.inj e).symm)).mono (fun k _ hk => .inr (.inl (by rw [hk])))
    have hk : ∀ (l : List G) (v : Value), isGs W l v → isGs w' l v := fun l v hg' => isGs_fr h2.nos hF hg'
    have hto := hv w' hk
    have hfw : ∀ z, okZ z → toldZ w' L0 f z := fun z hz => toldZ_of hk (hf z hz)
    have hT : ∀ z, okZ z → toldZ w' (L ++ [(x, zAn)]) (fun z => if z = x.tok then some v else f z) z := by
      rcases h1 with rfl | rfl
      · exact toldZ_snoc (x := (x, zAn)) hn hto hfw
      · intro z hz'
        have h4 := hfw z hz'
        unfold toldZ at h4 ⊢
        by_cases e : z = x.tok
        · subst e
          rw [findC_snoc, hn, Option.none_or, if_pos rfl]
          exact ⟨v, if_pos rfl, hto⟩
        · dsimp only
          rw [if_neg e]
          exact h4
    obtain ⟨hc, hf'⟩ := h2.mps (L' := L ++ [(x, zAn)]) hm' hg hT
    exact ⟨hc.trim, h3.trans hf'⟩
theorem ST.put {o6 : Option Addr} {c6 : Nat} (h : Hid (ST wd b m s L tk fl x lv tv fv W)) (hL : L.length ≤ 1000000) (hn : findC L x.tok = none) (hz : okZ x.tok) (hg : Hid (isGs W x.ps (.slice o6 x.ps.length c6))) :
    ∃ w', (Instr.mapUpdate 70 (.map (some m)) (.int .i64 x.tok) (.agg #[.int .i64 x.tok, .int .i8 x.kd, .string x.ph, .string x.ty, .slice o6 x.ps.length c6, .bool false, .bool false, .string ⟨#[]⟩])).run Tryz.prog W = .ok () w' ∧ Hid (ST wd b m s L tk fl x lv tv fv w') ∧
      Hid (isC w' (L ++ [(x, zAn)]).length b s (L ++ [(x, zAn)]) tk fl lv (.map (some m)) tv fv ∧ Fr (Fp b (.map (some m)) tv fv) wd w') := by
  obtain ⟨n, f, hn', hm', hup⟩ := h.out.upd hL hn hz (v := .agg #[.int .i64 x.tok, .int .i8 x.kd, .string x.ph, .string x.ty, .slice o6 x.ps.length c6, .bool false, .bool false, .string ⟨#[]⟩]) (fun W' hk => ⟨_, rfl, hk _ _ hg.out⟩)
  obtain ⟨w', hrun, h1, h2⟩ := hm'.update lawZ Tryz.underlying3 Tryz.underlying70 hn' hz (.agg #[.int .i64 x.tok, .int .i8 x.kd, .string x.ph, .string x.ty, .slice o6 x.ps.length c6, .bool false, .bool false, .string ⟨#[]⟩])
  obtain ⟨h3, h4⟩ := hup w' h1 h2
  exact ⟨w', hrun, Lib.hid ⟨_, .inr rfl, h3, h4⟩, Lib.hid ⟨h3, h4⟩⟩
end
end Go.Proofs.YtkigeegahepnaaaGreatDoor

namespace Go.Proofs.YtkigeegahepnaaaGreatDoor
open Go.RowKit Go.Maps Go.Deep

theorem EN.trim {w W : World} {P : Nat → Prop} {N b : Nat} {s : St} {L : List (Cl × An)} {tk fl : List Int} {x : Cl} {o : Option Addr} {cap : Nat} {a : An} {lv mv tv fv : Value} (h : EN w P N b s L tk fl x o cap a lv mv tv fv W) : EN w P L.length b s L tk fl x o cap a lv mv tv fv W :=
  ⟨h.c.trim, h.fr, h.fp, h.sz, h.lo, h.box, h.res, h.ps⟩
theorem EN.kb {w W W' : World} {P : Nat → Prop} {N b : Nat} {s : St} {L : List (Cl × An)} {tk fl : List Int} {x : Cl} {o : Option Addr} {cap : Nat} {a : An} {lv mv tv fv : Value} (h : EN w P N b s L tk fl x o cap a lv mv tv fv W) (hb : Below W.heap.size W W') : EN w P N b s L tk fl x o cap a lv mv tv fv W' :=
  h.step (h.c.below hb) (Fr.of_below hb) (fun k hk => .inl hk)
/-- The call with its answer is put back into the map. -/
theorem EN.upd {w W : World} {P : Nat → Prop} {N b m : Nat} {s : St} {L : List (Cl × An)} {tk fl : List Int} {x : Cl} {o : Option Addr} {cap : Nat} {a : An} {lv tv fv : Value} (h : EN w P N b s L tk fl x o cap a lv (.map (some m)) tv fv W) (hN : N ≤ 1000000) {z : Int} (hz : okZ z) {a0 : An} (hf : findC L z = some (x, a0)) :
    ∃ w', (Instr.mapUpdate 70 (.map (some m)) (.int .i64 z) (.agg #[.int .i64 x.tok, .int .i8 x.kd, .string x.ph, .string x.ty, .slice o x.ps.length cap, .bool a.en, .bool a.ok, .string a.ph])).run Tryz.prog W = .ok () w' ∧
      Hid (EN w P L.length b s (setA L z a) tk fl x o cap a lv (.map (some m)) tv fv w') := by
  rcases h.c.mp with ⟨e, -⟩ | ⟨m', f, e, hm, ht⟩
  · cases e
  · simp only [Value.map.injEq, Option.some.injEq] at e
    subst e
    obtain ⟨w', hrun, h1, hg⟩ := hm.update lawZ Tryz.underlying3 Tryz.underlying70 (by unfold maxLen; omega) hz (.agg #[.int .i64 x.tok, .int .i8 x.kd, .string x.ph, .string x.ty, .slice o x.ps.length cap, .bool a.en, .bool a.ok, .string a.ph])
    have hF : Fr (Fp b (.map (some m)) tv fv) W w' := (Fr.grown (B := fun k => k = m) hg (fun r e => (Option.some.inj e).symm)).mono (fun k _ hk => .inr (.inl (by rw [hk])))
    have hk : ∀ (l : List G) (v : Value), isGs W l v → isGs w' l v := fun l v hg' => isGs_fr h.c.nos hF hg'
    have hfw : ∀ z, okZ z → toldZ w' L f z := fun z hz => toldZ_of hk (ht z hz)
    obtain ⟨hc, hf'⟩ := h.c.mps h1 hg (toldZ_set (a := a) hf ⟨_, rfl, hk _ _ h.ps⟩ hfw)
    have := (h.step hc hf' (fun k hk => .inl hk)).trim
    rw [setA_len] at this
    exact ⟨w', hrun, Lib.hid this⟩
/-- A box of three is written. -/
theorem store_answer {w : World} {b : Nat} {c0 c1 c2 : Value} {t : TypeId} (h : w.heap[b]? = some (.cells #[c0, c1, c2] t (0, 0))) (d0 d1 d2 : Value) :
    ∃ w1 w2 w3, ((∃ u, w.cell? ⟨b, 0, none⟩ = some u) ∧ w.frozen? ⟨b, 0, none⟩ = false ∧ w.setCell ⟨b, 0, none⟩ d0 = w1) ∧ ((∃ u, w1.cell? ⟨b, 1, none⟩ = some u) ∧ w1.frozen? ⟨b, 1, none⟩ = false ∧ w1.setCell ⟨b, 1, none⟩ d1 = w2) ∧ ((∃ u, w2.cell? ⟨b, 2, none⟩ = some u) ∧ w2.frozen? ⟨b, 2, none⟩ = false ∧ w2.setCell ⟨b, 2, none⟩ d2 = w3) ∧
      w3.cell? ⟨b, 0, none⟩ = some d0 ∧ w3.cell? ⟨b, 1, none⟩ = some d1 ∧ w3.cell? ⟨b, 2, none⟩ = some d2 ∧ Hid (w.grownBy w3 (some b) ∧ w3.heap[b]? = some (.cells #[d0, d1, d2] t (0, 0))) := by
  have h0 := rowIs_three h
  have h1 := h0.set 0 d0
  have h2 := h1.set 1 d1
  have e1 : (w.setCell ⟨b, 0, none⟩ d0).heap[b]? = some (.cells #[d0, c1, c2] t (0, 0)) := by simp [World.setCell, Array.getElem?_modify, h]
  have e2 : ((w.setCell ⟨b, 0, none⟩ d0).setCell ⟨b, 1, none⟩ d1).heap[b]? = some (.cells #[d0, d1, c2] t (0, 0)) := by
    generalize w.setCell ⟨b, 0, none⟩ d0 = y at e1
    simp [World.setCell, Array.getElem?_modify, e1]
  have e3 : (((w.setCell ⟨b, 0, none⟩ d0).setCell ⟨b, 1, none⟩ d1).setCell ⟨b, 2, none⟩ d2).heap[b]? = some (.cells #[d0, d1, d2] t (0, 0)) := by
    generalize (w.setCell ⟨b, 0, none⟩ d0).setCell ⟨b, 1, none⟩ d1 = y at e2
    simp [World.setCell, Array.getElem?_modify, e2]
  refine ⟨_, _, _, ⟨⟨_, h0.cell (show 0 < 3 by decide)⟩, h0.frozen _, rfl⟩, ⟨⟨_, h1.cell (show 1 < 3 by decide)⟩, h1.frozen _, rfl⟩, ⟨⟨_, h2.cell (show 2 < 3 by decide)⟩, h2.frozen _, rfl⟩, ?_, ?_, ?_, Lib.hid ⟨grown_trans (grown_trans (grown_set _ _ _ _) (grown_set _ _ _ _)) (grown_set _ _ _ _), e3⟩⟩
  all_goals
    simp only [World.cell?, e3]
    rfl
/-- A part of a row, from k on. -/
theorem rdI.tail {W : World} {x : List Int} {o : Option Addr} {n c : Nat} (h : rdI W x (.slice o n c)) (k : Nat) (hk : k ≤ x.length) (hx : 0 < x.length) : ∃ a, o = some a ∧ n = x.length ∧ n ≤ c ∧ rdI W (x.drop k) (.slice (some (if c = k then a else a.add (k * 1))) (n - k) (c - k)) := by
  obtain ⟨o', a, c2, h0, h2, h3, h4, h5⟩ := h
  cases h0
  obtain rfl := h4 hx
  refine ⟨a, rfl, rfl, h2, ⟨_, if c = k then a else a.add (k * 1), c - k, by rw [List.length_drop], by rw [List.length_drop]; omega, by omega, fun _ => rfl, fun j u hj => ?_⟩⟩
  have hlt := (List.getElem?_eq_some_iff.1 hj).1
  rw [iCells_length, List.length_drop] at hlt
  rw [if_neg (by omega), Nat.mul_one, Addr.add_add]
  refine h5 (k + j) u ?_
  unfold iCells at hj ⊢
  rw [List.map_drop, List.getElem?_drop] at hj
  exact hj
end Go.Proofs.YtkigeegahepnaaaGreatDoor

namespace Go.Proofs.YtkigeegahepnaaaGreatDoor
open Go.RowKit Go.Maps Go.Deep

theorem rdI_one {W : World} {g : Nat} {z : Int} (h : W.cell? ⟨g, 0, none⟩ = some (.int .i64 z)) : rdI W [z] (.slice (some ⟨g, 0, none⟩) 1 1) :=
  ⟨_, ⟨g, 0, none⟩, 1, rfl, by simp, by unfold maxLen; omega, fun _ => rfl, fun j u hj => by
    rcases j with _ | j
    · simp [iCells] at hj
      subst hj
      simpa [Addr.add] using h
    · simp [iCells] at hj⟩
theorem step_app_z {w : World} {ops : Array Oper} {o : Oper} {a : Act} {K : Act → World → Prop} {Q : Exit → Act → World → Prop} {E : Prop} (hgd : o.guard = none) (s x : Operand)
    (ho : o.op = .call { callee := .builtin .append, args := #[s, x], argTypes := #[50, 50] })
    (v u : Value) (l : List Int) (z : Int) (hs : a.eval s = v) (hx : a.eval x = u) (hown : owI 0 w v l) (hy : rdI w [z] u) (hsz : l.length + 1 ≤ 1000000)
    (h : ∀ o' c' w', owI 0 w' (.slice o' (l.length + 1) c') (l ++ [z]) → w.grownBy w' v.ownBlock → ((Value.slice o' (l.length + 1) c').ownBlock = v.ownBlock ∨ (Value.slice o' (l.length + 1) c').ownBlock = some w.heap.size) → K (a.put o.dst (.slice o' (l.length + 1) c')) w') :
    if Region.wanted o (yielded ops a.tmps) = true then Oper.wp Tryz.prog o a w K Q else E :=
  step_app_owI hgd s x ho 0 v u l [z] hs hx hown hy hsz (Nat.zero_le _) h
theorem eqm (W : World) (mo : Option Nat) : (binOp .eql 70 (.map mo) (.map none)).run Tryz.prog W = .ok (.bool mo.isNone) W := by cases mo <;> kernel_rfl
theorem eqm_none (W : World) : (binOp .eql 70 (.map none) (.map none)).run Tryz.prog W = .ok (.bool true) W := by kernel_rfl
theorem eqm_some (W : World) (m : Nat) : (binOp .eql 70 (.map (some m)) (.map none)).run Tryz.prog W = .ok (.bool false) W := by kernel_rfl

set_option maxRecDepth 100000 in
set_option maxHeartbeats 8000000 in
theorem submit_any (x : Cl) (v : Value) (w : World) {N b : Nat} {s : St} {L : List (Cl × An)} {tk fl : List Int} {lv mv tv fv : Value} (hE : Env9 w) (hF : fineX x) (hX : isX w x v) (h : isC w N b s L tk fl lv mv tv fv) (hLn : L.length ≤ 1000000) (htk : tk.length ≤ 1000) (hfl : fl.length ≤ 1000) :
    Calls Tryz.prog 14 #[.pointer (some ⟨b, 0, none⟩), v] w fun e w' => e = .returned (.int .i64 (wrongC x)) ∧
      ((wrongC x = 0 ∧ (findC L x.tok).isSome = false ∧ OnC w (Fp b mv tv fv) (L ++ [(x, zAn)]).length b s (L ++ [(x, zAn)]) (tk ++ [x.tok]) (fl ++ [x.tok]) w') ∨ ((wrongC x ≠ 0 ∨ (findC L x.tok).isSome = true) ∧ OnC w (Fp b mv tv fv) N b s L tk fl w')) := by
  obtain ⟨mo, rfl⟩ : ∃ mo, mv = .map mo := by obtain ⟨_, _, _, _, _, _, m, -, -, -, e⟩ := h.forms; exact ⟨m, e⟩
  obtain ⟨o, cap, rfl, hg, hok⟩ := isX_form hX
  have hA1 : KB w (w.alloc (.cells #[.int .i64 x.tok, .int .i8 x.kd, .string x.ph, .string x.ty, .slice o x.ps.length cap] 32)) := kbA
  have HW := Lib.hid (wrongX_any x _ _ (hE.kb hA1) hF (isX_below hA1 hX))
  have HN := Lib.hid (World.alloc_heap_new w (.cells #[.int .i64 x.tok, .int .i8 x.kd, .string x.ph, .string x.ty, .slice o x.ps.length cap] 32))
  have HC := Lib.hid h
  have HA := Lib.hid hA1
  have HX := Lib.hid hX
  have HG := Lib.hid hg
  have HFX := Lib.hid (fineG_of hF.1)
  have HLN := Lib.hid hLn
  by_cases hw : wrongC x = 0
  · have HWZ := Lib.hid hw
    rw [hw] at HW ⊢
    clear hw
    have bx := five_cells h.box
    clear h hX hA1 hg hE
    go_enter Tryz.func14, Tryz.ntmps14
    go_wp2_with fail
    refine HW.out.mono ?_
    rintro e w5 ⟨rfl, hb5⟩
    obtain ⟨r0, r1, r2, r3, r4⟩ := five_cells ((hb5.block w.heap.size (by simp)).trans HN.out)
    go_upto_region 6 with fail
    have HXB : Hid (∀ W, KB w5 W → W.heap[w.heap.size]? = some (.cells #[.int .i64 x.tok, .int .i8 x.kd, .string x.ph, .string x.ty, .slice o x.ps.length cap] 32 (0, 0))) := Lib.hid fun W hK => (hK.block _ (by have := hb5.size; simp at this; omega)).trans ((hb5.block w.heap.size (by simp)).trans HN.out)
    have H5 : Hid (KB w w5) := Lib.hid (HA.out.trans (hb5.mono HA.out.size))
    have HC5 := Lib.hid (HC.out.below H5.out)
    obtain ⟨c0, c1, c2, c3, c4⟩ := five_cells HC5.out.box
    obtain ⟨u, hlk, hto⟩ := HC5.out.mp.look hok.1
    obtain ⟨ou, cu, rfl, -⟩ := isTo_form hto
    generalize (findC L x.tok).getD (zCl, zAn) = pp at *
    have LK : Hid (∀ W', KB w5 W' → (Instr.lookup 70 (.map mo) (.int .i64 x.tok) true).run Tryz.prog W' = .ok (.tuple #[.agg #[.int .i64 pp.1.tok, .int .i8 pp.1.kd, .string pp.1.ph, .string pp.1.ty, .slice ou pp.1.ps.length cu, .bool pp.2.en, .bool pp.2.ok, .string pp.2.ph], .bool (findC L x.tok).isSome]) W') := Lib.hid fun W' hK => hlk W' true (fun m e => hK.block _ (HC5.out.lt m (.inr (.inl e))))
    clear hb5 hto hlk r1 r2 r3 r4 c0 c1 c3 c4
    have HS : Hid (∀ W, Hid (KB w5 W) → Hid (KB w5 W) ∧ W.cell? ⟨b, 2, none⟩ = some (.map mo) ∧ W.cell? ⟨w.heap.size, 0, none⟩ = some (.int .i64 x.tok) ∧ (Instr.lookup 70 (.map mo) (.int .i64 x.tok) true).run Tryz.prog W = .ok (.tuple #[.agg #[.int .i64 pp.1.tok, .int .i8 pp.1.kd, .string pp.1.ph, .string pp.1.ty, .slice ou pp.1.ps.length cu, .bool pp.2.en, .bool pp.2.ok, .string pp.2.ph], .bool (findC L x.tok).isSome]) W) := Lib.hid fun W hK => ⟨hK, cell_below hK.out _ _ c2, cell_below hK.out _ _ r0, LK.out _ hK.out⟩
    have hk0 : Hid (KB w5 w5) := Lib.hid (Below.refl _ _)
    obtain ⟨-, -, -, l1⟩ := HS.out _ hk0
    obtain ⟨ok, hokE⟩ : ∃ ok, (findC L x.tok).isSome = ok := ⟨_, rfl⟩
    rw [hokE] at HS l1 LK
    have HOK := Lib.hid hokE
    clear hokE
    go_cut [6, 7] (fun s6 s7 wx => s7 = .bool ok ∧ Hid (KB w5 wx))
    case first =>
      go_region_held3 (fun W => Hid (KB w5 W) ∧ W.cell? ⟨b, 2, none⟩ = some (.map mo) ∧ W.cell? ⟨w.heap.size, 0, none⟩ = some (.int .i64 x.tok) ∧ (Instr.lookup 70 (.map mo) (.int .i64 x.tok) true).run Tryz.prog W = .ok (.tuple #[.agg #[.int .i64 pp.1.tok, .int .i8 pp.1.kd, .string pp.1.ph, .string pp.1.ty, .slice ou pp.1.ps.length cu, .bool pp.2.en, .bool pp.2.ok, .string pp.2.ph], .bool ok]) W)
        (first | (refine HS.out _ ?_; first | assumption | exact hkb_dr (by assumption) | exact hkb_alloc _ (by assumption) | exact hkb_alloc _ (hkb_dr (by assumption)) | exact hkb_dr (hkb_alloc _ (by assumption))))
        (first | fail)
      all_goals
        go_wp2_with fail
        go_meet
        exact ⟨rfl, by first | assumption | exact hkb_dr (by assumption) | exact hkb_alloc _ (by assumption) | exact hkb_alloc _ (hkb_dr (by assumption)) | exact hkb_dr (hkb_alloc _ (by assumption))⟩
    case rest =>
      obtain ⟨rfl, hK⟩ := hcut
      clear LK HS l1 hk0 r0 c2
      have hKw : Hid (KB w wc) := Lib.hid (H5.out.trans (hK.out.mono H5.out.size))
      cases ok with
      | true =>
        go_wp2_with fail
        go_ret
        exact ⟨rfl, .inr ⟨.inr HOK.out, HC.out.on hKw.out⟩⟩
      | false =>
        have HCc := Lib.hid (HC.out.below hKw.out).trim
        have hXb : wc.heap[w.heap.size]? = some (.cells #[.int .i64 x.tok, .int .i8 x.kd, .string x.ph, .string x.ty, .slice o x.ps.length cap] 32 (0, 0)) := HXB.out wc hK.out
        have HXC := Lib.hid hXb
        obtain ⟨-, -, c2, -, -⟩ := five_cells HCc.out.box
        clear hXb
        have hq := eqm wc mo
        obtain ⟨wp, rfl⟩ : ∃ wp, wp = wc := ⟨_, rfl⟩
        go_upto_if 30 with fail
        go_cut [] (fun wx => ∃ m, Hid (isC wx L.length b s L tk fl lv (.map (some m)) tv fv ∧ Fr (Fp b (.map mo) tv fv) wp wx ∧ ∀ k, Fp b (.map (some m)) tv fv k → Fp b (.map mo) tv fv k ∨ wp.heap.size ≤ k))
        case first =>
          cases mo with
          | none =>
            obtain rfl : L = [] := by
              rcases HCc.out.mp with ⟨-, e⟩ | ⟨_, _, e, -⟩
              · exact e
              · cases e
            obtain ⟨y, ⟨⟨_, q1⟩, q1', q1''⟩, HY⟩ := HCc.out.mkm
            have hmm := @run_makeMap Tryz.prog
            go_wp2_with fail
            go_meet
            exact ⟨_, HY⟩
          | some m =>
            go_wp2_with fail
            go_meet
            exact ⟨m, Lib.hid ⟨HCc.out, Fr.refl _ _, fun k hk => .inl hk⟩⟩
        case rest =>
          obtain ⟨m, HM⟩ := hcut
          clear c2 hq
          obtain ⟨wd, rfl⟩ : ∃ wd, wd = wc := ⟨_, rfl⟩
          have hqf : ¬ Fp b (.map (some m)) tv fv w.heap.size := fun hk => by
            rcases HM.out.2.2 _ hk with h | h
            · have := HC.out.lt _ h; omega
            · have := (Array.getElem?_eq_some_iff.1 HXC.out).1; omega
          have hqf0 : ¬ Fp b (.map mo) tv fv w.heap.size := fun hk => by have := HC.out.lt _ hk; omega
          have hXd := HM.out.2.1.2 _ _ HXC.out hqf0
          have hgd : isGs wd x.ps (.slice o x.ps.length cap) := isGs_fr HCc.out.nos HM.out.2.1 (isGs_below hKw.out HG.out)
          have hxd : isX wd x (.agg #[.int .i64 x.tok, .int .i8 x.kd, .string x.ph, .string x.ty, .slice o x.ps.length cap]) := ⟨_, rfl, hgd, hok⟩
          have hst0 : Hid (ST wd b m s L tk fl x lv tv fv wd) := Lib.hid ⟨L, .inl rfl, HM.out.1, Fr.refl _ _⟩
          have CC : Hid (∀ W, Hid (ST wd b m s L tk fl x lv tv fv W) → Calls Tryz.prog 36 #[.agg #[.int .i64 x.tok, .int .i8 x.kd, .string x.ph, .string x.ty, .slice o x.ps.length cap]] W fun e w' => (∃ o6 c6, e = .returned (.agg #[.int .i64 x.tok, .int .i8 x.kd, .string x.ph, .string x.ty, .slice o6 x.ps.length c6]) ∧ Hid (isGs w' x.ps (.slice o6 x.ps.length c6))) ∧ Hid (ST wd b m s L tk fl x lv tv fv w')) := Lib.hid fun W hS => by
            obtain ⟨L0, h1, h2, h3⟩ := hS.out
            exact (ccX_any x _ W HFX.out (isX_fr HM.out.1.nos h3 hxd)).mono fun e w' ⟨o6, c6, he, hg, hb⟩ => ⟨⟨o6, c6, he, Lib.hid hg⟩, Lib.hid (hS.out.below hb)⟩
          have HS : Hid (∀ W, Hid (ST wd b m s L tk fl x lv tv fv W) → Hid (ST wd b m s L tk fl x lv tv fv W) ∧ W.cell? ⟨b, 2, none⟩ = some (.map (some m)) ∧ W.cell? ⟨w.heap.size, 0, none⟩ = some (.int .i64 x.tok) ∧ W.cell? ⟨w.heap.size, 1, none⟩ = some (.int .i8 x.kd) ∧ W.cell? ⟨w.heap.size, 2, none⟩ = some (.string x.ph) ∧ W.cell? ⟨w.heap.size, 3, none⟩ = some (.string x.ty) ∧ W.cell? ⟨w.heap.size, 4, none⟩ = some (.slice o x.ps.length cap)) := Lib.hid fun W hS => by
            obtain ⟨L0, h1, h2, h3⟩ := hS.out
            obtain ⟨-, -, q2, -, -⟩ := five_cells h2.box
            exact ⟨hS, q2, five_cells (h3.2 _ _ hXd hqf)⟩
          have HNX := Lib.hid (And.intro hqf hXd)
          have HNO : Hid (findC L x.tok = none) := Lib.hid (by have := HOK.out; cases hf : findC L x.tok with | none => rfl | some p => rw [hf] at this; cases this)
          clear hqf hqf0 hXd hgd hxd
          obtain ⟨-, q2, q3, q4, q5, q6, q7⟩ := HS.out _ hst0
          go_upto_region 11 with fail
          go_cut [] (fun wx => Hid (isC wx (L ++ [(x, zAn)]).length b s (L ++ [(x, zAn)]) tk fl lv (.map (some m)) tv fv ∧ Fr (Fp b (.map (some m)) tv fv) wd wx))
          case first =>
            go_region_held3 (fun W => Hid (ST wd b m s L tk fl x lv tv fv W) ∧ W.cell? ⟨b, 2, none⟩ = some (.map (some m)) ∧ W.cell? ⟨w.heap.size, 0, none⟩ = some (.int .i64 x.tok) ∧ W.cell? ⟨w.heap.size, 1, none⟩ = some (.int .i8 x.kd) ∧ W.cell? ⟨w.heap.size, 2, none⟩ = some (.string x.ph) ∧ W.cell? ⟨w.heap.size, 3, none⟩ = some (.string x.ty) ∧ W.cell? ⟨w.heap.size, 4, none⟩ = some (.slice o x.ps.length cap))
              (first | (refine HS.out _ ?_; first | assumption | exact st_dr (by assumption) | exact st_al _ (by assumption)))
              (first
                | (go_at_call 36; refine (CC.out _ (by first | assumption | exact st_dr (by assumption))).mono ?_; rintro e w6 ⟨⟨o6, c6, rfl, hgs⟩, hst⟩; obtain ⟨w7, hrun7, hst7, hd7⟩ := ST.put hst HLN.out HNO.out hok.1 hgs))
            all_goals
              go_wp2_with fail
              go_meet
              exact hd7
          case rest =>
            have HD := hcut
            clear hcut q2 q3 q4 q5 q6 q7 HS CC hst0
            have hXe := HD.out.2.2 _ _ HNX.out.2 HNX.out.1
            obtain ⟨x0, -, -, -, -⟩ := five_cells hXe
            obtain ⟨-, -, -, t3, -⟩ := five_cells HD.out.1.box
            obtain ⟨we, rfl⟩ : ∃ we, we = wc := ⟨_, rfl⟩
            have OW : Hid (∀ w1, KB we w1 → owI 0 w1 tv tk) := Lib.hid fun w1 hb => (HD.out.1.below hb).tk
            have TOK : Hid (∀ w1 w2 v2, KB we w1 → owI 0 w2 v2 (tk ++ [x.tok]) → w1.grownBy w2 tv.ownBlock → (v2.ownBlock = tv.ownBlock ∨ v2.ownBlock = some w1.heap.size) → ∃ y, ((∃ u, w2.cell? ⟨b, 3, none⟩ = some u) ∧ w2.frozen? ⟨b, 3, none⟩ = false ∧ w2.setCell ⟨b, 3, none⟩ v2 = y) ∧
                Hid (isC y (L ++ [(x, zAn)]).length b s (L ++ [(x, zAn)]) (tk ++ [x.tok]) fl lv (.map (some m)) v2 fv ∧ Fr (Fp b (.map (some m)) tv fv) we y ∧ ∀ k, Fp b (.map (some m)) v2 fv k → Fp b (.map (some m)) tv fv k ∨ we.heap.size ≤ k)) := Lib.hid fun w1 w2 v2 hb own gr at' => by
              obtain ⟨y, hs, hy⟩ := (HD.out.1.below hb).tok own gr at'
              exact ⟨y, hs, Lib.hid ⟨hy.out.1, (Fr.of_below hb).trans hy.out.2.1, fun k hk => (hy.out.2.2 k hk).imp id (fun h => Nat.le_trans hb.size h)⟩⟩
            have x0a := cell_below (kbA (w := we) (o := .cells #[.int .i64 x.tok] 3)) _ _ x0
            have t3a := cell_below (kbA (w := we) (o := .cells #[.int .i64 x.tok] 3)) _ _ t3
            go_upto_region 12 with fail
            go_cut [] (fun wx => ∃ v2, Hid (isC wx (L ++ [(x, zAn)]).length b s (L ++ [(x, zAn)]) (tk ++ [x.tok]) fl lv (.map (some m)) v2 fv ∧ Fr (Fp b (.map (some m)) tv fv) we wx ∧ ∀ k, Fp b (.map (some m)) v2 fv k → Fp b (.map (some m)) tv fv k ∨ we.heap.size ≤ k))
            case first =>
              go_region_law (refine step_app_z rfl (.tmp 48) (.tmp 51) rfl tv _ tk x.tok (by simp [Act.eval, Act.put]) rfl (OW.out _ (by unfold KB; go_grown)) (rdI_one (by simp)) (by omega) ?_; intro o1 c1 w2 own2 gr2 at2; obtain ⟨y, ⟨⟨_, s1⟩, s1', s1''⟩, HY⟩ := TOK.out _ _ _ (by unfold KB; go_grown) own2 gr2 at2)
              all_goals
                go_wp2_with fail
                go_meet
                exact ⟨_, HY⟩
            case rest =>
              obtain ⟨tv2, HT⟩ := hcut
              have hXf := HT.out.2.1.2 _ _ hXe HNX.out.1
              clear x0 t3 x0a t3a OW TOK hXe
              obtain ⟨y0, -, -, -, -⟩ := five_cells hXf
              obtain ⟨-, -, -, -, t4⟩ := five_cells HT.out.1.box
              obtain ⟨wf, rfl⟩ : ∃ wf, wf = wc := ⟨_, rfl⟩
              have OW : Hid (∀ w1, KB wf w1 → owI 0 w1 fv fl) := Lib.hid fun w1 hb => (HT.out.1.below hb).fl
              have FLI : Hid (∀ w1 w2 v2, KB wf w1 → owI 0 w2 v2 (fl ++ [x.tok]) → w1.grownBy w2 fv.ownBlock → (v2.ownBlock = fv.ownBlock ∨ v2.ownBlock = some w1.heap.size) → ∃ y, ((∃ u, w2.cell? ⟨b, 4, none⟩ = some u) ∧ w2.frozen? ⟨b, 4, none⟩ = false ∧ w2.setCell ⟨b, 4, none⟩ v2 = y) ∧
                  Hid (isC y (L ++ [(x, zAn)]).length b s (L ++ [(x, zAn)]) (tk ++ [x.tok]) (fl ++ [x.tok]) lv (.map (some m)) tv2 v2 ∧ Fr (Fp b (.map (some m)) tv2 fv) wf y ∧ ∀ k, Fp b (.map (some m)) tv2 v2 k → Fp b (.map (some m)) tv2 fv k ∨ wf.heap.size ≤ k)) := Lib.hid fun w1 w2 v2 hb own gr at' => by
                obtain ⟨y, hs, hy⟩ := (HT.out.1.below hb).fli own gr at'
                exact ⟨y, hs, Lib.hid ⟨hy.out.1, (Fr.of_below hb).trans hy.out.2.1, fun k hk => (hy.out.2.2 k hk).imp id (fun h => Nat.le_trans hb.size h)⟩⟩
              have x0a := cell_below (kbA (w := wf) (o := .cells #[.int .i64 x.tok] 3)) _ _ y0
              have t4a := cell_below (kbA (w := wf) (o := .cells #[.int .i64 x.tok] 3)) _ _ t4
              go_upto_region 13 with fail
              go_cut [] (fun wx => ∃ v2, Hid (isC wx (L ++ [(x, zAn)]).length b s (L ++ [(x, zAn)]) (tk ++ [x.tok]) (fl ++ [x.tok]) lv (.map (some m)) tv2 v2 ∧ Fr (Fp b (.map (some m)) tv2 fv) wf wx ∧ ∀ k, Fp b (.map (some m)) tv2 v2 k → Fp b (.map (some m)) tv2 fv k ∨ wf.heap.size ≤ k))
              case first =>
                go_region_law (refine step_app_z rfl (.tmp 59) (.tmp 62) rfl fv _ fl x.tok (by simp [Act.eval, Act.put]) rfl (OW.out _ (by unfold KB; go_grown)) (rdI_one (by simp)) (by omega) ?_; intro o1 c1 w2 own2 gr2 at2; obtain ⟨y, ⟨⟨_, s1⟩, s1', s1''⟩, HY⟩ := FLI.out _ _ _ (by unfold KB; go_grown) own2 gr2 at2)
                all_goals
                  go_wp2_with fail
                  go_meet
                  exact ⟨_, HY⟩
              case rest =>
                obtain ⟨fv2, HF2⟩ := hcut
                clear y0 t4 x0a t4a OW FLI hXf
                go_wp2_with fail
                go_ret
                refine ⟨rfl, .inl ⟨trivial, by rw [HNO.out]; rfl, ?_⟩⟩
                exact OnC.from hKw.out (OnC.step HM.out.2.1 HM.out.2.2 (OnC.step HD.out.2 (fun k h => .inl h) (OnC.step HT.out.2.1 HT.out.2.2 ⟨_, _, _, _, HF2.out.1, HF2.out.2.1, HF2.out.2.2⟩)))
  · have z1 : (wrongC x == 0) = false := beqI hw
    have z2 : (wrongC x != 0) = true := bne_iff_ne.2 hw
    have HWN : Hid (wrongC x ≠ 0) := Lib.hid hw
    generalize wrongC x = C at *
    clear hw h hX hA1 hg hE
    go_enter Tryz.func14, Tryz.ntmps14
    go_wp2_with (go_at_call 35; refine HW.out.mono ?_; rintro e w5 ⟨rfl, hb5⟩)
    go_ret
    exact ⟨rfl, .inr ⟨.inl HWN.out, HC.out.on (HA.out.trans (hb5.mono HA.out.size))⟩⟩
end Go.Proofs.YtkigeegahepnaaaGreatDoor
