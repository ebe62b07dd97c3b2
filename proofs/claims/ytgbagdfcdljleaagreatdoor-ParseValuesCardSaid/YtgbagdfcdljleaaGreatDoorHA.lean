/-
  Parse's walk: how the innermost list or object changes; how one is put on. · Parse's walk: what stands ahead of a part. · What stays told of the innermost object when a key is put behind its keys; of the innermost list or object when a value is. · Parse's walk: an object's key and the colon behind it.
-/
import Derived.Test.YtgbagdfcdljleaaGreatDoorHi
import Derived.Maps.OwnOps
set_option linter.unusedVariables false
set_option linter.unusedSimpArgs false
namespace Go.Proofs.YtgbagdfcdljleaaGreatDoor
open Go.RowKit Go.Maps

section
variable {W0 W W' : World} {b : Nat} {s : ByteArray} {d : Int} {k : Nat} {op : List Fm} {ov : Value} {ys : List Value} {B : Nat → Prop}
/-- The innermost one has changed. -/
theorem PW.top {f f' : Fm} {t : List Fm} {g n cap : Nat} {zs : List Value} {Bt Bf' S' : Nat → Prop} {lv kv m : Value} {xs : List Value}
    (h : PW W0 b s d k (f :: t) (.slice (some ⟨g, 0, none⟩) (n + 1) cap) ys B W) (hn : t.length = n) (e3 : isSt W W0.heap.size t zs Bt) (e4 : ∀ q, Bt q → B q)
    (kb : Below W0.heap.size W0 W') (hsz : W.heap.size ≤ W'.heap.size) (hkeep : ∀ q, q < W.heap.size → (Bt q ∨ q = b) → W'.heap[q]? = W.heap[q]?)
    (hrow : W'.ownsRow W0.heap.size 69 8 (.slice (some ⟨g, 0, none⟩) (n + 1) cap) (n + 1) (zs ++ fcells f' lv kv m))
    (hfm : isFm W' W0.heap.size f' lv kv m xs S' Bf') (hB' : ∀ q, Bf' q → W0.heap.size ≤ q ∧ q < W'.heap.size ∧ q ≠ b ∧ q ≠ g ∧ ¬ Bt q) :
    PW W0 b s d k (f' :: t) (.slice (some ⟨g, 0, none⟩) (n + 1) cap) (zs ++ fcells f' lv kv m) (fun q => Bt q ∨ Bf' q) W' where
  kb := kb
  bn := h.bn
  c0 := heap_cell (hkeep b h.blt (.inr rfl)) h.c0
  c1 := heap_cell (hkeep b h.blt (.inr rfl)) h.c1
  c2 := heap_cell (hkeep b h.blt (.inr rfl)) h.c2
  c3 := heap_cell (hkeep b h.blt (.inr rfl)) h.c3
  fz := fun j => (World.frozen?_of_block (w := W) (a := ⟨b, j, none⟩) (hkeep b h.blt (.inr rfl))).trans (h.fz j)
  own := by
    show W'.ownsRow W0.heap.size 69 8 (.slice (some ⟨g, 0, none⟩) (n + 1) cap) (t.length + 1) _
    rw [hn]; exact hrow
  st := ⟨zs, lv, kv, m, xs, S', Bt, Bf', rfl, e3.kp (fun q e => hkeep q (h.hB q (e4 q e)).2.1 (.inl e)), hfm, fun q e => (hB' q e).2.2.2.2, fun q e => e⟩
  hB := fun q e => by
    rcases e with e | e
    · have h8 := h.hB q (e4 q e)
      exact ⟨h8.1, Nat.lt_of_lt_of_le h8.2.1 hsz, h8.2.2⟩
    · have h8 := hB' q e
      refine ⟨h8.1, h8.2.1, h8.2.2.1, fun e' => h8.2.2.2.1 ?_⟩
      have : g = q := by simpa [Value.ownBlock] using e'
      exact this.symm
  hb := h.hb
/-- One is put on: behind the append, ahead of the store. -/
theorem PW.push {f : Fm} {ov' : Value} {lv kv m : Value} {xs : List Value} {S Bf : Nat → Prop}
    (h : PW W0 b s d k op ov ys B W) (hg : W.grownBy W' ov.ownBlock) (hown : W'.ownsRow W0.heap.size 69 8 ov' (op.length + 1) (ys ++ fcells f lv kv m)) (hov : ov'.ownBlock = ov.ownBlock ∨ ov'.ownBlock = some W.heap.size)
    (hfm : isFm W' W0.heap.size f lv kv m xs S Bf) (hB' : ∀ q, Bf q → W0.heap.size ≤ q ∧ q < W'.heap.size ∧ q ≠ b ∧ ov'.ownBlock ≠ some q ∧ ¬ B q) :
    PW W0 b s d k (f :: op) ov' (ys ++ fcells f lv kv m) (fun q => B q ∨ Bf q) (W'.setCell ⟨b, 3, none⟩ ov') := by
  have hbb : W'.heap[b]? = W.heap[b]? := hg.block b h.blt (fun e => h.hb e.symm)
  have hkb : Below W0.heap.size W0 W' := h.kb.grown hg h.kb.size (fun q e => (h.own.lt q e).1)
  have hovb : ov'.ownBlock ≠ some b := fun e => by
    rcases hov with e' | e'
    · rw [e'] at e; exact h.hb e
    · rw [e'] at e
      have : W.heap.size = b := by simpa using e
      have := h.blt; omega
  have hBk : ∀ q, B q → W'.heap[q]? = W.heap[q]? := fun q e => hg.block q (h.hB q e).2.1 (fun e' => (h.hB q e).2.2.2 e'.symm)
  refine ⟨hkb.setCell h.bn _, h.bn, ?_, ?_, ?_, ?_, fun j => ?_, ?_, ?_, fun q e => ?_, hovb⟩
  · rw [World.cell?_setCell_other _ _ _ _ (by simp)]; exact heap_cell hbb h.c0
  · rw [World.cell?_setCell_other _ _ _ _ (by simp)]; exact heap_cell hbb h.c1
  · rw [World.cell?_setCell_other _ _ _ _ (by simp)]; exact heap_cell hbb h.c2
  · exact World.cell?_setCell_same _ _ _ (heap_cell (a := ⟨b, 3, none⟩) hbb h.c3)
  · rw [World.frozen?_setCell]; exact (World.frozen?_of_block (w := W) (a := ⟨b, j, none⟩) hbb).trans (h.fz j)
  · exact own_kp hown fun q e => Below.heap_setCell _ _ _ _ (fun e' => hovb (by have e5 : q = b := e'; rw [← e5]; exact e))
  · refine ⟨ys, lv, kv, m, xs, S, B, Bf, rfl, (h.st.kp hBk).kp (fun q e => Below.heap_setCell _ _ _ _ (h.hB q e).2.2.1), hfm.kp (fun q e => Below.heap_setCell _ _ _ _ (hB' q e).2.2.1), fun q e => (hB' q e).2.2.2.2, fun q e => e⟩
  · rcases e with e | e
    · have h8 := h.hB q e
      refine ⟨h8.1, by have := hg.size; simp; omega, h8.2.2.1, fun e' => ?_⟩
      rcases hov with e2 | e2
      · rw [e2] at e'; exact h8.2.2.2 e'
      · rw [e2] at e'
        have : W.heap.size = q := by simpa using e'
        omega
    · have h8 := hB' q e
      exact ⟨h8.1, by simpa using h8.2.1, h8.2.2.1, h8.2.2.2.1⟩
end
end Go.Proofs.YtgbagdfcdljleaaGreatDoor

namespace Go.Proofs.YtgbagdfcdljleaaGreatDoor
open Go.RowKit Go.Maps

section
variable {W0 W W' : World} {b : Nat} {s : ByteArray} {d : Int} {k : Nat} {op : List Fm} {ov : Value} {ys : List Value} {B : Nat → Prop}
/-- What key leaves. -/
def KeyR (W0 : World) (b : Nat) (s : ByteArray) (d : Int) (t : List Fm) (ov0 : Value) (B0 : Nat → Prop) (W : World) (r : Except Er (Nat × Fm)) (e : Ending) (W' : World) : Prop :=
  match r with
  | .error r => e = faulted r.1 r.2 ∧ Below W0.heap.size W0 W'
  | .ok (k', f') => e = .returned (.tuple #[]) ∧ ∃ ov ys B, PW W0 b s d k' (f' :: t) ov ys B W' ∧ Frm W0 b ov0 B0 W ov B W'
theorem KeyR.err {r : Er} {e : Ending} {t : List Fm} (h : e = faulted r.1 r.2) (hb : Below W0.heap.size W0 W') : KeyR W0 b s d t ov B W (.error r) e W' := ⟨h, hb⟩
set_option maxRecDepth 100000 in
set_option maxHeartbeats 2000000 in
/-- In a list nothing stands there. -/
theorem key_list {f : Fm} {t : List Fm} (h : PW W0 b s d k (f :: t) ov ys B W) (hf : f.obj = false) (ht : t.length < 1000000) :
    Calls Tryz.prog 46 #[.pointer (some ⟨b, 0, none⟩)] W fun e W' => e = .returned (.tuple #[]) ∧ PW W0 b s d k (f :: t) ov ys B W' ∧ Kb b W W' := by
  obtain ⟨g, cap, rfl, hc1, hc2⟩ := h.row (by simp)
  simp only [List.length_cons] at h hc1 ⊢
  have HH := Lib.hid h
  have HI := Lib.hid (inner_any h ht hc1 hc2)
  clear h
  obtain ⟨n, hn⟩ : ∃ n, t.length = n := ⟨_, rfl⟩
  rw [hn] at HI hc1 ht
  go_enter Tryz.func46, Tryz.ntmps46
  go_wp2_with fail
  refine HI.out.mono ?_
  rintro e W1 ⟨rfl, hb1⟩
  have h2 := HH.out.below hb1
  obtain ⟨zs, lv, kv, m, xs, S, Bt, Bf, e1, e2, e3, e4, e5, e6, e7⟩ := h2.cells
  have p0 : W1.cell? ⟨g, n * 8, none⟩ = some (.int .i8 4) := by rw [← hn]; have := e7 0 _ rfl; rw [hf] at this; exact this
  have H2 := Lib.hid h2
  have HB := Lib.hid hb1
  clear h2 e1 e2 e3 e4 e5 e6 e7 hf hb1
  go_wp2_with fail
  refine bodyPost_ret (results_none rfl _ _ _) rfl ?_
  exact ⟨rfl, H2.out, Kb.of_below HB.out⟩
set_option maxRecDepth 100000 in
set_option maxHeartbeats 2000000 in
/-- No quote. -/
theorem key_noquote {f : Fm} {t : List Fm} (h : PW W0 b s d k (f :: t) ov ys B W) (hf : f.obj = true) (ht : t.length < 1000000) (hk : k ≤ s.size) (hs : s.size ≤ 4294967296) (hq : s.data.toList[k]? ≠ some 34) :
    Calls Tryz.prog 46 #[.pointer (some ⟨b, 0, none⟩)] W fun e W' => e = faulted k 40 ∧ Below W0.heap.size W0 W' := by
  obtain ⟨g, cap, rfl, hc1, hc2⟩ := h.row (by simp)
  simp only [List.length_cons] at h hc1 ⊢
  have HH := Lib.hid h
  have HI := Lib.hid (inner_any h ht hc1 hc2)
  clear h
  obtain ⟨n, hn⟩ : ∃ n, t.length = n := ⟨_, rfl⟩
  rw [hn] at HI hc1 ht
  go_enter Tryz.func46, Tryz.ntmps46
  go_wp2_with fail
  refine HI.out.mono ?_
  rintro e W1 ⟨rfl, hb1⟩
  have h2 := HH.out.below hb1
  obtain ⟨zs, lv, kv, m, xs, S, Bt, Bf, e1, e2, e3, e4, e5, e6, e7⟩ := h2.cells
  have p0 : W1.cell? ⟨g, n * 8, none⟩ = some (.int .i8 5) := by rw [← hn]; have := e7 0 _ rfl; rw [hf] at this; exact this
  have HS := Lib.hid (stands_any h2 34 hk hs)
  rw [decide_eq_false hq] at HS
  have H2 := Lib.hid h2
  clear h2 e1 e2 e3 e4 e5 e6 e7 hf hq
  go_wp2_with fail
  refine HS.out.mono ?_
  rintro e W2 ⟨rfl, hb2⟩
  have h3 := H2.out.below hb2
  have c1 := h3.c1
  have H3 := Lib.hid h3
  clear h3
  go_wp2_with fail
  exact ⟨rfl, rfl, H3.out.kb⟩
set_option maxRecDepth 100000 in
set_option maxHeartbeats 2000000 in
/-- The key's fault is that of its text. -/
theorem key_badtext {f : Fm} {t : List Fm} (h : PW W0 b s d k (f :: t) ov ys B W) (hE : Ru.Env W0) (hf : f.obj = true) (ht : t.length < 1000000) (hs : s.size ≤ 4294967296) (hq : s.data.toList[k]? = some 34) (hu : (Ru.unqL s.data.toList k).2.2 ≠ 0) :
    Calls Tryz.prog 46 #[.pointer (some ⟨b, 0, none⟩)] W fun e W' => e = faulted (Ru.unqL s.data.toList k).2.1 (Ru.unqL s.data.toList k).2.2 ∧ Below W0.heap.size W0 W' := by
  obtain ⟨g, cap, rfl, hc1, hc2⟩ := h.row (by simp)
  simp only [List.length_cons] at h hc1 ⊢
  have hk : k ≤ s.size := by have := lt_of_some hq; rw [toList_length] at this; omega
  have HH := Lib.hid h
  have HI := Lib.hid (inner_any h ht hc1 hc2)
  clear h
  obtain ⟨n, hn⟩ : ∃ n, t.length = n := ⟨_, rfl⟩
  rw [hn] at HI hc1 ht
  go_enter Tryz.func46, Tryz.ntmps46
  go_wp2_with fail
  refine HI.out.mono ?_
  rintro e W1 ⟨rfl, hb1⟩
  have h2 := HH.out.below hb1
  obtain ⟨zs, lv, kv, m, xs, S, Bt, Bf, e1, e2, e3, e4, e5, e6, e7⟩ := h2.cells
  have p0 : W1.cell? ⟨g, n * 8, none⟩ = some (.int .i8 5) := by rw [← hn]; have := e7 0 _ rfl; rw [hf] at this; exact this
  have HS := Lib.hid (stands_any h2 34 hk hs)
  rw [decide_eq_true hq] at HS
  have H2 := Lib.hid h2
  have HQ := Lib.hid hq
  have HU := Lib.hid hu
  clear h2 e1 e2 e3 e4 e5 e6 e7 hf hq hu
  go_wp2_with fail
  refine HS.out.mono ?_
  rintro e W2 ⟨rfl, hb2⟩
  have h3 := H2.out.below hb2
  have c1 := h3.c1
  have H3 := Lib.hid h3
  clear h3
  go_wp2_with fail
  refine (text_any H3.out hE HQ.out hs).mono ?_
  intro e W3 h4
  unfold TexR at h4
  rw [if_neg HU.out] at h4
  obtain ⟨rfl, h5⟩ := h4
  have H5 := Lib.hid h5
  clear h5
  unfold faulted
  first
    | exact ⟨rfl, rfl, H5.out⟩
    | (go_wp2_with fail; exact ⟨rfl, rfl, H5.out⟩)
end
end Go.Proofs.YtgbagdfcdljleaaGreatDoor

namespace Go.Proofs.YtgbagdfcdljleaaGreatDoor
open Go.RowKit Go.Maps

theorem types_apart {W : World} {b1 b2 : Nat} {e1 e2 : TypeId} {s1 s2 n1 n2 : Nat} {v1 v2 : Value} {x1 x2 : List Value} (h1 : W.ownsRow b1 e1 s1 v1 n1 x1) (h2 : W.ownsRow b2 e2 s2 v2 n2 x2) (he : e1 ≠ e2) : ∀ q, v1.ownBlock = some q → v2.ownBlock ≠ some q := by
  intro q h3 h4
  rcases h1.2 with ⟨hv, _⟩ | ⟨g, cap, cur, rfl, _, hg, _⟩
  · rw [hv] at h3; cases h3
  rcases h2.2 with ⟨hv, _⟩ | ⟨g', cap', cur', rfl, _, hg', _⟩
  · rw [hv] at h4; cases h4
  have e1' : g = q := by simpa [Value.ownBlock] using h3
  have e2' : g' = q := by simpa [Value.ownBlock] using h4
  rw [e1'] at hg
  rw [e2', hg] at hg'
  cases hg'
  exact he rfl
theorem map_apart {P : Program} {W : World} {b1 : Nat} {e1 : TypeId} {s1 n1 : Nat} {v1 : Value} {x1 : List Value} (h1 : W.ownsRow b1 e1 s1 v1 n1 x1) {k : TypeId} {mb n : Nat} {F : ByteArray → Option Value} (h2 : MapIs P k W mb n F) : v1.ownBlock ≠ some mb := by
  intro h3
  obtain ⟨D, ⟨es, clock, hb, _⟩, _⟩ := h2
  rcases h1.2 with ⟨hv, _⟩ | ⟨g, cap, cur, rfl, _, hg, _⟩
  · rw [hv] at h3; cases h3
  have e1' : g = mb := by simpa [Value.ownBlock] using h3
  rw [e1', hb] at hg
  cases hg
section
variable {W0 W W5 W7 : World} {b : Nat} {s : ByteArray} {d : Int} {k : Nat} {op : List Fm} {ys : List Value} {B : Nat → Prop}
theorem PW.keyed {f : Fm} {t : List Fm} {g n cap mb : Nat} {zs : List Value} {lv kv : Value} {xs : List Value} {S Bt Bf : Nat → Prop} {K : ByteArray} {o7 : Option Addr} {c7 n2 : Nat}
    (h : PW W0 b s d k (f :: t) (.slice (some ⟨g, 0, none⟩) (n + 1) cap) ys B W) (hn : t.length = n)
    (e1 : ys = zs ++ fcells f lv kv (.map (some mb))) (e2 : zs.length = t.length * 8) (e3 : isSt W W0.heap.size t zs Bt) (e4 : isFm W W0.heap.size f lv kv (.map (some mb)) xs S Bf) (e5 : ∀ q, Bf q → ¬ Bt q) (e6 : ∀ q, (Bt q ∨ Bf q) → B q)
    (hf : f.obj = true) (hn2 : f.ks.length = n2) (hKs : K.size ≤ 1000000)
    (hm0 : MapIs Tryz.prog 9 W mb f.ks.length (unitF f.ks)) (hmB : Bf mb) (hmS : ¬ S mb) (hmb : W0.heap.size ≤ mb)
    (hb5 : Below W0.heap.size W0 W5) (hk5 : ∀ q, q < W.heap.size → q ≠ mb → W5.heap[q]? = W.heap[q]?) (hs5 : W.heap.size ≤ W5.heap.size)
    (M5 : MapIs Tryz.prog 9 W5 mb (n2 + 1) (unitF (f.ks ++ [K])))
    {cs : Array Value} {ct : TypeId} (gr7 : (W5.alloc (.cells cs ct)).grownBy W7 kv.ownBlock) (own7 : W7.ownsRow W0.heap.size 9 1 (.slice o7 (n2 + 1) c7) (n2 + 1) (f.ks.map .string ++ [.string K]))
    (at7 : (Value.slice o7 (n2 + 1) c7).ownBlock = kv.ownBlock ∨ (Value.slice o7 (n2 + 1) c7).ownBlock = some (W5.alloc (.cells cs ct)).heap.size) :
    ∃ B', PW W0 b s d k ({ f with ks := f.ks ++ [K] } :: t) (.slice (some ⟨g, 0, none⟩) (n + 1) cap) (zs ++ fcells { f with ks := f.ks ++ [K] } lv (.slice o7 (n2 + 1) c7) (.map (some mb))) B' (W7.setCell ⟨g, n * 8 + 5, none⟩ (.slice o7 (n2 + 1) c7)) ∧
      Frm W0 b (.slice (some ⟨g, 0, none⟩) (n + 1) cap) B W (.slice (some ⟨g, 0, none⟩) (n + 1) cap) B' (W7.setCell ⟨g, n * 8 + 5, none⟩ (.slice o7 (n2 + 1) c7)) := by
  obtain ⟨kv', hkv'⟩ : ∃ v, v = Value.slice o7 (n2 + 1) c7 := ⟨_, rfl⟩
  rw [← hkv'] at own7 at7 ⊢
  have hgB : ∀ q, B q → q ≠ g := fun q e e' => (h.hB q e).2.2.2 (by rw [e']; rfl)
  have hglt : g < W.heap.size := (h.own.lt g rfl).2
  have hgmb : g ≠ mb := fun e => hgB mb (e6 mb (.inr hmB)) e.symm
  have hgkv : kv.ownBlock ≠ some g := fun e => hgB g (e6 g (.inr (e4.hk g e))) rfl
  have hmkv : kv.ownBlock ≠ some mb := map_apart e4.ko hm0
  have hmlv : lv.ownBlock ≠ some mb := map_apart e4.lo hm0
  have hlk := types_apart e4.lo e4.ko (by decide)
  have hs6 : (W5.alloc (.cells cs ct)).heap.size = W5.heap.size + 1 := by simp
  have hs7 := gr7.size
  -- whatever is neither the map, nor the row of keys, nor the open row, stays
  have keep : ∀ q, q < W.heap.size → q ≠ mb → kv.ownBlock ≠ some q → q ≠ g → (W7.setCell ⟨g, n * 8 + 5, none⟩ kv').heap[q]? = W.heap[q]? := fun q h1 h2 h3 h4 => by
    rw [Below.heap_setCell _ _ _ _ h4, gr7.block q (by omega) (fun e => h3 e.symm), Below.heap_alloc _ _ _ (by omega), hk5 q h1 h2]
  have hkvlt : ∀ q, kv.ownBlock = some q → q < W.heap.size := fun q e => (e4.ko.lt q e).2
  have hnew : ∀ q, kv'.ownBlock = some q → (kv.ownBlock = some q ∨ q = W5.heap.size + 1) := fun q e => by
    rcases at7 with e' | e'
    · rw [e'] at e; exact .inl e
    · rw [e', hs6] at e; exact .inr (by simpa using e.symm)
  have hg7 : kv'.ownBlock ≠ some g := fun e => by
    rcases hnew g e with e' | e'
    · exact hgkv e'
    · omega
  have hrow7 : W7.ownsRow W0.heap.size 69 8 (.slice (some ⟨g, 0, none⟩) (n + 1) cap) (n + 1) ys := by
    have h1 := h.own
    simp only [List.length_cons, hn] at h1
    refine own_kp h1 fun q e => ?_
    have : g = q := by simpa [Value.ownBlock] using e
    subst this
    rw [gr7.block g (by omega) (fun e => hgkv e.symm), Below.heap_alloc _ _ _ (by omega), hk5 g hglt hgmb]
  have hrow8 := (World.ownsRow.stored hrow7 (n * 8 + 5) kv').1
  have hys : ys.set (n * 8 + 5) kv' = zs ++ fcells { f with ks := f.ks ++ [K] } lv kv' (.map (some mb)) := by
    rw [e1, List.set_append_right _ _ (by rw [e2, hn]; omega), e2, hn, Nat.add_sub_cancel_left]
    rfl
  rw [hys] at hrow8
  have hb7 : Below W0.heap.size W0 W7 := (hb5.alloc (Nat.le_trans h.kb.size hs5) _).grown gr7 (by have := h.kb.size; omega) (fun q e => (e4.ko.lt q e).1)
  refine ⟨_, h.top (W' := W7.setCell ⟨g, n * 8 + 5, none⟩ kv') (f' := { f with ks := f.ks ++ [K] }) (S' := S) (Bf' := fun q => Bf q ∨ kv'.ownBlock = some q) (lv := lv) (kv := kv') (m := .map (some mb)) (xs := xs) hn e3 (fun q e => e6 q (.inl e)) (hb7.setCell (h.own.lt g rfl).1 _) (by simp; omega) ?_ hrow8 ?_ ?_, by simp; omega, fun q h1 h2 => ⟨keep q h1 (fun e => h2.2.2.1 (e ▸ e6 mb (.inr hmB))) (fun e => h2.2.2.1 (e6 q (.inr (e4.hk q e)))) (fun e => h2.2.2.2 (by rw [e]; rfl)), h2.1, h2.2.1, fun e => ?_, h2.2.2.2⟩⟩
  · rintro q hq (e | rfl)
    · exact keep q hq (fun e' => e5 mb hmB (e' ▸ e)) (fun e' => e5 q (e4.hk q e') e) (hgB q (e6 q (.inl e)))
    · exact keep q hq (fun e' => (h.hB mb (e6 mb (.inr hmB))).2.2.1 e'.symm) (fun e' => (h.hB q (e6 q (.inr (e4.hk q e')))).2.2.1 rfl) (fun e' => h.hb (by rw [e']; rfl))
  · refine ⟨?_, ?_, ?_, ?_, ?_, ?_, ?_, ?_, ?_⟩
    · refine own_kp e4.lo fun q e => keep q (e4.lo.lt q e).2 (fun e' => hmlv (e' ▸ e)) (hlk q e) (hgB q (e6 q (.inr (e4.hl q e))))
    · refine la_kp e4.la fun q e => ?_
      have h1 := e4.hS q e
      exact keep q (h.hB q (e6 q (.inr h1.1))).2.1 (fun e' => hmS (e' ▸ e)) h1.2.2.2 (hgB q (e6 q (.inr h1.1)))
    · have h1 := own_kp (W' := W7.setCell ⟨g, n * 8 + 5, none⟩ kv') own7 fun q e => Below.heap_setCell _ _ _ _ (fun e' => hg7 (by have e2 : q = g := e'; rw [← e2]; exact e))
      have e8 : (f.ks ++ [K]).length = n2 + 1 := by rw [List.length_append, hn2]; rfl
      show (W7.setCell ⟨g, n * 8 + 5, none⟩ kv').ownsRow W0.heap.size 9 1 kv' (f.ks ++ [K]).length ((f.ks ++ [K]).map .string)
      rw [e8, List.map_append]
      exact h1
    · intro x hx
      rcases List.mem_append.1 hx with hx | hx
      · exact e4.kz x hx
      · rw [List.mem_singleton.1 hx]; exact hKs
    · intro _
      refine ⟨mb, rfl, ?_, .inl hmB, hmS, hmb⟩
      have e8 : (f.ks ++ [K]).length = n2 + 1 := by rw [List.length_append, hn2]; rfl
      show MapIs Tryz.prog 9 _ mb (f.ks ++ [K]).length (unitF (f.ks ++ [K]))
      rw [e8]
      refine map_kp M5 ?_
      have hml : mb < W5.heap.size := M5.lt
      rw [Below.heap_setCell _ _ _ _ (Ne.symm hgmb), gr7.block mb (by omega) (fun e => hmkv e.symm), Below.heap_alloc _ _ _ hml]
    · intro e; exact absurd (hf.symm.trans e) (by decide)
    · intro q e
      have h1 := e4.hS q e
      refine ⟨.inl h1.1, h1.2.1, h1.2.2.1, fun e' => ?_⟩
      rcases hnew q e' with e2 | e2
      · exact h1.2.2.2 e2
      · have := (h.hB q (e6 q (.inr h1.1))).2.1
        omega
    · intro q e; exact .inl (e4.hl q e)
    · intro q e; exact .inr e
  · intro q e
    rcases e with e | e
    · have h1 := h.hB q (e6 q (.inr e))
      exact ⟨h1.1, by simp; omega, h1.2.2.1, hgB q (e6 q (.inr e)), e5 q e⟩
    · have h2 := own7.lt q e
      rcases hnew q e with e' | e'
      · have h1 := h.hB q (e6 q (.inr (e4.hk q e')))
        exact ⟨h1.1, by simp; omega, h1.2.2.1, hgB q (e6 q (.inr (e4.hk q e'))), e5 q (e4.hk q e')⟩
      · have h3 := h.blt
        exact ⟨h2.1, by simpa using h2.2, by omega, by omega, fun e2 => by have := (h.hB q (e6 q (.inl e2))).2.1; omega⟩
  · rcases e with e | e | e
    · exact h2.2.2.1 (e6 q (.inl e))
    · exact h2.2.2.1 (e6 q (.inr e))
    · rcases hnew q e with e' | e'
      · exact h2.2.2.1 (e6 q (.inr (e4.hk q e')))
      · omega
end
end Go.Proofs.YtgbagdfcdljleaaGreatDoor

namespace Go.Proofs.YtgbagdfcdljleaaGreatDoor
open Go.RowKit Go.Maps

theorem lawS : Keyed Tryz.prog 9 := string_keyed Tryz.underlying9
theorem zeroUnit (w : World) : (zeroValue 75).run Tryz.prog w = .ok (.agg #[]) w := by kernel_rfl
theorem infoS : (Tryz.prog.info? 9).map (fun i => (i.zero, i.size, i.bytes)) = some (some (.string ⟨#[]⟩), 1, 16) := by kernel_rfl
theorem unitF_get (ks : List ByteArray) (x : ByteArray) : (unitF ks x).getD (.agg #[]) = .agg #[] := by unfold unitF; split <;> rfl
theorem unitF_some (ks : List ByteArray) (x : ByteArray) : (unitF ks x).isSome = hasK ks x.data.toList := by unfold unitF; split <;> simp_all
theorem unitF_put (ks : List ByteArray) (x : ByteArray) : (fun s' => if s' = x then some (.agg #[]) else unitF ks s') = unitF (ks ++ [x]) := by
  funext y
  unfold unitF hasK
  rw [List.any_append]
  by_cases h : y = x
  · subst h
    simp
  · rw [if_neg h]
    have : (List.any [x] fun k => k.data.toList == y.data.toList) = false := by
      simp only [List.any_cons, List.any_nil, Bool.or_false]
      rw [beq_eq_false_iff_ne]
      intro e
      exact h (ByteArray.ext (Array.toList_inj.1 e)).symm
    rw [this, Bool.or_false]
def Holdp (p : Prop) : Prop := p
theorem holdp {p : Prop} (h : Holdp p) : p := h
section
variable {W0 W W' : World} {b : Nat} {s : ByteArray} {d : Int} {k : Nat} {op : List Fm} {ov : Value} {ys : List Value} {B : Nat → Prop}
set_option maxRecDepth 100000 in
set_option maxHeartbeats 4000000 in
/-- A key that is one. -/
theorem key_text {f : Fm} {t : List Fm} (h : PW W0 b s d k (f :: t) ov ys B W) (hE : Ru.Env W0) (hf : f.obj = true) (ht : t.length < 1000000) (hs : s.size ≤ 4294967296) (hq : s.data.toList[k]? = some 34) (hu : (Ru.unqL s.data.toList k).2.2 = 0)
    (hkl : f.ks.length ≤ 1000000) (hwl : (Ru.unqL s.data.toList k).1.length ≤ 1000000) :
    Calls Tryz.prog 46 #[.pointer (some ⟨b, 0, none⟩)] W fun e W' => KeyR W0 b s d t ov B W (keyM s.data.toList k f) e W' := by
  obtain ⟨g, cap, rfl, hc1, hc2⟩ := h.row (by simp)
  simp only [List.length_cons] at h hc1 ⊢
  have hk : k < s.size := by have := lt_of_some hq; rwa [toList_length] at this
  have hend := (unqL_end (lt_of_some hq) (unq_ok hu)).2
  rw [toList_length] at hend
  obtain ⟨K, hK⟩ : ∃ K : ByteArray, K = ⟨(Ru.unqL s.data.toList k).1.toArray⟩ := ⟨_, rfl⟩
  obtain ⟨E', hEE⟩ : ∃ E, E = (Ru.unqL s.data.toList k).2.1 := ⟨_, rfl⟩
  have hKl : K.data.toList = (Ru.unqL s.data.toList k).1 := by rw [hK]
  have hKs : K.size ≤ 1000000 := by rw [← toList_length, hKl]; exact hwl
  have hkey : keyM s.data.toList k f = if hasK f.ks K.data.toList = true then .error (k, 41) else if s.data.toList[bl s.data.toList E']? = some 58 then .ok (bl s.data.toList (bl s.data.toList E' + 1), { f with ks := f.ks ++ [K] }) else .error (bl s.data.toList E', 40) := by
    unfold keyM
    rw [if_neg (by rw [hf]; decide), if_neg (not_not_intro hq), if_neg (not_not_intro hu), ← hEE, ← hK, hKl]
    by_cases h1 : hasK f.ks (Ru.unqL s.data.toList k).1 = true
    · rw [if_pos h1, if_pos h1]
    · rw [if_neg h1, if_neg h1]
      by_cases h2 : s.data.toList[bl s.data.toList E']? = some 58
      · rw [if_pos h2, if_neg (not_not_intro h2)]
      · rw [if_neg h2, if_pos h2]
  rw [hkey]
  obtain ⟨r, hr⟩ : ∃ r, (if hasK f.ks K.data.toList = true then (.error (k, 41) : Except Er (Nat × Fm)) else if s.data.toList[bl s.data.toList E']? = some 58 then .ok (bl s.data.toList (bl s.data.toList E' + 1), { f with ks := f.ks ++ [K] }) else .error (bl s.data.toList E', 40)) = r := ⟨_, rfl⟩
  rw [hr]
  have HR := Lib.hid hr
  clear hr
  have HH := Lib.hid h
  have HI := Lib.hid (inner_any h ht hc1 hc2)
  have HT := Lib.hid (fun W2 (h3 : PW W0 b s d k (f :: t) (.slice (some ⟨g, 0, none⟩) (t.length + 1) cap) ys B W2) => text_any h3 hE hq hs)
  unfold TexR at HT
  simp only [if_pos hu, ← hK, ← hEE] at HT
  rw [← hEE] at hend
  have HS := Lib.hid (fun W1 (h2 : PW W0 b s d k (f :: t) (.slice (some ⟨g, 0, none⟩) (t.length + 1) cap) ys B W1) => stands_any h2 34 (Nat.le_of_lt hk) hs)
  rw [decide_eq_true hq] at HS
  clear h hkey hK hEE hKl hq hu hwl hk
  obtain ⟨n, hn⟩ : ∃ n, t.length = n := ⟨_, rfl⟩
  rw [hn] at HI hc1 ht HT HS HH
  go_enter Tryz.func46, Tryz.ntmps46
  go_wp2_with fail
  refine HI.out.mono ?_
  rintro e W1 ⟨rfl, hb1⟩
  have h2 := HH.out.below hb1
  have p0 : W1.cell? ⟨g, n * 8, none⟩ = some (.int .i8 5) := by
    rw [← hn] at h2
    obtain ⟨zs, lv, kv, m, xs, S, Bt, Bf, e1, e2, e3, e4, e5, e6, e7⟩ := h2.cells
    rw [← hn]; have := e7 0 _ rfl; rw [hf] at this; exact this
  have H2 := Lib.hid h2
  clear h2
  go_wp2_with fail
  refine (HS.out _ H2.out).mono ?_
  rintro e W2 ⟨rfl, hb2⟩
  have h3 := H2.out.below hb2
  have c1 := h3.c1
  have H3 := Lib.hid h3
  clear h3
  go_wp2_with fail
  refine (HT.out _ H3.out).mono ?_
  rintro e W3 ⟨rfl, h4, hk3⟩
  have HF3 := Lib.hid ((Frm.of_kb (Kb.of_below (hb1.trans (hb2.mono hb1.size)))).trans (Frm.of_kb (W0 := W0) (ov := .slice (some ⟨g, 0, none⟩) (n + 1) cap) (B := B) hk3))
  clear hk3 hb1 hb2
  have h4' := h4
  rw [← hn] at h4'
  obtain ⟨zs, lv, kv, m, xs, S, Bt, Bf, e1, e2, e3, e4, e5, e6, e7⟩ := h4'.cells
  obtain ⟨mb, rfl, m1, m2, m3, m4⟩ := e4.mo hf
  rw [hn] at e7
  have p7 : W3.cell? ⟨g, n * 8 + 7, none⟩ = some (.map (some mb)) := e7 7 _ rfl
  have hlk : (Instr.lookup 67 (.map (some mb)) (.string K) true).run Tryz.prog W3 = .ok (.tuple #[.agg #[], .bool (hasK f.ks K.data.toList)]) W3 := by
    have := m1.look lawS Tryz.underlying9 Tryz.underlying67 true (zeroUnit W3) (s := K) (by unfold maxLen; omega)
    rw [this, unitF_get, unitF_some]; rfl
  by_cases hkk : hasK f.ks K.data.toList = true
  · have hr := HR.out
    rw [if_pos hkk] at hr
    subst hr
    rw [hkk] at hlk
    have HB := Lib.hid h4.kb
    clear HR e1 e2 e3 e4 e5 e6 e7 h4 h4' m1 m2 m3 m4 hkk
    go_wp2_with fail
    exact ⟨rfl, KeyR.err rfl (HB.out.alloc HB.out.size _)⟩
  · have hkf : hasK f.ks K.data.toList = false := by simpa using hkk
    have hr := HR.out
    rw [if_neg hkk] at hr
    have HR := Lib.hid hr
    rw [hkf] at hlk
    obtain ⟨o2, a2, n2c, hkv, -⟩ := Ow.own_form e4.ko
    obtain ⟨n2, hn2⟩ : ∃ n, n = f.ks.length := ⟨_, rfl⟩
    rw [← hn2] at hkv
    subst hkv
    have p5 : W3.cell? ⟨g, n * 8 + 5, none⟩ = some (.slice o2 n2 n2c) := e7 5 _ rfl
    have HN := Lib.hid hn2
    have M1 := Lib.hid m1
    have E := Lib.hid (show _ ∧ _ ∧ _ ∧ _ ∧ _ ∧ _ from ⟨e1, e2, e3, e4, e5, e6⟩)
    have M := Lib.hid (show _ ∧ _ ∧ _ from ⟨m2, m3, m4⟩)
    have H4 := Lib.hid h4
    clear hr e1 e2 e3 e4 e5 e6 e7 h4 h4' m1 m2 m3 m4 hkk hkf hn2
    -- the variable that is not looked at; the map's update; the row of keys
    have hgm : g ≠ mb := fun e => (H4.out.hB mb (E.out.2.2.2.2.2 mb (.inr M.out.1))).2.2.2 (by rw [e]; rfl)
    obtain ⟨W4, hW4⟩ : ∃ W4, W4 = W3.alloc (.cells #[] 75) := ⟨_, rfl⟩
    have h4 := H4.out.alloc (.cells #[] 75)
    have hb4 : Below W3.heap.size W3 (W3.alloc (.cells #[] 75)) := (Below.refl _ _).alloc (Nat.le_refl _) _
    rw [← hW4] at h4 hb4
    have hs4 : W4.heap.size = W3.heap.size + 1 := by rw [hW4]; simp
    have p7' := cell_below hb4 _ _ p7
    have p5' := cell_below hb4 _ _ p5
    obtain ⟨W5, hup, M5, hg5⟩ := (map_kp M1.out (hb4.block mb M1.out.lt)).update lawS Tryz.underlying9 Tryz.underlying67 (by rw [← HN.out]; unfold maxLen; have := HN.out; omega) (s := K) (by unfold maxLen; omega) (.agg #[])
    have p5b := hg5.cell p5' (fun e => hgm (by simpa using e))
    rw [hW4] at hup p7'
    clear p5' hW4
    have HU := Lib.hid hup
    have HB4 := Lib.hid (And.intro hb4 (And.intro hs4 h4))
    have HM5 := Lib.hid (And.intro M5 hg5)
    clear h4 hb4 hs4 M5 hg5
    have ho6 : (W5.alloc (.cells #[.string K] 9)).ownsRow W0.heap.size 9 1 (.slice o2 n2 n2c) n2 (f.ks.map .string) := by
      have e4 := E.out.2.2.2.1
      have hkb : ∀ q, (Value.slice o2 n2 n2c).ownBlock = some q → q < W3.heap.size ∧ q ≠ mb := fun q e => by
        refine ⟨(e4.ko.lt q e).2, fun e' => ?_⟩
        obtain ⟨D, ⟨es, clock, hb, _⟩, _⟩ := M1.out
        rcases e4.ko.2 with ⟨hv, _⟩ | ⟨g', cap', cur, hv, _, hg', _⟩
        · rw [hv] at e; cases e
        · rw [hv] at e
          have : g' = q := by simpa [Value.ownBlock] using e
          rw [this, e', hb] at hg'
          cases hg'
      have e4k := e4.ko
      rw [← HN.out] at e4k
      refine (own_kp e4k fun q e => ?_).alloc _
      rw [HM5.out.2.block q (by have := (hkb q e).1; have := HB4.out.2.1; omega) (fun e' => (hkb q e).2 (by simpa using e')), HB4.out.1.block q (hkb q e).1]
    have HO6 := Lib.hid ho6
    have hb0 : W0.heap.size ≤ (W5.alloc (.cells #[.string K] 9)).heap.size := by
      have h1 := H4.out.kb.size
      have h2 := HB4.out.2.1
      have h3 := HM5.out.2.size
      simp; omega
    have HB0 := Lib.hid hb0
    have hn2' : n2 ≤ 1000000 := by rw [HN.out]; exact hkl
    have HN2 := Lib.hid hn2'
    have HKS := Lib.hid hKs
    clear ho6 hb0 hn2' hkl hKs
    obtain ⟨i0, hi, hzz⟩ := Option.map_eq_some_iff.1 infoS
    simp only [Prod.mk.injEq] at hzz
    obtain ⟨hz0, hz1, hz2⟩ := hzz
    have HST := Lib.hid (show ∀ W7, (W5.alloc (.cells #[.string K] 9)).grownBy W7 (Value.slice o2 n2 n2c).ownBlock → W7.cell? ⟨g, n * 8 + 5, none⟩ = some (.slice o2 n2 n2c) ∧ W7.frozen? ⟨g, n * 8 + 5, none⟩ = false from fun W7 gr => by
      have hgB : ∀ q, B q → q ≠ g := fun q e e' => (H4.out.hB q e).2.2.2 (by rw [e']; rfl)
      have hglt : g < W3.heap.size := (H4.out.own.lt g rfl).2
      have hgkv : (Value.slice o2 n2 n2c).ownBlock ≠ some g := fun e => hgB g (E.out.2.2.2.2.2 g (.inr (E.out.2.2.2.1.hk g e))) rfl
      have h5 := HM5.out.2.size
      have hh : W7.heap[g]? = W3.heap[g]? := by
        rw [gr.block g (by have := HB4.out.2.1; simp; omega) (fun e => hgkv e.symm), Below.heap_alloc _ _ _ (by have := HB4.out.2.1; omega), HM5.out.2.block g (by have := HB4.out.2.1; omega) (fun e => hgm (by simpa using e)), HB4.out.1.block g hglt]
      have hfr : W3.frozen? ⟨g, n * 8 + 5, none⟩ = false := World.ownsRow.frozenAt (n := (f :: t).length) (by have := H4.out.own; simp only [List.length_cons, hn] at this ⊢; exact this) _
      exact ⟨heap_cell (a := ⟨g, n * 8 + 5, none⟩) hh p5, (World.frozen?_of_block (w := W3) (a := ⟨g, n * 8 + 5, none⟩) hh).trans hfr⟩)
    go_wp2_with (at_builtin; refine Ow.wpList_append_row_at rfl _ _ 26 rfl W0.heap.size 9 i0 _ 1 16 Tryz.underlying26 hi hz0 hz1 hz2 rfl (by decide) (.slice o2 n2 n2c) n2 (f.ks.map .string) rfl HO6.out (some ⟨W5.heap.size, 0, none⟩) ⟨W5.heap.size, 0, none⟩ 1 1 [.string K] rfl (fun _ => rfl) rfl (cell_one_new _ _ _) (by intro u hu; simp at hu; subst hu; rfl) (by have := HN2.out; unfold maxLen; omega) (by have := HN2.out; omega) HB0.out ?_; intro o7 c7 W7 own7 gr7 at7; obtain ⟨q1, q2⟩ := HST.out W7 gr7; have O7 := Lib.hid (And.intro own7 (And.intro gr7 at7)); clear own7 gr7 at7)
    have h8 : ∃ B', PW W0 b s d E' ({ f with ks := f.ks ++ [K] } :: t) (.slice (some ⟨g, 0, none⟩) (n + 1) cap) (zs ++ fcells { f with ks := f.ks ++ [K] } lv (.slice o7 (n2 + 1) c7) (.map (some mb))) B' (W7.setCell ⟨g, n * 8 + 5, none⟩ (.slice o7 (n2 + 1) c7)) ∧ Frm W0 b (.slice (some ⟨g, 0, none⟩) (n + 1) cap) B W3 (.slice (some ⟨g, 0, none⟩) (n + 1) cap) B' (W7.setCell ⟨g, n * 8 + 5, none⟩ (.slice o7 (n2 + 1) c7)) := by
      obtain ⟨e1, e2, e3, e4, e5, e6⟩ := E.out
      obtain ⟨m2, m3, m4⟩ := M.out
      obtain ⟨b4, s4, h4⟩ := HB4.out
      obtain ⟨o7a, o7b, o7c⟩ := O7.out
      have hM5 := HM5.out.1
      rw [← HN.out] at hM5
      refine H4.out.keyed hn e1 e2 e3 e4 e5 e6 hf HN.out.symm HKS.out M1.out m2 m3 m4 ?_ ?_ ?_ ?_ o7b o7a o7c
      · exact h4.kb.grown HM5.out.2 (Nat.le_trans H4.out.kb.size (by omega)) (fun q e => by
          have : mb = q := by simpa using e
          omega)
      · intro q hq hne
        rw [HM5.out.2.block q (by omega) (fun e => hne (by simpa using e)), b4.block q hq]
      · have := HM5.out.2.size
        omega
      · rw [← unitF_put]; exact hM5
    obtain ⟨B', h8, hf8⟩ := h8
    have H8 := Lib.hid h8
    have HF8 := Lib.hid (HF3.out.trans hf8)
    clear h8 hf8
    refine (blanks_any H8.out hend hs).mono ?_
    rintro e W8 ⟨rfl, h9, hg9⟩
    have H9 := Lib.hid h9
    have HF9 := Lib.hid (HF8.out.trans (Frm.of_kb (Kb.of_grown hg9)))
    clear h9 hg9
    have hbe : bl s.data.toList E' ≤ s.size := by have := bl_le s.data.toList E' (by rw [toList_length]; exact hend); rwa [toList_length] at this
    go_wp2_with fail
    refine (sign_any H9.out 58 hbe hs).mono ?_
    intro e W9 h10
    unfold SignR at h10
    by_cases hc : s.data.toList[bl s.data.toList E']? = some 58
    · rw [if_pos hc] at h10
      obtain ⟨rfl, h10, hk10⟩ := h10
      have hr := HR.out
      rw [if_pos hc] at hr
      subst hr
      have H10 := Lib.hid h10
      have HF10 := Lib.hid (HF9.out.trans (Frm.of_kb hk10))
      clear h10 HR hc hk10
      go_wp2_with fail
      go_end0
      exact ⟨rfl, _, _, _, H10.out, HF10.out⟩
    · rw [if_neg hc] at h10
      obtain ⟨rfl, h10⟩ := h10
      have hr := HR.out
      rw [if_neg hc] at hr
      subst hr
      have H10 := Lib.hid h10
      clear h10 HR hc
      first
        | exact ⟨rfl, KeyR.err rfl H10.out⟩
        | (unfold faulted; go_wp2_with fail; exact ⟨rfl, KeyR.err rfl H10.out⟩)
end
end Go.Proofs.YtgbagdfcdljleaaGreatDoor
