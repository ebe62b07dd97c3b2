/-
  Parse's walk: out of a list or an object.
-/
import Derived.Test.YtgbagdfcdljleaaGreatDoorHh
set_option linter.unusedVariables false
set_option linter.unusedSimpArgs false
namespace Go.Proofs.YtgbagdfcdljleaaGreatDoor
open Go.RowKit Go.Maps

section
variable {W0 W : World} {b : Nat} {s : ByteArray} {d : Int} {k : Nat} {op : List Fm} {ov : Value} {ys : List Value} {B : Nat → Prop}
theorem fcells_len (f : Fm) (lv kv m : Value) : (fcells f lv kv m).length = 8 := rfl
theorem cell_new6 (W : World) (cs : Array Value) (t : TypeId) (j : Nat) : (W.alloc (.cells cs t)).cell? ⟨W.heap.size, j, none⟩ = cs[j]? := cell_of_row _ _ _ _ _ _ (heap_alloc_new W _)
theorem frozen_new (W : World) (cs : Array Value) (t : TypeId) {j : Nat} : (W.alloc (.cells cs t)).frozen? ⟨W.heap.size, j, none⟩ = false := frozen_of_row _ _ _ _ _ (heap_alloc_new W _)
/-- The cells of the innermost one. -/
theorem PW.cells {f : Fm} {t : List Fm} {g cap : Nat} (h : PW W0 b s d k (f :: t) (.slice (some ⟨g, 0, none⟩) (t.length + 1) cap) ys B W) :
    ∃ zs lv kv m xs S Bt Bf, ys = zs ++ fcells f lv kv m ∧ zs.length = t.length * 8 ∧ isSt W W0.heap.size t zs Bt ∧ isFm W W0.heap.size f lv kv m xs S Bf ∧ (∀ q, Bf q → ¬ Bt q) ∧ (∀ q, (Bt q ∨ Bf q) → B q) ∧
      ∀ j u, (fcells f lv kv m)[j]? = some u → W.cell? ⟨g, t.length * 8 + j, none⟩ = some u := by
  obtain ⟨zs, lv, kv, m, xs, S, Bt, Bf, h1, h2, h3, h4, h5⟩ := h.st
  refine ⟨zs, lv, kv, m, xs, S, Bt, Bf, h1, h2.len, h2, h3, h4, h5, fun j u hj => ?_⟩
  have hjl : j < 8 := by
    have := (List.getElem?_eq_some_iff.1 hj).1
    rwa [fcells_len] at this
  rw [World.ownsRow.cellAt (n := t.length + 1) h.own _ (by omega), h1, List.getElem?_append_right (by rw [h2.len]; omega), h2.len, Nat.add_sub_cancel_left]
  exact hj
theorem kap {α : Type} (l : List α) (j : Nat) : j < l.length + 1 ↔ j ≤ l.length := Nat.lt_succ_iff
/-- What is whole, as a value. -/
theorem isFm.val {base : Nat} {f : Fm} {lv kv m : Value} {xs : List Value} {S Bf : Nat → Prop} (h : isFm W base f lv kv m xs S Bf) :
    isVa W Bf f.val (.agg #[.int .i8 (if f.obj then 5 else 4), .bool false, .int .i64 0, .string ⟨#[]⟩, lv, kv]) := by
  unfold Fm.val isVa
  refine ⟨lv, kv, rfl, by split <;> decide, by decide, by decide, ?_, ?_⟩
  · obtain ⟨o, ad, c, rfl, h1, h2, h3, h4, h5⟩ := Ow.own_form h.lo
    refine ⟨ad, c, ⟨o, rfl, h1, h2, h3⟩, fun h0 => ?_, ?_⟩
    · have := h3 h0
      subst this
      exact h.hl _ rfl
    · exact isVas_mono (fun q e => (h.hS q e).1) _ _ (Ow.la_vas _ _ _ h.la h5)
  · obtain ⟨o, ad, c, rfl, h1, h2, h3, h4, h5⟩ := Ow.own_form h.ko
    refine ⟨ad, c, ⟨o, rfl, h1, h2, h3⟩, fun h0 => ?_, fun i hi => ⟨h5 i _ ?_, ?_⟩⟩
    · have := h3 h0
      subst this
      exact h.hk _ rfl
    · rw [List.getElem?_map, List.getElem?_eq_getElem hi]; rfl
    · exact Nat.le_trans (h.kz _ (List.getElem_mem hi)) (by decide)
/-- The innermost one is taken away. -/
theorem PW.pop {f : Fm} {t : List Fm} {g cap : Nat} {zs last : List Value} {Bt : Nat → Prop} (h : PW W0 b s d k (f :: t) (.slice (some ⟨g, 0, none⟩) (t.length + 1) cap) ys B W) (e1 : ys = zs ++ last) (e2 : zs.length = t.length * 8) (e3 : isSt W W0.heap.size t zs Bt) (e4 : ∀ q, Bt q → B q) :
    PW W0 b s d k t (.slice (some ⟨g, 0, none⟩) t.length cap) zs Bt (W.setCell ⟨b, 3, none⟩ (.slice (some ⟨g, 0, none⟩) t.length cap)) where
  kb := h.kb.setCell h.bn _
  bn := h.bn
  c0 := by rw [World.cell?_setCell_other _ _ _ _ (by simp)]; exact h.c0
  c1 := by rw [World.cell?_setCell_other _ _ _ _ (by simp)]; exact h.c1
  c2 := by rw [World.cell?_setCell_other _ _ _ _ (by simp)]; exact h.c2
  c3 := World.cell?_setCell_same _ _ _ h.c3
  fz := fun j => by rw [World.frozen?_setCell]; exact h.fz j
  own := by
    have h1 := h.own
    rw [e1] at h1
    exact own_kp (Go.ownsRow_pop e2 h1) fun q e => Below.heap_setCell _ _ _ _ (fun e' => h.hb (by have e5 : q = b := e'; rw [← e5]; exact e))
  st := e3.kp fun q e => Below.heap_setCell _ _ _ _ (h.hB q (e4 q e)).2.2.1
  hB := fun q e => ⟨(h.hB q (e4 q e)).1, by simpa using (h.hB q (e4 q e)).2.1, (h.hB q (e4 q e)).2.2⟩
  hb := h.hb
/-- What leave leaves. -/
def LeaveR (W0 : World) (b : Nat) (s : ByteArray) (d : Int) (k : Nat) (f : Fm) (t : List Fm) (ov0 : Value) (B0 : Nat → Prop) (W : World) (e : Ending) (W' : World) : Prop :=
  ∃ val S ov ys B, e = .returned val ∧ PW W0 b s d (k + 1) t ov ys B W' ∧ isVa W' S f.val val ∧ (∀ q, S q → Off W0 b ov B q ∧ q < W'.heap.size ∧ (B0 q ∨ W.heap.size ≤ q)) ∧ Frm W0 b ov0 B0 W ov B W'
set_option maxRecDepth 100000 in
set_option maxHeartbeats 2000000 in
theorem leave_any {f : Fm} {t : List Fm} (h : PW W0 b s d k (f :: t) ov ys B W) (ht : t.length < 1000000) (hk : k ≤ 4294967296) :
    Calls Tryz.prog 44 #[.pointer (some ⟨b, 0, none⟩)] W fun e W' => LeaveR W0 b s d k f t ov B W e W' := by
  obtain ⟨g, cap, rfl, hc1, hc2⟩ := h.row (by simp)
  simp only [List.length_cons] at h hc1
  have HH := Lib.hid h
  have HI := Lib.hid (fun W' (h : PW W0 b s d k (f :: t) (.slice (some ⟨g, 0, none⟩) (t.length + 1) cap) ys B W') => inner_any h ht hc1 hc2)
  clear h
  obtain ⟨n, hn⟩ : ∃ n, t.length = n := ⟨_, rfl⟩
  rw [hn] at HI hc1 ht
  have hc2' : cap ≤ 9223372036854775807 := hc2
  go_enter Tryz.func44, Tryz.ntmps44
  go_wp2_with fail
  rw [hn] at HH
  have h1 := HH.out.alloc (.cells #[.int .i8 0, .bool false, .int .i64 0, .string ⟨#[]⟩, .slice none 0 0, .slice none 0 0] 28)
  refine (HI.out _ h1).mono ?_
  rintro e W1 ⟨rfl, hb1⟩
  have h2 := h1.below hb1
  rw [← hn] at h2
  obtain ⟨zs, lv, kv, m, xs, S, Bt, Bf, e1, e2, e3, e4, e5, e6, e7⟩ := h2.cells
  rw [hn] at e7 h2
  obtain ⟨o1, a1, m1, hlv, -⟩ := Ow.own_form e4.lo
  obtain ⟨o2, a2, m2, hkv, -⟩ := Ow.own_form e4.ko
  obtain ⟨n1, hn1⟩ : ∃ n, n = f.vs.length := ⟨_, rfl⟩
  obtain ⟨n2, hn2⟩ : ∃ n, n = f.ks.length := ⟨_, rfl⟩
  rw [← hn1] at hlv
  rw [← hn2] at hkv
  subst hlv hkv
  have HN := Lib.hid (And.intro hn1 hn2)
  clear hn1 hn2
  obtain ⟨kd, hkd⟩ : ∃ kd : Int, (if f.obj = true then (5 : Int) else 4) = kd := ⟨_, rfl⟩
  have p0 : W1.cell? ⟨g, n * 8, none⟩ = some (.int .i8 kd) := by rw [← hkd]; exact e7 0 _ rfl
  have p1 : W1.cell? ⟨g, n * 8 + 1, none⟩ = some (.bool false) := e7 1 _ rfl
  have p2 : W1.cell? ⟨g, n * 8 + 2, none⟩ = some (.int .i64 0) := e7 2 _ rfl
  have p3 : W1.cell? ⟨g, n * 8 + 3, none⟩ = some (.string ⟨#[]⟩) := e7 3 _ rfl
  have p4 : W1.cell? ⟨g, n * 8 + 4, none⟩ = some (.slice o1 n1 m1) := e7 4 _ rfl
  have p5 : W1.cell? ⟨g, n * 8 + 5, none⟩ = some (.slice o2 n2 m2) := e7 5 _ rfl
  have HK := Lib.hid hkd
  clear hkd
  have c1 := h2.c1
  have c3 := h2.c3
  have f1 := h2.fz 1
  have f3 := h2.fz 3
  have hbn := h2.blt
  have H1 := Lib.hid h1
  have H2 := Lib.hid h2
  have E := Lib.hid (show _ ∧ _ ∧ _ ∧ _ ∧ _ ∧ _ from ⟨e1, e2, e3, e4, e5, e6⟩)
  have HB1 := Lib.hid hb1
  have hz : ∀ j u, (#[.int .i8 0, .bool false, .int .i64 0, .string ⟨#[]⟩, .slice none 0 0, .slice none 0 0] : Array Value)[j]? = some u → W1.cell? ⟨W.heap.size, j, none⟩ = some u := fun j u hj =>
    cell_below hb1 ⟨W.heap.size, j, none⟩ u (by rw [cell_new6]; exact hj)
  have z0 : W1.cell? ⟨W.heap.size, 0, none⟩ = some (.int .i8 0) := hz 0 _ rfl
  have z1 : W1.cell? ⟨W.heap.size, 1, none⟩ = some (.bool false) := hz 1 _ rfl
  have z2 : W1.cell? ⟨W.heap.size, 2, none⟩ = some (.int .i64 0) := hz 2 _ rfl
  have z3 : W1.cell? ⟨W.heap.size, 3, none⟩ = some (.string ⟨#[]⟩) := hz 3 _ rfl
  have z4 : W1.cell? ⟨W.heap.size, 4, none⟩ = some (.slice none 0 0) := hz 4 _ rfl
  have z5 : W1.cell? ⟨W.heap.size, 5, none⟩ = some (.slice none 0 0) := hz 5 _ rfl
  have zf : ∀ j, W1.frozen? ⟨W.heap.size, j, none⟩ = false := fun j => (hb1.frozen (p := ⟨W.heap.size, j, none⟩) (by simp)).trans (frozen_new _ _ _)
  have zf0 := zf 0
  have zf1 := zf 1
  have zf2 := zf 2
  have zf3 := zf 3
  have zf4 := zf 4
  have zf5 := zf 5
  have hsz := hb1.size
  rw [show (W.alloc (.cells #[.int .i8 0, .bool false, .int .i64 0, .string ⟨#[]⟩, .slice none 0 0, .slice none 0 0] 28)).heap.size = W.heap.size + 1 by simp] at hsz
  have HSZ := Lib.hid hsz
  clear hz zf hsz
  clear h1 h2 e1 e2 e3 e4 e5 e6 e7 hb1
  go_wp2_with fail
  have h3 := H2.out.alloc (.cells #[.int .i8 kd, .bool false, .int .i64 0, .string ⟨#[]⟩, .slice o1 n1 m1, .slice o2 n2 m2] 28)
  have c3 := h3.c3
  have f3 := h3.fz 3
  have c1 := h3.c1
  have f1 := h3.fz 1
  have hw1 : IntKind.i64.wrap (n : Int) = (n : Int) := by simp [IntKind.wrap, IntKind.bits, IntKind.signed]; omega
  have i1 : (0 : Int) ≤ (n : Int) := by omega
  have i2 : (n : Int) ≤ (cap : Int) := by omega
  clear p0 p1 p2 p3 p4 p5 h3
  refine Rn.region_any (by kernel_rfl) ?_
  refine Rn.any_seg 0 14 (by kernel_rfl) rfl ?_
  simp only [List.take_succ_cons, List.take_zero, List.drop_zero]
  repeat (refine Rn.ws_one (fun KK hKK => ?_); go_simp; refine hKK _ ?_; clear hKK KK)
  refine Rn.ws_nil ?_
  intro K0 hK0
  go_simp
  refine .inl ?_
  refine hK0 _ _ ?_
  clear hK0 K0
  refine Rn.any_end 15 (by kernel_rfl) ?_
  simp only [List.drop_succ_cons, List.drop_zero]
  refine Rn.ws_nil ?_
  obtain ⟨e1, e2, e3, e4, e5, e6⟩ := E.out
  rw [← hn] at H2
  have h4 := H2.out.pop (cap := cap) e1 e2 e3 (fun q e => e6 q (.inl e))
  rw [hn] at h4 H2
  have h5 := (h4.alloc (.cells #[.int .i8 kd, .bool false, .int .i64 0, .string ⟨#[]⟩, .slice o1 n1 m1, .slice o2 n2 m2] 28)).drew
  have hlt : W.heap.size < W1.heap.size := by have := HSZ.out; omega
  have hne : ¬ b = W.heap.size := fun e => by have := HH.out.blt; omega
  have hne2 : ¬ W1.heap.size = W.heap.size := by omega
  have hne3 : ¬ W1.heap.size = b := by omega
  have key : ∀ j u, W1.cell? ⟨W.heap.size, j, none⟩ = some u → (((W1.setCell ⟨b, 3, none⟩ (.slice (some ⟨g, 0, none⟩) n cap)).alloc (.cells #[.int .i8 kd, .bool false, .int .i64 0, .string ⟨#[]⟩, .slice o1 n1 m1, .slice o2 n2 m2] 28)).drew).cell? ⟨W.heap.size, j, none⟩ = some u := fun j u hu => by
    refine (cell_below ((Below.refl _ _).alloc (Nat.le_refl _) _) _ _ (?_ : (W1.setCell ⟨b, 3, none⟩ (.slice (some ⟨g, 0, none⟩) n cap)).cell? ⟨W.heap.size, j, none⟩ = some u) : _)
    rw [World.cell?_setCell_other _ _ _ _ (by intro e; cases e; exact hne rfl)]
    exact hu
  have keyf : ∀ j, W1.frozen? ⟨W.heap.size, j, none⟩ = false → (((W1.setCell ⟨b, 3, none⟩ (.slice (some ⟨g, 0, none⟩) n cap)).alloc (.cells #[.int .i8 kd, .bool false, .int .i64 0, .string ⟨#[]⟩, .slice o1 n1 m1, .slice o2 n2 m2] 28)).drew).frozen? ⟨W.heap.size, j, none⟩ = false := fun j hu => by
    refine ((Below.frozen ((Below.refl _ (W1.setCell ⟨b, 3, none⟩ (.slice (some ⟨g, 0, none⟩) n cap))).alloc (Nat.le_refl _) (.cells #[.int .i8 kd, .bool false, .int .i64 0, .string ⟨#[]⟩, .slice o1 n1 m1, .slice o2 n2 m2] 28)) (p := ⟨W.heap.size, j, none⟩) (by simpa using hlt)).trans ?_ : _)
    rw [World.frozen?_setCell]
    exact hu
  have keyv : ∀ j, (((W1.setCell ⟨b, 3, none⟩ (.slice (some ⟨g, 0, none⟩) n cap)).alloc (.cells #[.int .i8 kd, .bool false, .int .i64 0, .string ⟨#[]⟩, .slice o1 n1 m1, .slice o2 n2 m2] 28)).drew).cell? ⟨W1.heap.size, j, none⟩ = (#[.int .i8 kd, .bool false, .int .i64 0, .string ⟨#[]⟩, .slice o1 n1 m1, .slice o2 n2 m2] : Array Value)[j]? := fun j => by
    have := cell_new6 (W1.setCell ⟨b, 3, none⟩ (.slice (some ⟨g, 0, none⟩) n cap)) #[.int .i8 kd, .bool false, .int .i64 0, .string ⟨#[]⟩, .slice o1 n1 m1, .slice o2 n2 m2] 28 j
    simpa using this
  replace z0 := key 0 _ z0
  replace z1 := key 1 _ z1
  replace z2 := key 2 _ z2
  replace z3 := key 3 _ z3
  replace z4 := key 4 _ z4
  replace z5 := key 5 _ z5
  replace zf0 := keyf 0 zf0
  replace zf1 := keyf 1 zf1
  replace zf2 := keyf 2 zf2
  replace zf3 := keyf 3 zf3
  replace zf4 := keyf 4 zf4
  replace zf5 := keyf 5 zf5
  have v0 := keyv 0
  have v1 := keyv 1
  have v2 := keyv 2
  have v3 := keyv 3
  have v4 := keyv 4
  have v5 := keyv 5
  replace c1 := h5.c1
  replace f1 := h5.fz 1
  have hva := isVa_kp (W' := (((W1.setCell ⟨b, 3, none⟩ (.slice (some ⟨g, 0, none⟩) n cap)).alloc (.cells #[.int .i8 kd, .bool false, .int .i64 0, .string ⟨#[]⟩, .slice o1 n1 m1, .slice o2 n2 m2] 28)).drew)) e4.val (fun q e => by
    have h8 := H2.out.hB q (e6 q (.inr e))
    refine (Below.heap_alloc _ _ _ (by simpa using h8.2.1)).trans (Below.heap_setCell _ _ _ _ h8.2.2.1))
  rw [HK.out] at hva
  have hS : ∀ q, Bf q → Off W0 b (.slice (some ⟨g, 0, none⟩) n cap) Bt q ∧ q < W1.heap.size ∧ q < W.heap.size ∧ B q := fun q e => by
    have h8 := H2.out.hB q (e6 q (.inr e))
    have h9 := HH.out.hB q (e6 q (.inr e))
    exact ⟨⟨h8.1, h8.2.2.1, e5 q e, h8.2.2.2⟩, h8.2.1, h9.2.1, e6 q (.inr e)⟩
  have HS := Lib.hid hS
  have ho : Off W0 b (.slice (some ⟨g, 0, none⟩) n cap) Bt W.heap.size := by
    have o := HH.out.off W.heap.size (Nat.le_refl _)
    exact ⟨o.1, o.2.1, fun e => o.2.2.1 (e6 _ (.inl e)), o.2.2.2⟩
  have HO := Lib.hid ho
  have HVA := Lib.hid hva
  have H5 := Lib.hid h5
  have HF := Lib.hid (show ∀ u0 u1 u2 u3 u4 u5 u6, Frm W0 b (.slice (some ⟨g, 0, none⟩) (n + 1) cap) B W (.slice (some ⟨g, 0, none⟩) n cap) Bt ((((((((((W1.setCell ⟨b, 3, none⟩ (.slice (some ⟨g, 0, none⟩) n cap)).alloc (.cells #[.int .i8 kd, .bool false, .int .i64 0, .string ⟨#[]⟩, .slice o1 n1 m1, .slice o2 n2 m2] 28)).drew).setCell ⟨b, 1, none⟩ u0).setCell ⟨W.heap.size, 0, none⟩ u1).setCell ⟨W.heap.size, 1, none⟩ u2).setCell ⟨W.heap.size, 2, none⟩ u3).setCell ⟨W.heap.size, 3, none⟩ u4).setCell ⟨W.heap.size, 4, none⟩ u5).setCell ⟨W.heap.size, 5, none⟩ u6) from fun u0 u1 u2 u3 u4 u5 u6 => by
    have hN := Nat.le_refl W.heap.size
    have k1 : Kb b W W1 := ((Kb.refl b W).alloc _).trans (Kb.of_below HB1.out)
    have k2 := ((((((((((k1.set_b 3 (.slice (some ⟨g, 0, none⟩) n cap)).alloc (.cells #[.int .i8 kd, .bool false, .int .i64 0, .string ⟨#[]⟩, .slice o1 n1 m1, .slice o2 n2 m2] 28)).drewN 1).set_b 1 u0).set_new hN 0 u1).set_new hN 1 u2).set_new hN 2 u3).set_new hN 3 u4).set_new hN 4 u5).set_new hN 5 u6)
    exact ⟨k2.1, fun q h1 h2 => ⟨k2.2 q h1 h2.2.1, h2.1, h2.2.1, fun e => h2.2.2.1 (e6 q (.inl e)), h2.2.2.2⟩⟩)
  have hsx : (((W1.setCell ⟨b, 3, none⟩ (.slice (some ⟨g, 0, none⟩) n cap)).alloc (.cells #[.int .i8 kd, .bool false, .int .i64 0, .string ⟨#[]⟩, .slice o1 n1 m1, .slice o2 n2 m2] 28)).drew).heap.size = W1.heap.size + 1 := by simp
  have HSX := Lib.hid hsx
  clear key keyf keyv c3 f3 h4 h5 hva hS hsx ho e1 e2 e3 e4 e5 e6
  generalize (((W1.setCell ⟨b, 3, none⟩ (.slice (some ⟨g, 0, none⟩) n cap)).alloc (.cells #[.int .i8 kd, .bool false, .int .i64 0, .string ⟨#[]⟩, .slice o1 n1 m1, .slice o2 n2 m2] 28)).drew) = X at *
  go_wp2_with fail
  refine bodyPost_ret (v := .agg #[.int .i8 kd, .bool false, .int .i64 0, .string ⟨#[]⟩, .slice o1 n1 m1, .slice o2 n2 m2]) (by simp [results, Tryz.results44, go_sem, z0, z1, z2, z3, z4, z5, hne]) rfl ?_
  have o := HO.out
  have hpw := (((((((H5.out.at (k + 1)).st' o 0 (.int .i8 kd)).st' o 1 (.bool false)).st' o 2 (.int .i64 0)).st' o 3 (.string ⟨#[]⟩)).st' o 4 (.slice o1 n1 m1)).st' o 5 (.slice o2 n2 m2))
  refine ⟨_, Bf, _, _, _, rfl, hpw, isVa_kp HVA.out (fun q e => ?_), fun q e => ⟨(HS.out q e).1, ?_, .inl (HS.out q e).2.2.2⟩, HF.out _ _ _ _ _ _ _⟩
  · have h8 := HS.out q e
    have n1 : q ≠ b := h8.1.2.1
    have n2 : q ≠ W.heap.size := by omega
    rw [Below.heap_setCell _ _ _ _ n2, Below.heap_setCell _ _ _ _ n2, Below.heap_setCell _ _ _ _ n2, Below.heap_setCell _ _ _ _ n2, Below.heap_setCell _ _ _ _ n2, Below.heap_setCell _ _ _ _ n2, Below.heap_setCell _ _ _ _ n1]
  · have h8 := HS.out q e
    have h9 := HSX.out
    simp only [World.size_setCell]
    omega
end
end Go.Proofs.YtgbagdfcdljleaaGreatDoor
