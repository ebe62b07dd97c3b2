/-
  Parse's walk: a value is put into the innermost list or object.
-/
import Derived.Test.YtgbagdfcdljleaaGreatDoorHr
set_option linter.unusedVariables false
set_option linter.unusedSimpArgs false
namespace Go.Proofs.YtgbagdfcdljleaaGreatDoor
open Go.RowKit Go.Maps

theorem infoVal : (Tryz.prog.info? 28).map (fun i => (i.zero, i.size, i.bytes)) = some (some zeroV, 6, 80) := by kernel_rfl
section
variable {W0 W W' : World} {b : Nat} {s : ByteArray} {d : Int} {k : Nat} {op : List Fm} {ov : Value} {ys : List Value} {B : Nat → Prop}
set_option maxRecDepth 100000 in
set_option maxHeartbeats 4000000 in
theorem put_any {f : Fm} {t : List Fm} {v : V} {Sv : Nat → Prop} {kd : Int} {bo : Bool} {nu : Int} {te : ByteArray} {o1 o2 : Option Addr} {n1 m1 n2 m2 : Nat} (h : PW W0 b s d k (f :: t) ov ys B W) (hE : Ru.Env W0) (ht : t.length < 100000) (hk : k ≤ s.size) (hs : s.size ≤ 200000)
    (hfl : f.vs.length ≤ 1000000) (hfk : f.ks.length ≤ 1000000) (hva : isVa W Sv v (.agg #[.int .i8 kd, .bool bo, .int .i64 nu, .string te, .slice o1 n1 m1, .slice o2 n2 m2])) (hSv : ∀ q, Sv q → Off W0 b ov B q ∧ q < W.heap.size) :
    Calls Tryz.prog 27 #[.pointer (some ⟨b, 0, none⟩), .agg #[.int .i8 kd, .bool bo, .int .i64 nu, .string te, .slice o1 n1 m1, .slice o2 n2 m2]] W fun e W' => StepR W0 b s d ov (fun q => B q ∨ Sv q) W (putM s.data.toList v k f t) e W' := by
  obtain ⟨g, cap, rfl, hc1, hc2⟩ := h.row (by simp)
  simp only [List.length_cons] at h hc1 hSv ⊢
  obtain ⟨r, hr⟩ : ∃ r, putM s.data.toList v k f t = r := ⟨_, rfl⟩
  rw [hr]
  have HR := Lib.hid hr
  have HH := Lib.hid h
  have HI := Lib.hid (fun W' (h : PW W0 b s d k (f :: t) (.slice (some ⟨g, 0, none⟩) (t.length + 1) cap) ys B W') => inner_any h (by omega) hc1 hc2)
  have HSV := Lib.hid hSv
  have HVA := Lib.hid hva
  obtain ⟨n, hn⟩ : ∃ n, t.length = n := ⟨_, rfl⟩
  rw [hn] at HI hc1 ht HH HSV ⊢
  have h1 := (HH.out.alloc (.cells #[.int .i8 kd, .bool bo, .int .i64 nu, .string te, .slice o1 n1 m1, .slice o2 n2 m2] 28)).alloc (.cells #[.int .i8 0, .bool false, .int .i64 0, .string ⟨#[]⟩, .slice none 0 0, .slice none 0 0] 28)
  have bx1 : Bx ((W.alloc (.cells #[.int .i8 kd, .bool bo, .int .i64 nu, .string te, .slice o1 n1 m1, .slice o2 n2 m2] 28)).alloc (.cells #[.int .i8 0, .bool false, .int .i64 0, .string ⟨#[]⟩, .slice none 0 0, .slice none 0 0] 28)) W.heap.size #[.int .i8 kd, .bool bo, .int .i64 nu, .string te, .slice o1 n1 m1, .slice o2 n2 m2] 28 := (Bx.new W _ _).alloc _
  have bx2 : Bx ((W.alloc (.cells #[.int .i8 kd, .bool bo, .int .i64 nu, .string te, .slice o1 n1 m1, .slice o2 n2 m2] 28)).alloc (.cells #[.int .i8 0, .bool false, .int .i64 0, .string ⟨#[]⟩, .slice none 0 0, .slice none 0 0] 28)) (W.heap.size + 1) #[.int .i8 0, .bool false, .int .i64 0, .string ⟨#[]⟩, .slice none 0 0, .slice none 0 0] 28 := by have := Bx.new (W.alloc (.cells #[.int .i8 kd, .bool bo, .int .i64 nu, .string te, .slice o1 n1 m1, .slice o2 n2 m2] 28)) #[.int .i8 0, .bool false, .int .i64 0, .string ⟨#[]⟩, .slice none 0 0, .slice none 0 0] 28; simpa using this
  have kx : Below W.heap.size W ((W.alloc (.cells #[.int .i8 kd, .bool bo, .int .i64 nu, .string te, .slice o1 n1 m1, .slice o2 n2 m2] 28)).alloc (.cells #[.int .i8 0, .bool false, .int .i64 0, .string ⟨#[]⟩, .slice none 0 0, .slice none 0 0] 28)) := ((Below.refl _ W).alloc (Nat.le_refl _) _).alloc (by simp) _
  have sx : ((W.alloc (.cells #[.int .i8 kd, .bool bo, .int .i64 nu, .string te, .slice o1 n1 m1, .slice o2 n2 m2] 28)).alloc (.cells #[.int .i8 0, .bool false, .int .i64 0, .string ⟨#[]⟩, .slice none 0 0, .slice none 0 0] 28)).heap.size = W.heap.size + 2 := by simp
  have H1 := Lib.hid h1
  have BX1 := Lib.hid bx1
  have BX2 := Lib.hid bx2
  have KX := Lib.hid kx
  have SX := Lib.hid sx
  have HND := Lib.hid hn
  clear h h1 bx1 bx2 kx sx hr hva hSv hn
  go_enter Tryz.func27, Tryz.ntmps27
  go_wp2_with fail
  refine (HI.out _ H1.out).mono ?_
  rintro e X ⟨rfl, hb1⟩
  have h2 := H1.out.below hb1
  have bx1 := BX1.out.below hb1
  have bx2 := BX2.out.below hb1
  have hWX : Below W.heap.size W X := KX.out.trans (hb1.mono (by have := SX.out; omega))
  have hsz : W.heap.size + 2 ≤ X.heap.size := by have := SX.out; have := hb1.size; omega
  have h2' := h2
  rw [← HND.out] at h2'
  obtain ⟨zs, lv, kv, m, xs, S, Bt, Bf, e1, e2, e3, e4, e5, e6, e7⟩ := h2'.cells
  rw [HND.out] at e7
  obtain ⟨oL, aL, cL, hlv, hL1, hL2, -, -, -⟩ := Ow.own_form e4.lo
  obtain ⟨nL, hnL⟩ : ∃ nL, nL = f.vs.length := ⟨_, rfl⟩
  rw [← hnL] at hlv hL1
  have p4 : X.cell? ⟨g, n * 8 + 4, none⟩ = some (.slice oL nL cL) := by rw [← hlv]; exact e7 4 _ rfl
  have hlo := e4.lo
  rw [hlv, ← hnL] at hlo
  have hvX : isVa X Sv v (.agg #[.int .i8 kd, .bool bo, .int .i64 nu, .string te, .slice o1 n1 m1, .slice o2 n2 m2]) := isVa_kp HVA.out fun q e => hWX.block q (HSV.out q e).2
  have hglt : g < X.heap.size := (h2.own.lt g rfl).2
  have hgB : ∀ q, B q → q ≠ g := fun q e e' => (h2.hB q e).2.2.2 (by rw [e']; rfl)
  have hgl : (Value.slice oL nL cL).ownBlock ≠ some g := fun e => hgB g (e6 g (.inr (e4.hl g (by rw [hlv]; exact e)))) rfl
  have hrowX : X.ownsRow W0.heap.size 69 8 (.slice (some ⟨g, 0, none⟩) (n + 1) cap) (n + 1) ys := by have := h2.own; simp only [List.length_cons, HND.out] at this; exact this
  -- behind the append: the stores, in either order
  have FIN : ∀ (y : World) (lv' : Value), Below W0.heap.size W0 y → X.heap.size ≤ y.heap.size → (∀ q, q < X.heap.size → (Value.slice oL nL cL).ownBlock ≠ some q → q ≠ g → y.heap[q]? = X.heap[q]?) → y.ownsRow W0.heap.size 28 6 lv' (nL + 1) (xs ++ [.int .i8 kd, .bool bo, .int .i64 nu, .string te, .slice o1 n1 m1, .slice o2 n2 m2]) → (∀ q, lv'.ownBlock = some q → (Value.slice oL nL cL).ownBlock = some q ∨ X.heap.size ≤ q) → y.ownsRow W0.heap.size 69 8 (.slice (some ⟨g, 0, none⟩) (n + 1) cap) (n + 1) (ys.set (n * 8 + 4) lv') → (∃ ys' B', PW W0 b s d k ({ f with vs := f.vs ++ [v] } :: t) (.slice (some ⟨g, 0, none⟩) (n + 1) cap) ys' B' y ∧ Frm W0 b (.slice (some ⟨g, 0, none⟩) (n + 1) cap) (fun q => B q ∨ Sv q) X (.slice (some ⟨g, 0, none⟩) (n + 1) cap) B' y ∧ ∀ q, B' q → (B q ∨ Sv q) ∨ X.heap.size ≤ q) := fun y lv' a1 a2 a3 a4 a5 a6 =>
    h2.putted HND.out e1 e2 e3 e4 e5 e6 hvX (fun q e => ⟨(HSV.out q e).1, by have := (HSV.out q e).2; omega⟩) hnL.symm a1 a2 (fun q q1 q2 q3 => a3 q q1 (by rw [← hlv]; exact q2) q3) a4 (fun q e => by rw [hlv]; exact a5 q e) a6
  have PU : Hid (∀ w1 w2 o' c', Below X.heap.size X w1 → w2.ownsRow W0.heap.size 28 6 (.slice o' (nL + 1) c') (nL + 1) (xs ++ [.int .i8 0, .bool false, .int .i64 0, .string ⟨#[]⟩, .slice none 0 0, .slice none 0 0]) → w1.grownBy w2 (Value.slice oL nL cL).ownBlock → ((Value.slice o' (nL + 1) c').ownBlock = (Value.slice oL nL cL).ownBlock ∨ (Value.slice o' (nL + 1) c').ownBlock = some w1.heap.size) →
      ∃ g' p y1 y2 y3 y4 y5 y6 yA z0 z1 z2 z3 z4 z5 z6, o' = some ⟨g', 0, none⟩ ∧ nL + 1 ≤ c' ∧ p = nL * 6 ∧ (((∃ u, w2.cell? ⟨g', p, none⟩ = some u) ∧ w2.frozen? ⟨g', p, none⟩ = false ∧ w2.setCell ⟨g', p, none⟩ (.int .i8 kd) = y1) ∧ ((∃ u, y1.cell? ⟨g', p + 1, none⟩ = some u) ∧ y1.frozen? ⟨g', p + 1, none⟩ = false ∧ y1.setCell ⟨g', p + 1, none⟩ (.bool bo) = y2) ∧ ((∃ u, y2.cell? ⟨g', p + 2, none⟩ = some u) ∧ y2.frozen? ⟨g', p + 2, none⟩ = false ∧ y2.setCell ⟨g', p + 2, none⟩ (.int .i64 nu) = y3) ∧ ((∃ u, y3.cell? ⟨g', p + 3, none⟩ = some u) ∧ y3.frozen? ⟨g', p + 3, none⟩ = false ∧ y3.setCell ⟨g', p + 3, none⟩ (.string te) = y4) ∧ ((∃ u, y4.cell? ⟨g', p + 4, none⟩ = some u) ∧ y4.frozen? ⟨g', p + 4, none⟩ = false ∧ y4.setCell ⟨g', p + 4, none⟩ (.slice o1 n1 m1) = y5) ∧ ((∃ u, y5.cell? ⟨g', p + 5, none⟩ = some u) ∧ y5.frozen? ⟨g', p + 5, none⟩ = false ∧ y5.setCell ⟨g', p + 5, none⟩ (.slice o2 n2 m2) = y6)) ∧ ((∃ u, y6.cell? ⟨g, n * 8 + 4, none⟩ = some u) ∧ y6.frozen? ⟨g, n * 8 + 4, none⟩ = false ∧ y6.setCell ⟨g, n * 8 + 4, none⟩ (.slice o' (nL + 1) c') = yA) ∧ Hid (∃ ys' B', PW W0 b s d k ({ f with vs := f.vs ++ [v] } :: t) (.slice (some ⟨g, 0, none⟩) (n + 1) cap) ys' B' yA ∧ Frm W0 b (.slice (some ⟨g, 0, none⟩) (n + 1) cap) (fun q => B q ∨ Sv q) X (.slice (some ⟨g, 0, none⟩) (n + 1) cap) B' yA ∧ ∀ q, B' q → (B q ∨ Sv q) ∨ X.heap.size ≤ q) ∧
        ((∃ u, w2.cell? ⟨g, n * 8 + 4, none⟩ = some u) ∧ w2.frozen? ⟨g, n * 8 + 4, none⟩ = false ∧ w2.setCell ⟨g, n * 8 + 4, none⟩ (.slice o' (nL + 1) c') = z0) ∧ (((∃ u, z0.cell? ⟨g', p, none⟩ = some u) ∧ z0.frozen? ⟨g', p, none⟩ = false ∧ z0.setCell ⟨g', p, none⟩ (.int .i8 kd) = z1) ∧ ((∃ u, z1.cell? ⟨g', p + 1, none⟩ = some u) ∧ z1.frozen? ⟨g', p + 1, none⟩ = false ∧ z1.setCell ⟨g', p + 1, none⟩ (.bool bo) = z2) ∧ ((∃ u, z2.cell? ⟨g', p + 2, none⟩ = some u) ∧ z2.frozen? ⟨g', p + 2, none⟩ = false ∧ z2.setCell ⟨g', p + 2, none⟩ (.int .i64 nu) = z3) ∧ ((∃ u, z3.cell? ⟨g', p + 3, none⟩ = some u) ∧ z3.frozen? ⟨g', p + 3, none⟩ = false ∧ z3.setCell ⟨g', p + 3, none⟩ (.string te) = z4) ∧ ((∃ u, z4.cell? ⟨g', p + 4, none⟩ = some u) ∧ z4.frozen? ⟨g', p + 4, none⟩ = false ∧ z4.setCell ⟨g', p + 4, none⟩ (.slice o1 n1 m1) = z5) ∧ ((∃ u, z5.cell? ⟨g', p + 5, none⟩ = some u) ∧ z5.frozen? ⟨g', p + 5, none⟩ = false ∧ z5.setCell ⟨g', p + 5, none⟩ (.slice o2 n2 m2) = z6)) ∧ Hid (∃ ys' B', PW W0 b s d k ({ f with vs := f.vs ++ [v] } :: t) (.slice (some ⟨g, 0, none⟩) (n + 1) cap) ys' B' z6 ∧ Frm W0 b (.slice (some ⟨g, 0, none⟩) (n + 1) cap) (fun q => B q ∨ Sv q) X (.slice (some ⟨g, 0, none⟩) (n + 1) cap) B' z6 ∧ ∀ q, B' q → (B q ∨ Sv q) ∨ X.heap.size ≤ q)) := Lib.hid fun w1 w2 o' c' hb own gr at' => by
    have hb2 : Below W0.heap.size W0 w2 := (h2.kb.trans (hb.mono h2.kb.size)).grown gr (by have := h2.kb.size; have := hb.size; omega) (fun q e => (hlo.lt q e).1)
    have hs12 := gr.size
    have hs01 := hb.size
    have hkp : ∀ q, q < X.heap.size → (Value.slice oL nL cL).ownBlock ≠ some q → w2.heap[q]? = X.heap[q]? := fun q q1 q2 => (gr.block q (by omega) (fun e => q2 e.symm)).trans (hb.block q q1)
    have hrow2 : w2.ownsRow W0.heap.size 69 8 (.slice (some ⟨g, 0, none⟩) (n + 1) cap) (n + 1) ys := own_kp hrowX fun q e => by
      have : g = q := by simpa [Value.ownBlock] using e
      subst this
      exact hkp g hglt hgl
    have hnew : ∀ q, (Value.slice o' (nL + 1) c').ownBlock = some q → (Value.slice oL nL cL).ownBlock = some q ∨ X.heap.size ≤ q := fun q e => by
      rcases at' with e' | e'
      · rw [e'] at e; exact .inl e
      · rw [e'] at e
        have : w1.heap.size = q := by simpa using e
        exact .inr (by omega)
    obtain ⟨g', c2, hv2, h3, h4⟩ : ∃ g' c2, Value.slice o' (nL + 1) c' = .slice (some ⟨g', 0, none⟩) (nL + 1) c2 ∧ nL + 1 ≤ c2 ∧ True := by
      rcases own.2 with ⟨hv, h0⟩ | ⟨g', cap', cur, hv, _, _, hle, _⟩
      · omega
      · exact ⟨g', cap', hv, hle, trivial⟩
    cases hv2
    have hgg : g' ≠ g := fun e => by
      rcases hnew g' rfl with e' | e'
      · exact hgl (e ▸ e')
      · omega
    have hlen : xs.length = nL * 6 := hlo.1
    have hz : (xs ++ [.int .i8 0, .bool false, .int .i64 0, .string ⟨#[]⟩, .slice none 0 0, .slice none 0 0] : List Value) = xs ++ [.int .i8 0, .bool false, .int .i64 0, .string ⟨#[]⟩, .slice none 0 0, .slice none 0 0] := rfl
    obtain ⟨y1, y2, y3, y4, y5, y6, s1, s2, s3, s4, s5, s6, own6, gr6⟩ := Ow.own_six own (nL * 6) (by omega) (.int .i8 kd) (.bool bo) (.int .i64 nu) (.string te) (.slice o1 n1 m1) (.slice o2 n2 m2)
    rw [Ow.set_six _ _ _ _ _ _ _ _ _ _ _ _ _ _ hlen.symm] at own6
    have hrow6 : y6.ownsRow W0.heap.size 69 8 (.slice (some ⟨g, 0, none⟩) (n + 1) cap) (n + 1) ys := own_kp hrow2 fun q e => by
      have : g = q := by simpa [Value.ownBlock] using e
      subst this
      exact gr6.block g (by have := hglt; omega) (fun e => hgg (by simpa using e.symm))
    obtain ⟨yA, sA, ownA, grA⟩ := Ow.own_store hrow6 (n * 8 + 4) (by omega) (.slice (some ⟨g', 0, none⟩) (nL + 1) c')
    obtain ⟨z0, sZ, ownZ, grZ⟩ := Ow.own_store hrow2 (n * 8 + 4) (by omega) (.slice (some ⟨g', 0, none⟩) (nL + 1) c')
    have ownz0 : z0.ownsRow W0.heap.size 28 6 (.slice (some ⟨g', 0, none⟩) (nL + 1) c') (nL + 1) (xs ++ [.int .i8 0, .bool false, .int .i64 0, .string ⟨#[]⟩, .slice none 0 0, .slice none 0 0]) := own_kp own fun q e => by
      have : g' = q := by simpa [Value.ownBlock] using e
      subst this
      exact grZ.block g' (own.lt g' rfl).2 (fun e => hgg (by simpa using e))
    obtain ⟨z1, z2, z3, z4, z5, z6, r1, r2, r3, r4, r5, r6, ownz6, grz6⟩ := Ow.own_six ownz0 (nL * 6) (by omega) (.int .i8 kd) (.bool bo) (.int .i64 nu) (.string te) (.slice o1 n1 m1) (.slice o2 n2 m2)
    rw [Ow.set_six _ _ _ _ _ _ _ _ _ _ _ _ _ _ hlen.symm] at ownz6
    have hb6 : ∀ {u w : World} {a : Nat}, Below W0.heap.size W0 u → W0.heap.size ≤ u.heap.size → u.grownBy w (some a) → W0.heap.size ≤ a → Below W0.heap.size W0 w := fun {u w a} h1 h2 h3 h4 => h1.grown h3 h2 (fun q e => by
      have : a = q := by simpa using e
      omega)
    have hg0 := (own.lt g' rfl).1
    have hg1 := (h2.own.lt g rfl).1
    have hx0 := h2.kb.size
    have hy6 := gr6.size
    have hyA := grA.size
    have hz0 := grZ.size
    have hz6 := grz6.size
    refine ⟨g', nL * 6, y1, y2, y3, y4, y5, y6, yA, z0, z1, z2, z3, z4, z5, z6, rfl, h3, rfl, ⟨s1, s2, s3, s4, s5, s6⟩, sA, Lib.hid ?_, sZ, ⟨r1, r2, r3, r4, r5, r6⟩, Lib.hid ?_⟩
    · refine FIN yA _ (hb6 (hb6 hb2 (by omega) gr6 hg0) (by omega) grA hg1) (by omega) (fun q q1 q2 q3 => ?_) (own_kp own6 fun q e => ?_) hnew ownA
      · have hqg : q ≠ g' := fun e => by
          rcases hnew g' rfl with e' | e'
          · exact q2 (e ▸ e')
          · omega
        rw [grA.block q (by omega) (fun e => q3 (by simpa using e)), gr6.block q (by omega) (fun e => hqg (by simpa using e)), hkp q q1 q2]
      · have : g' = q := by simpa [Value.ownBlock] using e
        subst this
        exact grA.block g' (own6.lt g' rfl).2 (fun e => hgg (by simpa using e))
    · refine FIN z6 _ (hb6 (hb6 hb2 (by omega) grZ hg1) (by omega) grz6 hg0) (by omega) (fun q q1 q2 q3 => ?_) ownz6 hnew (own_kp ownZ fun q e => ?_)
      · have hqg : q ≠ g' := fun e => by
          rcases hnew g' rfl with e' | e'
          · exact q2 (e ▸ e')
          · omega
        rw [grz6.block q (by omega) (fun e => hqg (by simpa using e)), grZ.block q (by omega) (fun e => q3 (by simpa using e)), hkp q q1 q2]
      · have : g = q := by simpa [Value.ownBlock] using e
        subst this
        exact grz6.block g (by omega) (fun e => hgg (by simpa using e.symm))
  have hpa : Below X.heap.size X (X.alloc (.cells #[.int .i8 0, .bool false, .int .i64 0, .string ⟨#[]⟩, .slice none 0 0, .slice none 0 0] 28)) := (Below.refl _ X).alloc (Nat.le_refl _) _
  have p4' := cell_below hpa _ _ p4
  have y0 : X.cell? ⟨W.heap.size, 0, none⟩ = some (.int .i8 kd) := bx1.cell 0
  have y0q := cell_below hpa _ _ y0
  have y1 : X.cell? ⟨W.heap.size, 1, none⟩ = some (.bool bo) := bx1.cell 1
  have y1q := cell_below hpa _ _ y1
  have y2 : X.cell? ⟨W.heap.size, 2, none⟩ = some (.int .i64 nu) := bx1.cell 2
  have y2q := cell_below hpa _ _ y2
  have y3 : X.cell? ⟨W.heap.size, 3, none⟩ = some (.string te) := bx1.cell 3
  have y3q := cell_below hpa _ _ y3
  have y4 : X.cell? ⟨W.heap.size, 4, none⟩ = some (.slice o1 n1 m1) := bx1.cell 4
  have y4q := cell_below hpa _ _ y4
  have y5 : X.cell? ⟨W.heap.size, 5, none⟩ = some (.slice o2 n2 m2) := bx1.cell 5
  have y5q := cell_below hpa _ _ y5
  have HO := Lib.hid hlo
  have hb0 : W0.heap.size ≤ X.heap.size := h2.kb.size
  have HB0 := Lib.hid hb0
  have hnl : nL ≤ 1000000 := by rw [hnL]; exact hfl
  have HNL := Lib.hid hnl
  have H2 := Lib.hid h2
  have BX1 := Lib.hid bx1
  have BX2 := Lib.hid bx2
  have HWX := Lib.hid (And.intro hWX hsz)
  clear hlo hb0 hnl h2 h2' bx1 bx2 hWX hsz e1 e2 e3 e4 e5 e6 e7 hlv hL1 hL2 hnL hvX hglt hgB hgl hrowX FIN hpa hb1
  obtain ⟨i0, hi, hzz⟩ := Option.map_eq_some_iff.1 infoVal
  simp only [Prod.mk.injEq] at hzz
  obtain ⟨hz0, hz1, hz2⟩ := hzz
  have i1 : (nL : Int) < (nL : Int) + 1 := by omega
  have i2 : (0 : Int) ≤ (nL : Int) := by omega
  have i3 : nL < nL + 1 := by omega
  go_upto_region 2 with fail
  go_cut [] (fun wx => Hid (∃ ys' B', PW W0 b s d k ({ f with vs := f.vs ++ [v] } :: t) (.slice (some ⟨g, 0, none⟩) (n + 1) cap) ys' B' wx ∧ Frm W0 b (.slice (some ⟨g, 0, none⟩) (n + 1) cap) (fun q => B q ∨ Sv q) X (.slice (some ⟨g, 0, none⟩) (n + 1) cap) B' wx ∧ ∀ q, B' q → (B q ∨ Sv q) ∨ X.heap.size ≤ q))
  case first =>
    go_region_law (refine Ow.step_append_row rfl _ _ 25 rfl W0.heap.size 28 i0 zeroV 6 80 Tryz.underlying25 hi hz0 hz1 hz2 rfl (by decide) (.slice oL nL cL) nL xs (by simp [Act.eval, Act.put]) (HO.out.drew.alloc _) (some ⟨X.heap.size, 0, none⟩) ⟨X.heap.size, 0, none⟩ 1 1 [.int .i8 0, .bool false, .int .i64 0, .string ⟨#[]⟩, .slice none 0 0, .slice none 0 0] (by simp [Act.eval, Act.put]) (fun _ => rfl) rfl (news_at (Bx.new X.drew _ _)) (by intro u hu; simp at hu; rcases hu with rfl | rfl | rfl | rfl | rfl | rfl <;> rfl) (by have := HNL.out; unfold maxLen; omega) (by have := HNL.out; omega) (by have := HB0.out; simp; omega) ?_; intro o' c' w2 own2 gr2 at2; obtain ⟨g', p, y1, y2, y3, y4, y5, y6, yA, z0, z1, z2, z3, z4, z5, z6, rfl, hcc, rfl, ⟨⟨⟨_, a1⟩, a1', a1''⟩, ⟨⟨_, a2⟩, a2', a2''⟩, ⟨⟨_, a3⟩, a3', a3''⟩, ⟨⟨_, a4⟩, a4', a4''⟩, ⟨⟨_, a5⟩, a5', a5''⟩, ⟨⟨_, a6⟩, a6', a6''⟩⟩, ⟨⟨_, b1⟩, b1', b1''⟩, HYA, ⟨⟨_, b2⟩, b2', b2''⟩, ⟨⟨⟨_, d1⟩, d1', d1''⟩, ⟨⟨_, d2⟩, d2', d2''⟩, ⟨⟨_, d3⟩, d3', d3''⟩, ⟨⟨_, d4⟩, d4', d4''⟩, ⟨⟨_, d5⟩, d5', d5''⟩, ⟨⟨_, d6⟩, d6', d6''⟩⟩, HYZ⟩ := PU.out _ _ _ _ ((Below.refl _ X).drew.alloc (Nat.le_refl _) _) own2 gr2 at2; have hadd := add_at g' (nL * 6))
    all_goals
      go_wp2_with fail
      go_meet
      first | exact HYA | exact HYZ
  case rest =>
    obtain ⟨ys', B', h3, hF3, hbb⟩ := hcut.out
    have hsz := HWX.out.2
    have hF : Frm W0 b (.slice (some ⟨g, 0, none⟩) (n + 1) cap) (fun q => B q ∨ Sv q) W (.slice (some ⟨g, 0, none⟩) (n + 1) cap) B' wc := ⟨by have := hF3.1; omega, fun q q1 q2 => by
      have h8 := hF3.2 q (by omega) q2
      exact ⟨h8.1.trans (HWX.out.1.block q q1), h8.2⟩⟩
    have hoX : Off W0 b (.slice (some ⟨g, 0, none⟩) (n + 1) cap) (fun q => B q ∨ Sv q) (W.heap.size + 1) := by
      have h8 := HH.out.off (W.heap.size + 1) (by omega)
      refine ⟨h8.1, h8.2.1, ?_, h8.2.2.2⟩
      rintro (e | e)
      · exact h8.2.2.1 e
      · have := (HSV.out _ e).2
        omega
    have ho2 := hF3.2 (W.heap.size + 1) (by omega) hoX
    have HF := Lib.hid hF
    have HBB := Lib.hid (show ∀ q, B' q → (B q ∨ Sv q) ∨ W.heap.size ≤ q from fun q e => (hbb q e).imp id (fun e => by omega))
    have BX2 := Lib.hid (BX2.out.kp ho2.1)
    have OF2 := Lib.hid ho2.2
    have H3 := Lib.hid h3
    have hne2 : ¬ b = W.heap.size + 1 := fun e => hoX.2.1 e.symm
    clear hcut h3 hF3 hbb hF hoX ho2 hsz PU HNL i1 i2 i3 p4 p4' y0 y1 y2 y3 y4 y5 y0q y1q y2q y3q y4q y5q hi hz0 hz1 hz2 i0
    go_wp2_with fail
    refine (blanks_any H3.out hk (by omega)).mono ?_
    rintro e W3 ⟨rfl, h4, hg4⟩
    have k4 : Kb b wc W3 := Kb.of_grown hg4
    have bx2 := BX2.out.kp (k4.2 _ BX2.out.lt OF2.out.2.1)
    obtain ⟨cl, hcl⟩ : ∃ cl : UInt8, f.close = cl := ⟨_, rfl⟩
    have p6 : W3.cell? ⟨g, n * 8 + 6, none⟩ = some (.int .u8 cl.toNat) := by
      have h4' := h4
      rw [← HND.out] at h4'
      obtain ⟨zs, lv, kv, m, xs, S, Bt, Bf, e1, e2, e3, e4, e5, e6, e7⟩ := h4'.cells
      rw [← HND.out, ← hcl]
      exact e7 6 _ rfl
    have HF4 := Lib.hid (HF.out.trans (Frm.of_kb k4))
    obtain ⟨K, hK⟩ : ∃ K, bl s.data.toList k = K := ⟨_, rfl⟩
    have hKs : K ≤ s.size := by rw [← hK]; have := bl_le s.data.toList k (by rw [toList_length]; exact hk); rwa [toList_length] at this
    rw [hK] at h4
    have HK := Lib.hid hK
    have HCL := Lib.hid hcl
    have H4 := Lib.hid h4
    have BX2 := Lib.hid bx2
    clear h4 hg4 k4 bx2 hK hcl
    go_wp2_with fail
    have hst := stands_any H4.out cl hKs (by omega)
    by_cases hy : s.data.toList[K]? = some cl
    · rw [decide_eq_true hy] at hst
      have hr := HR.out
      unfold putM at hr
      rw [HK.out, HCL.out, if_pos hy] at hr
      subst hr
      refine hst.mono ?_
      rintro e W4 ⟨rfl, hb4⟩
      have H5 := Lib.hid (H4.out.below hb4)
      have HF5 := Lib.hid (HF4.out.trans (Frm.of_kb (Kb.of_below hb4)))
      have BX2 := Lib.hid (BX2.out.below hb4)
      clear hst hy hb4 p6
      go_wp2_with fail
      refine (leave_any H5.out (by rw [HND.out]; omega) (by omega)).mono ?_
      intro e W5 h6
      obtain ⟨val, S, ov5, ys5, B5, rfl, h7, hva, hS, hF⟩ := h6
      obtain ⟨kd', bo', nu', te', o1', n1', m1', o2', n2', m2', rfl⟩ := isVa_form hva
      have hb2 := hF.2 (W.heap.size + 1) BX2.out.lt OF2.out
      have bx2 := BX2.out.kp hb2.1
      have q0 : W5.cell? ⟨W.heap.size + 1, 0, none⟩ = some (.int .i8 0) := bx2.cell 0
      have q1 : W5.cell? ⟨W.heap.size + 1, 1, none⟩ = some (.bool false) := bx2.cell 1
      have q2 : W5.cell? ⟨W.heap.size + 1, 2, none⟩ = some (.int .i64 0) := bx2.cell 2
      have q3 : W5.cell? ⟨W.heap.size + 1, 3, none⟩ = some (.string ⟨#[]⟩) := bx2.cell 3
      have q4 : W5.cell? ⟨W.heap.size + 1, 4, none⟩ = some (.slice none 0 0) := bx2.cell 4
      have q5 : W5.cell? ⟨W.heap.size + 1, 5, none⟩ = some (.slice none 0 0) := bx2.cell 5
      have z0 := bx2.frozen 0
      have z1 := bx2.frozen 1
      have z2 := bx2.frozen 2
      have z3 := bx2.frozen 3
      have z4 := bx2.frozen 4
      have z5 := bx2.frozen 5
      have H7 := Lib.hid h7
      have HVA := Lib.hid hva
      have HS := Lib.hid hS
      have HB2 := Lib.hid hb2
      have HF7 := Lib.hid (HF5.out.trans hF)
      have BX2L := Lib.hid BX2.out.lt
      clear h7 hva hS hb2 hF bx2
      go_wp2_with fail
      refine bodyPost_ret (v := .tuple #[.agg #[.int .i8 kd', .bool bo', .int .i64 nu', .string te', .slice o1' n1' m1', .slice o2' n2' m2'], .bool true]) (by simp [results, Tryz.results27, go_sem, q0, q1, q2, q3, q4, q5]) rfl ?_
      have hlt2 : W.heap.size + 1 < W4.heap.size := BX2L.out
      refine StepR.got6 H7.out HB2.out.2 HVA.out (fun q e => ⟨(HS.out q e).1, (HS.out q e).2.1, ?_⟩) (fun q e e' => ?_) HF7.out (by omega)
      · rcases (HS.out q e).2.2 with e1 | e1
        · exact HBB.out q e1
        · exact .inr (by omega)
      · rcases (HS.out q e).2.2 with e1 | e1
        · exact OF2.out.2.2.1 (e' ▸ e1)
        · omega
    · have hr := HR.out
      unfold putM at hr
      rw [HK.out, HCL.out, if_neg hy] at hr
      have HR := Lib.hid hr
      rw [decide_eq_false hy] at hst
      refine hst.mono ?_
      rintro e W4 ⟨rfl, hb4⟩
      have H5 := Lib.hid (H4.out.below hb4)
      have HF5 := Lib.hid (HF4.out.trans (Frm.of_kb (Kb.of_below hb4)))
      have BX2 := Lib.hid (BX2.out.below hb4)
      clear hst hy hb4 hr p6
      go_wp2_with fail
      refine (sign_any H5.out 44 hKs (by omega)).mono ?_
      intro e W6 h10
      unfold SignR at h10
      have hr := HR.out
      by_cases hc : s.data.toList[K]? = some 44
      · rw [if_pos hc] at h10
        obtain ⟨rfl, h10, hk10⟩ := h10
        rw [if_neg (not_not_intro hc)] at hr
        have HR := Lib.hid hr
        have H10 := Lib.hid h10
        have HF10 := Lib.hid (HF5.out.trans (Frm.of_kb hk10))
        have BX2 := Lib.hid (BX2.out.kp (hk10.2 _ BX2.out.lt OF2.out.2.1))
        obtain ⟨K2, hK2⟩ : ∃ K2, bl s.data.toList (K + 1) = K2 := ⟨_, rfl⟩
        have hKs2 : K2 ≤ s.size := by
          have h8 := lt_of_some hc
          have := bl_le s.data.toList (K + 1) h8
          rw [hK2, toList_length] at this
          exact this
        have HK2 := Lib.hid hK2
        clear h10 hk10 hc hr hK2
        go_wp2_with fail
        have H11 := Lib.hid (HK2.out ▸ H10.out)
        refine (key_any H11.out hE (by rw [HND.out]; omega) hKs2 hs hfk).mono ?_
        intro e W5 h6
        have hr := HR.out
        rw [HK2.out] at hr
        cases hkm : keyM s.data.toList K2 { f with vs := f.vs ++ [v] } with
        | error er =>
          rw [hkm] at h6 hr
          subst hr
          obtain ⟨rfl, hb6⟩ := h6
          have HB6 := Lib.hid hb6
          clear hb6 HR hkm
          exact ⟨rfl, StepR.err rfl HB6.out⟩
        | ok pp =>
          obtain ⟨k', f'⟩ := pp
          rw [hkm] at h6 hr
          simp only at hr
          subst hr
          obtain ⟨rfl, ov5, ys5, B5, h7, hF⟩ := h6
          have hb2 := hF.2 (W.heap.size + 1) BX2.out.lt OF2.out
          have bx2 := BX2.out.kp hb2.1
          have q0 : W5.cell? ⟨W.heap.size + 1, 0, none⟩ = some (.int .i8 0) := bx2.cell 0
          have q1 : W5.cell? ⟨W.heap.size + 1, 1, none⟩ = some (.bool false) := bx2.cell 1
          have q2 : W5.cell? ⟨W.heap.size + 1, 2, none⟩ = some (.int .i64 0) := bx2.cell 2
          have q3 : W5.cell? ⟨W.heap.size + 1, 3, none⟩ = some (.string ⟨#[]⟩) := bx2.cell 3
          have q4 : W5.cell? ⟨W.heap.size + 1, 4, none⟩ = some (.slice none 0 0) := bx2.cell 4
          have q5 : W5.cell? ⟨W.heap.size + 1, 5, none⟩ = some (.slice none 0 0) := bx2.cell 5
          have z0 := bx2.frozen 0
          have z1 := bx2.frozen 1
          have z2 := bx2.frozen 2
          have z3 := bx2.frozen 3
          have z4 := bx2.frozen 4
          have z5 := bx2.frozen 5
          have H7 := Lib.hid h7
          have HB2 := Lib.hid hb2
          have HF7 := Lib.hid (HF10.out.trans hF)
          clear h7 hb2 hF bx2 HR hkm
          go_wp2_with fail
          refine bodyPost_ret (v := .tuple #[zeroV, .bool false]) (by simp [results, Tryz.results27, go_sem, q0, q1, q2, q3, q4, q5, zeroV]) rfl ?_
          exact StepR.rd6 H7.out HB2.out.2 HF7.out (by omega)
      · rw [if_neg hc] at h10
        obtain ⟨rfl, hb10⟩ := h10
        rw [if_pos hc] at hr
        subst hr
        have HB10 := Lib.hid hb10
        clear hb10 hc HR
        exact ⟨rfl, StepR.err rfl HB10.out⟩
end
end Go.Proofs.YtgbagdfcdljleaaGreatDoor
