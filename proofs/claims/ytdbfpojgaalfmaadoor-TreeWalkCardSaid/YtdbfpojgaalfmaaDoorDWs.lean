/-
  The program's Walk, as an iterator.
-/
import Derived.Test.YtdbfpojgaalfmaaDoorDWa
import Derived.Test.YtdbfpojgaalfmaaDoorDGet
set_option linter.unusedVariables false
namespace Go.Proofs.YtdbfpojgaalfmaaDoor
open Go.RowKit Go.Shelf
attribute [local go_sem] Oper.semAt_some

mutual
theorem walk_sub : ∀ (x y : V), y ∈ walkV x → sizeV y ≤ sizeV x ∧ ∀ z ∈ walkV y, z ∈ walkV x
  | .mk k b n s l ks, y, h => by
    rw [walkV] at h
    rcases List.mem_cons.1 h with rfl | h
    · exact ⟨Nat.le_refl _, fun z hz => hz⟩
    · obtain ⟨h1, h2⟩ := walks_sub l y h
      exact ⟨by rw [sizeV]; omega, fun z hz => by rw [walkV]; exact List.mem_cons_of_mem _ (h2 z hz)⟩
theorem walks_sub : ∀ (l : List V) (y : V), y ∈ walkVs l → sizeV y ≤ sizeVs l ∧ ∀ z ∈ walkV y, z ∈ walkVs l
  | [], y, h => by simp [walkVs] at h
  | x :: t, y, h => by
    rw [walkVs] at h
    rcases List.mem_append.1 h with h | h
    · obtain ⟨h1, h2⟩ := walk_sub x y h
      exact ⟨by rw [sizeVs]; omega, fun z hz => by rw [walkVs]; exact List.mem_append_left _ (h2 z hz)⟩
    · obtain ⟨h1, h2⟩ := walks_sub t y h
      exact ⟨by rw [sizeVs]; omega, fun z hz => by rw [walkVs]; exact List.mem_append_right _ (h2 z hz)⟩
end
theorem fine_sub {x y : V} (h : y ∈ walkV x) (hF : fineV x) : fineV y := fun z hz => hF z ((walk_sub x y h).2 z hz)
theorem RoundIn.wide {a b l l' f : Nat} {tmps : Array Value} {assign body : Code} {W : World} {R : Ending → World → Prop} (h : RoundIn Fence.wide a Tryd.prog l f tmps assign body W R) : RoundIn (Fence.wide.inRound l') b Tryd.prog l f tmps assign body W R :=
  ⟨h.1, fun c cs _ => h.2 c cs (room_wide _)⟩
abbrev PV := V × Value
/-- What the inner loop holds of the outer one. -/
def WI (w0 : World) (l gy : Nat) (J : List PV → World → Prop) (ys : List V) (Wr : World) : Prop :=
  ∃ pre' : List PV, pre'.map (fun p => p.1) = ys ∧ J pre' Wr ∧ Below w0.heap.size w0 Wr ∧ Wr.heap[gy]? = some (.cells #[.func (.yield l) #[] #[]] 27 (0, 0))
theorem WI.grown {w0 W A B : World} {l gy : Nat} {J : List PV → World → Prop} {ys : List V} {row : Option Nat} (hJ : Free W.heap.size J) (hw : w0.heap.size ≤ W.heap.size) (hgy : gy < W.heap.size + 1) (h : WI w0 l gy J ys A) (hg : A.grownBy B row) (hr : ∀ r, row = some r → W.heap.size + 1 ≤ r) : WI w0 l gy J ys B := by
  obtain ⟨pre', h1, h2, h3, h4⟩ := h
  refine ⟨pre', h1, hJ _ _ _ _ h2 hg (fun r e => by have := hr r e; omega), h3.grown hg h3.size (fun r e => by have := hr r e; omega), ?_⟩
  exact (hg.block gy (Array.getElem?_eq_some_iff.1 h4).1 (fun e => by have := hr _ e.symm; omega)).trans h4
def WX (Jx : List PV → World → Prop) (ys : List V) (Wr : World) : Prop := ∃ pre' : List PV, pre'.map (fun p => p.1) = ys ∧ Jx pre' Wr
theorem WX.grown {B0 : Nat} {A B : World} {Jx : List PV → World → Prop} {ys : List V} {row : Option Nat} (hJ : Free B0 Jx) (h : WX Jx ys A) (hg : A.grownBy B row) (hr : ∀ r, row = some r → B0 ≤ r) : WX Jx ys B := by
  obtain ⟨pre', h1, h2⟩ := h
  exact ⟨pre', h1, hJ _ _ _ _ h2 hg hr⟩

set_option maxRecDepth 100000 in
set_option maxHeartbeats 8000000 in
theorem walk1_seq (w0 : World) (hi : Nat) (x : V) (vx : Value) (hx : isV w0 x vx) (hS : sizeV x ≤ 1000000) (hF : fineV x) (gk gd : Nat) (cs : Array Value) (hcs : vx = .agg cs)
    (hgk : w0.heap[gk]? = some (.cells cs 26 (0, 0))) (hgd : Boxed w0 gd 4 (.bool false)) (w : World) (hw : Below w0.heap.size w0 w) (hhi : hi ≤ w.heap.size) :
    Seq2 8 55 #[.pointer (some ⟨gk, 0, none⟩), .pointer (some ⟨gd, 0, none⟩)] (fun p : PV => #[p.2]) (KA w0.heap.size hi) (fun p W => isV W p.1 p.2) (fun xs => xs.map (fun p => p.1) = walkV x) (fun pre => pre.map (fun p => p.1) <+: walkV x) 1000001 w := by
  intro l J Jx W hW hJ hJx hY h0
  have hwl := walk_le x
  have hQ : ∀ y ∈ walkV x, sizeV y ≤ 1000000 ∧ fineV y := fun y hy => ⟨by have := (walk_sub x y hy).1; omega, fine_sub hy hF⟩
  have hW0 : Below w0.heap.size w0 W := hw.trans (hW.mono hw.size)
  have hzw := hw.size
  have hzW := hW.size
  obtain ⟨k, b, n0, s, o, m, c, o2, m2, c2, rfl⟩ := isV_six hx
  cases hcs
  have bk := (hW0.block gk (Array.getElem?_eq_some_iff.1 hgk).1).trans hgk
  obtain ⟨r0, r1, r2, r3, r4, r5⟩ := six_cells bk
  have bk1 := cell_below (kbA (w := W) (o := .cells #[.func (.yield l) #[] #[]] 27)) 
  have q0 := bk1 _ _ r0
  have q1 := bk1 _ _ r1
  have q2 := bk1 _ _ r2
  have q3 := bk1 _ _ r3
  have q4 := bk1 _ _ r4
  have q5 := bk1 _ _ r5
  have HX := Lib.hid hx
  have HY := Lib.hid hY
  have HJ := Lib.hid hJ
  have HJx := Lib.hid hJx
  have HQ := Lib.hid hQ
  have HGD := Lib.hid hgd
  have HGDl : Hid (gd < w0.heap.size) := Lib.hid (Array.getElem?_eq_some_iff.1 hgd).1
  have H0 : Hid (WI w0 l W.heap.size J [] ((W.alloc (.cells #[.func (.yield l) #[] #[]] 27)).alloc (.cells #[.int .i8 k, .bool b, .int .i64 n0, .string s, .slice o m c, .slice o2 m2 c2] 26))) := Lib.hid ⟨[], rfl, hJ.new _ (hJ.new _ h0), (hW0.alloc hW0.size _).alloc (by simp; omega) _, (Below.heap_alloc _ _ _ (by simp)).trans (World.alloc_heap_new W _)⟩
  have HB0 : Hid (Below w0.heap.size w0 ((W.alloc (.cells #[.func (.yield l) #[] #[]] 27)).alloc (.cells #[.int .i8 k, .bool b, .int .i64 n0, .string s, .slice o m c, .slice o2 m2 c2] 26))) := Lib.hid ((hW0.alloc hW0.size _).alloc (by simp; omega) _)
  have x6 := World.alloc_heap_new (W.alloc (.cells #[.func (.yield l) #[] #[]] 27)) (.cells #[.int .i8 k, .bool b, .int .i64 n0, .string s, .slice o m c, .slice o2 m2 c2] 26)
  rw [World.size_alloc] at x6
  have hsz : ((W.alloc (.cells #[.func (.yield l) #[] #[]] 27)).alloc (.cells #[.int .i8 k, .bool b, .int .i64 n0, .string s, .slice o m c, .slice o2 m2 c2] 26)).heap.size = W.heap.size + 2 := by simp
  clear hx hY hJ hJx hQ hgd hW hW0 h0 hgk bk r0 r1 r2 r3 r4 r5 bk1 hF
  refine callsIn_of_wp_marks Tryd.func55 rfl trivial ?_ rfl
  simp only [Tryd.ntmps55, List.size_toArray, List.length_cons, List.length_nil, Nat.reduceAdd, Nat.reduceSub, Array.replicate_succ, Array.replicate_zero, List.push_toArray, List.append_toArray, List.nil_append, List.cons_append]
  gi_wp2_with fail
  refine ⟨trivial, ?_⟩
  refine (all_in _ _ _ _ _ _ _ _ _ _ _ _ rfl _).mono ?_
  rintro e w' ⟨rfl, rfl⟩
  gi_wp2_with fail
  clear q0 q1 q2 q3 q4 q5
  generalize hW6 : (W.alloc (.cells #[.func (.yield l) #[] #[]] 27)).alloc (.cells #[.int .i8 k, .bool b, .int .i64 n0, .string s, .slice o m c, .slice o2 m2 c2] 26) = W6 at *
  clear hW6
  refine range_own2 (lo := w0.heap.size) (hi := hi) (by omega) (gf := 69) (lb := #[.pointer (some ⟨W.heap.size + 1, 0, none⟩)]) rfl (enters_of Tryd.func69 (by kernel_rfl) rfl)
    (Seq.two (all_seq (8 - 1) (by omega) w0 hi (fun y => sizeV y ≤ 1000000 ∧ fineV y) x _ HX.out HQ.out (by omega) (W.heap.size + 1) W6 HB0.out (by omega) (by omega) _ rfl x6)) (fun h => h.kc) (by omega) (Below.refl _ _) (fun _ => rfl)
    (fun pre Wr => WI w0 l W.heap.size J (pre.map (fun p => p.1.1)) Wr)
    (fun c pre Wr => c = .ret ∧ WX Jx (pre.map (fun p => p.1.1)) Wr)
    ?hI ?hIx H0.out
    (fun x Ws a' Wr => ∃ (Bx : Nat) (k' : Int) (b' : Bool) (n' : Int) (s' : ByteArray) (o1 : Option Addr) (m1 p1 : Nat) (o3 : Option Addr) (m3 p3 : Nat), x.1.2 = .agg #[.int .i8 k', .bool b', .int .i64 n', .string s', .slice o1 m1 p1, .slice o3 m3 p3] ∧ Wr.heap[Bx]? = some (.cells #[.int .i8 k', .bool b', .int .i64 n', .string s', .slice o1 m1 p1, .slice o3 m3 p3] 26 (0, 0)) ∧ Ws.heap.size ≤ Bx ∧ a' = {
      tmps := #[.func (.yield l) #[] #[], .pointer (some ⟨gk, 0, none⟩), .pointer (some ⟨gd, 0, none⟩), .pointer (some ⟨W.heap.size, 0, none⟩), .pointer (some ⟨Bx, 0, none⟩), .agg #[.int .i8 k, .bool b, .int .i64 n0, .string s, .slice o m c, .slice o2 m2 c2], .func (.func 69) #[] #[.pointer (some ⟨W.heap.size + 1, 0, none⟩)], .agg #[.int .i8 k', .bool b', .int .i64 n', .string s', .slice o1 m1 p1, .slice o3 m3 p3], undef, undef, undef, undef, undef, undef, undef, undef],
      defers := [] })
    ?hAx ?assign ?body ?done ?stop
  case hI => exact fun ys A B row h hg hr => WI.grown HJ.out (by omega) (by omega) h hg (fun r e => by have := hr r e; omega)
  case hIx => exact fun c ys A B row h hg hr => ⟨h.1, WX.grown HJx.out h.2 hg (fun r e => by have := hr r e; omega)⟩
  case hAx =>
    rintro x Ws a' Wr l' r o' hl hr ⟨Bx, k', b', n', s', o1, m1, p1, o3, m3, p3, h1, h2, h3, h4⟩
    refine ⟨Bx, k', b', n', s', o1, m1, p1, o3, m3, p3, h1, ?_, h3, h4⟩
    exact (World.putObj_heap_other (fun e => by subst e; rw [hr] at h2; cases h2)).trans h2
  case assign =>
    rintro l' pre x Wr K hI _ hK
    obtain ⟨k', b', n', s', o1, m1, p1, o3, m3, p3, hx⟩ := isV_six x.2.1
    have hen : encEl x = #[.agg #[.int .i8 k', .bool b', .int .i64 n', .string s', .slice o1 m1 p1, .slice o3 m3 p3]] := by unfold encEl; rw [hx]
    rw [hen]
    have HK := Lib.hid hK
    have HI := Lib.hid hI
    clear hK hI
    gi_wp2_with fail
    refine HK.out _ _ (by go_grown) ?_ ⟨Wr.heap.size, k', b', n', s', o1, m1, p1, o3, m3, p3, hx, World.alloc_heap_new Wr _, Nat.le_refl _, rfl⟩
    exact WI.grown HJ.out (by omega) (by omega) HI.out (World.grownBy_alloc Wr _ none) (fun r e => by cases e)
  case body =>
    rintro l' pre x Ws a' Wr hl _ hI ⟨Bx, k', b', n', s', o1, m1, p1, o3, m3, p3, hx, hbx, hBx, rfl⟩ hst hsz1 hsz2 hlen
    obtain ⟨pre', hp1, hp2, hp3, hp4⟩ := hI
    obtain ⟨r0, r1, r2, r3, r4, r5⟩ := six_cells hbx
    have hd1 : Boxed Wr gd 4 (.bool false) := (hp3.block gd HGDl.out).trans HGD.out
    have dd := hd1.cell
    have hv5 := isV_below hp3 x.2.1
    rw [hx] at hv5
    have hva : isVa Wr (fun q => q < w0.heap.size) x.1.1 (.agg #[.int .i8 k', .bool b', .int .i64 n', .string s', .slice o1 m1 p1, .slice o3 m3 p3]) := isVa_at hp3 (hx ▸ isVa_of _ _ x.2.1)
    have HC := Lib.hid (copied_any x.1.1 _ Wr (fun q => q < w0.heap.size) x.2.2.1 x.2.2.2 hva (fun q hq => by have := hp3.size; omega))
    have HP : Hid (pre'.map (fun p => p.1) = pre.map (fun p => p.1.1) ∧ J pre' Wr ∧ Below w0.heap.size w0 Wr ∧ Wr.heap[W.heap.size]? = some (.cells #[.func (.yield l) #[] #[]] 27 (0, 0))) := Lib.hid ⟨hp1, hp2, hp3, hp4⟩
    have HBX := Lib.hid hbx
    have HST := Lib.hid hst
    have hzr := hp3.size
    have hbl : Bx < Wr.heap.size := (Array.getElem?_eq_some_iff.1 hbx).1
    clear hva hd1 hp1 hp2 hp3 hp4 hv5 hbx hst hx
    gi_wp2_with fail
    refine ⟨trivial, ?_⟩
    refine (CallsIn.inRound l' (callsIn_wide.2 HC.out)).mono ?_
    rintro e W5 ⟨v5, rfl, hv6, hb5⟩
    obtain ⟨k6, b6, n6, s6, o6, m6, p6, o7, m7, p7, rfl⟩ := isV_six (isV_of_a _ _ hv6)
    have bx5 := (hb5.block Bx hbl).trans HBX.out
    have hz5 := hb5.size
    obtain ⟨x1, x2, x3, x4, x5, x6, f', ⟨⟨_, t1⟩, t1', t1''⟩, ⟨⟨_, t2⟩, t2', t2''⟩, ⟨⟨_, t3⟩, t3', t3''⟩, ⟨⟨_, t4⟩, t4', t4''⟩, ⟨⟨_, t5⟩, t5', t5''⟩, ⟨⟨_, t6⟩, t6', t6''⟩, hf7, hg7, e0, e1, e2, e3, e4, e5, -⟩ := store_six (rowIs_six bx5) 0 (by decide) (.int .i8 k6) (.bool b6) (.int .i64 n6) (.string s6) (.slice o6 m6 p6) (.slice o7 m7 p7) (by intro u hu; simp only [List.mem_cons, List.not_mem_nil, or_false] at hu; rcases hu with rfl | rfl | rfl | rfl | rfl | rfl <;> rfl)
    simp only [Nat.zero_add] at t2 t2' t2'' t3 t3' t3'' t4 t4' t4'' t5 t5' t5'' t6 t6' t6'' e1 e2 e3 e4 e5
    have d0 := hf7.cell (show 0 < 6 by decide)
    have d1 := hf7.cell (show 1 < 6 by decide)
    have d2 := hf7.cell (show 2 < 6 by decide)
    have d3 := hf7.cell (show 3 < 6 by decide)
    have d4 := hf7.cell (show 4 < 6 by decide)
    have d5 := hf7.cell (show 5 < 6 by decide)
    rw [e0] at d0
    rw [e1] at d1
    rw [e2] at d2
    rw [e3] at d3
    rw [e4] at d4
    rw [e5] at d5
    have hy6 : x6.heap[W.heap.size]? = some (.cells #[.func (.yield l) #[] #[]] 27 (0, 0)) := (hg7.block _ (by have := (Array.getElem?_eq_some_iff.1 HP.out.2.2.2).1; omega) (fun e => by have := Option.some.inj e; omega)).trans ((hb5.block _ (Array.getElem?_eq_some_iff.1 HP.out.2.2.2).1).trans HP.out.2.2.2)
    have u0 : x6.cell? ⟨W.heap.size, 0, none⟩ = some (.func (.yield l) #[] #[]) := by simp [World.cell?, hy6]
    have hb6 : Below w0.heap.size w0 x6 := (HP.out.2.2.1.trans (hb5.mono hzr)).grown hg7 (by omega) (fun r e => by cases e; omega)
    have hJ6 : J pre' x6 := HJ.out _ _ _ _ (HJ.out _ _ _ _ HP.out.2.1 (grown_bel hb5) (fun r e => by cases e)) hg7 (fun r e => by cases e; omega)
    have hV6 : isV x6 x.1.1 (.agg #[.int .i8 k6, .bool b6, .int .i64 n6, .string s6, .slice o6 m6 p6, .slice o7 m7 p7]) := isV_of_a _ _ (isVa_grown hg7 (fun q hq e => by have h1 := Option.some.inj e; rcases hq with hq | hq <;> omega) hv6)
    have hl' : pre'.length < 1000001 := by have := congrArg List.length HP.out.1; simp only [List.length_map] at this; omega
    obtain ⟨fn, tmps, assign, body, hy, hR⟩ := HY.out pre' (x.1.1, .agg #[.int .i8 k6, .bool b6, .int .i64 n6, .string s6, .slice o6 m6 p6, .slice o7 m7 p7]) x6 hJ6 hV6 hl'
    have HR := Lib.hid hR
    have HKX : Hid (KX l' w0.heap.size hi Ws x6 ∧ KeepsFrom (W.heap.size + 2) Wr x6) := Lib.hid ⟨⟨(HST.out.1.trans (hb5.mono hzr)).grown hg7 (by omega) (fun r e => by cases e; omega), fun b o hb hne hx => by
      have h1 := HST.out.2 b o hb hne hx
      have h2 := (Array.getElem?_eq_some_iff.1 hx).1
      exact (hg7.block b (by omega) (fun e => by have := Option.some.inj e; omega)).trans ((hb5.block b (Array.getElem?_eq_some_iff.1 h1).1).trans h1)⟩, ⟨by have := hg7.size; omega, fun b o hb hx hc => by
      have h1 := (hb5.block b (Array.getElem?_eq_some_iff.1 hx).1).trans hx
      refine (hg7.block b (Array.getElem?_eq_some_iff.1 h1).1 (fun e => ?_)).trans h1
      have h2 := Option.some.inj e
      subst h2
      rw [HBX.out] at hx
      cases hx
      cases hc⟩⟩
    have HX6 : Hid (Below w0.heap.size w0 x6 ∧ x6.heap[W.heap.size]? = some (.cells #[.func (.yield l) #[] #[]] 27 (0, 0))) := Lib.hid ⟨hb6, hy6⟩
    have HZ6 : Hid (W.heap.size < x6.heap.size) := Lib.hid (Array.getElem?_eq_some_iff.1 hy6).1
    clear hR hJ6 hV6 hb6 hy6 hf7 hg7 e0 e1 e2 e3 e4 e5 hv6 hb5 bx5 r0 r1 r2 r3 r4 r5 dd
    gi_wp2_with fail
    refine (RoundIn.wide HR.out).mono ?_
    clear HR u0 d0 d1 d2 d3 d4 d5 hy
    rintro e W7 (⟨rfl, hJ7, hk7⟩ | ⟨rfl, hJx7, hkf7⟩)
    · have HF : Hid (KeepsFrom (W.heap.size + 2) Wr W7 ∧ KX l' w0.heap.size hi Ws W7 ∧ WI w0 l W.heap.size J ((pre ++ [x]).map (fun p => p.1.1)) W7) := Lib.hid ⟨HKX.out.2.trans ⟨hk7.1.size, fun b o hb hx hc => hk7.2 b o (by omega) hx⟩, ⟨HKX.out.1.1.trans hk7.1, fun b o hb hne hx => hk7.2 b o hb (HKX.out.1.2 b o hb hne hx)⟩,
        ⟨pre' ++ [(x.1.1, .agg #[.int .i8 k6, .bool b6, .int .i64 n6, .string s6, .slice o6 m6 p6, .slice o7 m7 p7])], by rw [List.map_append, HP.out.1, List.map_append]; rfl, hJ7, HX6.out.1.trans hk7.1, hk7.2 _ _ (by omega) HX6.out.2⟩⟩
      clear hJ7 hk7
      gi_wp2_with fail
      exact HF.out
    · have HF : Hid (KeepsFrom (W.heap.size + 2) Wr W7 ∧ WX Jx ((pre ++ [x]).map (fun p => p.1.1)) W7) := Lib.hid ⟨HKX.out.2.trans ⟨hkf7.size, fun b o hb hx hc => hkf7.same b o (by omega) hx hc⟩,
        ⟨pre' ++ [(x.1.1, .agg #[.int .i8 k6, .bool b6, .int .i64 n6, .string s6, .slice o6 m6 p6, .slice o7 m7 p7])], by rw [List.map_append, HP.out.1, List.map_append]; rfl, hJx7⟩⟩
      clear hJx7 hkf7
      gi_wp2_with fail
      exact ⟨HF.out.1, rfl, HF.out.2⟩
  case done =>
    rintro D xs Wr hD hS hI hK
    obtain ⟨pre', hp1, hp2, hp3, hp4⟩ := hI
    have HE : Hid ((∃ xs : List PV, xs.map (fun p => p.1) = walkV x ∧ J xs (Wr.putObj D (.deferred none)))) := Lib.hid ⟨pre', hp1.trans hS, HJ.out.put _ hp2 (by omega)⟩
    have HK := Lib.hid hK
    clear hp1 hp2 hp3 hp4 hS hK x6
    gi_wp2_with fail
    refine ⟨by simp, .inl ⟨_, _, rfl, run_takeDeferred HK.out, ?_⟩⟩
    exact ⟨.tuple #[], by simp [results, Tryd.results55, go_sem], ⟨_, rfl⟩, .inl HE.out⟩
  case stop =>
    rintro D c pre Wr hD hS ⟨rfl, pre', hp1, hp2⟩ hK
    have HE : Hid ((∃ pre : List PV, pre.map (fun p => p.1) <+: walkV x ∧ Jx pre (Wr.putObj D (.deferred none)))) := Lib.hid ⟨pre', by rw [hp1]; exact hS, HJx.out.put _ hp2 (by omega)⟩
    have HK := Lib.hid hK
    clear hp1 hp2 hS hK x6
    gi_wp2_with fail
    refine ⟨by simp, .inl ⟨_, _, rfl, run_takeDeferred HK.out, ?_⟩⟩
    exact ⟨.tuple #[], by simp [results, Tryd.results55, go_sem], ⟨_, rfl⟩, .inr HE.out⟩
end Go.Proofs.YtdbfpojgaalfmaaDoor
