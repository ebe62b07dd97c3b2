/-
  The walk of the program's iterator over a value and its parts.
-/
import Derived.Test.YtdbfpojgaalfmaaDoorDA
import Derived.Deep.AppendLies
import Derived.Laws.OwnMore
import Derived.Laws.AppendOwn
import Derived.Maps.OwnIn
import Derived.Maps.AppendAt
set_option linter.unusedVariables false
namespace Go.Proofs.YtdbfpojgaalfmaaDoor
open Go.RowKit Go.Shelf
attribute [local go_sem] Oper.semAt_some

theorem infoS : (Tryd.prog.info? 23).map (fun i => (i.zero, i.size, i.bytes)) = some (some (.slice none 0 0), 1, 24) := by kernel_rfl

theorem add_off (g n : Nat) : (⟨g, 0, none⟩ : Addr).add n = ⟨g, n, none⟩ := by
  unfold Addr.add
  by_cases h : n = 0 <;> simp [h]
theorem ownsRow_kc {lo hi base : Nat} {W W' : World} {e : TypeId} {sz : Nat} {v : Value} {n : Nat} {xs : List Value} (h : W.ownsRow base e sz v n xs) (hk : KC lo hi W W') (hb : hi ≤ base) : W'.ownsRow base e sz v n xs := by
  obtain ⟨h1, h2⟩ := h
  refine ⟨h1, h2.imp id ?_⟩
  rintro ⟨g, cap, cur, q1, q2, q3, q4⟩
  exact ⟨g, cap, cur, q1, q2, hk.2 g _ (by omega) q3 rfl, q4⟩
/-- The row without its last part. -/
theorem ownsRow_pop {base : Nat} {W : World} {e : TypeId} {g cap n : Nat} {xs : List Value} {v : Value} (h : W.ownsRow base e 1 (.slice (some ⟨g, 0, none⟩) (n + 1) cap) (n + 1) (xs ++ [v])) : W.ownsRow base e 1 (.slice (some ⟨g, 0, none⟩) n cap) n xs := by
  obtain ⟨h1, h2⟩ := h
  rw [List.length_append] at h1
  simp only [List.length_cons, List.length_nil, Nat.mul_one] at h1
  refine ⟨by omega, .inr ?_⟩
  rcases h2 with ⟨h, _⟩ | ⟨g', cap', cur, q1, q2, q3, q4, q5, q6, q7⟩
  · cases h
  · cases q1
    refine ⟨g, cap, cur, rfl, q2, q3, by omega, q5, q6, ?_⟩
    rw [Nat.mul_one] at q7 ⊢
    have := congrArg (List.take n) q7
    rw [List.take_take, Nat.min_eq_left (by omega), List.take_append_of_le_length (by omega), List.take_of_length_le (l := xs) (by omega)] at this
    exact this
def push (L : List V) : List (List V) := if L.length = 0 then [] else [L]
theorem remS_push (S : List (List V)) (L : List V) : remS (S ++ push L) = walkVs L ++ remS S := by
  unfold push
  split
  · rename_i h
    rw [walkVs_zero L h]; simp
  · rw [remS_snoc]
/-- The rows behind so many of the two that are put on. -/
def stk (S : List (List V)) (t m : List V) : Nat → List (List V)
  | 0 => S
  | 1 => S ++ push t
  | _ => S ++ push t ++ push m
theorem stk_step {w0 W : World} {x : V} {S : List (List V)} {t m : List V} {j : Nat} {L : List V} (hst : stk S t m (j + 1) = stk S t m j ++ push L) {ys : List Value} (hR : rowsOK w0 W.heap.size x (stk S t m j) ys) {v : Value} (hL : 0 < L.length) (hv : rowOK w0 W.heap.size x L v) :
    (stk S t m (j + 1)).length = (stk S t m j).length + 1 ∧ rowsOK w0 W.heap.size x (stk S t m (j + 1)) (ys ++ [v]) := by
  have e : push L = [L] := by unfold push; rw [if_neg (by omega)]
  rw [hst, e]
  exact ⟨by simp, rowsOK_snoc _ L ys v hR hL hv⟩
/-- What lies there while the row is put on. -/
def Mem (w0 W : World) (cs acs : Array Value) (NA : Nat) (JP : World → Prop) (wr : World) : Prop :=
  JP wr ∧ Below w0.heap.size w0 wr ∧ wr.heap[W.heap.size]? = some (.cells cs 26 (0, 0)) ∧ wr.heap[NA]? = some (.cells acs 23 (0, 0))
theorem Mem.grown {w0 W : World} {cs acs : Array Value} {NA : Nat} {JP : World → Prop} (hJ : ∀ A B row, JP A → A.grownBy B row → (∀ r, row = some r → W.heap.size ≤ r) → JP B) (hz : w0.heap.size ≤ W.heap.size) {wr w' : World} {row : Option Nat} (h : Mem w0 W cs acs NA JP wr) (hg : wr.grownBy w' row) (hr : ∀ r, row = some r → W.heap.size + 1 ≤ r ∧ r ≠ NA) : Mem w0 W cs acs NA JP w' := by
  obtain ⟨h1, h2, h3, h4⟩ := h
  refine ⟨hJ _ _ _ h1 hg (fun r e => by have := hr r e; omega), h2.grown hg h2.size (fun r e => by have := hr r e; omega), ?_, ?_⟩
  · exact (hg.block _ (Array.getElem?_eq_some_iff.1 h3).1 (fun e => by have := hr _ e.symm; omega)).trans h3
  · exact (hg.block _ (Array.getElem?_eq_some_iff.1 h4).1 (fun e => by have := hr _ e.symm; omega)).trans h4
theorem two_cells {W : World} {B : Nat} {c0 c1 : Value} {t : TypeId} (h : W.heap[B]? = some (.cells #[c0, c1] t (0, 0))) : W.cell? ⟨B, 0, none⟩ = some c0 ∧ W.cell? ⟨B, 1, none⟩ = some c1 := by
  unfold World.cell?
  simp [h]
/-- Between two rounds: so many values are yet to come. -/
def RA (w0 W : World) (Q : V → Prop) (x : V) (cs : Array Value) (J : List (El w0 Q) → World → Prop) (g : Nat) (rv : Value) (wr : World) : Prop :=
  ∃ (S : List (List V)) (xs : List Value) (pre : List (El w0 Q)), g = (remS S).length ∧ wr.ownsRow (W.heap.size + 1) 23 1 rv S.length xs ∧ rowsOK w0 W.heap.size x S xs ∧ pre.map (·.1.1) ++ remS S = walkV x ∧ J pre wr ∧ Below w0.heap.size w0 wr ∧ wr.heap[W.heap.size]? = some (.cells cs 26 (0, 0))

set_option maxRecDepth 100000 in
set_option maxHeartbeats 4000000 in
theorem all1_in (n : Nat) (hn : 1 ≤ n) (w0 : World) (hi : Nat) (Q : V → Prop) (x : V) (vx : Value) (hx : isV w0 x vx) (hQ : ∀ y ∈ walkV x, Q y) (hM : (walkV x).length ≤ 1000000) (l Bs : Nat) (J Jx : List (El w0 Q) → World → Prop)
    (W : World) (hW : Below w0.heap.size w0 W) (hhi : hi ≤ W.heap.size) (hJ : Free W.heap.size J) (hJx : Free W.heap.size Jx)
    (hY : ∀ pre x W1, J pre W1 → pre.length < 1000001 → YieldAt Fence.wide (n - 1) Tryd.prog l (encEl x) W1 fun e W' =>
      (e = .returned (.bool true) ∧ J (pre ++ [x]) W' ∧ KC w0.heap.size hi W1 W') ∨ (e = .returned (.bool false) ∧ Jx (pre ++ [x]) W'))
    (cs : Array Value) (hcs : vx = .agg cs) (hBs : W.heap[Bs]? = some (.cells cs 26 (0, 0))) (h0 : J [] W) :
    CallsIn Fence.wide n Tryd.prog 69 #[.func (.yield l) #[] #[], .pointer (some ⟨Bs, 0, none⟩)] W fun e W' => (∃ v, e = .returned v) ∧
      ((∃ xs, xs.map (·.1.1) = walkV x ∧ J xs W') ∨ (∃ pre, pre.map (·.1.1) <+: walkV x ∧ Jx pre W')) := by
  obtain ⟨i0, hi0, hz0, hz1, hz2⟩ := info_parts infoS
  obtain ⟨k, b, m, s, o, m1, c1, o2, m2, c2, rfl⟩ := isV_six hx
  cases hcs
  obtain ⟨r0, r1, r2, r3, r4, r5⟩ := six_cells hBs
  have HX := Lib.hid hx
  clear hx hBs
  refine callsIn_of_wp Tryd.func69 rfl trivial ?_ rfl
  simp only [Tryd.ntmps69, List.size_toArray, List.length_cons, List.length_nil, Nat.reduceAdd, Nat.reduceSub, Array.replicate_succ, Array.replicate_zero, List.push_toArray, List.append_toArray, List.nil_append, List.cons_append]
  gi_wp2_with fail
  gi_loopw [3] (fun p wr => ∃ g, RA w0 W Q x #[.int .i8 k, .bool b, .int .i64 m, .string s, .slice o m1 c1, .slice o2 m2 c2] J g p wr) (fun p wr => leastOf (fun g => RA w0 W Q x #[.int .i8 k, .bool b, .int .i64 m, .string s, .slice o m1 c1, .slice o2 m2 c2] J g p wr))
  case atStart =>
    refine ⟨_, [[x]], [.slice (some ⟨W.heap.size, 0, none⟩) 1 1], [], rfl, ?_, ?_, by simp [remS, walkVs], hJ.new _ (hJ.new _ h0), ?_, ?_⟩
    · have e := World.ownsRow_lit (W.alloc (.cells #[.int .i8 k, .bool b, .int .i64 m, .string s, .slice o m1 c1, .slice o2 m2 c2] 26)) #[Value.slice (some ⟨W.heap.size, 0, none⟩) 1 1] 1 (e := 23) (size := 1) (Nat.le_refl _) (by unfold maxLen; omega) (by rfl)
      rw [World.size_alloc] at e
      exact e
    · unfold rowsOK
      exact ⟨_, [], rfl, by simp, ⟨⟨W.heap.size, 0, none⟩, 1, ⟨_, rfl, Nat.le_refl _, by unfold maxLen; omega, fun _ => rfl⟩, .inr ⟨rfl, rfl⟩⟩, by unfold rowsOK; rfl⟩
    · exact hW.trans (Below.mono (by go_grown) hW.size)
    · exact (Below.heap_alloc _ _ _ (by simp)).trans (World.alloc_heap_new W _)
  case round =>
    obtain ⟨hR, -⟩ := leastOf_spec hrel
    clear hrel
    obtain ⟨S, xs, pre, hg, hown, hrows, hpre, hJs, hBw, hA⟩ := hR
    rcases List.eq_nil_or_concat S with rfl | ⟨S, L, rfl⟩
    · have HJ := Lib.hid hJs
      have HP := Lib.hid hpre
      obtain ⟨o', c', rfl⟩ : ∃ o' c', u3 = .slice o' 0 c' := by
        rcases hown.2 with ⟨h, _⟩ | ⟨_, _, _, h, _⟩
        · exact ⟨_, _, h⟩
        · exact ⟨_, _, h⟩
      clear hown hrows hpre hJs hBw hA hg
      gi_wp2_with fail
      go_end0
      exact ⟨⟨_, rfl⟩, .inl ⟨_, by have := HP.out; simpa [remS] using this, HJ.out⟩⟩
    · rw [List.concat_eq_append] at hrows hown hpre hg
      obtain ⟨xs0, v, rfl, hrows0, hLp, hrow⟩ := rowsOK_last S L xs hrows
      obtain ⟨y, t, rfl⟩ : ∃ y t, L = y :: t := by
        cases L with
        | nil => simp at hLp
        | cons y t => exact ⟨y, t, rfl⟩
      obtain ⟨hx0, hxl⟩ := rowsOK_len S xs0 hrows0
      have hlen1 : (S ++ [y :: t]).length = S.length + 1 := by simp
      rw [hlen1] at hown
      obtain ⟨gb, gc, rfl⟩ : ∃ gb gc, u3 = .slice (some ⟨gb, 0, none⟩) (S.length + 1) gc := by
        rcases hown.2 with ⟨_, h⟩ | ⟨_, _, _, h, _⟩
        · omega
        · exact ⟨_, _, h⟩
      have hcell : wr.cell? ((⟨gb, 0, none⟩ : Addr).add S.length) = some v := hown.cells rfl S.length v (by rw [List.getElem?_append_right (by omega), hx0]; simp)
      rw [add_off] at hcell
      obtain ⟨ab, ao, cap, k', b', n', s', o', _, c', o3, m3, c3, rfl, hq1, hq2, ⟨g0, g1, g2, g3, g4, g5⟩, hxy, hab, htl, rfl, hlist⟩ := rowOK_top HX.out hBw hA rfl hrow
      have hrem : (remS (S ++ [y :: t])).length = 1 + (walkVs y.list).length + (walkVs t).length + (remS S).length := by
        rw [remS_snoc]; simp [walkVs, walkV_eq]; omega
      have hpl : pre.length < 1000001 := by
        have := congrArg List.length hpre
        rw [List.length_append, List.length_map] at this; omega
      have hy5 : y ∈ walkV x := by
        rw [← hpre, remS_snoc]; simp [walkVs, walkV_eq]
      obtain ⟨X, hXe⟩ : ∃ X : El w0 Q, X.1 = (y, .agg #[.int .i8 k', .bool b', .int .i64 n', .string s', .slice o' y.list.length c', .slice o3 m3 c3]) := ⟨⟨_, hxy, hQ _ hy5⟩, rfl⟩
      have hen : encEl X = #[.agg #[.int .i8 k', .bool b', .int .i64 n', .string s', .slice o' y.list.length c', .slice o3 m3 c3]] := by unfold encEl; rw [hXe]
      obtain ⟨fn, tmps, assign, body, hy, hR⟩ := hY pre X wr hJs hpl
      rw [hen] at hy
      have HP : Hid ((pre ++ [X]).map (fun x : El w0 Q => x.1.1) ++ (walkVs y.list ++ (walkVs t ++ remS S)) = walkV x) := Lib.hid (by
        rw [← hpre, remS_snoc, List.map_append]; simp [walkVs, walkV_eq, hXe])
      have HR := Lib.hid hR
      have HG := Lib.hid (hg.trans hrem)
      have hS1 : S.length ≤ 1000000 := by
        have := congrArg List.length hpre
        rw [List.length_append, hrem] at this; omega
      have hz : (0 : Nat) + S.length = S.length := by omega
      have hgc : S.length + 1 ≤ gc ∧ gc ≤ maxLen := by
        rcases hown.2 with ⟨h, _⟩ | ⟨_, _, _, h, _, _, h2, h3, _⟩
        · cases h
        · cases h; exact ⟨h2, h3⟩
      obtain ⟨hgc1, hgc2⟩ := hgc
      unfold maxLen at hgc2 hq2
      have HT1 : Hid ((walkVs y.list).length + (walkVs t).length + (remS S).length ≤ 1000000) := Lib.hid (by
        have := congrArg List.length HP.out
        simp only [List.length_append] at this; omega)
      have HO := Lib.hid hown
      have HROW := Lib.hid hrows0
      have HJ := Lib.hid hJs
      have HBW := Lib.hid hBw
      have HA := Lib.hid hA
      have HT := Lib.hid htl
      have HL := Lib.hid hlist
      clear hpre hg hrows hrem hlen1 hrow hx0 hxl hrows0 hxy hen hXe hR hy5 hown hJs hBw hA htl hlist hLp
      gi_wp2_with fail
      refine HR.out.mono ?_
      clear HR g0 g1 g2 g3 g5
      rintro e W3 (⟨rfl, hJ3, hk3⟩ | ⟨rfl, hJx3⟩)
      · have r4 : W3.cell? ⟨ab, ao + 4, none⟩ = some (.slice o' y.list.length c') := hk3.cell _ _ (by dsimp only; omega) g4
        have hA3 := hk3.2 _ _ (by omega) HA.out rfl
        have hB3 := HBW.out.trans hk3.1
        have hown3 := ownsRow_pop (ownsRow_kc HO.out hk3 (by omega))
        have HO3 := Lib.hid hown3
        have HA3 := Lib.hid hA3
        have HB3 := Lib.hid hB3
        have HJ3 := Lib.hid hJ3
        have hmx : Tryd.prog.follows .mixedOrders = true := by kernel_rfl
        obtain ⟨oa, hoa⟩ : ∃ oa, (if cap = 1 then some (⟨ab, ao, none⟩ : Addr) else some ⟨ab, ao + 6, none⟩) = oa := ⟨_, rfl⟩
        clear hcell HO HA HBW HJ hA3 hB3 hown3 hJ3 hk3 hy
        gi_wp2_with fail
        gi_region_with_o (fail)
        all_goals
          clear r4 hmx
          have hrow1 : 0 < t.length → rowOK w0 W.heap.size x t (.slice oa t.length (cap - 1)) := fun ht => by
            rw [if_neg (by omega)] at hoa
            rw [← hoa]
            exact HT.out ht _ (by omega) (by unfold maxLen; omega)
          have HR1 := Lib.hid hrow1
          obtain ⟨ca, hca⟩ : ∃ ca, cap - 1 = ca := ⟨_, rfl⟩
          have hMem : Mem w0 W #[.int .i8 k, .bool b, .int .i64 m, .string s, .slice o m1 c1, .slice o2 m2 c2] #[.slice oa t.length ca, .slice o' y.list.length c'] W3.heap.size (J (pre ++ [X])) ((W3.alloc (.cells #[.slice oa t.length ca, .slice o' y.list.length c'] 23)).drew) := by
            have hb := ((Below.refl _ W3).alloc (Nat.le_refl _) (.cells #[.slice oa t.length ca, .slice o' y.list.length c'] 23)).drew
            refine ⟨hJ.step HJ3.out hb, HB3.out.trans (hb.mono HB3.out.size), ?_, ?_⟩
            · exact (hb.block _ (Array.getElem?_eq_some_iff.1 HA3.out).1).trans HA3.out
            · exact World.alloc_heap_new W3 _
          have hO4 : ((W3.alloc (.cells #[.slice oa t.length ca, .slice o' y.list.length c'] 23)).drew).ownsRow (W.heap.size + 1) 23 1 (.slice (some ⟨gb, 0, none⟩) S.length gc) S.length xs0 := HO3.out.alloc _
          have hne : gb ≠ W3.heap.size := by have := (HO3.out.lt gb rfl).2; omega
          rw [hca]
          have HO4 := Lib.hid hO4
          have HM := Lib.hid hMem
          have HNE := Lib.hid hne
          rw [hca] at HR1
          clear hrow1 hMem hO4 hne hoa HT HO3 HA3 HB3 HJ3 hca
          generalize (W3.alloc (.cells #[.slice oa t.length ca, .slice o' y.list.length c'] 23)).drew = W4 at *
          gi_wp2_with fail
          gi_loopw [3, 38] (fun rv i wr5 => ∃ (j : Nat) (ys : List Value), j ≤ 2 ∧ i = .int .i64 j ∧ Hid (wr5.ownsRow (W.heap.size + 1) 23 1 rv (stk S t y.list j).length ys) ∧ Hid (rowsOK w0 W.heap.size x (stk S t y.list j) ys) ∧ Hid (Mem w0 W #[.int .i8 k, .bool b, .int .i64 m, .string s, .slice o m1 c1, .slice o2 m2 c2] #[.slice oa t.length ca, .slice o' y.list.length c'] W3.heap.size (J (pre ++ [X])) wr5) ∧ Hid (rv.ownBlock ≠ some W3.heap.size)) (fun _ i _ => 2 - (intOf i).toNat)
          case atStart => exact ⟨0, xs0, by omega, rfl, HO4, HROW, HM, Lib.hid (by simp [Value.ownBlock]; exact HNE.out)⟩
          case round =>
            obtain ⟨j, ys, hj, rfl, hO5, hR5, hM5, hN5⟩ := hrel
            obtain ⟨q0, q1⟩ := two_cells hM5.out.2.2.2
            match j, hj with
            | 0, _ =>
              by_cases ht0 : t.length = 0
              · have hlt : ¬ (0 : Int) < (t.length : Int) := by omega
                have hst : stk S t y.list (0 + 1) = stk S t y.list 0 := by
                  show stk S t y.list 0 ++ push t = stk S t y.list 0
                  unfold push
                  rw [if_pos ht0, List.append_nil]
                have HST := Lib.hid hst
                clear hst ht0
                gi_wp2_with fail
                go_roundw
                case rel => exact ⟨0 + 1, ys, by omega, by go_num, by rw [HST.out]; exact hO5, by rw [HST.out]; exact hR5, hM5, hN5⟩
                case measure => simp [intOf]
              · have hlt : (0 : Int) < (t.length : Int) := by omega
                obtain ⟨hs1, hs2⟩ := stk_step (j := 0) (L := t) (t := t) (m := y.list) (S := S) rfl hR5.out (by omega) (HR1.out (by omega))
                have hle : (stk S t y.list 0).length ≤ 1000000 := by
                  have h1 := (rowsOK_len _ _ hR5.out).2
                  have h2 := HT1.out
                  have h3 : (remS (stk S t y.list 0)).length ≤ (walkVs y.list).length + (walkVs t).length + (remS S).length := by
                    simp only [stk, remS_push, List.length_append]; omega
                  omega
                have HS1 := Lib.hid hs1
                have HS2 := Lib.hid hs2
                have hnz : W3.heap.size < wr.heap.size := (Array.getElem?_eq_some_iff.1 hM5.out.2.2.2).1
                have hWz : W.heap.size < wr.heap.size := (Array.getElem?_eq_some_iff.1 hM5.out.2.2.1).1
                have HNZ := Lib.hid hnz
                have HWZ := Lib.hid hWz
                clear hs1 hs2 ht0 hnz hWz
                gi_wp2_with (gi_at_builtin; refine wpListIn_append_own_at _ rfl _ _ 73 rfl (W.heap.size + 1) 23 i0 _ 1 24 Tryd.underlying73 hi0 hz0 hz1 hz2 rfl (by decide) _ _ _ rfl (hO5.out.alloc _) ⟨wr.heap.size, 0, none⟩ 1 1 [.slice oa t.length ca] rfl rfl (cell_one_new _ _ _) (by simp [Value.oneCell']) ?d03 ?d04 ?d05 ?_)
                case d03 => unfold maxLen; omega
                case d04 => omega
                case d05 => have := HWZ.out; simp; omega
                intro v' w6 hown' hgrow hnil hat
                have hm6 : Hid (Mem w0 W #[.int .i8 k, .bool b, .int .i64 m, .string s, .slice o m1 c1, .slice o2 m2 c2] #[.slice oa t.length ca, .slice o' y.list.length c'] W3.heap.size (J (pre ++ [X])) w6) := Lib.hid (Mem.grown (fun A B row h1 h2 h3 => hJ _ A B row h1 h2 h3) hW.size
                  (Mem.grown (fun A B row h1 h2 h3 => hJ _ A B row h1 h2 h3) hW.size hM5.out (World.grownBy_alloc wr _ none) (fun r e => by cases e)) hgrow (fun r e => ⟨(hO5.out.lt r e).1, fun e2 => hN5.out (by rw [e, e2])⟩))
                have hn6 : Hid (v'.ownBlock ≠ some W3.heap.size) := Lib.hid (by
                  rcases hat with h | h
                  · rw [h]; exact hN5.out
                  · rw [h]; have := HNZ.out; simp; omega)
                have ho6 : Hid (w6.ownsRow (W.heap.size + 1) 23 1 v' (stk S t y.list (0 + 1)).length (ys ++ [.slice oa t.length ca])) := Lib.hid (by rw [HS1.out]; exact hown')
                clear hown' hgrow hnil hat
                gi_wp2_with fail
                go_roundw
                case rel => exact ⟨0 + 1, _, by omega, by go_num, ho6, HS2, hm6, hn6⟩
                case measure => simp [intOf]
            | 1, _ =>
              by_cases ht0 : y.list.length = 0
              · have hlt : ¬ (0 : Int) < (y.list.length : Int) := by omega
                have hst : stk S t y.list (1 + 1) = stk S t y.list 1 := by
                  show stk S t y.list 1 ++ push y.list = stk S t y.list 1
                  unfold push
                  rw [if_pos ht0, List.append_nil]
                have HST := Lib.hid hst
                clear hst ht0
                gi_wp2_with fail
                go_roundw
                case rel => exact ⟨1 + 1, ys, by omega, by go_num, by rw [HST.out]; exact hO5, by rw [HST.out]; exact hR5, hM5, hN5⟩
                case measure => simp [intOf]
              · have hlt : (0 : Int) < (y.list.length : Int) := by omega
                obtain ⟨hs1, hs2⟩ := stk_step (j := 1) (L := y.list) (t := t) (m := y.list) (S := S) rfl hR5.out (by omega) (HL.out)
                have hle : (stk S t y.list 1).length ≤ 1000000 := by
                  have h1 := (rowsOK_len _ _ hR5.out).2
                  have h2 := HT1.out
                  have h3 : (remS (stk S t y.list 1)).length ≤ (walkVs y.list).length + (walkVs t).length + (remS S).length := by
                    simp only [stk, remS_push, List.length_append]; omega
                  omega
                have HS1 := Lib.hid hs1
                have HS2 := Lib.hid hs2
                have hnz : W3.heap.size < wr.heap.size := (Array.getElem?_eq_some_iff.1 hM5.out.2.2.2).1
                have hWz : W.heap.size < wr.heap.size := (Array.getElem?_eq_some_iff.1 hM5.out.2.2.1).1
                have HNZ := Lib.hid hnz
                have HWZ := Lib.hid hWz
                clear hs1 hs2 ht0 hnz hWz
                gi_wp2_with (gi_at_builtin; refine wpListIn_append_own_at _ rfl _ _ 73 rfl (W.heap.size + 1) 23 i0 _ 1 24 Tryd.underlying73 hi0 hz0 hz1 hz2 rfl (by decide) _ _ _ rfl (hO5.out.alloc _) ⟨wr.heap.size, 0, none⟩ 1 1 [.slice o' y.list.length c'] rfl rfl (cell_one_new _ _ _) (by simp [Value.oneCell']) ?d13 ?d14 ?d15 ?_)
                case d13 => unfold maxLen; omega
                case d14 => omega
                case d15 => have := HWZ.out; simp; omega
                intro v' w6 hown' hgrow hnil hat
                have hm6 : Hid (Mem w0 W #[.int .i8 k, .bool b, .int .i64 m, .string s, .slice o m1 c1, .slice o2 m2 c2] #[.slice oa t.length ca, .slice o' y.list.length c'] W3.heap.size (J (pre ++ [X])) w6) := Lib.hid (Mem.grown (fun A B row h1 h2 h3 => hJ _ A B row h1 h2 h3) hW.size
                  (Mem.grown (fun A B row h1 h2 h3 => hJ _ A B row h1 h2 h3) hW.size hM5.out (World.grownBy_alloc wr _ none) (fun r e => by cases e)) hgrow (fun r e => ⟨(hO5.out.lt r e).1, fun e2 => hN5.out (by rw [e, e2])⟩))
                have hn6 : Hid (v'.ownBlock ≠ some W3.heap.size) := Lib.hid (by
                  rcases hat with h | h
                  · rw [h]; exact hN5.out
                  · rw [h]; have := HNZ.out; simp; omega)
                have ho6 : Hid (w6.ownsRow (W.heap.size + 1) 23 1 v' (stk S t y.list (1 + 1)).length (ys ++ [.slice o' y.list.length c'])) := Lib.hid (by rw [HS1.out]; exact hown')
                clear hown' hgrow hnil hat
                gi_wp2_with fail
                go_roundw
                case rel => exact ⟨1 + 1, _, by omega, by go_num, ho6, HS2, hm6, hn6⟩
                case measure => simp [intOf]
            | 2, _ =>
              gi_wp2_with fail
              have hrs : remS (stk S t y.list 2) = walkVs y.list ++ (walkVs t ++ remS S) := by
                show remS (S ++ push t ++ push y.list) = _
                rw [remS_push, remS_push]
              have hnew : RA w0 W Q x #[.int .i8 k, .bool b, .int .i64 m, .string s, .slice o m1 c1, .slice o2 m2 c2] J (remS (stk S t y.list 2)).length u3 wr := ⟨stk S t y.list 2, ys, pre ++ [X], rfl, hO5.out, hR5.out, by rw [hrs]; exact HP.out, hM5.out.1, hM5.out.2.1, hM5.out.2.2.1⟩
              refine ⟨⟨_, hnew⟩, Nat.lt_of_le_of_lt ((leastOf_spec ⟨_, hnew⟩).2 _ hnew) ?_⟩
              rw [HG.out, hrs]
              simp only [List.length_append]
              omega
      · have HJ3 := Lib.hid hJx3
        clear hJx3
        gi_wp2_with fail
        refine bodyPost_ret (results_none rfl _ _ _) rfl ?_
        exact ⟨⟨_, rfl⟩, .inr ⟨_, ⟨_, HP.out⟩, HJ3.out⟩⟩
end Go.Proofs.YtdbfpojgaalfmaaDoor
