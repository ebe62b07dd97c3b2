/-
  The program's iterator over a value and its parts: it keeps what is yet to come in a row of its own. · The walk of the program's iterator over a value and its parts. · The program's all, as an iterator; Count. · The program's shaped: is the kind one, and are the fields zero that it does not name? · The program's twice (does a key stand there twice?), number.Fits, and the library's slices.Clone at values and at texts.
-/
import Derived.Test.YtlamkadllbgamaaGreatDoorGE
import Derived.Test.YtlamkadllbgamaaGreatDoorGD
import Derived.Deep.AppendLies
import Derived.Laws.OwnMore
import Derived.Laws.AppendOwn
import Derived.Maps.OwnIn
import Derived.Maps.AppendAt
import Derived.Test.YtlamkadllbgamaaGreatDoorGC
import Derived.Maps.OwnSet
import Derived.Maps.Views
import Derived.StringKeys
import Derived.Lib.SliceRun
set_option linter.unusedVariables false
set_option linter.unusedSimpArgs false
namespace Go.Proofs.YtlamkadllbgamaaGreatDoor
open Go.RowKit Go.Shelf
attribute [local go_sem] Oper.semAt_some

/-- A list that is yet to be gone over, as it lies: of the value that was given, or the value itself in block A. -/
def rowOK (w0 : World) (A : Nat) (x : V) (L : List V) (v : Value) : Prop := ∃ a cap, slv v L.length a cap ∧ (isVs w0 L a ∨ (L = [x] ∧ a = ⟨A, 0, none⟩))
def rowsOK (w0 : World) (A : Nat) (x : V) : List (List V) → List Value → Prop
  | [], xs => xs = []
  | L :: S, xs => ∃ v t, xs = v :: t ∧ 0 < L.length ∧ rowOK w0 A x L v ∧ rowsOK w0 A x S t
/-- What is yet to come; the last list first. -/
def remS : List (List V) → List V
  | [] => []
  | L :: S => remS S ++ walkVs L
theorem remS_snoc (S : List (List V)) (L : List V) : remS (S ++ [L]) = walkVs L ++ remS S := by
  induction S with
  | nil => simp [remS]
  | cons M S ih => simp only [List.cons_append, remS, ih, List.append_assoc]
theorem walkVs_pos (L : List V) (h : 0 < L.length) : 0 < (walkVs L).length := by
  cases L with
  | nil => simp at h
  | cons x t =>
    obtain ⟨_, _, _, _, _, _⟩ := x
    simp [walkVs, walkV]
theorem walkVs_zero (L : List V) (h : L.length = 0) : walkVs L = [] := by
  cases L with
  | nil => rfl
  | cons x t => simp at h
theorem walkV_eq (x : V) : walkV x = x :: walkVs x.list := by obtain ⟨_, _, _, _, _, _⟩ := x; rw [walkV]; rfl
section
variable {w0 : World} {A : Nat} {x : V}
theorem rowsOK_len : ∀ (S : List (List V)) (xs : List Value), rowsOK w0 A x S xs → xs.length = S.length ∧ S.length ≤ (remS S).length
  | [], xs, h => by unfold rowsOK at h; subst h; simp
  | L :: S, xs, h => by
    unfold rowsOK at h
    obtain ⟨v, t, rfl, h1, h2, h3⟩ := h
    obtain ⟨e1, e2⟩ := rowsOK_len S t h3
    have := walkVs_pos L h1
    simp only [List.length_cons, remS, List.length_append]
    omega
theorem rowsOK_snoc : ∀ (S : List (List V)) (L : List V) (xs : List Value) (v : Value), rowsOK w0 A x S xs → 0 < L.length → rowOK w0 A x L v → rowsOK w0 A x (S ++ [L]) (xs ++ [v])
  | [], L, xs, v, h, h1, h2 => by
    unfold rowsOK at h
    subst h
    simp only [List.nil_append, rowsOK]
    exact ⟨v, [], rfl, h1, h2, rfl⟩
  | M :: S, L, xs, v, h, h1, h2 => by
    unfold rowsOK at h
    obtain ⟨u, t, rfl, g1, g2, g3⟩ := h
    simp only [List.cons_append]
    unfold rowsOK
    exact ⟨u, t ++ [v], rfl, g1, g2, rowsOK_snoc S L t v g3 h1 h2⟩
theorem rowsOK_last : ∀ (S : List (List V)) (L : List V) (xs : List Value), rowsOK w0 A x (S ++ [L]) xs → ∃ ys v, xs = ys ++ [v] ∧ rowsOK w0 A x S ys ∧ 0 < L.length ∧ rowOK w0 A x L v
  | [], L, xs, h => by
    simp only [List.nil_append, rowsOK] at h
    obtain ⟨v, t, rfl, h1, h2, rfl⟩ := h
    exact ⟨[], v, rfl, rfl, h1, h2⟩
  | M :: S, L, xs, h => by
    simp only [List.cons_append] at h
    unfold rowsOK at h
    obtain ⟨u, t, rfl, g1, g2, g3⟩ := h
    obtain ⟨ys, v, rfl, h1, h2, h3⟩ := rowsOK_last S L t g3
    exact ⟨u :: ys, v, rfl, by unfold rowsOK; exact ⟨u, ys, rfl, g1, g2, h1⟩, h2, h3⟩
/-- The last list's first value: its cells, its parts, and those that stand behind it. -/
theorem rowOK_top {vx : Value} (hx : isV w0 x vx) {wr : World} (hb : Below w0.heap.size w0 wr) {cs : Array Value} (hA : wr.heap[A]? = some (.cells cs 33 (0, 0))) (hv : vx = .agg cs) {y : V} {t : List V} {v : Value} (h : rowOK w0 A x (y :: t) v) :
    ∃ (ab ao cap : Nat) (k : Int) (b : Bool) (n : Int) (s : ByteArray) (o : Option Addr) (m c : Nat) (o2 : Option Addr) (m2 c2 : Nat), v = .slice (some ⟨ab, ao, none⟩) (t.length + 1) cap ∧ t.length + 1 ≤ cap ∧ cap ≤ maxLen ∧
      (wr.cell? ⟨ab, ao, none⟩ = some (.int .i8 k) ∧ wr.cell? ⟨ab, ao + 1, none⟩ = some (.bool b) ∧ wr.cell? ⟨ab, ao + 2, none⟩ = some (.int .i64 n) ∧ wr.cell? ⟨ab, ao + 3, none⟩ = some (.string s) ∧ wr.cell? ⟨ab, ao + 4, none⟩ = some (.slice o m c) ∧ wr.cell? ⟨ab, ao + 5, none⟩ = some (.slice o2 m2 c2)) ∧
      isV w0 y (.agg #[.int .i8 k, .bool b, .int .i64 n, .string s, .slice o m c, .slice o2 m2 c2]) ∧ (ab < w0.heap.size ∨ ab = A) ∧
      (0 < t.length → ∀ cap', t.length ≤ cap' → cap' ≤ maxLen → rowOK w0 A x t (.slice (some ⟨ab, ao + 6, none⟩) t.length cap')) ∧ m = y.list.length ∧ rowOK w0 A x y.list (.slice o m c) := by
  obtain ⟨a, cap, ⟨o, rfl, h1, h2, h3⟩, h4⟩ := h
  have hy : ∀ {k b n s o m c o2 m2 c2}, isV w0 y (.agg #[.int .i8 k, .bool b, .int .i64 n, .string s, .slice o m c, .slice o2 m2 c2]) → m = y.list.length ∧ rowOK w0 A x y.list (.slice o m c) := by
    intro k b n s o m c o2 m2 c2 hy
    obtain ⟨k', b', n', s', l', ks'⟩ := y
    unfold isV at hy
    obtain ⟨lv, kv, he, _, _, _, ⟨a1, p1, ⟨o1, rfl, q1, q2, q3⟩, q4⟩, _⟩ := hy
    simp only [Value.agg.injEq, Array.mk.injEq, List.cons.injEq, and_true] at he
    obtain ⟨_, _, _, _, he, _⟩ := he
    cases he
    exact ⟨rfl, a1, _, ⟨_, rfl, q1, q2, q3⟩, .inl q4⟩
  have h3' := h3 (by simp)
  subst h3'
  rcases h4 with h4 | ⟨h4, rfl⟩
  · obtain ⟨k, b, n, s, o, m, c, o2, m2, c2, g0, g1, g2, g3, g4, g5, gx⟩ := isVs_sl _ _ 0 (by simp) h4
    simp only [Nat.zero_mul] at g0 g1 g2 g3 g4 g5
    have ea : a.add 0 = a := by simp [Addr.add]
    rw [ea] at g0 g1 g2 g3 g4 g5
    have hs := spot_none g0
    have hlt := World.block_lt_of_cell? w0 a g0
    obtain ⟨ab, ao, asp⟩ := a
    cases hs
    obtain ⟨e1, e2⟩ := hy gx
    refine ⟨ab, ao, cap, k, b, n, s, o, m, c, o2, m2, c2, rfl, h1, h2, ⟨cell_below hb _ _ g0, cell_below hb _ _ g1, cell_below hb _ _ g2, cell_below hb _ _ g3, cell_below hb _ _ g4, cell_below hb _ _ g5⟩, gx, .inl hlt, fun ht cap' hc hc' => ?_, e1, e2⟩
    unfold isVs at h4
    exact ⟨⟨ab, ao + 6, none⟩, cap', ⟨_, rfl, hc, hc', fun _ => rfl⟩, .inl h4.2⟩
  · cases h4
    obtain ⟨k, b, n, s, o, m, c, o2, m2, c2, he⟩ := isV_six hx
    rw [hv] at he hx
    cases he
    obtain ⟨e1, e2⟩ := hy hx
    exact ⟨A, 0, cap, k, b, n, s, o, m, c, o2, m2, c2, rfl, h1, h2, six_cells hA, hx, .inr rfl, fun ht => absurd ht (by simp), e1, e2⟩
end
end Go.Proofs.YtlamkadllbgamaaGreatDoor

namespace Go.Proofs.YtlamkadllbgamaaGreatDoor
open Go.RowKit Go.Shelf
attribute [local go_sem] Oper.semAt_some

theorem infoS : (Tryz.prog.info? 30).map (fun i => (i.zero, i.size, i.bytes)) = some (some (.slice none 0 0), 1, 24) := by kernel_rfl

theorem add_off (g n : Nat) : (⟨g, 0, none⟩ : Addr).add n = ⟨g, n, none⟩ := by
  unfold Addr.add
  by_cases h : n = 0 <;> simp [h]
theorem ownsRow_kc {lo hi base : Nat} {W W' : World} {e : TypeId} {sz : Nat} {v : Value} {n : Nat} {xs : List Value} (h : W.ownsRow base e sz v n xs) (hk : KC lo hi W W') (hb : hi ≤ base) : W'.ownsRow base e sz v n xs := by
  obtain ⟨h1, h2⟩ := h
  refine ⟨h1, h2.imp id ?_⟩
  rintro ⟨g, cap, cur, q1, q2, q3, q4⟩
  exact ⟨g, cap, cur, q1, q2, hk.2 g _ (by omega) q3 rfl, q4⟩
/-- The row without its last part. -/
theorem ownsRow_pop {base : Nat} {W : World} {e : TypeId} {g cap n : Nat} {xs : List Value} {v : Value} (h : W.ownsRow base e 1 (.slice (some ⟨g, 0, none⟩) (n + 1) cap) (n + 1) (xs ++ [v])) : W.ownsRow base e 1 (.slice (some ⟨g, 0, none⟩) n cap) n xs := by
  obtain ⟨h1, h2⟩ := h
  rw [List.length_append] at h1
  simp only [List.length_cons, List.length_nil, Nat.mul_one] at h1
  refine ⟨by omega, .inr ?_⟩
  rcases h2 with ⟨h, _⟩ | ⟨g', cap', cur, q1, q2, q3, q4, q5, q6, q7⟩
  · cases h
  · cases q1
    refine ⟨g, cap, cur, rfl, q2, q3, by omega, q5, q6, ?_⟩
    rw [Nat.mul_one] at q7 ⊢
    have := congrArg (List.take n) q7
    rw [List.take_take, Nat.min_eq_left (by omega), List.take_append_of_le_length (by omega), List.take_of_length_le (l := xs) (by omega)] at this
    exact this
def push (L : List V) : List (List V) := if L.length = 0 then [] else [L]
theorem remS_push (S : List (List V)) (L : List V) : remS (S ++ push L) = walkVs L ++ remS S := by
  unfold push
  split
  · rename_i h
    rw [walkVs_zero L h]; simp
  · rw [remS_snoc]
/-- The rows behind so many of the two that are put on. -/
def stk (S : List (List V)) (t m : List V) : Nat → List (List V)
  | 0 => S
  | 1 => S ++ push t
  | _ => S ++ push t ++ push m
theorem stk_step {w0 W : World} {x : V} {S : List (List V)} {t m : List V} {j : Nat} {L : List V} (hst : stk S t m (j + 1) = stk S t m j ++ push L) {ys : List Value} (hR : rowsOK w0 W.heap.size x (stk S t m j) ys) {v : Value} (hL : 0 < L.length) (hv : rowOK w0 W.heap.size x L v) :
    (stk S t m (j + 1)).length = (stk S t m j).length + 1 ∧ rowsOK w0 W.heap.size x (stk S t m (j + 1)) (ys ++ [v]) := by
  have e : push L = [L] := by unfold push; rw [if_neg (by omega)]
  rw [hst, e]
  exact ⟨by simp, rowsOK_snoc _ L ys v hR hL hv⟩
/-- What lies there while the row is put on. -/
def Mem (w0 W : World) (cs acs : Array Value) (NA : Nat) (JP : World → Prop) (wr : World) : Prop :=
  JP wr ∧ Below w0.heap.size w0 wr ∧ wr.heap[W.heap.size]? = some (.cells cs 33 (0, 0)) ∧ wr.heap[NA]? = some (.cells acs 30 (0, 0))
theorem Mem.grown {w0 W : World} {cs acs : Array Value} {NA : Nat} {JP : World → Prop} (hJ : ∀ A B row, JP A → A.grownBy B row → (∀ r, row = some r → W.heap.size ≤ r) → JP B) (hz : w0.heap.size ≤ W.heap.size) {wr w' : World} {row : Option Nat} (h : Mem w0 W cs acs NA JP wr) (hg : wr.grownBy w' row) (hr : ∀ r, row = some r → W.heap.size + 1 ≤ r ∧ r ≠ NA) : Mem w0 W cs acs NA JP w' := by
  obtain ⟨h1, h2, h3, h4⟩ := h
  refine ⟨hJ _ _ _ h1 hg (fun r e => by have := hr r e; omega), h2.grown hg h2.size (fun r e => by have := hr r e; omega), ?_, ?_⟩
  · exact (hg.block _ (Array.getElem?_eq_some_iff.1 h3).1 (fun e => by have := hr _ e.symm; omega)).trans h3
  · exact (hg.block _ (Array.getElem?_eq_some_iff.1 h4).1 (fun e => by have := hr _ e.symm; omega)).trans h4
theorem two_cells {W : World} {B : Nat} {c0 c1 : Value} {t : TypeId} (h : W.heap[B]? = some (.cells #[c0, c1] t (0, 0))) : W.cell? ⟨B, 0, none⟩ = some c0 ∧ W.cell? ⟨B, 1, none⟩ = some c1 := by
  unfold World.cell?
  simp [h]
/-- Between two rounds: so many values are yet to come. -/
def RA (w0 W : World) (Q : V → Prop) (x : V) (cs : Array Value) (J : List (El w0 Q) → World → Prop) (g : Nat) (rv : Value) (wr : World) : Prop :=
  ∃ (S : List (List V)) (xs : List Value) (pre : List (El w0 Q)), g = (remS S).length ∧ wr.ownsRow (W.heap.size + 1) 30 1 rv S.length xs ∧ rowsOK w0 W.heap.size x S xs ∧ pre.map (·.1.1) ++ remS S = walkV x ∧ J pre wr ∧ Below w0.heap.size w0 wr ∧ wr.heap[W.heap.size]? = some (.cells cs 33 (0, 0))

set_option maxRecDepth 100000 in
set_option maxHeartbeats 4000000 in
theorem all1_in (n : Nat) (hn : 1 ≤ n) (w0 : World) (hi : Nat) (Q : V → Prop) (x : V) (vx : Value) (hx : isV w0 x vx) (hQ : ∀ y ∈ walkV x, Q y) (hM : (walkV x).length ≤ 1000000) (l Bs : Nat) (J Jx : List (El w0 Q) → World → Prop)
    (W : World) (hW : Below w0.heap.size w0 W) (hhi : hi ≤ W.heap.size) (hJ : Free W.heap.size J) (hJx : Free W.heap.size Jx)
    (hY : ∀ pre x W1, J pre W1 → pre.length < 1000001 → YieldAt Fence.wide (n - 1) Tryz.prog l (encEl x) W1 fun e W' =>
      (e = .returned (.bool true) ∧ J (pre ++ [x]) W' ∧ KC w0.heap.size hi W1 W') ∨ (e = .returned (.bool false) ∧ Jx (pre ++ [x]) W'))
    (cs : Array Value) (hcs : vx = .agg cs) (hBs : W.heap[Bs]? = some (.cells cs 33 (0, 0))) (h0 : J [] W) :
    CallsIn Fence.wide n Tryz.prog 85 #[.func (.yield l) #[] #[], .pointer (some ⟨Bs, 0, none⟩)] W fun e W' => (∃ v, e = .returned v) ∧
      ((∃ xs, xs.map (·.1.1) = walkV x ∧ J xs W') ∨ (∃ pre, pre.map (·.1.1) <+: walkV x ∧ Jx pre W')) := by
  obtain ⟨i0, hi0, hz0, hz1, hz2⟩ := info_parts infoS
  obtain ⟨k, b, m, s, o, m1, c1, o2, m2, c2, rfl⟩ := isV_six hx
  cases hcs
  obtain ⟨r0, r1, r2, r3, r4, r5⟩ := six_cells hBs
  have HX := Lib.hid hx
  clear hx hBs
  refine callsIn_of_wp Tryz.func85 rfl trivial ?_ rfl
  simp only [Tryz.ntmps85, List.size_toArray, List.length_cons, List.length_nil, Nat.reduceAdd, Nat.reduceSub, Array.replicate_succ, Array.replicate_zero, List.push_toArray, List.append_toArray, List.nil_append, List.cons_append]
  gi_wp2_with fail
  gi_loopw [3] (fun p wr => ∃ g, RA w0 W Q x #[.int .i8 k, .bool b, .int .i64 m, .string s, .slice o m1 c1, .slice o2 m2 c2] J g p wr) (fun p wr => leastOf (fun g => RA w0 W Q x #[.int .i8 k, .bool b, .int .i64 m, .string s, .slice o m1 c1, .slice o2 m2 c2] J g p wr))
  case atStart =>
    refine ⟨_, [[x]], [.slice (some ⟨W.heap.size, 0, none⟩) 1 1], [], rfl, ?_, ?_, by simp [remS, walkVs], hJ.new _ (hJ.new _ h0), ?_, ?_⟩
    · have e := World.ownsRow_lit (W.alloc (.cells #[.int .i8 k, .bool b, .int .i64 m, .string s, .slice o m1 c1, .slice o2 m2 c2] 33)) #[Value.slice (some ⟨W.heap.size, 0, none⟩) 1 1] 1 (e := 30) (size := 1) (Nat.le_refl _) (by unfold maxLen; omega) (by rfl)
      rw [World.size_alloc] at e
      exact e
    · unfold rowsOK
      exact ⟨_, [], rfl, by simp, ⟨⟨W.heap.size, 0, none⟩, 1, ⟨_, rfl, Nat.le_refl _, by unfold maxLen; omega, fun _ => rfl⟩, .inr ⟨rfl, rfl⟩⟩, by unfold rowsOK; rfl⟩
    · exact hW.trans (Below.mono (by go_grown) hW.size)
    · exact (Below.heap_alloc _ _ _ (by simp)).trans (World.alloc_heap_new W _)
  case round =>
    obtain ⟨hR, -⟩ := leastOf_spec hrel
    clear hrel
    obtain ⟨S, xs, pre, hg, hown, hrows, hpre, hJs, hBw, hA⟩ := hR
    rcases List.eq_nil_or_concat S with rfl | ⟨S, L, rfl⟩
    · have HJ := Lib.hid hJs
      have HP := Lib.hid hpre
      obtain ⟨o', c', rfl⟩ : ∃ o' c', u3 = .slice o' 0 c' := by
        rcases hown.2 with ⟨h, _⟩ | ⟨_, _, _, h, _⟩
        · exact ⟨_, _, h⟩
        · exact ⟨_, _, h⟩
      clear hown hrows hpre hJs hBw hA hg
      gi_wp2_with fail
      go_end0
      exact ⟨⟨_, rfl⟩, .inl ⟨_, by have := HP.out; simpa [remS] using this, HJ.out⟩⟩
    · rw [List.concat_eq_append] at hrows hown hpre hg
      obtain ⟨xs0, v, rfl, hrows0, hLp, hrow⟩ := rowsOK_last S L xs hrows
      obtain ⟨y, t, rfl⟩ : ∃ y t, L = y :: t := by
        cases L with
        | nil => simp at hLp
        | cons y t => exact ⟨y, t, rfl⟩
      obtain ⟨hx0, hxl⟩ := rowsOK_len S xs0 hrows0
      have hlen1 : (S ++ [y :: t]).length = S.length + 1 := by simp
      rw [hlen1] at hown
      obtain ⟨gb, gc, rfl⟩ : ∃ gb gc, u3 = .slice (some ⟨gb, 0, none⟩) (S.length + 1) gc := by
        rcases hown.2 with ⟨_, h⟩ | ⟨_, _, _, h, _⟩
        · omega
        · exact ⟨_, _, h⟩
      have hcell : wr.cell? ((⟨gb, 0, none⟩ : Addr).add S.length) = some v := hown.cells rfl S.length v (by rw [List.getElem?_append_right (by omega), hx0]; simp)
      rw [add_off] at hcell
      obtain ⟨ab, ao, cap, k', b', n', s', o', _, c', o3, m3, c3, rfl, hq1, hq2, ⟨g0, g1, g2, g3, g4, g5⟩, hxy, hab, htl, rfl, hlist⟩ := rowOK_top HX.out hBw hA rfl hrow
      have hrem : (remS (S ++ [y :: t])).length = 1 + (walkVs y.list).length + (walkVs t).length + (remS S).length := by
        rw [remS_snoc]; simp [walkVs, walkV_eq]; omega
      have hpl : pre.length < 1000001 := by
        have := congrArg List.length hpre
        rw [List.length_append, List.length_map] at this; omega
      have hy5 : y ∈ walkV x := by
        rw [← hpre, remS_snoc]; simp [walkVs, walkV_eq]
      obtain ⟨X, hXe⟩ : ∃ X : El w0 Q, X.1 = (y, .agg #[.int .i8 k', .bool b', .int .i64 n', .string s', .slice o' y.list.length c', .slice o3 m3 c3]) := ⟨⟨_, hxy, hQ _ hy5⟩, rfl⟩
      have hen : encEl X = #[.agg #[.int .i8 k', .bool b', .int .i64 n', .string s', .slice o' y.list.length c', .slice o3 m3 c3]] := by unfold encEl; rw [hXe]
      obtain ⟨fn, tmps, assign, body, hy, hR⟩ := hY pre X wr hJs hpl
      rw [hen] at hy
      have HP : Hid ((pre ++ [X]).map (fun x : El w0 Q => x.1.1) ++ (walkVs y.list ++ (walkVs t ++ remS S)) = walkV x) := Lib.hid (by
        rw [← hpre, remS_snoc, List.map_append]; simp [walkVs, walkV_eq, hXe])
      have HR := Lib.hid hR
      have HG := Lib.hid (hg.trans hrem)
      have hS1 : S.length ≤ 1000000 := by
        have := congrArg List.length hpre
        rw [List.length_append, hrem] at this; omega
      have hz : (0 : Nat) + S.length = S.length := by omega
      have hgc : S.length + 1 ≤ gc ∧ gc ≤ maxLen := by
        rcases hown.2 with ⟨h, _⟩ | ⟨_, _, _, h, _, _, h2, h3, _⟩
        · cases h
        · cases h; exact ⟨h2, h3⟩
      obtain ⟨hgc1, hgc2⟩ := hgc
      unfold maxLen at hgc2 hq2
      have HT1 : Hid ((walkVs y.list).length + (walkVs t).length + (remS S).length ≤ 1000000) := Lib.hid (by
        have := congrArg List.length HP.out
        simp only [List.length_append] at this; omega)
      have HO := Lib.hid hown
      have HROW := Lib.hid hrows0
      have HJ := Lib.hid hJs
      have HBW := Lib.hid hBw
      have HA := Lib.hid hA
      have HT := Lib.hid htl
      have HL := Lib.hid hlist
      clear hpre hg hrows hrem hlen1 hrow hx0 hxl hrows0 hxy hen hXe hR hy5 hown hJs hBw hA htl hlist hLp
      gi_wp2_with fail
      refine HR.out.mono ?_
      clear HR g0 g1 g2 g3 g5
      rintro e W3 (⟨rfl, hJ3, hk3⟩ | ⟨rfl, hJx3⟩)
      · have r4 : W3.cell? ⟨ab, ao + 4, none⟩ = some (.slice o' y.list.length c') := hk3.cell _ _ (by dsimp only; omega) g4
        have hA3 := hk3.2 _ _ (by omega) HA.out rfl
        have hB3 := HBW.out.trans hk3.1
        have hown3 := ownsRow_pop (ownsRow_kc HO.out hk3 (by omega))
        have HO3 := Lib.hid hown3
        have HA3 := Lib.hid hA3
        have HB3 := Lib.hid hB3
        have HJ3 := Lib.hid hJ3
        have hmx : Tryz.prog.follows .mixedOrders = true := by kernel_rfl
        obtain ⟨oa, hoa⟩ : ∃ oa, (if cap = 1 then some (⟨ab, ao, none⟩ : Addr) else some ⟨ab, ao + 6, none⟩) = oa := ⟨_, rfl⟩
        clear hcell HO HA HBW HJ hA3 hB3 hown3 hJ3 hk3 hy
        gi_wp2_with fail
        gi_region_with_o (fail)
        all_goals
          clear r4 hmx
          have hrow1 : 0 < t.length → rowOK w0 W.heap.size x t (.slice oa t.length (cap - 1)) := fun ht => by
            rw [if_neg (by omega)] at hoa
            rw [← hoa]
            exact HT.out ht _ (by omega) (by unfold maxLen; omega)
          have HR1 := Lib.hid hrow1
          obtain ⟨ca, hca⟩ : ∃ ca, cap - 1 = ca := ⟨_, rfl⟩
          have hMem : Mem w0 W #[.int .i8 k, .bool b, .int .i64 m, .string s, .slice o m1 c1, .slice o2 m2 c2] #[.slice oa t.length ca, .slice o' y.list.length c'] W3.heap.size (J (pre ++ [X])) ((W3.alloc (.cells #[.slice oa t.length ca, .slice o' y.list.length c'] 30)).drew) := by
            have hb := ((Below.refl _ W3).alloc (Nat.le_refl _) (.cells #[.slice oa t.length ca, .slice o' y.list.length c'] 30)).drew
            refine ⟨hJ.step HJ3.out hb, HB3.out.trans (hb.mono HB3.out.size), ?_, ?_⟩
            · exact (hb.block _ (Array.getElem?_eq_some_iff.1 HA3.out).1).trans HA3.out
            · exact World.alloc_heap_new W3 _
          have hO4 : ((W3.alloc (.cells #[.slice oa t.length ca, .slice o' y.list.length c'] 30)).drew).ownsRow (W.heap.size + 1) 30 1 (.slice (some ⟨gb, 0, none⟩) S.length gc) S.length xs0 := HO3.out.alloc _
          have hne : gb ≠ W3.heap.size := by have := (HO3.out.lt gb rfl).2; omega
          rw [hca]
          have HO4 := Lib.hid hO4
          have HM := Lib.hid hMem
          have HNE := Lib.hid hne
          rw [hca] at HR1
          clear hrow1 hMem hO4 hne hoa HT HO3 HA3 HB3 HJ3 hca
          generalize (W3.alloc (.cells #[.slice oa t.length ca, .slice o' y.list.length c'] 30)).drew = W4 at *
          gi_wp2_with fail
          gi_loopw [3, 38] (fun rv i wr5 => ∃ (j : Nat) (ys : List Value), j ≤ 2 ∧ i = .int .i64 j ∧ Hid (wr5.ownsRow (W.heap.size + 1) 30 1 rv (stk S t y.list j).length ys) ∧ Hid (rowsOK w0 W.heap.size x (stk S t y.list j) ys) ∧ Hid (Mem w0 W #[.int .i8 k, .bool b, .int .i64 m, .string s, .slice o m1 c1, .slice o2 m2 c2] #[.slice oa t.length ca, .slice o' y.list.length c'] W3.heap.size (J (pre ++ [X])) wr5) ∧ Hid (rv.ownBlock ≠ some W3.heap.size)) (fun _ i _ => 2 - (intOf i).toNat)
          case atStart => exact ⟨0, xs0, by omega, rfl, HO4, HROW, HM, Lib.hid (by simp [Value.ownBlock]; exact HNE.out)⟩
          case round =>
            obtain ⟨j, ys, hj, rfl, hO5, hR5, hM5, hN5⟩ := hrel
            obtain ⟨q0, q1⟩ := two_cells hM5.out.2.2.2
            match j, hj with
            | 0, _ =>
              by_cases ht0 : t.length = 0
              · have hlt : ¬ (0 : Int) < (t.length : Int) := by omega
                have hst : stk S t y.list (0 + 1) = stk S t y.list 0 := by
                  show stk S t y.list 0 ++ push t = stk S t y.list 0
                  unfold push
                  rw [if_pos ht0, List.append_nil]
                have HST := Lib.hid hst
                clear hst ht0
                gi_wp2_with fail
                go_roundw
                case rel => exact ⟨0 + 1, ys, by omega, by go_num, by rw [HST.out]; exact hO5, by rw [HST.out]; exact hR5, hM5, hN5⟩
                case measure => simp [intOf]
              · have hlt : (0 : Int) < (t.length : Int) := by omega
                obtain ⟨hs1, hs2⟩ := stk_step (j := 0) (L := t) (t := t) (m := y.list) (S := S) rfl hR5.out (by omega) (HR1.out (by omega))
                have hle : (stk S t y.list 0).length ≤ 1000000 := by
                  have h1 := (rowsOK_len _ _ hR5.out).2
                  have h2 := HT1.out
                  have h3 : (remS (stk S t y.list 0)).length ≤ (walkVs y.list).length + (walkVs t).length + (remS S).length := by
                    simp only [stk]; omega
                  omega
                have HS1 := Lib.hid hs1
                have HS2 := Lib.hid hs2
                have hnz : W3.heap.size < wr.heap.size := (Array.getElem?_eq_some_iff.1 hM5.out.2.2.2).1
                have hWz : W.heap.size < wr.heap.size := (Array.getElem?_eq_some_iff.1 hM5.out.2.2.1).1
                have HNZ := Lib.hid hnz
                have HWZ := Lib.hid hWz
                clear hs1 hs2 ht0 hnz hWz
                gi_wp2_with (gi_at_builtin; refine wpListIn_append_own_at _ rfl _ _ 84 rfl (W.heap.size + 1) 30 i0 _ 1 24 Tryz.underlying84 hi0 hz0 hz1 hz2 rfl (by decide) _ _ _ rfl (hO5.out.alloc _) ⟨wr.heap.size, 0, none⟩ 1 1 [.slice oa t.length ca] rfl rfl (cell_one_new _ _ _) (by simp [Value.oneCell']) ?d03 ?d04 ?d05 ?_)
                case d03 => unfold maxLen; omega
                case d04 => omega
                case d05 => have := HWZ.out; simp; omega
                intro v' w6 hown' hgrow hnil hat
                have hm6 : Hid (Mem w0 W #[.int .i8 k, .bool b, .int .i64 m, .string s, .slice o m1 c1, .slice o2 m2 c2] #[.slice oa t.length ca, .slice o' y.list.length c'] W3.heap.size (J (pre ++ [X])) w6) := Lib.hid (Mem.grown (fun A B row h1 h2 h3 => hJ _ A B row h1 h2 h3) hW.size
                  (Mem.grown (fun A B row h1 h2 h3 => hJ _ A B row h1 h2 h3) hW.size hM5.out (World.grownBy_alloc wr _ none) (fun r e => by cases e)) hgrow (fun r e => ⟨(hO5.out.lt r e).1, fun e2 => hN5.out (by rw [e, e2])⟩))
                have hn6 : Hid (v'.ownBlock ≠ some W3.heap.size) := Lib.hid (by
                  rcases hat with h | h
                  · rw [h]; exact hN5.out
                  · rw [h]; have := HNZ.out; simp; omega)
                have ho6 : Hid (w6.ownsRow (W.heap.size + 1) 30 1 v' (stk S t y.list (0 + 1)).length (ys ++ [.slice oa t.length ca])) := Lib.hid (by rw [HS1.out]; exact hown')
                clear hown' hgrow hnil hat
                gi_wp2_with fail
                go_roundw
                case rel => exact ⟨0 + 1, _, by omega, by go_num, ho6, HS2, hm6, hn6⟩
                case measure => simp [intOf]
            | 1, _ =>
              by_cases ht0 : y.list.length = 0
              · have hlt : ¬ (0 : Int) < (y.list.length : Int) := by omega
                have hst : stk S t y.list (1 + 1) = stk S t y.list 1 := by
                  show stk S t y.list 1 ++ push y.list = stk S t y.list 1
                  unfold push
                  rw [if_pos ht0, List.append_nil]
                have HST := Lib.hid hst
                clear hst ht0
                gi_wp2_with fail
                go_roundw
                case rel => exact ⟨1 + 1, ys, by omega, by go_num, by rw [HST.out]; exact hO5, by rw [HST.out]; exact hR5, hM5, hN5⟩
                case measure => simp [intOf]
              · have hlt : (0 : Int) < (y.list.length : Int) := by omega
                obtain ⟨hs1, hs2⟩ := stk_step (j := 1) (L := y.list) (t := t) (m := y.list) (S := S) rfl hR5.out (by omega) (HL.out)
                have hle : (stk S t y.list 1).length ≤ 1000000 := by
                  have h1 := (rowsOK_len _ _ hR5.out).2
                  have h2 := HT1.out
                  have h3 : (remS (stk S t y.list 1)).length ≤ (walkVs y.list).length + (walkVs t).length + (remS S).length := by
                    simp only [stk, remS_push, List.length_append]; omega
                  omega
                have HS1 := Lib.hid hs1
                have HS2 := Lib.hid hs2
                have hnz : W3.heap.size < wr.heap.size := (Array.getElem?_eq_some_iff.1 hM5.out.2.2.2).1
                have hWz : W.heap.size < wr.heap.size := (Array.getElem?_eq_some_iff.1 hM5.out.2.2.1).1
                have HNZ := Lib.hid hnz
                have HWZ := Lib.hid hWz
                clear hs1 hs2 ht0 hnz hWz
                gi_wp2_with (gi_at_builtin; refine wpListIn_append_own_at _ rfl _ _ 84 rfl (W.heap.size + 1) 30 i0 _ 1 24 Tryz.underlying84 hi0 hz0 hz1 hz2 rfl (by decide) _ _ _ rfl (hO5.out.alloc _) ⟨wr.heap.size, 0, none⟩ 1 1 [.slice o' y.list.length c'] rfl rfl (cell_one_new _ _ _) (by simp [Value.oneCell']) ?d13 ?d14 ?d15 ?_)
                case d13 => unfold maxLen; omega
                case d14 => omega
                case d15 => have := HWZ.out; simp; omega
                intro v' w6 hown' hgrow hnil hat
                have hm6 : Hid (Mem w0 W #[.int .i8 k, .bool b, .int .i64 m, .string s, .slice o m1 c1, .slice o2 m2 c2] #[.slice oa t.length ca, .slice o' y.list.length c'] W3.heap.size (J (pre ++ [X])) w6) := Lib.hid (Mem.grown (fun A B row h1 h2 h3 => hJ _ A B row h1 h2 h3) hW.size
                  (Mem.grown (fun A B row h1 h2 h3 => hJ _ A B row h1 h2 h3) hW.size hM5.out (World.grownBy_alloc wr _ none) (fun r e => by cases e)) hgrow (fun r e => ⟨(hO5.out.lt r e).1, fun e2 => hN5.out (by rw [e, e2])⟩))
                have hn6 : Hid (v'.ownBlock ≠ some W3.heap.size) := Lib.hid (by
                  rcases hat with h | h
                  · rw [h]; exact hN5.out
                  · rw [h]; have := HNZ.out; simp; omega)
                have ho6 : Hid (w6.ownsRow (W.heap.size + 1) 30 1 v' (stk S t y.list (1 + 1)).length (ys ++ [.slice o' y.list.length c'])) := Lib.hid (by rw [HS1.out]; exact hown')
                clear hown' hgrow hnil hat
                gi_wp2_with fail
                go_roundw
                case rel => exact ⟨1 + 1, _, by omega, by go_num, ho6, HS2, hm6, hn6⟩
                case measure => simp [intOf]
            | 2, _ =>
              gi_wp2_with fail
              have hrs : remS (stk S t y.list 2) = walkVs y.list ++ (walkVs t ++ remS S) := by
                show remS (S ++ push t ++ push y.list) = _
                rw [remS_push, remS_push]
              have hnew : RA w0 W Q x #[.int .i8 k, .bool b, .int .i64 m, .string s, .slice o m1 c1, .slice o2 m2 c2] J (remS (stk S t y.list 2)).length u3 wr := ⟨stk S t y.list 2, ys, pre ++ [X], rfl, hO5.out, hR5.out, by rw [hrs]; exact HP.out, hM5.out.1, hM5.out.2.1, hM5.out.2.2.1⟩
              refine ⟨⟨_, hnew⟩, Nat.lt_of_le_of_lt ((leastOf_spec ⟨_, hnew⟩).2 _ hnew) ?_⟩
              rw [HG.out, hrs]
              simp only [List.length_append]
              omega
      · have HJ3 := Lib.hid hJx3
        clear hJx3
        gi_wp2_with fail
        refine bodyPost_ret (results_none rfl _ _ _) rfl ?_
        exact ⟨⟨_, rfl⟩, .inr ⟨_, ⟨_, HP.out⟩, HJ3.out⟩⟩
end Go.Proofs.YtlamkadllbgamaaGreatDoor

namespace Go.Proofs.YtlamkadllbgamaaGreatDoor
open Go.RowKit Go.Shelf
attribute [local go_sem] Oper.semAt_some

theorem all_in (n : Nat) (cs : Array Value) (k : Int) (b : Bool) (m : Int) (s : ByteArray) (o : Option Addr) (m1 c1 : Nat) (o2 : Option Addr) (m2 c2 : Nat) (hcs : cs = #[.int .i8 k, .bool b, .int .i64 m, .string s, .slice o m1 c1, .slice o2 m2 c2]) (w : World) :
    CallsIn Fence.wide n Tryz.prog 76 #[.agg cs] w fun e w' => e = .returned (.func (.func 85) #[] #[.pointer (some ⟨w.heap.size, 0, none⟩)]) ∧ w' = w.alloc (.cells cs 33) := by
  subst hcs
  refine callsIn_of_wp Tryz.func76 rfl trivial ?_ rfl
  simp only [Tryz.ntmps76, List.size_toArray, List.length_cons, List.length_nil, Nat.reduceAdd, Nat.reduceSub, Array.replicate_succ, Array.replicate_zero, List.push_toArray, List.append_toArray, List.nil_append, List.cons_append]
  gi_wp2
  go_ret
  exact ⟨rfl, rfl⟩

/-- all(x): x, then its parts, each with its own; or a beginning. -/
theorem all_seq (n : Nat) (hn : 1 ≤ n) (w0 : World) (hi : Nat) (Q : V → Prop) (x : V) (vx : Value) (hx : isV w0 x vx) (hQ : ∀ y ∈ walkV x, Q y) (hM : (walkV x).length ≤ 1000000) (Bs : Nat) (w : World) (hw : Below w0.heap.size w0 w) (hhi : hi ≤ w.heap.size) (hB : Bs < w.heap.size)
    (cs : Array Value) (hcs : vx = .agg cs) (hBs : w.heap[Bs]? = some (.cells cs 33 (0, 0))) :
    Seq n 85 #[.pointer (some ⟨Bs, 0, none⟩)] (encEl (w0 := w0) (Q := Q)) (KC w0.heap.size hi) (fun xs => xs.map (·.1.1) = walkV x) (fun pre => pre.map (·.1.1) <+: walkV x) 1000001 w := fun l J Jx W hW hJ hJx hY h0 =>
  all1_in n hn w0 hi Q x vx hx hQ hM l Bs J Jx W (hw.trans (hW.mono hw.size)) (Nat.le_trans hhi hW.size) hJ hJx hY cs hcs ((hW.block Bs hB).trans hBs) h0

theorem walk_le (x : V) : (walkV x).length ≤ sizeV x := by rw [walk_len]; exact count_le_size x

/-- A struct in a new block, and two more blocks. -/
theorem boxes3 (w : World) (o0 : Obj) (t1 : TypeId) (v1 : Value) (cs : Array Value) (t2 : TypeId) :
    ∃ W0, ((w.alloc o0).alloc (.cells #[v1] t1)).alloc (.cells cs t2) = W0 ∧ Below w.heap.size w W0 ∧ W0.heap.size = w.heap.size + 1 + 1 + 1 ∧ Boxed W0 (w.heap.size + 1) t1 v1 ∧ W0.heap[w.heap.size + 1 + 1]? = some (.cells cs t2 (0, 0)) := by
  have b1 := (Boxed.new (w.alloc o0) t1 v1).alloc (.cells cs t2)
  have b2 := World.alloc_heap_new ((w.alloc o0).alloc (.cells #[v1] t1)) (.cells cs t2)
  simp only [World.size_alloc] at b1 b2
  exact ⟨_, rfl, by go_grown, by simp, b1, b2⟩

set_option maxRecDepth 100000 in
set_option maxHeartbeats 4000000 in
theorem pcount_any (x : V) (v : Value) (w : World) (hM : sizeV x ≤ 1000000) (h : isV w x v) :
    Calls Tryz.prog 67 #[v] w fun e w' => e = .returned (.int .i64 (countV x)) ∧ Below w.heap.size w w' := by
  have hwl := walk_le x
  have HX := Lib.hid h
  have HM : Hid ((walkV x).length ≤ 1000000 ∧ (walkV x).length = countV x) := Lib.hid ⟨by omega, walk_len x⟩
  obtain ⟨k, b, n, s, o, m, c, o2, m2, c2, rfl⟩ := isV_six h
  obtain ⟨r, hr⟩ : ∃ r, countV x = r := ⟨_, rfl⟩
  rw [hr] at HM ⊢
  clear h hr hwl
  refine (callsIn_wide (n := 9)).1 ?_
  refine callsIn_of_wp_marks Tryz.func67 rfl trivial ?_ rfl
  simp only [Tryz.ntmps67, List.size_toArray, List.length_cons, List.length_nil, Nat.reduceAdd, Nat.reduceSub, Array.replicate_succ, Array.replicate_zero, List.push_toArray, List.append_toArray, List.nil_append, List.cons_append]
  gi_wp2_with fail
  refine ⟨trivial, ?_⟩
  refine (all_in _ _ _ _ _ _ _ _ _ _ _ _ rfl _).mono ?_
  rintro e w' ⟨rfl, rfl⟩
  gi_wp2_with fail
  obtain ⟨W0, hW0, hB0, hsz, bN, bS⟩ := boxes3 w (.cells #[.int .i8 k, .bool b, .int .i64 n, .string s, .slice o m c, .slice o2 m2 c2] 33) 3 (.int .i64 0) #[.int .i8 k, .bool b, .int .i64 n, .string s, .slice o m c, .slice o2 m2 c2] 33
  rw [hW0]
  clear hW0
  refine range_own (by omega) (gf := 85) (lb := #[.pointer (some ⟨w.heap.size + 1 + 1, 0, none⟩)]) rfl (enters_of Tryz.func85 (by kernel_rfl) rfl)
    (all_seq (9 - 1) (by omega) w (w.heap.size + 1 + 1 + 1) (fun _ => True) x _ HX.out (fun _ _ => trivial) HM.out.1 (w.heap.size + 1 + 1) W0 hB0 (by omega) (by omega) _ rfl bS) kc_t (kc_b (by omega)) (Below.refl _ _) (fun _ => rfl)
    (fun pre W => Boxed W (w.heap.size + 1) 3 (.int .i64 (pre.length : Nat)) ∧ Below w.heap.size w W)
    (fun _ _ _ => False) ?hI (fun _ _ _ _ _ hs _ _ => hs) ?h0
    (fun x a' W => a' = {
      tmps :=
        #[.agg #[.int .i8 k, .bool b, .int .i64 n, .string s, .slice o m c, .slice o2 m2 c2], .pointer (some ⟨w.heap.size, 0, none⟩), .int .i64 0, .pointer (some ⟨w.heap.size + 1, 0, none⟩), .agg #[.int .i8 k, .bool b, .int .i64 n, .string s, .slice o m c, .slice o2 m2 c2],
          .func (.func 85) #[] #[.pointer (some ⟨w.heap.size + 1 + 1, 0, none⟩)], x.1.2, undef, undef, undef],
      defers := [] })
    (fun _ _ _ _ _ _ _ _ h => h) ?assign ?body ?done ?stop
  case hI => exact Free.and (free_boxed (by omega) _ _) (free_below (by omega) (Nat.le_refl _))
  case h0 => exact ⟨bN, hB0⟩
  case assign =>
    rintro l' pre x W K ⟨b1, hB1⟩ hK
    have HK := Lib.hid hK
    clear hK
    have hen : encEl x = #[x.1.2] := rfl
    rw [hen]
    clear hen
    gi_wp2_with fail
    exact HK.out _ _ (KeepsFrom.refl _ _) (kc_refl _ _ _) ⟨b1, hB1⟩ rfl
  case body =>
    rintro l' pre x a' W hl _ ⟨b1, hB1⟩ rfl hlen
    have c2 := b1.cell
    have f2 := b1.frozen
    have B1 := Lib.hid b1
    have HB := Lib.hid hB1
    have HP : Hid ((pre ++ [x]).length = pre.length + 1) := Lib.hid (by simp)
    generalize pre.length = y at *
    clear b1 hB1
    gi_wp2_with fail
    have hz := HB.out.size
    exact ⟨(KeepsOthers.setCell _ _ _).from _, kc_set _ (by omega) (by omega) (by omega), by rw [HP.out]; exact B1.out.set _, HB.out.setCell (p := ⟨w.heap.size + 1, 0, none⟩) (by simp) _⟩
  case done =>
    rintro D xs W hD hS ⟨b1, hB1⟩ hK
    have hl : xs.length = r := by
      have := congrArg List.length hS
      rw [List.length_map, HM.out.2] at this; exact this
    rw [hl] at b1
    have c2 := b1.cell
    have HB := Lib.hid hB1
    have HK := Lib.hid hK
    clear hS hl b1 hB1 hK hB0 bN bS
    gi_wp2_with fail
    refine ⟨by simp, .inl ⟨_, _, rfl, run_takeDeferred HK.out, ?_⟩⟩
    exact ⟨_, results_tmp rfl _ _ _, rfl, HB.out.trans (belowK_b (w := w) (Nat.le_refl _) W D _ _ (by omega) HK.out rfl rfl)⟩
  case stop =>
    rintro D c pre W hD hS h
    exact h.elim
end Go.Proofs.YtlamkadllbgamaaGreatDoor

namespace Go.Proofs.YtlamkadllbgamaaGreatDoor
open Go.RowKit

set_option maxRecDepth 100000 in
set_option maxHeartbeats 16000000 in
theorem shaped_any (x : V) (v : Value) (w : World) (h : isV w x v) :
    Calls Tryz.prog 86 #[v] w fun e w' => e = .returned (.bool (plainB x)) ∧ Below w.heap.size w w' := by
  obtain ⟨k, b, n, s, l, ks⟩ := x
  unfold isV at h
  obtain ⟨lv, kv, rfl, hk, hn, hs, ⟨a, cap, ⟨o, rfl, hc1, hc2, ho⟩, hvs⟩, ⟨a2, cap2, ⟨o2, rfl, hc3, hc4, ho2⟩, hks⟩⟩ := h
  unfold maxLen at hs hc2 hc4
  clear hk hn ho hvs ho2 hks
  by_cases hk0 : k = 0
  · subst hk0
    cases b with
    | true =>
      have HP : Hid (plainB (.mk 0 true n s l ks) = false) := Lib.hid (plain_no (fun h => by have := h.2.1 rfl; omega))
      go_enter Tryz.func86, Tryz.ntmps86
      go_wp2_with fail
      go_ret
      exact ⟨by rw [HP.out]; rfl, kbA⟩
    | false =>
      by_cases h2 : n ≠ 0
      · have HP : Hid (plainB (.mk 0 false n s l ks) = false) := Lib.hid (plain_no (fun h => by have := h.2.2.1 h2; omega))
        have n2 : (n == 0) = false := beqI h2
        clear h2
        go_enter Tryz.func86, Tryz.ntmps86
        go_wp2_with fail
        go_ret
        exact ⟨by rw [HP.out]; rfl, kbA⟩
      obtain rfl : n = 0 := Decidable.not_not.1 h2
      clear h2
      by_cases h3 : s ≠ ⟨#[]⟩
      · have HP : Hid (plainB (.mk 0 false 0 s l ks) = false) := Lib.hid (plain_no (fun h => by have := h.2.2.2.1 h3; omega))
        have s1 := emp_no h3
        have s2 := beq_toList h3
        clear h3
        go_enter Tryz.func86, Tryz.ntmps86
        go_wp2_with fail
        go_ret
        exact ⟨by rw [HP.out]; rfl, kbA⟩
      obtain rfl : s = ⟨#[]⟩ := Classical.not_not.1 h3
      clear h3
      by_cases h4 : l ≠ []
      · have HP : Hid (plainB (.mk 0 false 0 ⟨#[]⟩ l ks) = false) := Lib.hid (plain_no (fun h => by have := h.2.2.2.2.1 h4; omega))
        have l0 : 0 < l.length := List.length_pos_iff.2 h4
        have l1 : ((l.length : Int) == 0) = false := beqI (by omega)
        clear h4
        go_enter Tryz.func86, Tryz.ntmps86
        go_wp2_with fail
        go_ret
        exact ⟨by rw [HP.out]; rfl, kbA⟩
      obtain rfl : l = [] := Classical.not_not.1 h4
      clear h4
      by_cases hz : ks.length ≠ 0
      · have HP : Hid (plainB (.mk 0 false 0 ⟨#[]⟩ [] ks) = false) := Lib.hid (plain_no (fun h => hz (h.2.2.2.2.2.2 (by omega))))
        have z1 : ((ks.length : Int) == 0) = false := beqI (by omega)
        clear hz
        go_enter Tryz.func86, Tryz.ntmps86
        go_wp2_with fail
        go_ret
        exact ⟨by rw [HP.out]; rfl, kbA⟩
      replace hz : ks.length = 0 := Decidable.not_not.1 hz
      have z1 : ((ks.length : Int) == 0) = true := by rw [beq_iff_eq]; omega
      have HP : Hid (plainB (.mk 0 false 0 ⟨#[]⟩ [] ks) = true) := Lib.hid (plain_yes (by unfold plainP; refine ⟨by omega, ?_, ?_, ?_, ?_, ?_, fun _ => hz⟩ <;> intro h <;> first | omega | (exact absurd rfl h) | (exact absurd h (by simp)) | contradiction))
      clear hz
      go_enter Tryz.func86, Tryz.ntmps86
      go_wp2_with fail
      go_ret
      exact ⟨by rw [HP.out]; rfl, kbA⟩
  by_cases hk1 : k = 1
  · subst hk1
    by_cases h2 : n ≠ 0
    · have HP : Hid (plainB (.mk 1 b n s l ks) = false) := Lib.hid (plain_no (fun h => by have := h.2.2.1 h2; omega))
      have n2 : (n == 0) = false := beqI h2
      clear h2
      go_enter Tryz.func86, Tryz.ntmps86
      go_wp2_with fail
      go_ret
      exact ⟨by rw [HP.out]; rfl, kbA⟩
    obtain rfl : n = 0 := Decidable.not_not.1 h2
    clear h2
    by_cases h3 : s ≠ ⟨#[]⟩
    · have HP : Hid (plainB (.mk 1 b 0 s l ks) = false) := Lib.hid (plain_no (fun h => by have := h.2.2.2.1 h3; omega))
      have s1 := emp_no h3
      have s2 := beq_toList h3
      clear h3
      go_enter Tryz.func86, Tryz.ntmps86
      go_wp2_with fail
      go_ret
      exact ⟨by rw [HP.out]; rfl, kbA⟩
    obtain rfl : s = ⟨#[]⟩ := Classical.not_not.1 h3
    clear h3
    by_cases h4 : l ≠ []
    · have HP : Hid (plainB (.mk 1 b 0 ⟨#[]⟩ l ks) = false) := Lib.hid (plain_no (fun h => by have := h.2.2.2.2.1 h4; omega))
      have l0 : 0 < l.length := List.length_pos_iff.2 h4
      have l1 : ((l.length : Int) == 0) = false := beqI (by omega)
      clear h4
      go_enter Tryz.func86, Tryz.ntmps86
      go_wp2_with fail
      go_ret
      exact ⟨by rw [HP.out]; rfl, kbA⟩
    obtain rfl : l = [] := Classical.not_not.1 h4
    clear h4
    by_cases hz : ks.length ≠ 0
    · have HP : Hid (plainB (.mk 1 b 0 ⟨#[]⟩ [] ks) = false) := Lib.hid (plain_no (fun h => hz (h.2.2.2.2.2.2 (by omega))))
      have z1 : ((ks.length : Int) == 0) = false := beqI (by omega)
      clear hz
      go_enter Tryz.func86, Tryz.ntmps86
      go_wp2_with fail
      go_ret
      exact ⟨by rw [HP.out]; rfl, kbA⟩
    replace hz : ks.length = 0 := Decidable.not_not.1 hz
    have z1 : ((ks.length : Int) == 0) = true := by rw [beq_iff_eq]; omega
    have HP : Hid (plainB (.mk 1 b 0 ⟨#[]⟩ [] ks) = true) := Lib.hid (plain_yes (by unfold plainP; refine ⟨by omega, ?_, ?_, ?_, ?_, ?_, fun _ => hz⟩ <;> intro h <;> first | omega | (exact absurd rfl h) | (exact absurd h (by simp)) | contradiction))
    clear hz
    go_enter Tryz.func86, Tryz.ntmps86
    go_wp2_with fail
    go_ret
    exact ⟨by rw [HP.out]; rfl, kbA⟩
  by_cases hk2 : k = 2
  · subst hk2
    cases b with
    | true =>
      have HP : Hid (plainB (.mk 2 true n s l ks) = false) := Lib.hid (plain_no (fun h => by have := h.2.1 rfl; omega))
      go_enter Tryz.func86, Tryz.ntmps86
      go_wp2_with fail
      go_ret
      exact ⟨by rw [HP.out]; rfl, kbA⟩
    | false =>
      by_cases h3 : s ≠ ⟨#[]⟩
      · have HP : Hid (plainB (.mk 2 false n s l ks) = false) := Lib.hid (plain_no (fun h => by have := h.2.2.2.1 h3; omega))
        have s1 := emp_no h3
        have s2 := beq_toList h3
        clear h3
        go_enter Tryz.func86, Tryz.ntmps86
        go_wp2_with fail
        go_ret
        exact ⟨by rw [HP.out]; rfl, kbA⟩
      obtain rfl : s = ⟨#[]⟩ := Classical.not_not.1 h3
      clear h3
      by_cases h4 : l ≠ []
      · have HP : Hid (plainB (.mk 2 false n ⟨#[]⟩ l ks) = false) := Lib.hid (plain_no (fun h => by have := h.2.2.2.2.1 h4; omega))
        have l0 : 0 < l.length := List.length_pos_iff.2 h4
        have l1 : ((l.length : Int) == 0) = false := beqI (by omega)
        clear h4
        go_enter Tryz.func86, Tryz.ntmps86
        go_wp2_with fail
        go_ret
        exact ⟨by rw [HP.out]; rfl, kbA⟩
      obtain rfl : l = [] := Classical.not_not.1 h4
      clear h4
      by_cases hz : ks.length ≠ 0
      · have HP : Hid (plainB (.mk 2 false n ⟨#[]⟩ [] ks) = false) := Lib.hid (plain_no (fun h => hz (h.2.2.2.2.2.2 (by omega))))
        have z1 : ((ks.length : Int) == 0) = false := beqI (by omega)
        clear hz
        go_enter Tryz.func86, Tryz.ntmps86
        go_wp2_with fail
        go_ret
        exact ⟨by rw [HP.out]; rfl, kbA⟩
      replace hz : ks.length = 0 := Decidable.not_not.1 hz
      have z1 : ((ks.length : Int) == 0) = true := by rw [beq_iff_eq]; omega
      have HP : Hid (plainB (.mk 2 false n ⟨#[]⟩ [] ks) = true) := Lib.hid (plain_yes (by unfold plainP; refine ⟨by omega, ?_, ?_, ?_, ?_, ?_, fun _ => hz⟩ <;> intro h <;> first | omega | (exact absurd rfl h) | (exact absurd h (by simp)) | contradiction))
      clear hz
      go_enter Tryz.func86, Tryz.ntmps86
      go_wp2_with fail
      go_ret
      exact ⟨by rw [HP.out]; rfl, kbA⟩
  by_cases hk3 : k = 3
  · subst hk3
    cases b with
    | true =>
      have HP : Hid (plainB (.mk 3 true n s l ks) = false) := Lib.hid (plain_no (fun h => by have := h.2.1 rfl; omega))
      go_enter Tryz.func86, Tryz.ntmps86
      go_wp2_with fail
      go_ret
      exact ⟨by rw [HP.out]; rfl, kbA⟩
    | false =>
      by_cases h2 : n ≠ 0
      · have HP : Hid (plainB (.mk 3 false n s l ks) = false) := Lib.hid (plain_no (fun h => by have := h.2.2.1 h2; omega))
        have n2 : (n == 0) = false := beqI h2
        clear h2
        go_enter Tryz.func86, Tryz.ntmps86
        go_wp2_with fail
        go_ret
        exact ⟨by rw [HP.out]; rfl, kbA⟩
      obtain rfl : n = 0 := Decidable.not_not.1 h2
      clear h2
      by_cases h4 : l ≠ []
      · have HP : Hid (plainB (.mk 3 false 0 s l ks) = false) := Lib.hid (plain_no (fun h => by have := h.2.2.2.2.1 h4; omega))
        have l0 : 0 < l.length := List.length_pos_iff.2 h4
        have l1 : ((l.length : Int) == 0) = false := beqI (by omega)
        clear h4
        go_enter Tryz.func86, Tryz.ntmps86
        go_wp2_with fail
        go_ret
        exact ⟨by rw [HP.out]; rfl, kbA⟩
      obtain rfl : l = [] := Classical.not_not.1 h4
      clear h4
      by_cases hz : ks.length ≠ 0
      · have HP : Hid (plainB (.mk 3 false 0 s [] ks) = false) := Lib.hid (plain_no (fun h => hz (h.2.2.2.2.2.2 (by omega))))
        have z1 : ((ks.length : Int) == 0) = false := beqI (by omega)
        clear hz
        go_enter Tryz.func86, Tryz.ntmps86
        go_wp2_with fail
        go_ret
        exact ⟨by rw [HP.out]; rfl, kbA⟩
      replace hz : ks.length = 0 := Decidable.not_not.1 hz
      have z1 : ((ks.length : Int) == 0) = true := by rw [beq_iff_eq]; omega
      have HP : Hid (plainB (.mk 3 false 0 s [] ks) = true) := Lib.hid (plain_yes (by unfold plainP; refine ⟨by omega, ?_, ?_, ?_, ?_, ?_, fun _ => hz⟩ <;> intro h <;> first | omega | (exact absurd rfl h) | (exact absurd h (by simp)) | contradiction))
      clear hz
      go_enter Tryz.func86, Tryz.ntmps86
      go_wp2_with fail
      go_ret
      exact ⟨by rw [HP.out]; rfl, kbA⟩
  by_cases hk4 : k = 4
  · subst hk4
    cases b with
    | true =>
      have HP : Hid (plainB (.mk 4 true n s l ks) = false) := Lib.hid (plain_no (fun h => by have := h.2.1 rfl; omega))
      go_enter Tryz.func86, Tryz.ntmps86
      go_wp2_with fail
      go_ret
      exact ⟨by rw [HP.out]; rfl, kbA⟩
    | false =>
      by_cases h2 : n ≠ 0
      · have HP : Hid (plainB (.mk 4 false n s l ks) = false) := Lib.hid (plain_no (fun h => by have := h.2.2.1 h2; omega))
        have n2 : (n == 0) = false := beqI h2
        clear h2
        go_enter Tryz.func86, Tryz.ntmps86
        go_wp2_with fail
        go_ret
        exact ⟨by rw [HP.out]; rfl, kbA⟩
      obtain rfl : n = 0 := Decidable.not_not.1 h2
      clear h2
      by_cases h3 : s ≠ ⟨#[]⟩
      · have HP : Hid (plainB (.mk 4 false 0 s l ks) = false) := Lib.hid (plain_no (fun h => by have := h.2.2.2.1 h3; omega))
        have s1 := emp_no h3
        have s2 := beq_toList h3
        clear h3
        go_enter Tryz.func86, Tryz.ntmps86
        go_wp2_with fail
        go_ret
        exact ⟨by rw [HP.out]; rfl, kbA⟩
      obtain rfl : s = ⟨#[]⟩ := Classical.not_not.1 h3
      clear h3
      by_cases hz : ks.length ≠ 0
      · have HP : Hid (plainB (.mk 4 false 0 ⟨#[]⟩ l ks) = false) := Lib.hid (plain_no (fun h => hz (h.2.2.2.2.2.2 (by omega))))
        have z1 : ((ks.length : Int) == 0) = false := beqI (by omega)
        clear hz
        go_enter Tryz.func86, Tryz.ntmps86
        go_wp2_with fail
        go_ret
        exact ⟨by rw [HP.out]; rfl, kbA⟩
      replace hz : ks.length = 0 := Decidable.not_not.1 hz
      have z1 : ((ks.length : Int) == 0) = true := by rw [beq_iff_eq]; omega
      have HP : Hid (plainB (.mk 4 false 0 ⟨#[]⟩ l ks) = true) := Lib.hid (plain_yes (by unfold plainP; refine ⟨by omega, ?_, ?_, ?_, fun _ => .inl rfl, ?_, fun _ => hz⟩ <;> intro h <;> first | omega | (exact absurd rfl h) | contradiction))
      clear hz
      go_enter Tryz.func86, Tryz.ntmps86
      go_wp2_with fail
      go_ret
      exact ⟨by rw [HP.out]; rfl, kbA⟩
  by_cases hk5 : k = 5
  · subst hk5
    by_cases hz : (ks.length : Int) ≠ (l.length : Int)
    · have HP : Hid (plainB (.mk 5 b n s l ks) = false) := Lib.hid (plain_no (fun h => by have := h.2.2.2.2.2.1 rfl; omega))
      have z1 : ((ks.length : Int) != (l.length : Int)) = true := bne_iff_ne.2 hz
      have z2 : ((ks.length : Int) == (l.length : Int)) = false := beqI hz
      clear hz
      go_enter Tryz.func86, Tryz.ntmps86
      go_wp2_with fail
      go_ret
      exact ⟨by rw [HP.out]; rfl, kbA⟩
    replace hz : (ks.length : Int) = (l.length : Int) := Decidable.not_not.1 hz
    have z1 : ((ks.length : Int) != (l.length : Int)) = false := by rw [hz]; simp
    have z2 : ((ks.length : Int) == (l.length : Int)) = true := by rw [beq_iff_eq]; exact hz
    have HZ := Lib.hid hz
    clear hz
    cases b with
    | true =>
      have HP : Hid (plainB (.mk 5 true n s l ks) = false) := Lib.hid (plain_no (fun h => by have := h.2.1 rfl; omega))
      go_enter Tryz.func86, Tryz.ntmps86
      go_wp2_with fail
      go_ret
      exact ⟨by rw [HP.out]; rfl, kbA⟩
    | false =>
      by_cases h2 : n ≠ 0
      · have HP : Hid (plainB (.mk 5 false n s l ks) = false) := Lib.hid (plain_no (fun h => by have := h.2.2.1 h2; omega))
        have n2 : (n == 0) = false := beqI h2
        clear h2
        go_enter Tryz.func86, Tryz.ntmps86
        go_wp2_with fail
        go_ret
        exact ⟨by rw [HP.out]; rfl, kbA⟩
      obtain rfl : n = 0 := Decidable.not_not.1 h2
      clear h2
      by_cases h3 : s ≠ ⟨#[]⟩
      · have HP : Hid (plainB (.mk 5 false 0 s l ks) = false) := Lib.hid (plain_no (fun h => by have := h.2.2.2.1 h3; omega))
        have s1 := emp_no h3
        have s2 := beq_toList h3
        clear h3
        go_enter Tryz.func86, Tryz.ntmps86
        go_wp2_with fail
        go_ret
        exact ⟨by rw [HP.out]; rfl, kbA⟩
      obtain rfl : s = ⟨#[]⟩ := Classical.not_not.1 h3
      clear h3
      have HP : Hid (plainB (.mk 5 false 0 ⟨#[]⟩ l ks) = true) := Lib.hid (plain_yes (by have hz := HZ.out; unfold plainP; refine ⟨by omega, ?_, ?_, ?_, fun _ => .inr rfl, fun _ => by omega, ?_⟩ <;> intro h <;> first | omega | (exact absurd rfl h) | contradiction))
      go_enter Tryz.func86, Tryz.ntmps86
      go_wp2_with fail
      go_ret
      exact ⟨by rw [HP.out]; rfl, kbA⟩
  have HP : Hid (plainB (.mk k b n s l ks) = false) := Lib.hid (plain_no (fun h => by have := h.1; omega))
  have q0 : (k == 0) = false := beqI hk0
  have q1 : (k == 1) = false := beqI hk1
  have q2 : (k == 2) = false := beqI hk2
  have q3 : (k == 3) = false := beqI hk3
  have q4 : (k == 4) = false := beqI hk4
  have q5 : (k == 5) = false := beqI hk5
  clear hk0 hk1 hk2 hk3 hk4 hk5
  go_enter Tryz.func86, Tryz.ntmps86
  go_wp2_with fail
  go_ret
  exact ⟨by rw [HP.out]; rfl, kbA⟩
end Go.Proofs.YtlamkadllbgamaaGreatDoor

namespace Go.Proofs.YtlamkadllbgamaaGreatDoor
open Go.RowKit Go.Maps

def fitB (n : Int) : Bool := decide (-9007199254740992 ≤ n ∧ n ≤ 9007199254740992)
set_option maxHeartbeats 1000000 in
theorem fits_any (n : Int) (w : World) : Calls Tryz.prog 87 #[.int .i64 n] w fun e w' => e = .returned (.bool (fitB n)) ∧ w' = w := by
  have HF : Hid (fitB n = (decide (-9007199254740992 ≤ n) && decide (n ≤ 9007199254740992))) := Lib.hid (by unfold fitB; rw [Bool.decide_and])
  by_cases h1 : -9007199254740992 ≤ n
  · by_cases h2 : n ≤ 9007199254740992
    · go_enter Tryz.func87, Tryz.ntmps87
      go_wp2
      go_ret
      exact ⟨ret_bool (by rw [HF.out, decide_eq_true h1, decide_eq_true h2]; rfl), rfl⟩
    · go_enter Tryz.func87, Tryz.ntmps87
      go_wp2
      go_ret
      exact ⟨ret_bool (by rw [HF.out, decide_eq_true h1, decide_eq_false (by omega)]; rfl), rfl⟩
  · go_enter Tryz.func87, Tryz.ntmps87
    go_wp2
    go_ret
    exact ⟨ret_bool (by rw [HF.out, decide_eq_false (by omega)]; rfl), rfl⟩

/-- Of the map behind so many keys: which keys it has, and whether there are as many. -/
def TS (ks : List ByteArray) (j : Nat) (D : DataW Unit) : Prop :=
  (∀ s : List UInt8, Maps.has D (.string s) = true ↔ ∃ q ∈ ks.take j, q.data.toList = s) ∧ Maps.size D ≤ j ∧ (Maps.size D = j ↔ (ks.take j).Nodup)
theorem TS.step {ks : List ByteArray} {j : Nat} (hj : j < ks.length) {D : DataW Unit} (h : TS ks j D) (hD : Tidy D) (hm : IsMap D) (d : DataW Unit) : TS ks (j + 1) (D.put (.string ks[j].data.toList) d) := by
  obtain ⟨h1, h2, h3⟩ := h
  have ht : ks.take (j + 1) = ks.take j ++ [ks[j]] := List.take_succ_eq_append_getElem hj
  have hs := size_put (k := .string ks[j].data.toList) hD d
  have hlen : (ks.take j).length = j := by rw [List.length_take]; omega
  refine ⟨fun s => ?_, ?_, ?_⟩
  · rw [ht]
    by_cases e : s = ks[j].data.toList
    · subst e
      rw [has_put_same hm (by trivial)]
      exact ⟨fun _ => ⟨_, List.mem_append.2 (.inr (List.mem_singleton.2 rfl)), rfl⟩, fun _ => rfl⟩
    · rw [has_put_other (by intro e2; cases e2; exact e rfl), h1]
      constructor
      · rintro ⟨q, hq, rfl⟩; exact ⟨q, List.mem_append.2 (.inl hq), rfl⟩
      · rintro ⟨q, hq, rfl⟩
        rcases List.mem_append.1 hq with hq | hq
        · exact ⟨q, hq, rfl⟩
        · simp at hq; subst hq; exact absurd rfl e
  · rw [hs]; split <;> omega
  · rw [hs, ht]
    by_cases hh : Maps.has D (.string ks[j].data.toList) = true
    · rw [if_pos hh]
      obtain ⟨q, hq, hqe⟩ := (h1 _).1 hh
      have hqk : q = ks[j] := ByteArray.ext (by simpa using congrArg List.toArray hqe)
      subst hqk
      constructor
      · intro e; omega
      · intro hn
        exact absurd hq (fun hq => (List.nodup_append.1 hn).2.2 _ hq _ (by simp) rfl)
    · rw [if_neg hh]
      have hnot : ks[j] ∉ ks.take j := fun hq => hh ((h1 _).2 ⟨_, hq, rfl⟩)
      constructor
      · intro e
        have := h3.1 (by omega)
        rw [List.nodup_append]
        refine ⟨this, by simp, fun a ha b hb e2 => ?_⟩
        simp at hb
        subst hb
        subst e2
        exact hnot ha
      · intro hn
        have := h3.2 (List.nodup_append.1 hn).1
        omega

set_option maxRecDepth 100000 in
set_option maxHeartbeats 2000000 in
theorem twice_any (ks : List ByteArray) (v : Value) (w : World) (hl : ks.length ≤ 1000000) (h : isK w ks v) :
    Calls Tryz.prog 90 #[v] w fun e w' => e = .returned (.bool (!onceB ks)) ∧ Below w.heap.size w w' := by
  obtain ⟨a, cap, ⟨o, rfl, hc1, hc2, ho⟩, hks⟩ := h
  unfold maxLen at hc2
  have lawK : Keyed Tryz.prog 9 := string_keyed Tryz.underlying9
  have hom : (w.alloc (.map #[] 0)).ownsMap Tryz.prog 9 (plainElem (H := Unit) Tryz.prog 3) w.heap.size 0 (.map []) := World.ownsMap_made w Tryz.prog 9 _
  have hmm := @run_makeMap Tryz.prog
  have HK := Lib.hid hks
  have HOM := Lib.hid hom
  obtain ⟨r, hr⟩ : ∃ r, (!onceB ks) = r := ⟨_, rfl⟩
  rw [hr]
  have HR := Lib.hid hr
  clear hks hom hr
  go_enter Tryz.func90, Tryz.ntmps90
  go_wp2_with fail
  go_loopw [9] (fun i wr => ∃ (j : Nat) (D : DataW Unit), j ≤ ks.length ∧ i = .int .i64 j ∧ Hid (wr.ownsMap Tryz.prog 9 (plainElem (H := Unit) Tryz.prog 3) w.heap.size j D) ∧ Hid (TS ks j D) ∧ Hid (Below w.heap.size w wr)) (fun i _ => ks.length - (intOf i).toNat)
  case atStart =>
    refine ⟨0, _, by omega, rfl, HOM, Lib.hid ⟨fun s => ?_, Nat.le_refl _, ?_⟩, Lib.hid (by go_grown)⟩
    · simp [Maps.has]
    · simp [Maps.size]
  case round =>
    obtain ⟨j, D, hj, rfl, hO, hT, hB⟩ := hrel
    by_cases hlt : j < ks.length
    · obtain rfl := ho (by omega)
      have hcell := cell_below hB.out _ _ (HK.out j hlt).1
      have hsz := (HK.out j hlt).2
      have HT2 := Lib.hid (hT.out.step hlt (hO.out.tidy lawK) hO.out.isMap (.lit (.int .i64 j)))
      generalize ks[j] = s at *
      go_wp2_with (at_mapUpdate; refine wpList_mapUpdate_own _ rfl _ _ _ 115 rfl 9 3 lawK Tryz.underlying115 _ w.heap.size _ _ rfl hO.out (by unfold maxLen; omega) _ _ _ rfl rfl (Go.WideMaps.keyOf_string_mk Tryz.underlying9 hsz) _ [] (plainElem_int Tryz.underlying3 (by simp [Lit.wf, IntKind.min, IntKind.max, IntKind.bits, IntKind.signed]; omega)) ?_; intro w5 ho5 hg5)
      have HO5 := Lib.hid ho5
      have HB5 := Lib.hid (hB.out.grown hg5 hB.out.size (fun r e => by cases e; exact Nat.le_refl _))
      clear ho5 hg5
      go_wp2_with fail
      go_roundw
      case rel => exact ⟨j + 1, _, by omega, by go_num, HO5, HT2, HB5⟩
      case measure => simp [intOf]; omega
    · obtain rfl : j = ks.length := by omega
      have hres : decide (Maps.size D < ks.length) = r := by
        rw [← HR.out]
        obtain ⟨_, h2, h3⟩ := hT.out
        rw [List.take_of_length_le (Nat.le_refl _)] at h3
        by_cases hn : ks.Nodup
        · rw [once_yes hn, decide_eq_false (by have := h3.2 hn; omega)]; rfl
        · rw [once_no hn, decide_eq_true (by have : Maps.size D ≠ ks.length := fun e => hn (h3.1 e); omega)]; rfl
      have HRES := Lib.hid hres
      clear hres
      go_wp2_with (at_len; refine wpList_len_own _ rfl _ 115 rfl 9 3 Tryz.underlying115 _ w.heap.size _ D rfl hO.out ?_)
      go_ret
      exact ⟨ret_bool HRES.out, hB.out⟩

theorem infoV2 : (Tryz.prog.info? 33).map (fun i => (i.zero, i.size, i.bytes)) = some (some (.agg #[.int .i8 0, .bool false, .int .i64 0, .string ⟨#[]⟩, .slice none 0 0, .slice none 0 0]), 6, 80) := by kernel_rfl
theorem infoStr : (Tryz.prog.info? 9).map (fun i => (i.zero, i.size, i.bytes)) = some (some (.string ⟨#[]⟩), 1, 16) := by kernel_rfl

set_option maxRecDepth 100000 in
set_option maxHeartbeats 2000000 in
/-- slices.Clone of so many values: their cells, in a row of the call's own. -/
theorem cloneV_any (o : Option Addr) (a : Addr) (n cap : Nat) (ho : 0 < n → o = some a) (hn : n ≤ 1000000) (news : List Value) (w : World) (hl : news.length = n * 6) (hc : ∀ j u, news[j]? = some u → w.cell? (a.add j) = some u) (h1 : ∀ u ∈ news, u.oneCell' = true) :
    Calls Tryz.prog 61 #[.slice o n cap] w fun e w' => ∃ v', e = .returned v' ∧ w'.ownsRow w.heap.size 33 6 v' n news ∧ Below w.heap.size w w' := by
  obtain ⟨i0, hi0, hz0, hz1, hz2⟩ := info_parts infoV2
  have hq : ∀ (w : World) (a : Option Addr) (n c n' c' : Nat), (binOp .eql 30 (.slice a n c) (.slice none n' c')).run Tryz.prog w = .ok (.bool a.isNone) w := fun w a n c n' c' => Lib.run_eql_slice_nil w _ _ a n c n' c' Tryz.underlying30
  cases o with
  | none =>
    obtain rfl : n = 0 := by
      rcases Nat.eq_zero_or_pos n with h | h
      · exact h
      · cases ho h
    go_enter Tryz.func61, Tryz.ntmps61
    go_wp2
    go_ret
    exact ⟨_, rfl, ⟨hl, .inl ⟨rfl, rfl⟩⟩, Below.refl _ _⟩
  | some b =>
    have hc2 : ∀ j u, news[j]? = some u → w.cell? (b.add j) = some u := fun j u h => by
      have hj := (List.getElem?_eq_some_iff.1 h).1
      cases ho (by omega)
      exact hc j u h
    have HC := Lib.hid hc2
    have H1 := Lib.hid h1
    clear hc hc2 h1 ho
    go_enter Tryz.func61, Tryz.ntmps61
    go_wp2_with (at_builtin; refine wpList_append_own _ rfl _ _ 30 rfl w.heap.size 33 i0 _ 6 80 Tryz.underlying30 hi0 hz0 hz1 hz2 rfl (by decide) _ 0 [] rfl (World.ownsRow_lit w #[] 0 (Nat.le_refl _) (by unfold maxLen; omega) rfl) b n cap news rfl hl ?d1 H1.out ?d3 ?d4 ?d5 ?_)
    case d1 => intro j u h; exact cell_below ((Below.refl _ w).alloc (Nat.le_refl _) _) _ _ (HC.out j u h)
    case d3 => unfold maxLen; omega
    case d4 => omega
    case d5 => simp
    intro v' w1 hown' hgrow _
    have hO : w1.ownsRow w.heap.size 33 6 v' n news := by simpa using hown'
    have HO := Lib.hid hO
    have HB : Hid (Below w.heap.size w w1) := Lib.hid (((Below.refl _ w).alloc (Nat.le_refl _) _).grown hgrow (by simp) (fun r e => by cases e; exact Nat.le_refl _))
    clear hown' hgrow hO
    go_wp2_with fail
    go_ret
    exact ⟨v', rfl, HO.out, HB.out⟩
set_option maxRecDepth 100000 in
set_option maxHeartbeats 2000000 in
/-- slices.Clone of so many texts: their cells, in a row of the call's own. -/
theorem cloneS_any (o : Option Addr) (a : Addr) (n cap : Nat) (ho : 0 < n → o = some a) (hn : n ≤ 1000000) (news : List Value) (w : World) (hl : news.length = n * 1) (hc : ∀ j u, news[j]? = some u → w.cell? (a.add j) = some u) (h1 : ∀ u ∈ news, u.oneCell' = true) :
    Calls Tryz.prog 62 #[.slice o n cap] w fun e w' => ∃ v', e = .returned v' ∧ w'.ownsRow w.heap.size 9 1 v' n news ∧ Below w.heap.size w w' := by
  obtain ⟨i0, hi0, hz0, hz1, hz2⟩ := info_parts infoStr
  have hq : ∀ (w : World) (a : Option Addr) (n c n' c' : Nat), (binOp .eql 31 (.slice a n c) (.slice none n' c')).run Tryz.prog w = .ok (.bool a.isNone) w := fun w a n c n' c' => Lib.run_eql_slice_nil w _ _ a n c n' c' Tryz.underlying31
  cases o with
  | none =>
    obtain rfl : n = 0 := by
      rcases Nat.eq_zero_or_pos n with h | h
      · exact h
      · cases ho h
    go_enter Tryz.func62, Tryz.ntmps62
    go_wp2
    go_ret
    exact ⟨_, rfl, ⟨hl, .inl ⟨rfl, rfl⟩⟩, Below.refl _ _⟩
  | some b =>
    have hc2 : ∀ j u, news[j]? = some u → w.cell? (b.add j) = some u := fun j u h => by
      have hj := (List.getElem?_eq_some_iff.1 h).1
      cases ho (by omega)
      exact hc j u h
    have HC := Lib.hid hc2
    have H1 := Lib.hid h1
    clear hc hc2 h1 ho
    go_enter Tryz.func62, Tryz.ntmps62
    go_wp2_with (at_builtin; refine wpList_append_own _ rfl _ _ 31 rfl w.heap.size 9 i0 _ 1 16 Tryz.underlying31 hi0 hz0 hz1 hz2 rfl (by decide) _ 0 [] rfl (World.ownsRow_lit w #[] 0 (Nat.le_refl _) (by unfold maxLen; omega) rfl) b n cap news rfl hl ?d1 H1.out ?d3 ?d4 ?d5 ?_)
    case d1 => intro j u h; exact cell_below ((Below.refl _ w).alloc (Nat.le_refl _) _) _ _ (HC.out j u h)
    case d3 => unfold maxLen; omega
    case d4 => omega
    case d5 => simp
    intro v' w1 hown' hgrow _
    have hO : w1.ownsRow w.heap.size 9 1 v' n news := by simpa using hown'
    have HO := Lib.hid hO
    have HB : Hid (Below w.heap.size w w1) := Lib.hid (((Below.refl _ w).alloc (Nat.le_refl _) _).grown hgrow (by simp) (fun r e => by cases e; exact Nat.le_refl _))
    clear hown' hgrow hO
    go_wp2_with fail
    go_ret
    exact ⟨v', rfl, HO.out, HB.out⟩
end Go.Proofs.YtlamkadllbgamaaGreatDoor
