/-
  Rows of the call's own that hold values and keys, as they grow in place. For the reference's sorted. · The reference's sorted: its world, and the case of a list.
-/
import Derived.Test.YtllkcldckehipaaGreatDoorGI
import Derived.Test.YtllkcldckehipaaGreatDoorHF
import Derived.Deep.RegionLaw
import Derived.Maps.AppendAt
set_option linter.unusedVariables false
set_option linter.unusedSimpArgs false
namespace Go.Proofs.YtllkcldckehipaaGreatDoor
open Go.RowKit

/-- Cells that hold such values, each of which lies in blocks with S. -/
def isVsLa (W : World) (S : Nat → Prop) : List V → List Value → Prop
  | [], xs => xs = []
  | x :: t, xs => ∃ c0 c1 c2 c3 c4 c5 rest, xs = c0 :: c1 :: c2 :: c3 :: c4 :: c5 :: rest ∧ isVa W S x (.agg #[c0, c1, c2, c3, c4, c5]) ∧ isVsLa W S t rest
theorem la_keep {W W' : World} {S : Nat → Prop} (hc : ∀ a c, S a.block → W.cell? a = some c → W'.cell? a = some c) : ∀ (l : List V) (xs : List Value), isVsLa W S l xs → isVsLa W' S l xs
  | [], _, h => h
  | x :: t, xs, h => by
    unfold isVsLa at h ⊢
    obtain ⟨c0, c1, c2, c3, c4, c5, rest, rfl, hx, ht⟩ := h
    exact ⟨c0, c1, c2, c3, c4, c5, rest, rfl, isVa_keep hc x _ hx, la_keep hc t _ ht⟩
theorem la_mono {W : World} {S S' : Nat → Prop} (hs : ∀ q, S q → S' q) : ∀ (l : List V) (xs : List Value), isVsLa W S l xs → isVsLa W S' l xs
  | [], _, h => h
  | x :: t, xs, h => by
    unfold isVsLa at h ⊢
    obtain ⟨c0, c1, c2, c3, c4, c5, rest, rfl, hx, ht⟩ := h
    exact ⟨c0, c1, c2, c3, c4, c5, rest, rfl, isVa_mono hs x _ hx, la_mono hs t _ ht⟩
theorem la_app {W : World} {S : Nat → Prop} : ∀ (l m : List V) (xs ys : List Value), isVsLa W S l xs → isVsLa W S m ys → isVsLa W S (l ++ m) (xs ++ ys)
  | [], m, xs, ys, h, h' => by
    unfold isVsLa at h
    subst h
    exact h'
  | x :: t, m, xs, ys, h, h' => by
    unfold isVsLa at h
    obtain ⟨c0, c1, c2, c3, c4, c5, rest, rfl, hx, ht⟩ := h
    rw [List.cons_append]
    unfold isVsLa
    exact ⟨c0, c1, c2, c3, c4, c5, rest ++ ys, rfl, hx, la_app t m rest ys ht h'⟩
theorem la_len {W : World} {S : Nat → Prop} : ∀ (l : List V) (xs : List Value), isVsLa W S l xs → xs.length = l.length * 6
  | [], xs, h => by unfold isVsLa at h; subst h; rfl
  | x :: t, xs, h => by
    unfold isVsLa at h
    obtain ⟨c0, c1, c2, c3, c4, c5, rest, rfl, hx, ht⟩ := h
    have := la_len t rest ht
    simp only [List.length_cons]; omega
theorem la_one {W : World} {S : Nat → Prop} : ∀ (l : List V) (xs : List Value), isVsLa W S l xs → ∀ u ∈ xs, u.oneCell' = true
  | [], xs, h => by unfold isVsLa at h; subst h; intro u hu; cases hu
  | x :: t, xs, h => by
    unfold isVsLa at h
    obtain ⟨c0, c1, c2, c3, c4, c5, rest, rfl, hx, ht⟩ := h
    intro u hu
    have h1 := isV_one (isV_of_a _ _ hx)
    have h2 := la_one t rest ht
    simp only [List.mem_cons] at hu
    rcases hu with h | h | h | h | h | h | h
    · exact h1 u (by simp [h])
    · exact h1 u (by simp [h])
    · exact h1 u (by simp [h])
    · exact h1 u (by simp [h])
    · exact h1 u (by simp [h])
    · exact h1 u (by simp [h])
    · exact h2 u h
theorem la_cut {W : World} {S : Nat → Prop} : ∀ (l : List V) (xs : List Value) (k : Nat), isVsLa W S l xs → isVsLa W S (l.take k) (xs.take (k * 6)) ∧ isVsLa W S (l.drop k) (xs.drop (k * 6))
  | l, xs, 0, h => by
    rw [Nat.zero_mul, List.take_zero, List.take_zero, List.drop_zero, List.drop_zero]
    exact ⟨rfl, h⟩
  | [], xs, k + 1, h => by
    unfold isVsLa at h
    subst h
    simp only [List.take_nil, List.drop_nil]
    exact ⟨rfl, rfl⟩
  | x :: t, xs, k + 1, h => by
    unfold isVsLa at h
    obtain ⟨c0, c1, c2, c3, c4, c5, rest, rfl, hx, ht⟩ := h
    obtain ⟨h1, h2⟩ := la_cut t rest k ht
    rw [show (k + 1) * 6 = k * 6 + 6 by omega]
    simp only [List.take_succ_cons, List.drop_succ_cons]
    refine ⟨?_, h2⟩
    unfold isVsLa
    exact ⟨c0, c1, c2, c3, c4, c5, _, rfl, hx, h1⟩
theorem la_single {W : World} {S : Nat → Prop} {x : V} {c0 c1 c2 c3 c4 c5 : Value} (h : isVa W S x (.agg #[c0, c1, c2, c3, c4, c5])) : isVsLa W S [x] [c0, c1, c2, c3, c4, c5] := by
  unfold isVsLa
  exact ⟨c0, c1, c2, c3, c4, c5, [], rfl, h, rfl⟩
theorem la_vas {W : World} {S : Nat → Prop} : ∀ (l : List V) (ys : List Value) (a : Addr), isVsLa W S l ys → (∀ j u, ys[j]? = some u → W.cell? (a.add j) = some u) → isVas W S l a
  | [], _, _, _, _ => by unfold isVas; trivial
  | x :: t, ys, a, hl, hc => by
    unfold isVsLa at hl
    obtain ⟨c0, c1, c2, c3, c4, c5, rest, rfl, hx, ht⟩ := hl
    unfold isVas
    refine ⟨⟨c0, c1, c2, c3, c4, c5, ?_, hc 1 _ rfl, hc 2 _ rfl, hc 3 _ rfl, hc 4 _ rfl, hc 5 _ rfl, hx⟩, la_vas t rest (a.add 6) ht (fun j u hj => ?_)⟩
    · have := hc 0 c0 rfl
      simpa [Addr.add] using this
    · rw [add_add]
      exact hc (6 + j) u (by rw [Nat.add_comm]; exact hj)
/-- A row of the call's own, cut. -/
theorem own_cut {w : World} {base : Nat} {e : TypeId} {size g n cap : Nat} {xs : List Value} (h : w.ownsRow base e size (.slice (some ⟨g, 0, none⟩) n cap) n xs) (k : Nat) (hk : k ≤ n) : w.ownsRow base e size (.slice (some ⟨g, 0, none⟩) k cap) k (xs.take (k * size)) := by
  obtain ⟨h1, h2⟩ := h
  rcases h2 with ⟨hv, _⟩ | ⟨g', cap', cur, hv, r1, r2, r3, r4, r5, r6⟩
  · cases hv
  · simp only [Value.slice.injEq, Option.some.injEq, Addr.mk.injEq, and_true, true_and] at hv
    obtain ⟨rfl, rfl⟩ := hv
    have hle : k * size ≤ n * size := Nat.mul_le_mul_right size hk
    refine ⟨by rw [List.length_take, h1]; omega, .inr ⟨g, cap, cur, rfl, r1, r2, by omega, r4, r5, ?_⟩⟩
    rw [← r6, List.take_take, Nat.min_eq_left hle]
theorem own_form {w : World} {base : Nat} {e : TypeId} {size n : Nat} {v : Value} {xs : List Value} (h : w.ownsRow base e size v n xs) : ∃ o ad c, v = .slice o n c ∧ n ≤ c ∧ c ≤ maxLen ∧ (0 < n → o = some ad) ∧ (o = none → c = 0) ∧ ∀ j u, xs[j]? = some u → w.cell? (ad.add j) = some u := by
  obtain ⟨h1, h2⟩ := h
  rcases h2 with ⟨rfl, rfl⟩ | ⟨g, cap, cur, rfl, r1, r2, r3, r4, r5, r6⟩
  · refine ⟨none, ⟨0, 0, none⟩, 0, rfl, Nat.le_refl _, by unfold maxLen; omega, fun h => absurd h (by omega), fun _ => rfl, fun j u hj => ?_⟩
    have : xs = [] := List.eq_nil_of_length_eq_zero (by rw [h1]; simp)
    subst this
    simp at hj
  · refine ⟨some ⟨g, 0, none⟩, ⟨g, 0, none⟩, cap, rfl, r3, r4, fun _ => rfl, (fun h => by cases h), ?_⟩
    exact World.ownsRow.cells (v := .slice (some ⟨g, 0, none⟩) n cap) ⟨h1, .inr ⟨g, cap, cur, rfl, r1, r2, r3, r4, r5, r6⟩⟩ rfl

section
variable {P : Program} {w : World}
theorem run_append_row_at (base : Nat) (t ty e : TypeId) (i : TypeInfo) (z : Value) (size bytes : Nat) (ht : P.underlying t = some (.slice e)) (hi : P.info? e = some i) (hz : i.zero = some z)
    (hsize : i.size = size) (hby : i.bytes = bytes) (hzs : z.cells.size = size) (hsz : 0 < size) (v : Value) (n : Nat) (xs : List Value) (hown : w.ownsRow base e size v n xs)
    (o : Option Addr) (a : Addr) (m c : Nat) (ho : 0 < m → o = some a) (news : List Value) (hl : news.length = m * size) (hnews : ∀ j u, news[j]? = some u → w.cell? (a.add j) = some u) (h1 : ∀ u ∈ news, u.oneCell' = true)
    (h63 : n + m ≤ maxLen) (hbytes : (n + m) * bytes ≤ 140737488355328) (hbase : base ≤ w.heap.size) :
    ∃ o' c' w', (Builtin.append_ #[t, t] ty #[v, .slice o m c]).run P w = .ok (.slice o' (n + m) c') w' ∧ w'.ownsRow base e size (.slice o' (n + m) c') (n + m) (xs ++ news) ∧ w.grownBy w' v.ownBlock ∧ ((Value.slice o' (n + m) c').ownBlock = v.ownBlock ∨ (Value.slice o' (n + m) c').ownBlock = some w.heap.size) := by
  rcases Nat.eq_zero_or_pos m with rfl | hm
  · have hn : news = [] := List.eq_nil_of_length_eq_zero (by rw [hl]; simp)
    subst hn
    obtain ⟨o', ad, c', rfl, h2, h3, h4, h5, _⟩ := own_form hown
    refine ⟨o', c', w, ?_, by simpa using hown, ⟨rfl, rfl, rfl, Nat.le_refl _, fun _ _ _ => rfl⟩, .inl rfl⟩
    rcases hown.2 with ⟨hv, rfl⟩ | ⟨g, cap, cur, hv, _, _, hnc, _⟩
    · cases hv
      cases o <;> simp [Builtin.append_, run_underlying ht, sizeOf, typeInfo, hi, Builtin.lenOf, Builtin.firstCells, loadCells, loadCellsFrom]
    · cases hv
      cases o <;> simp [Builtin.append_, run_underlying ht, sizeOf, typeInfo, hi, Builtin.lenOf, Builtin.firstCells, hnc, storeCells, loadCells, loadCellsFrom]
  · rw [ho hm]
    obtain ⟨v', w', h2, h3, h4, _, h5⟩ := run_append_own_at w base t ty e i z size bytes ht hi hz hsize hby hzs hsz v n xs hown a m c news hl hnews h1 h63 hbytes hbase
    obtain ⟨o', ad, c', rfl, _⟩ := own_form h3
    exact ⟨o', c', w', h2, h3, h4, h5⟩
theorem wpList_append_row_at {ops : Array Oper} {rest : List Oper} {o : Oper} {a : Act} {Q : Exit → Act → World → Prop} (hgd : o.guard = none) (s x : Operand) (t : TypeId)
    (ho : o.op = .call { callee := .builtin .append, args := #[s, x], argTypes := #[t, t] })
    (base : Nat) (e : TypeId) (i : TypeInfo) (z : Value) (size bytes : Nat) (ht : P.underlying t = some (.slice e)) (hi : P.info? e = some i) (hz : i.zero = some z)
    (hsize : i.size = size) (hby : i.bytes = bytes) (hzs : z.cells.size = size) (hsz : 0 < size)
    (v : Value) (n : Nat) (xs : List Value) (hs : a.eval s = v) (hown : w.ownsRow base e size v n xs)
    (oo : Option Addr) (ad : Addr) (m c : Nat) (news : List Value) (hx : a.eval x = .slice oo m c) (hoo : 0 < m → oo = some ad) (hl : news.length = m * size) (hnews : ∀ j u, news[j]? = some u → w.cell? (ad.add j) = some u) (h1 : ∀ u ∈ news, u.oneCell' = true)
    (h63 : n + m ≤ maxLen) (hbytes : (n + m) * bytes ≤ 140737488355328) (hbase : base ≤ w.heap.size)
    (h : ∀ o' c' w', w'.ownsRow base e size (.slice o' (n + m) c') (n + m) (xs ++ news) → w.grownBy w' v.ownBlock → ((Value.slice o' (n + m) c').ownBlock = v.ownBlock ∨ (Value.slice o' (n + m) c').ownBlock = some w.heap.size) → wpList P ops Q rest (a.put o.dst (.slice o' (n + m) c')) w') : wpList P ops Q (o :: rest) a w := by
  refine wpList_plain hgd fun K hK => ?_
  obtain ⟨o', c', w', hr, h2, h3, h4⟩ := run_append_row_at (P := P) (w := w) base t o.type e i z size bytes ht hi hz hsize hby hzs hsz v n xs hown oo ad m c hoo news hl hnews h1 h63 hbytes hbase
  unfold Oper.wp execOp
  simp only [ho, resolve, invoke, builtin, Sem.run_bind, Sem.run_pure, Result.andThen_ok, List.map_toArray, List.map_cons, List.map_nil, hs, hx, hr]
  exact hK _ _ (h o' c' w' h2 h3 h4)
/-- 'append' of any row to an own one, as a step of a region that draws. -/
theorem step_append_row {ops : Array Oper} {o : Oper} {a : Act} {K : Act → World → Prop} {Q : Exit → Act → World → Prop} {E : Prop} (hgd : o.guard = none) (s x : Operand) (t : TypeId)
    (ho : o.op = .call { callee := .builtin .append, args := #[s, x], argTypes := #[t, t] })
    (base : Nat) (e : TypeId) (i : TypeInfo) (z : Value) (size bytes : Nat) (ht : P.underlying t = some (.slice e)) (hi : P.info? e = some i) (hz : i.zero = some z)
    (hsize : i.size = size) (hby : i.bytes = bytes) (hzs : z.cells.size = size) (hsz : 0 < size)
    (v : Value) (n : Nat) (xs : List Value) (hs : a.eval s = v) (hown : w.ownsRow base e size v n xs)
    (oo : Option Addr) (ad : Addr) (m c : Nat) (news : List Value) (hx : a.eval x = .slice oo m c) (hoo : 0 < m → oo = some ad) (hl : news.length = m * size) (hnews : ∀ j u, news[j]? = some u → w.cell? (ad.add j) = some u) (h1 : ∀ u ∈ news, u.oneCell' = true)
    (h63 : n + m ≤ maxLen) (hbytes : (n + m) * bytes ≤ 140737488355328) (hbase : base ≤ w.heap.size)
    (h : ∀ o' c' w', w'.ownsRow base e size (.slice o' (n + m) c') (n + m) (xs ++ news) → w.grownBy w' v.ownBlock → ((Value.slice o' (n + m) c').ownBlock = v.ownBlock ∨ (Value.slice o' (n + m) c').ownBlock = some w.heap.size) → K (a.put o.dst (.slice o' (n + m) c')) w') :
    if Region.wanted o (yielded ops a.tmps) = true then Oper.wp P o a w K Q else E := by
  have hw : Region.wanted o (yielded ops a.tmps) = true := by simp [Region.wanted, hgd]
  rw [if_pos hw]
  obtain ⟨o', c', w', hr, h2, h3, h4⟩ := run_append_row_at (P := P) (w := w) base t o.type e i z size bytes ht hi hz hsize hby hzs hsz v n xs hown oo ad m c hoo news hl hnews h1 h63 hbytes hbase
  unfold Oper.wp execOp
  simp only [ho, resolve, invoke, builtin, Sem.run_bind, Sem.run_pure, Result.andThen_ok, List.map_toArray, List.map_cons, List.map_nil, hs, hx, hr]
  exact h o' c' w' h2 h3 h4
end
theorem la_lt {W : World} {S : Nat → Prop} : ∀ (l : List V) (xs : List Value), isVsLa W S l xs → isVsLa W (fun q => S q ∧ q < W.heap.size) l xs
  | [], _, h => h
  | x :: t, xs, h => by
    unfold isVsLa at h ⊢
    obtain ⟨c0, c1, c2, c3, c4, c5, rest, rfl, hx, ht⟩ := h
    exact ⟨c0, c1, c2, c3, c4, c5, rest, rfl, isVa_lt x _ hx, la_lt t _ ht⟩
end Go.Proofs.YtllkcldckehipaaGreatDoor

namespace Go.Proofs.YtllkcldckehipaaGreatDoor
open Go.RowKit Go.Shelf

/-- What a sorting of a part gives. -/
def SortC (x : V) (u : Value) (w1 : World) : Prop :=
  Calls Tryz.prog 30 #[u] w1 fun e w' => ∃ v', e = .returned v' ∧ isVa w' (fun q => w1.heap.size ≤ q) (psortV x) v' ∧ Below w1.heap.size w1 w'

theorem box_set4 {w : World} {b : Nat} {c0 c1 c2 c3 c4 c5 : Value} {t : TypeId} (u : Value) (h : w.heap[b]? = some (.cells #[c0, c1, c2, c3, c4, c5] t (0, 0))) :
    ∃ y, ((∃ u, w.cell? ⟨b, 4, none⟩ = some u) ∧ w.frozen? ⟨b, 4, none⟩ = false ∧ w.setCell ⟨b, 4, none⟩ u = y) ∧ y.heap[b]? = some (.cells #[c0, c1, c2, c3, u, c5] t (0, 0)) ∧ w.grownBy y (some b) := by
  have h1 : (w.setCell ⟨b, 4, none⟩ u).heap[b]? = some (.cells #[c0, c1, c2, c3, u, c5] t (0, 0)) := by simp [World.setCell, Array.getElem?_modify, h]
  have g1 := rowIs_six h
  exact ⟨_, ⟨⟨_, g1.cell (show 4 < 6 by decide)⟩, g1.frozen _, rfl⟩, h1, grown_set _ _ _ _⟩
theorem box_set5 {w : World} {b : Nat} {c0 c1 c2 c3 c4 c5 : Value} {t : TypeId} (u : Value) (h : w.heap[b]? = some (.cells #[c0, c1, c2, c3, c4, c5] t (0, 0))) :
    ∃ y, ((∃ u, w.cell? ⟨b, 5, none⟩ = some u) ∧ w.frozen? ⟨b, 5, none⟩ = false ∧ w.setCell ⟨b, 5, none⟩ u = y) ∧ y.heap[b]? = some (.cells #[c0, c1, c2, c3, c4, u] t (0, 0)) ∧ w.grownBy y (some b) := by
  have h1 : (w.setCell ⟨b, 5, none⟩ u).heap[b]? = some (.cells #[c0, c1, c2, c3, c4, u] t (0, 0)) := by simp [World.setCell, Array.getElem?_modify, h]
  have g1 := rowIs_six h
  exact ⟨_, ⟨⟨_, g1.cell (show 5 < 6 by decide)⟩, g1.frozen _, rfl⟩, h1, grown_set _ _ _ _⟩

/-- Where the parts lie: apart from both rows of the call's own. -/
def Apt (w : World) (ol : Option Addr) (n cl : Nat) (ok : Option Addr) (m ck : Nat) (q : Nat) : Prop := w.heap.size + 3 ≤ q ∧ some q ≠ (Value.slice ol n cl).ownBlock ∧ some q ≠ (Value.slice ok m ck).ownBlock
/-- What lies there between two rounds: the value's box, the result's cell, what is gathered. -/
def SGx (w : World) (cs zs : Array Value) (c0 c1 c2 c3 : Value) (L : List V) (K : List ByteArray) (ol : Option Addr) (cl : Nat) (ok : Option Addr) (ck : Nat) (xs : List Value) (wr : World) : Prop :=
  Below w.heap.size w wr ∧ wr.heap[w.heap.size]? = some (.cells cs 26 (0, 0)) ∧ wr.heap[w.heap.size + 1]? = some (.cells zs 26 (0, 0)) ∧
  wr.heap[w.heap.size + 1 + 1]? = some (.cells #[c0, c1, c2, c3, .slice ol L.length cl, .slice ok K.length ck] 26 (0, 0)) ∧
  wr.ownsRow (w.heap.size + 3) 26 6 (.slice ol L.length cl) L.length xs ∧ wr.ownsRow (w.heap.size + 3) 9 1 (.slice ok K.length ck) K.length (K.map Value.string) ∧
  isVsLa wr (Apt w ol L.length cl ok K.length ck) L xs
def SG (w : World) (cs zs : Array Value) (c0 c1 c2 c3 : Value) (L : List V) (K : List ByteArray) (wr : World) : Prop := ∃ ol cl ok ck xs, SGx w cs zs c0 c1 c2 c3 L K ol cl ok ck xs wr
theorem own_high {w : World} {base : Nat} {e : TypeId} {sz n : Nat} {v : Value} {xs : List Value} (h : w.ownsRow base e sz v n xs) {q : Nat} (hq : some q = v.ownBlock) : base ≤ q ∧ q < w.heap.size := h.lt q hq.symm
/-- Rows of two types are apart. -/
theorem own_apart {w : World} {b1 b2 : Nat} {e1 e2 : TypeId} {s1 s2 n1 n2 : Nat} {v1 v2 : Value} {xs ys : List Value} (h : w.ownsRow b1 e1 s1 v1 n1 xs) (k : w.ownsRow b2 e2 s2 v2 n2 ys) (hne : e1 ≠ e2) : v1.ownBlock = none ∨ v1.ownBlock ≠ v2.ownBlock := by
  rcases h.2 with ⟨rfl, _⟩ | ⟨g, cap, cur, rfl, _, r, _⟩
  · exact .inl rfl
  · refine .inr fun e => ?_
    rcases k.2 with ⟨rfl, _⟩ | ⟨g', cap', cur', rfl, _, r', _⟩
    · cases e
    · simp only [Value.ownBlock, Option.some.injEq] at e
      subst e
      rw [r] at r'
      simp only [Option.some.injEq, Obj.cells.injEq] at r'
      exact hne r'.2.1
theorem SGx.below {w wr wr' : World} {cs zs : Array Value} {c0 c1 c2 c3 : Value} {L : List V} {K : List ByteArray} {ol ok : Option Addr} {cl ck : Nat} {xs : List Value} (h : SGx w cs zs c0 c1 c2 c3 L K ol cl ok ck xs wr) (hb : Below wr.heap.size wr wr') : SGx w cs zs c0 c1 c2 c3 L K ol cl ok ck xs wr' := by
  obtain ⟨h1, h2, h3, h4, h5, h6, h7⟩ := h
  have hg : wr.grownBy wr' none := grown_bel hb
  refine ⟨h1.trans (hb.mono h1.size), ?_, ?_, ?_, h5.kept hg (by cases (Value.slice ol L.length cl).ownBlock <;> simp), h6.kept hg (by cases (Value.slice ok K.length ck).ownBlock <;> simp), la_keep (fun a c _ hc => cell_below hb _ _ hc) _ _ h7⟩
  · exact (hb.block _ (Array.getElem?_eq_some_iff.1 h2).1).trans h2
  · exact (hb.block _ (Array.getElem?_eq_some_iff.1 h3).1).trans h3
  · exact (hb.block _ (Array.getElem?_eq_some_iff.1 h4).1).trans h4
/-- One more part behind the others. -/
theorem SGx.push {w wr w8 y : World} {cs zs : Array Value} {c0 c1 c2 c3 : Value} {L : List V} {K : List ByteArray} {ol ok o' : Option Addr} {cl ck c' : Nat} {xs : List Value} {x : V} {d0 d1 d2 d3 d4 d5 : Value} {B : Nat → Prop}
    (h : SGx w cs zs c0 c1 c2 c3 L K ol cl ok ck xs wr) (hx : isVa wr B x (.agg #[d0, d1, d2, d3, d4, d5])) (hB : ∀ q, B q → Apt w ol L.length cl ok K.length ck q)
    (hown : w8.ownsRow (w.heap.size + 3) 26 6 (.slice o' (L.length + 1) c') (L.length + 1) (xs ++ [d0, d1, d2, d3, d4, d5])) (hg : wr.grownBy w8 (Value.slice ol L.length cl).ownBlock)
    (hat : (Value.slice o' (L.length + 1) c').ownBlock = (Value.slice ol L.length cl).ownBlock ∨ (Value.slice o' (L.length + 1) c').ownBlock = some wr.heap.size)
    (hy : y.heap[w.heap.size + 1 + 1]? = some (.cells #[c0, c1, c2, c3, .slice o' (L.length + 1) c', .slice ok K.length ck] 26 (0, 0))) (hgy : w8.grownBy y (some (w.heap.size + 1 + 1))) :
    SG w cs zs c0 c1 c2 c3 (L ++ [x]) K y := by
  obtain ⟨h1, h2, h3, h4, h5, h6, h7⟩ := h
  have hz : w.heap.size + 1 + 1 < wr.heap.size := (Array.getElem?_eq_some_iff.1 h4).1
  have hlen : (L ++ [x]).length = L.length + 1 := by simp
  have hrow : ∀ q, q < w.heap.size + 3 → some q ≠ (Value.slice ol L.length cl).ownBlock := fun q hq e => by have := own_high h5 e; omega
  have hkrow : ∀ q, q < w.heap.size + 3 → some q ≠ (Value.slice ok K.length ck).ownBlock := fun q hq e => by have := own_high h6 e; omega
  have key : ∀ a c, (Apt w ol L.length cl ok K.length ck a.block ∧ a.block < wr.heap.size) → wr.cell? a = some c → y.cell? a = some c := fun a c hq hc => hgy.cell (hg.cell hc hq.1.2.1) (fun e => by have := Option.some.inj e; have := hq.1.1; omega)
  refine ⟨o', c', ok, ck, xs ++ [d0, d1, d2, d3, d4, d5], (h1.grown hg h1.size (fun r e => by have := h5.lt r e; omega)).grown hgy (by have := h1.size; have := hg.size; omega) (fun r e => by cases e; omega), ?_, ?_, ?_, ?_, ?_, ?_⟩
  · exact (hgy.block _ (by have := hg.size; omega) (fun e => by have := Option.some.inj e; omega)).trans ((hg.block _ (by omega) (hrow _ (by omega))).trans h2)
  · exact (hgy.block _ (by have := hg.size; omega) (fun e => by have := Option.some.inj e; omega)).trans ((hg.block _ (by omega) (hrow _ (by omega))).trans h3)
  · rw [hlen]; exact hy
  · rw [hlen]
    exact hown.kept hgy (.inr fun e => by have := hown.lt _ e; omega)
  · refine (h6.kept hg ?_).kept hgy (.inr fun e => by have := h6.lt _ e; omega)
    exact own_apart h6 h5 (by decide)
  · rw [hlen]
    have hS : ∀ q, (Apt w ol L.length cl ok K.length ck q ∧ q < wr.heap.size) → Apt w o' (L.length + 1) c' ok K.length ck q := fun q hq => ⟨hq.1.1, fun e => by
      rcases hat with e' | e'
      · exact hq.1.2.1 (e.trans e')
      · have := Option.some.inj (e.trans e'); omega, hq.1.2.2⟩
    refine la_mono hS _ _ (la_app _ _ _ _ (la_keep key _ _ (la_lt _ _ h7)) (la_single (isVa_keep key _ _ (isVa_mono (fun q hq => ⟨hB q hq.1, hq.2⟩) _ _ (isVa_lt _ _ hx)))))

/-- What is gathered is a value. -/
theorem SGx.result {w wr y : World} {cs zs : Array Value} {k n : Int} {b : Bool} {s : ByteArray} {L : List V} {K : List ByteArray} {ol ok : Option Addr} {cl ck : Nat} {xs : List Value} (h : SGx w cs zs (.int .i8 k) (.bool b) (.int .i64 n) (.string s) L K ol cl ok ck xs wr) (hg : wr.grownBy y (some (w.heap.size + 1)))
    (hk : -128 ≤ k ∧ k ≤ 127) (hn : -9223372036854775808 ≤ n ∧ n ≤ 9223372036854775807) (hs : s.size ≤ maxLen) (hK : ∀ q ∈ K, q.size ≤ maxLen) :
    isVa y (fun q => w.heap.size ≤ q) (.mk k b n s L K) (.agg #[.int .i8 k, .bool b, .int .i64 n, .string s, .slice ol L.length cl, .slice ok K.length ck]) := by
  obtain ⟨h1, h2, h3, h4, h5, h6, h7⟩ := h
  have h5' := h5.kept hg (.inr fun e => by have := h5.lt _ e; omega)
  have h6' := h6.kept hg (.inr fun e => by have := h6.lt _ e; omega)
  have h7' := la_mono (S' := fun q => w.heap.size ≤ q) (fun q hq => by have := hq.1; omega) _ _ (la_keep (fun a c hq hc => hg.cell hc (fun e => by have := Option.some.inj e; have := hq.1; omega)) _ _ h7)
  obtain ⟨o, ad, c, e1, e2, e3, e4, e5, e6⟩ := own_form h5'
  obtain ⟨o2, ad2, c2, f1, f2, f3, f4, f5, f6⟩ := own_form h6'
  simp only [Value.slice.injEq, true_and] at e1 f1
  obtain ⟨rfl, rfl⟩ := e1
  obtain ⟨rfl, rfl⟩ := f1
  unfold isVa
  refine ⟨_, _, rfl, hk, hn, hs, ⟨ad, cl, ⟨ol, rfl, e2, e3, e4⟩, fun h0 => ?_, la_vas L xs ad h7' e6⟩, ⟨ad2, ck, ⟨ok, rfl, f2, f3, f4⟩, fun h0 => ?_, fun i hi => ⟨f6 i _ (by rw [List.getElem?_map, List.getElem?_eq_getElem hi]; rfl), hK _ (List.getElem_mem hi)⟩⟩⟩
  · have e := e4 h0
    subst e
    have := h5.lt ad.block rfl
    omega
  · have e := f4 h0
    subst e
    have := h6.lt ad2.block rfl
    omega
theorem SGx.bel {w wr y : World} {cs zs : Array Value} {c0 c1 c2 c3 : Value} {L : List V} {K : List ByteArray} {ol ok : Option Addr} {cl ck : Nat} {xs : List Value} (h : SGx w cs zs c0 c1 c2 c3 L K ol cl ok ck xs wr) (hg : wr.grownBy y (some (w.heap.size + 1))) : Below w.heap.size w y :=
  h.1.grown hg h.1.size (fun r e => by cases e; omega)
/-- A list is sorted part by part; what has no part is sorted. -/
theorem psort_list {k n : Int} {b : Bool} {s : ByteArray} {l : List V} (hk : k = 4 ∨ l = []) (ho : onceV (.mk k b n s l [])) : psortV (.mk k b n s l []) = .mk k b n s (l.map psortV) [] := by
  refine (psort_eq (SortR.mk k b n s l [] (l.map psortV) [] (List.range l.length) ⟨List.Perm.refl _, fun _ => rfl, fun h i j hi hj => ?_⟩ (by simp) (fun i h => ?_) ?_) ho).symm
  · rcases hk with e | e
    · have : k = 5 := h
      omega
    · subst e; simp at hj
  · have hi : i < l.length := by simpa using h
    have e : (List.range l.length).getD i 0 = i := by rw [List.getD, List.getElem?_range hi]; rfl
    rw [e, getD_lt _ _ _ hi, List.getElem_map]
    exact sort_p _
  · split
    · rcases hk with e | e
      · omega
      · subst e; rfl
    · rfl

set_option maxRecDepth 100000 in
set_option maxHeartbeats 8000000 in
theorem rsorted4 (k : Int) (b : Bool) (n : Int) (s : ByteArray) (l : List V) (hk4 : k = 4 ∨ l = []) (v : Value) (w : World) (h : isV w (.mk k b n s l []) v) (hll : l.length ≤ 1000000)
    (IH : Hid (∀ i (hi : i < l.length) u w1, KB w w1 → isV w1 l[i] u → SortC l[i] u w1)) (ho4 : onceV (.mk k b n s l [])) : SortC (.mk k b n s l []) v w := by
  have HX := Lib.hid h
  unfold isV at h
  obtain ⟨lv, kv, rfl, hk, hn, hs, ⟨a, cap, ⟨o, rfl, hc1, hc2, ho⟩, hvs⟩, ⟨a2, cap2, ⟨o2, rfl, hc3, hc4, ho2⟩, hks⟩⟩ := h
  have HV := Lib.hid hvs
  have HN := Lib.hid (And.intro hk (And.intro hn hs))
  have HK4 := Lib.hid hk4
  unfold maxLen at hs hc2 hc4
  obtain ⟨i0, hi, hz0, hz1, hz2⟩ := info_parts infoV
  clear hvs hks hn hk hk4
  obtain ⟨cs, hcs⟩ : ∃ cs : Array Value, #[.int .i8 k, .bool b, .int .i64 n, .string s, .slice o l.length cap, .slice o2 ([] : List ByteArray).length cap2] = cs := ⟨_, rfl⟩
  have hsg : SGx w #[.int .i8 k, .bool b, .int .i64 n, .string s, .slice o l.length cap, .slice o2 ([] : List ByteArray).length cap2] #[.int .i8 0, .bool false, .int .i64 0, .string ⟨#[]⟩, .slice none 0 0, .slice none 0 0] (.int .i8 k) (.bool b) (.int .i64 n) (.string s) [] [] none 0 none 0 []
      (((w.alloc (.cells #[.int .i8 k, .bool b, .int .i64 n, .string s, .slice o l.length cap, .slice o2 ([] : List ByteArray).length cap2] 26)).alloc (.cells #[.int .i8 0, .bool false, .int .i64 0, .string ⟨#[]⟩, .slice none 0 0, .slice none 0 0] 26)).alloc (.cells #[.int .i8 k, .bool b, .int .i64 n, .string s, .slice none 0 0, .slice none 0 0] 26)) := by
    refine ⟨by go_grown, ?_, ?_, ?_, World.ownsRow_nil _ _ _ _, World.ownsRow_nil _ _ _ _, rfl⟩
    · exact (Below.heap_alloc _ _ _ (by simp; omega)).trans ((Below.heap_alloc _ _ _ (by simp)).trans (World.alloc_heap_new w _))
    · have := World.alloc_heap_new (w.alloc (.cells #[.int .i8 k, .bool b, .int .i64 n, .string s, .slice o l.length cap, .slice o2 ([] : List ByteArray).length cap2] 26)) (.cells #[.int .i8 0, .bool false, .int .i64 0, .string ⟨#[]⟩, .slice none 0 0, .slice none 0 0] 26)
      rw [World.size_alloc] at this
      exact (Below.heap_alloc _ _ _ (by simp)).trans this
    · have := World.alloc_heap_new ((w.alloc (.cells #[.int .i8 k, .bool b, .int .i64 n, .string s, .slice o l.length cap, .slice o2 ([] : List ByteArray).length cap2] 26)).alloc (.cells #[.int .i8 0, .bool false, .int .i64 0, .string ⟨#[]⟩, .slice none 0 0, .slice none 0 0] 26)) (.cells #[.int .i8 k, .bool b, .int .i64 n, .string s, .slice none 0 0, .slice none 0 0] 26)
      rw [World.size_alloc, World.size_alloc] at this
      exact this
  clear hcs
  unfold SortC
  go_enter Tryz.func30, Tryz.ntmps30
  go_wp2_with fail
  have HSG := Lib.hid hsg
  clear hsg
  simp only [List.length_nil] at HSG
  generalize hW1 : ((w.alloc (.cells #[.int .i8 k, .bool b, .int .i64 n, .string s, .slice o l.length cap, .slice o2 0 cap2] 26)).alloc (.cells #[.int .i8 0, .bool false, .int .i64 0, .string ⟨#[]⟩, .slice none 0 0, .slice none 0 0] 26)).alloc (.cells #[.int .i8 k, .bool b, .int .i64 n, .string s, .slice none 0 0, .slice none 0 0] 26) = W1 at *
  clear hW1
  go_loopw [4] (fun i wr => ∃ j : Nat, j ≤ l.length ∧ i = .int .i64 j ∧ Hid (SG w #[.int .i8 k, .bool b, .int .i64 n, .string s, .slice o l.length cap, .slice o2 0 cap2] #[.int .i8 0, .bool false, .int .i64 0, .string ⟨#[]⟩, .slice none 0 0, .slice none 0 0] (.int .i8 k) (.bool b) (.int .i64 n) (.string s) ((l.take j).map psortV) [] wr)) (fun i _ => l.length - (intOf i).toNat)
  case atStart => exact ⟨0, by omega, rfl, Lib.hid ⟨_, _, _, _, _, HSG.out⟩⟩
  case round =>
    obtain ⟨j, hj, rfl, hR⟩ := hrel
    obtain ⟨ol, cl, ok, ck, xs, hS⟩ := hR.out
    have HLL : Hid (((l.take j).map psortV).length = j) := Lib.hid (by simp; omega)
    obtain ⟨r0, r1, r2, r3, r4, r5⟩ := six_cells hS.2.1
    obtain ⟨q0, q1, q2, q3, q4, q5⟩ := six_cells hS.2.2.2.1
    have hzw := (Array.getElem?_eq_some_iff.1 hS.2.2.2.1).1
    by_cases hlt : j < l.length
    · obtain rfl : k = 4 := HK4.out.resolve_right (fun e => by subst e; simp at hlt)
      have b1 : decide ((j : Int) < (l.length : Int)) = true := decide_eq_true (by omega)
      obtain rfl := ho (by omega)
      obtain ⟨k1', b1', n1', s1', o1', m1', p1', o2', m2', p2', g0, g1, g2, g3, g4, g5, hx⟩ := isVs_sl l a j hlt (isVs_keep (cell_below hS.1) l _ HV.out)
      have HC := Lib.hid (IH.out j hlt _ wr hS.1 hx)
      have hnx : (l.take (j + 1)).map psortV = (l.take j).map psortV ++ [psortV l[j]] := by rw [List.take_succ_eq_append_getElem hlt, List.map_append]; rfl
      have HNX := Lib.hid hnx
      have HS := Lib.hid hS
      clear hx hnx hS hR
      generalize l[j] = xe at *
      generalize (l.take j).map psortV = L at *
      go_wp2_with fail
      refine HC.out.mono ?_
      rintro e w7 ⟨v', rfl, hv', hb7⟩
      have hS7 := HS.out.below hb7
      have hB7 : ∀ q, wr.heap.size ≤ q → Apt w ol L.length cl ok ([] : List ByteArray).length ck q := fun q hq => ⟨by omega, fun e => by have := own_high HS.out.2.2.2.2.1 e; omega, fun e => by have := own_high HS.out.2.2.2.2.2.1 e; omega⟩
      have HB7 := Lib.hid hB7
      have hzz := hb7.size
      obtain ⟨k6, b6, n6, s6, o6, m6, p6, o7, m7, p7, rfl⟩ := isV_six (isV_of_a _ _ hv')
      clear HC HS hb7 hB7 r0 r1 r2 r3 r4 r5 q0 q1 q2 q3 q4 q5 g0 g1 g2 g3 g4 g5
      have hb1 : Below w7.heap.size w7 (w7.alloc (.cells #[.int .i8 k6, .bool b6, .int .i64 n6, .string s6, .slice o6 m6 p6, .slice o7 m7 p7] 26)) := by go_grown
      obtain ⟨r0, r1, r2, r3, r4, r5⟩ := six_cells (hS7.below hb1).2.1
      obtain ⟨q0, q1, q2, q3, q4, q5⟩ := six_cells (hS7.below hb1).2.2.2.1
      obtain ⟨t0, t1, t2, t3, t4, t5⟩ := six_cells (World.alloc_heap_new w7 (.cells #[.int .i8 k6, .bool b6, .int .i64 n6, .string s6, .slice o6 m6 p6, .slice o7 m7 p7] 26))
      have hbl : Below w7.heap.size w7 ((w7.alloc (.cells #[.int .i8 k6, .bool b6, .int .i64 n6, .string s6, .slice o6 m6 p6, .slice o7 m7 p7] 26)).alloc (.cells #[.int .i8 k6, .bool b6, .int .i64 n6, .string s6, .slice o6 m6 p6, .slice o7 m7 p7] 26)) := by go_grown
      have HS9 := Lib.hid (hS7.below hbl)
      have HV9 := Lib.hid (isVa_keep (fun a c _ hc => cell_below hbl _ _ hc) _ _ hv')
      have hz1' : (w7.alloc (.cells #[.int .i8 k6, .bool b6, .int .i64 n6, .string s6, .slice o6 m6 p6, .slice o7 m7 p7] 26)).heap.size = w7.heap.size + 1 := by simp
      have hnews := (World.ownsRow_lit (base := 0) (e := 26) (size := 6) (w7.alloc (.cells #[.int .i8 k6, .bool b6, .int .i64 n6, .string s6, .slice o6 m6 p6, .slice o7 m7 p7] 26)) #[.int .i8 k6, .bool b6, .int .i64 n6, .string s6, .slice o6 m6 p6, .slice o7 m7 p7] 1 (Nat.zero_le _) (by unfold maxLen; omega) rfl).cells rfl
      rw [hz1'] at hnews
      have HNEWS := Lib.hid hnews
      have HZ9 : Hid (w.heap.size + 3 ≤ ((w7.alloc (.cells #[.int .i8 k6, .bool b6, .int .i64 n6, .string s6, .slice o6 m6 p6, .slice o7 m7 p7] 26)).alloc (.cells #[.int .i8 k6, .bool b6, .int .i64 n6, .string s6, .slice o6 m6 p6, .slice o7 m7 p7] 26)).heap.size) := Lib.hid (by simp; omega)
      have HONE := Lib.hid (isV_one (isV_of_a _ _ hv'))
      clear hbl hz1' hnews hv' hb1
      go_wp2_with (at_builtin; refine wpList_append_row_at rfl _ _ 23 rfl (w.heap.size + 3) 26 i0 _ 6 80 Tryz.underlying23 hi hz0 hz1 hz2 rfl (by decide) _ _ _ rfl HS9.out.2.2.2.2.1 _ _ _ _ [.int .i8 k6, .bool b6, .int .i64 n6, .string s6, .slice o6 m6 p6, .slice o7 m7 p7] rfl (fun _ => rfl) rfl HNEWS.out HONE.out ?c3 ?c4 HZ9.out ?_)
      case c3 => have := HLL.out; unfold maxLen; omega
      case c4 => have := HLL.out; omega
      intro o' c' w8 hown' hgrow hat
      have hb8 := (hgrow.block (w.heap.size + 1 + 1) (Array.getElem?_eq_some_iff.1 HS9.out.2.2.2.1).1 (fun e => by have := own_high HS9.out.2.2.2.2.1 e; omega)).trans HS9.out.2.2.2.1
      obtain ⟨y, ⟨⟨_, f1⟩, f2, f3⟩, hy, hgy⟩ := box_set4 (.slice o' (L.length + 1) c') hb8
      have HSG := Lib.hid (SGx.push HS9.out HV9.out HB7.out hown' hgrow (by rw [World.size_alloc, World.size_alloc]; exact hat) hy hgy)
      clear hb8 hy hgy hown' hgrow hat
      go_wp2_with fail
      go_roundw
      case rel => exact ⟨j + 1, by omega, by go_num, Lib.hid (by rw [HNX.out]; exact HSG.out)⟩
      case measure => simp [intOf]; omega
    · obtain rfl : j = l.length := by omega
      rw [List.take_length] at *
      obtain ⟨x1, x2, x3, x4, x5, x6, f', ⟨⟨_, t1⟩, t1', t1''⟩, ⟨⟨_, t2⟩, t2', t2''⟩, ⟨⟨_, t3⟩, t3', t3''⟩, ⟨⟨_, t4⟩, t4', t4''⟩, ⟨⟨_, t5⟩, t5', t5''⟩, ⟨⟨_, t6⟩, t6', t6''⟩, hf7, hg7, e0, e1, e2, e3, e4, e5, -⟩ := store_six (rowIs_six hS.2.2.1) 0 (by decide) (.int .i8 k) (.bool b) (.int .i64 n) (.string s) (.slice ol (l.map psortV).length cl) (.slice ok 0 ck) (by intro u hu; simp only [List.mem_cons, List.not_mem_nil, or_false] at hu; rcases hu with rfl | rfl | rfl | rfl | rfl | rfl <;> rfl)
      simp only [Nat.zero_add] at t2 t2' t2'' t3 t3' t3'' t4 t4' t4'' t5 t5' t5'' t6 t6' t6'' e1 e2 e3 e4 e5
      have d0 := hf7.cell (show 0 < 6 by decide)
      have d1 := hf7.cell (show 1 < 6 by decide)
      have d2 := hf7.cell (show 2 < 6 by decide)
      have d3 := hf7.cell (show 3 < 6 by decide)
      have d4 := hf7.cell (show 4 < 6 by decide)
      have d5 := hf7.cell (show 5 < 6 by decide)
      rw [e0] at d0
      rw [e1] at d1
      rw [e2] at d2
      rw [e3] at d3
      rw [e4] at d4
      rw [e5] at d5
      have HD := Lib.hid (And.intro d0 (And.intro d1 (And.intro d2 (And.intro d3 (And.intro d4 d5)))))
      have HEND := Lib.hid (And.intro (hS.result hg7 HN.out.1 HN.out.2.1 HN.out.2.2 (fun q hq => by cases hq)) (hS.bel hg7))
      have HPS := Lib.hid (psort_list HK4.out ho4)
      clear hf7 hg7 e0 e1 e2 e3 e4 e5 d0 d1 d2 d3 d4 d5 hR hS
      generalize l.map psortV = L at *
      have b1 : decide ((l.length : Int) < (l.length : Int)) = false := decide_eq_false (by omega)
      go_wp2_with fail
      obtain ⟨d0, d1, d2, d3, d4, d5⟩ := HD.out
      refine bodyPost_ret (v := .agg #[.int .i8 k, .bool b, .int .i64 n, .string s, .slice ol L.length cl, .slice ok 0 ck]) (by simp [results, Tryz.results30, go_sem, d0, d1, d2, d3, d4, d5]) rfl ?_
      exact ⟨_, rfl, by rw [HPS.out]; exact HEND.out.1, HEND.out.2⟩
end Go.Proofs.YtllkcldckehipaaGreatDoor
