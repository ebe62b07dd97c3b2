/-
  Blanks and line ends; a row to which another row is appended. · Rows of the call's own that hold values and keys, as they grow in place. For the reference's sorted. · The plain mathematics of numbers as texts: digits, their value, what a scan answers; lists and integers alone. · The closure of number.Text that writes the digits one behind another, by a contract of its own; the digits of the reference. · Contracts of Fits, Digit, Text, Len, of package number. · Contracts of misplaced and worth, of package number. · The contract of worth, of package number. · The contracts of Scan and Read, of package number. · What follows, in plain mathematics: a number's text is read as it, wherever it stands; what is read has just that text; the texts' order.
-/
import Derived.Test.YtkigeegahepnaaaGreatDoorGD
import Derived.Test.YtkigeegahepnaaaGreatDoorGE
import Derived.Deep.AppendLies
import Derived.Laws.OwnMore
import Derived.Laws.AppendOwn
import Derived.Lib.AppendIntMem
import Derived.IntWalk
import Derived.Test.YtkigeegahepnaaaGreatDoorGI
import Derived.Deep.RegionLaw
import Derived.Maps.AppendAt
import Derived.Test.YtkigeegahepnaaaGreatDoorProg
import Derived.WalkKit
import Derived.ProofKit
import Derived.Below
import Derived.Handy
import Derived.Deep.QuietTactic
import Derived.BigQuiet
import Derived.Lib.Hide
import Derived.Laws.IdiomStrings
import Derived.Laws.EntriesVeiled
import Derived.Test.YtkigeegahepnaaaGreatDoorShelf
set_option linter.unusedVariables false
set_option linter.unusedSimpArgs false
namespace Go.Proofs.YtkigeegahepnaaaGreatDoor
open Go.RowKit

/-- Is a byte no blank and no line's end? -/
def solid (c : UInt8) : Bool := c != 32 && c != 10
def strip (l : List UInt8) : List UInt8 := l.filter solid
/-- Has a value no blank in its own texts? -/
def noB (z : V) : Prop := (∀ c ∈ z.text.data.toList, c ≠ 32) ∧ ∀ k ∈ z.keys, ∀ c ∈ k.data.toList, c ≠ 32

theorem isVsL_at {W : World} : ∀ (l : List V) (xs : List Value) (i : Nat) (h : i < l.length), isVsL W l xs → ∃ c0 c1 c2 c3 c4 c5, xs[i * 6]? = some c0 ∧ xs[i * 6 + 1]? = some c1 ∧ xs[i * 6 + 2]? = some c2 ∧ xs[i * 6 + 3]? = some c3 ∧ xs[i * 6 + 4]? = some c4 ∧ xs[i * 6 + 5]? = some c5 ∧ isV W l[i] (.agg #[c0, c1, c2, c3, c4, c5])
  | x :: t, xs, 0, _, h => by
    unfold isVsL at h
    obtain ⟨c0, c1, c2, c3, c4, c5, rest, rfl, hx, ht⟩ := h
    exact ⟨c0, c1, c2, c3, c4, c5, rfl, rfl, rfl, rfl, rfl, rfl, hx⟩
  | x :: t, xs, i + 1, hi, h => by
    unfold isVsL at h
    obtain ⟨c0, c1, c2, c3, c4, c5, rest, rfl, hx, ht⟩ := h
    obtain ⟨d0, d1, d2, d3, d4, d5, h0, h1, h2, h3, h4, h5, hy⟩ := isVsL_at t rest i (by simpa using hi) ht
    refine ⟨d0, d1, d2, d3, d4, d5, ?_, ?_, ?_, ?_, ?_, ?_, hy⟩
    · rw [show (i + 1) * 6 = i * 6 + 6 by omega]; exact h0
    · rw [show (i + 1) * 6 + 1 = i * 6 + 1 + 6 by omega]; exact h1
    · rw [show (i + 1) * 6 + 2 = i * 6 + 2 + 6 by omega]; exact h2
    · rw [show (i + 1) * 6 + 3 = i * 6 + 3 + 6 by omega]; exact h3
    · rw [show (i + 1) * 6 + 4 = i * 6 + 4 + 6 by omega]; exact h4
    · rw [show (i + 1) * 6 + 5 = i * 6 + 5 + 6 by omega]; exact h5
/-- What Walk answers: a slice of the parts. -/
theorem rw_vs {w0 w W : World} {A : List V} {v : Value} (h : RW w0 w A v W) (hA : 0 < A.length) (hb : KB w0 W) : ∃ g cap, v = .slice (some ⟨g, 0, none⟩) A.length cap ∧ isVs W A ⟨g, 0, none⟩ ∧ KB w W := by
  have hB := h.choose_spec.2.2
  obtain ⟨g, cap, rfl, xs, h1, h2, h3⟩ := h.form hA
  refine ⟨g, cap, rfl, ?_, hB⟩
  have key : ∀ (l : List V) (ys : List Value) (a : Addr), isVsL w0 l ys → (∀ j u, ys[j]? = some u → W.cell? (a.add j) = some u) → isVs W l a := by
    intro l
    induction l with
    | nil => intro _ _ _ _; unfold isVs; trivial
    | cons x t ih =>
      intro ys a hl hc
      unfold isVsL at hl
      obtain ⟨c0, c1, c2, c3, c4, c5, rest, rfl, hx, ht⟩ := hl
      unfold isVs
      refine ⟨⟨c0, c1, c2, c3, c4, c5, ?_, hc 1 _ rfl, hc 2 _ rfl, hc 3 _ rfl, hc 4 _ rfl, hc 5 _ rfl, isV_below hb hx⟩, ih rest (a.add 6) ht (fun j u hj => ?_)⟩
      · have := hc 0 c0 rfl
        simpa [Addr.add] using this
      · rw [add_add]
        exact hc (6 + j) u (by rw [Nat.add_comm]; exact hj)
  exact key A xs _ h2 h3

mutual
theorem walk_szm : ∀ (x z : V), z ∈ walkV x → sizeV z ≤ sizeV x
  | .mk k b n s l ks, z, hz => by
    rw [walkV] at hz
    rcases List.mem_cons.1 hz with rfl | hz
    · exact Nat.le_refl _
    · have := walks_szm l z hz
      rw [sizeV]
      omega
theorem walks_szm : ∀ (l : List V) (z : V), z ∈ walkVs l → sizeV z ≤ sizeVs l
  | [], z, hz => by rw [walkVs] at hz; cases hz
  | x :: t, z, hz => by
    rw [walkVs] at hz
    rw [sizeVs]
    rcases List.mem_append.1 hz with hz | hz
    · have := walk_szm x z hz; omega
    · have := walks_szm t z hz; omega
end
theorem keyS_le {ks : List ByteArray} {k : ByteArray} (h : k ∈ ks) : k.size ≤ keysS ks := by
  unfold keysS
  induction ks with
  | nil => cases h
  | cons a t ih =>
    rw [List.map_cons, List.sum_cons]
    rcases List.mem_cons.1 h with rfl | h
    · omega
    · have := ih h; omega
theorem keys_count (ks : List ByteArray) (W : World) (v : Value) (h : isK W ks v) : ks.length ≤ maxLen := by
  obtain ⟨a, cap, ⟨o, rfl, h1, h2, _⟩, _⟩ := h
  omega
section
variable {P : Program} {w : World}
theorem run_append_row (base : Nat) (t ty e : TypeId) (i : TypeInfo) (z : Value) (size bytes : Nat) (ht : P.underlying t = some (.slice e)) (hi : P.info? e = some i) (hz : i.zero = some z)
    (hsize : i.size = size) (hby : i.bytes = bytes) (hzs : z.cells.size = size) (hsz : 0 < size) (v : Value) (n : Nat) (xs : List Value) (hown : w.ownsRow base e size v n xs)
    (o : Option Addr) (a : Addr) (m c : Nat) (ho : 0 < m → o = some a) (news : List Value) (hl : news.length = m * size) (hnews : ∀ j u, news[j]? = some u → w.cell? (a.add j) = some u) (h1 : ∀ u ∈ news, u.oneCell' = true)
    (h63 : n + m ≤ maxLen) (hbytes : (n + m) * bytes ≤ 140737488355328) (hbase : base ≤ w.heap.size) :
    ∃ v' w', (Builtin.append_ #[t, t] ty #[v, .slice o m c]).run P w = .ok v' w' ∧ w'.ownsRow base e size v' (n + m) (xs ++ news) ∧ w.grownBy w' v.ownBlock := by
  rcases Nat.eq_zero_or_pos m with rfl | hm
  · have hn : news = [] := List.eq_nil_of_length_eq_zero (by rw [hl]; simp)
    subst hn
    refine ⟨v, w, ?_, by simpa using hown, ⟨rfl, rfl, rfl, Nat.le_refl _, fun _ _ _ => rfl⟩⟩
    rcases hown.2 with ⟨rfl, rfl⟩ | ⟨g, cap, cur, rfl, _, _, hnc, _⟩
    · cases o <;> simp [Builtin.append_, run_underlying ht, sizeOf, typeInfo, hi, Builtin.lenOf, Builtin.firstCells, loadCells, loadCellsFrom]
    · cases o <;> simp [Builtin.append_, run_underlying ht, sizeOf, typeInfo, hi, Builtin.lenOf, Builtin.firstCells, hnc, storeCells, loadCells, loadCellsFrom]
  · rw [ho hm]
    obtain ⟨v', w', h2, h3, h4, _⟩ := run_append_own w base t ty e i z size bytes ht hi hz hsize hby hzs hsz v n xs hown a m c news hl hnews h1 h63 hbytes hbase
    exact ⟨v', w', h2, h3, h4⟩
theorem wpList_append_row {ops : Array Oper} {rest : List Oper} {o : Oper} {a : Act} {Q : Exit → Act → World → Prop} (hgd : o.guard = none) (s x : Operand) (t : TypeId)
    (ho : o.op = .call { callee := .builtin .append, args := #[s, x], argTypes := #[t, t] })
    (base : Nat) (e : TypeId) (i : TypeInfo) (z : Value) (size bytes : Nat) (ht : P.underlying t = some (.slice e)) (hi : P.info? e = some i) (hz : i.zero = some z)
    (hsize : i.size = size) (hby : i.bytes = bytes) (hzs : z.cells.size = size) (hsz : 0 < size)
    (v : Value) (n : Nat) (xs : List Value) (hs : a.eval s = v) (hown : w.ownsRow base e size v n xs)
    (oo : Option Addr) (ad : Addr) (m c : Nat) (news : List Value) (hx : a.eval x = .slice oo m c) (hoo : 0 < m → oo = some ad) (hl : news.length = m * size) (hnews : ∀ j u, news[j]? = some u → w.cell? (ad.add j) = some u) (h1 : ∀ u ∈ news, u.oneCell' = true)
    (h63 : n + m ≤ maxLen) (hbytes : (n + m) * bytes ≤ 140737488355328) (hbase : base ≤ w.heap.size)
    (h : ∀ v' w', w'.ownsRow base e size v' (n + m) (xs ++ news) → w.grownBy w' v.ownBlock → wpList P ops Q rest (a.put o.dst v') w') : wpList P ops Q (o :: rest) a w := by
  refine wpList_plain hgd fun K hK => ?_
  obtain ⟨v', w', hr, h2, h3⟩ := run_append_row (P := P) (w := w) base t o.type e i z size bytes ht hi hz hsize hby hzs hsz v n xs hown oo ad m c hoo news hl hnews h1 h63 hbytes hbase
  unfold Oper.wp execOp
  simp only [ho, resolve, invoke, builtin, Sem.run_bind, Sem.run_pure, Result.andThen_ok, List.map_toArray, List.map_cons, List.map_nil, hs, hx, hr]
  exact hK _ _ (h v' w' h2 h3)
end
theorem infoStrB : (Tryz.prog.info? 9).map (fun i => (i.zero, i.size, i.bytes)) = some (some (.string ⟨#[]⟩), 1, 16) := by kernel_rfl
end Go.Proofs.YtkigeegahepnaaaGreatDoor

namespace Go.Proofs.YtkigeegahepnaaaGreatDoor
open Go.RowKit

/-- Cells that hold such values, each of which lies in blocks with S. -/
def isVsLa (W : World) (S : Nat → Prop) : List V → List Value → Prop
  | [], xs => xs = []
  | x :: t, xs => ∃ c0 c1 c2 c3 c4 c5 rest, xs = c0 :: c1 :: c2 :: c3 :: c4 :: c5 :: rest ∧ isVa W S x (.agg #[c0, c1, c2, c3, c4, c5]) ∧ isVsLa W S t rest
theorem la_keep {W W' : World} {S : Nat → Prop} (hc : ∀ a c, S a.block → W.cell? a = some c → W'.cell? a = some c) : ∀ (l : List V) (xs : List Value), isVsLa W S l xs → isVsLa W' S l xs
  | [], _, h => h
  | x :: t, xs, h => by
    unfold isVsLa at h ⊢
    obtain ⟨c0, c1, c2, c3, c4, c5, rest, rfl, hx, ht⟩ := h
    exact ⟨c0, c1, c2, c3, c4, c5, rest, rfl, isVa_keep hc x _ hx, la_keep hc t _ ht⟩
theorem la_mono {W : World} {S S' : Nat → Prop} (hs : ∀ q, S q → S' q) : ∀ (l : List V) (xs : List Value), isVsLa W S l xs → isVsLa W S' l xs
  | [], _, h => h
  | x :: t, xs, h => by
    unfold isVsLa at h ⊢
    obtain ⟨c0, c1, c2, c3, c4, c5, rest, rfl, hx, ht⟩ := h
    exact ⟨c0, c1, c2, c3, c4, c5, rest, rfl, isVa_mono hs x _ hx, la_mono hs t _ ht⟩
theorem la_app {W : World} {S : Nat → Prop} : ∀ (l m : List V) (xs ys : List Value), isVsLa W S l xs → isVsLa W S m ys → isVsLa W S (l ++ m) (xs ++ ys)
  | [], m, xs, ys, h, h' => by
    unfold isVsLa at h
    subst h
    exact h'
  | x :: t, m, xs, ys, h, h' => by
    unfold isVsLa at h
    obtain ⟨c0, c1, c2, c3, c4, c5, rest, rfl, hx, ht⟩ := h
    rw [List.cons_append]
    unfold isVsLa
    exact ⟨c0, c1, c2, c3, c4, c5, rest ++ ys, rfl, hx, la_app t m rest ys ht h'⟩
theorem la_len {W : World} {S : Nat → Prop} : ∀ (l : List V) (xs : List Value), isVsLa W S l xs → xs.length = l.length * 6
  | [], xs, h => by unfold isVsLa at h; subst h; rfl
  | x :: t, xs, h => by
    unfold isVsLa at h
    obtain ⟨c0, c1, c2, c3, c4, c5, rest, rfl, hx, ht⟩ := h
    have := la_len t rest ht
    simp only [List.length_cons]; omega
theorem la_one {W : World} {S : Nat → Prop} : ∀ (l : List V) (xs : List Value), isVsLa W S l xs → ∀ u ∈ xs, u.oneCell' = true
  | [], xs, h => by unfold isVsLa at h; subst h; intro u hu; cases hu
  | x :: t, xs, h => by
    unfold isVsLa at h
    obtain ⟨c0, c1, c2, c3, c4, c5, rest, rfl, hx, ht⟩ := h
    intro u hu
    have h1 := isV_one (isV_of_a _ _ hx)
    have h2 := la_one t rest ht
    simp only [List.mem_cons] at hu
    rcases hu with h | h | h | h | h | h | h
    · exact h1 u (by simp [h])
    · exact h1 u (by simp [h])
    · exact h1 u (by simp [h])
    · exact h1 u (by simp [h])
    · exact h1 u (by simp [h])
    · exact h1 u (by simp [h])
    · exact h2 u h
theorem la_cut {W : World} {S : Nat → Prop} : ∀ (l : List V) (xs : List Value) (k : Nat), isVsLa W S l xs → isVsLa W S (l.take k) (xs.take (k * 6)) ∧ isVsLa W S (l.drop k) (xs.drop (k * 6))
  | l, xs, 0, h => by
    rw [Nat.zero_mul, List.take_zero, List.take_zero, List.drop_zero, List.drop_zero]
    exact ⟨rfl, h⟩
  | [], xs, k + 1, h => by
    unfold isVsLa at h
    subst h
    simp only [List.take_nil, List.drop_nil]
    exact ⟨rfl, rfl⟩
  | x :: t, xs, k + 1, h => by
    unfold isVsLa at h
    obtain ⟨c0, c1, c2, c3, c4, c5, rest, rfl, hx, ht⟩ := h
    obtain ⟨h1, h2⟩ := la_cut t rest k ht
    rw [show (k + 1) * 6 = k * 6 + 6 by omega]
    simp only [List.take_succ_cons, List.drop_succ_cons]
    refine ⟨?_, h2⟩
    unfold isVsLa
    exact ⟨c0, c1, c2, c3, c4, c5, _, rfl, hx, h1⟩
theorem la_single {W : World} {S : Nat → Prop} {x : V} {c0 c1 c2 c3 c4 c5 : Value} (h : isVa W S x (.agg #[c0, c1, c2, c3, c4, c5])) : isVsLa W S [x] [c0, c1, c2, c3, c4, c5] := by
  unfold isVsLa
  exact ⟨c0, c1, c2, c3, c4, c5, [], rfl, h, rfl⟩
theorem la_vas {W : World} {S : Nat → Prop} : ∀ (l : List V) (ys : List Value) (a : Addr), isVsLa W S l ys → (∀ j u, ys[j]? = some u → W.cell? (a.add j) = some u) → isVas W S l a
  | [], _, _, _, _ => by unfold isVas; trivial
  | x :: t, ys, a, hl, hc => by
    unfold isVsLa at hl
    obtain ⟨c0, c1, c2, c3, c4, c5, rest, rfl, hx, ht⟩ := hl
    unfold isVas
    refine ⟨⟨c0, c1, c2, c3, c4, c5, ?_, hc 1 _ rfl, hc 2 _ rfl, hc 3 _ rfl, hc 4 _ rfl, hc 5 _ rfl, hx⟩, la_vas t rest (a.add 6) ht (fun j u hj => ?_)⟩
    · have := hc 0 c0 rfl
      simpa [Addr.add] using this
    · rw [add_add]
      exact hc (6 + j) u (by rw [Nat.add_comm]; exact hj)
/-- A row of the call's own, cut. -/
theorem own_cut {w : World} {base : Nat} {e : TypeId} {size g n cap : Nat} {xs : List Value} (h : w.ownsRow base e size (.slice (some ⟨g, 0, none⟩) n cap) n xs) (k : Nat) (hk : k ≤ n) : w.ownsRow base e size (.slice (some ⟨g, 0, none⟩) k cap) k (xs.take (k * size)) := by
  obtain ⟨h1, h2⟩ := h
  rcases h2 with ⟨hv, _⟩ | ⟨g', cap', cur, hv, r1, r2, r3, r4, r5, r6⟩
  · cases hv
  · simp only [Value.slice.injEq, Option.some.injEq, Addr.mk.injEq, and_true, true_and] at hv
    obtain ⟨rfl, rfl⟩ := hv
    have hle : k * size ≤ n * size := Nat.mul_le_mul_right size hk
    refine ⟨by rw [List.length_take, h1]; omega, .inr ⟨g, cap, cur, rfl, r1, r2, by omega, r4, r5, ?_⟩⟩
    rw [← r6, List.take_take, Nat.min_eq_left hle]
theorem own_form {w : World} {base : Nat} {e : TypeId} {size n : Nat} {v : Value} {xs : List Value} (h : w.ownsRow base e size v n xs) : ∃ o ad c, v = .slice o n c ∧ n ≤ c ∧ c ≤ maxLen ∧ (0 < n → o = some ad) ∧ (o = none → c = 0) ∧ ∀ j u, xs[j]? = some u → w.cell? (ad.add j) = some u := by
  obtain ⟨h1, h2⟩ := h
  rcases h2 with ⟨rfl, rfl⟩ | ⟨g, cap, cur, rfl, r1, r2, r3, r4, r5, r6⟩
  · refine ⟨none, ⟨0, 0, none⟩, 0, rfl, Nat.le_refl _, by unfold maxLen; omega, fun h => absurd h (by omega), fun _ => rfl, fun j u hj => ?_⟩
    have : xs = [] := List.eq_nil_of_length_eq_zero (by rw [h1]; simp)
    subst this
    simp at hj
  · refine ⟨some ⟨g, 0, none⟩, ⟨g, 0, none⟩, cap, rfl, r3, r4, fun _ => rfl, (fun h => by cases h), ?_⟩
    exact World.ownsRow.cells (v := .slice (some ⟨g, 0, none⟩) n cap) ⟨h1, .inr ⟨g, cap, cur, rfl, r1, r2, r3, r4, r5, r6⟩⟩ rfl

section
variable {P : Program} {w : World}
theorem run_append_row_at (base : Nat) (t ty e : TypeId) (i : TypeInfo) (z : Value) (size bytes : Nat) (ht : P.underlying t = some (.slice e)) (hi : P.info? e = some i) (hz : i.zero = some z)
    (hsize : i.size = size) (hby : i.bytes = bytes) (hzs : z.cells.size = size) (hsz : 0 < size) (v : Value) (n : Nat) (xs : List Value) (hown : w.ownsRow base e size v n xs)
    (o : Option Addr) (a : Addr) (m c : Nat) (ho : 0 < m → o = some a) (news : List Value) (hl : news.length = m * size) (hnews : ∀ j u, news[j]? = some u → w.cell? (a.add j) = some u) (h1 : ∀ u ∈ news, u.oneCell' = true)
    (h63 : n + m ≤ maxLen) (hbytes : (n + m) * bytes ≤ 140737488355328) (hbase : base ≤ w.heap.size) :
    ∃ o' c' w', (Builtin.append_ #[t, t] ty #[v, .slice o m c]).run P w = .ok (.slice o' (n + m) c') w' ∧ w'.ownsRow base e size (.slice o' (n + m) c') (n + m) (xs ++ news) ∧ w.grownBy w' v.ownBlock ∧ ((Value.slice o' (n + m) c').ownBlock = v.ownBlock ∨ (Value.slice o' (n + m) c').ownBlock = some w.heap.size) := by
  rcases Nat.eq_zero_or_pos m with rfl | hm
  · have hn : news = [] := List.eq_nil_of_length_eq_zero (by rw [hl]; simp)
    subst hn
    obtain ⟨o', ad, c', rfl, h2, h3, h4, h5, _⟩ := own_form hown
    refine ⟨o', c', w, ?_, by simpa using hown, ⟨rfl, rfl, rfl, Nat.le_refl _, fun _ _ _ => rfl⟩, .inl rfl⟩
    rcases hown.2 with ⟨hv, rfl⟩ | ⟨g, cap, cur, hv, _, _, hnc, _⟩
    · cases hv
      cases o <;> simp [Builtin.append_, run_underlying ht, sizeOf, typeInfo, hi, Builtin.lenOf, Builtin.firstCells, loadCells, loadCellsFrom]
    · cases hv
      cases o <;> simp [Builtin.append_, run_underlying ht, sizeOf, typeInfo, hi, Builtin.lenOf, Builtin.firstCells, hnc, storeCells, loadCells, loadCellsFrom]
  · rw [ho hm]
    obtain ⟨v', w', h2, h3, h4, _, h5⟩ := run_append_own_at w base t ty e i z size bytes ht hi hz hsize hby hzs hsz v n xs hown a m c news hl hnews h1 h63 hbytes hbase
    obtain ⟨o', ad, c', rfl, _⟩ := own_form h3
    exact ⟨o', c', w', h2, h3, h4, h5⟩
theorem wpList_append_row_at {ops : Array Oper} {rest : List Oper} {o : Oper} {a : Act} {Q : Exit → Act → World → Prop} (hgd : o.guard = none) (s x : Operand) (t : TypeId)
    (ho : o.op = .call { callee := .builtin .append, args := #[s, x], argTypes := #[t, t] })
    (base : Nat) (e : TypeId) (i : TypeInfo) (z : Value) (size bytes : Nat) (ht : P.underlying t = some (.slice e)) (hi : P.info? e = some i) (hz : i.zero = some z)
    (hsize : i.size = size) (hby : i.bytes = bytes) (hzs : z.cells.size = size) (hsz : 0 < size)
    (v : Value) (n : Nat) (xs : List Value) (hs : a.eval s = v) (hown : w.ownsRow base e size v n xs)
    (oo : Option Addr) (ad : Addr) (m c : Nat) (news : List Value) (hx : a.eval x = .slice oo m c) (hoo : 0 < m → oo = some ad) (hl : news.length = m * size) (hnews : ∀ j u, news[j]? = some u → w.cell? (ad.add j) = some u) (h1 : ∀ u ∈ news, u.oneCell' = true)
    (h63 : n + m ≤ maxLen) (hbytes : (n + m) * bytes ≤ 140737488355328) (hbase : base ≤ w.heap.size)
    (h : ∀ o' c' w', w'.ownsRow base e size (.slice o' (n + m) c') (n + m) (xs ++ news) → w.grownBy w' v.ownBlock → ((Value.slice o' (n + m) c').ownBlock = v.ownBlock ∨ (Value.slice o' (n + m) c').ownBlock = some w.heap.size) → wpList P ops Q rest (a.put o.dst (.slice o' (n + m) c')) w') : wpList P ops Q (o :: rest) a w := by
  refine wpList_plain hgd fun K hK => ?_
  obtain ⟨o', c', w', hr, h2, h3, h4⟩ := run_append_row_at (P := P) (w := w) base t o.type e i z size bytes ht hi hz hsize hby hzs hsz v n xs hown oo ad m c hoo news hl hnews h1 h63 hbytes hbase
  unfold Oper.wp execOp
  simp only [ho, resolve, invoke, builtin, Sem.run_bind, Sem.run_pure, Result.andThen_ok, List.map_toArray, List.map_cons, List.map_nil, hs, hx, hr]
  exact hK _ _ (h o' c' w' h2 h3 h4)
/-- 'append' of any row to an own one, as a step of a region that draws. -/
theorem step_append_row {ops : Array Oper} {o : Oper} {a : Act} {K : Act → World → Prop} {Q : Exit → Act → World → Prop} {E : Prop} (hgd : o.guard = none) (s x : Operand) (t : TypeId)
    (ho : o.op = .call { callee := .builtin .append, args := #[s, x], argTypes := #[t, t] })
    (base : Nat) (e : TypeId) (i : TypeInfo) (z : Value) (size bytes : Nat) (ht : P.underlying t = some (.slice e)) (hi : P.info? e = some i) (hz : i.zero = some z)
    (hsize : i.size = size) (hby : i.bytes = bytes) (hzs : z.cells.size = size) (hsz : 0 < size)
    (v : Value) (n : Nat) (xs : List Value) (hs : a.eval s = v) (hown : w.ownsRow base e size v n xs)
    (oo : Option Addr) (ad : Addr) (m c : Nat) (news : List Value) (hx : a.eval x = .slice oo m c) (hoo : 0 < m → oo = some ad) (hl : news.length = m * size) (hnews : ∀ j u, news[j]? = some u → w.cell? (ad.add j) = some u) (h1 : ∀ u ∈ news, u.oneCell' = true)
    (h63 : n + m ≤ maxLen) (hbytes : (n + m) * bytes ≤ 140737488355328) (hbase : base ≤ w.heap.size)
    (h : ∀ o' c' w', w'.ownsRow base e size (.slice o' (n + m) c') (n + m) (xs ++ news) → w.grownBy w' v.ownBlock → ((Value.slice o' (n + m) c').ownBlock = v.ownBlock ∨ (Value.slice o' (n + m) c').ownBlock = some w.heap.size) → K (a.put o.dst (.slice o' (n + m) c')) w') :
    if Region.wanted o (yielded ops a.tmps) = true then Oper.wp P o a w K Q else E := by
  have hw : Region.wanted o (yielded ops a.tmps) = true := by simp [Region.wanted, hgd]
  rw [if_pos hw]
  obtain ⟨o', c', w', hr, h2, h3, h4⟩ := run_append_row_at (P := P) (w := w) base t o.type e i z size bytes ht hi hz hsize hby hzs hsz v n xs hown oo ad m c hoo news hl hnews h1 h63 hbytes hbase
  unfold Oper.wp execOp
  simp only [ho, resolve, invoke, builtin, Sem.run_bind, Sem.run_pure, Result.andThen_ok, List.map_toArray, List.map_cons, List.map_nil, hs, hx, hr]
  exact h o' c' w' h2 h3 h4
end
mutual
/-- What lies somewhere lies below the heap's size. -/
theorem isVa_lt {W : World} {B : Nat → Prop} : ∀ (x : V) (v : Value), isVa W B x v → isVa W (fun q => B q ∧ q < W.heap.size) x v
  | .mk k b n s l ks, v, h => by
    unfold isVa at h ⊢
    obtain ⟨lv, kv, h1, h2, h3, h4, ⟨a, cap, h5, h6, h7⟩, ⟨a2, cap2, k1, k2, k3⟩⟩ := h
    refine ⟨lv, kv, h1, h2, h3, h4, ⟨a, cap, h5, fun h0 => ⟨h6 h0, ?_⟩, isVas_lt l a h7⟩, ⟨a2, cap2, k1, fun h0 => ⟨k2 h0, ?_⟩, k3⟩⟩
    · obtain ⟨c0, _, _, _, _, _, g0, _⟩ := isVs_at l a 0 h0 (isVs_of_a l a h7)
      have := World.block_lt_of_cell? W _ g0
      rw [add_block] at this
      exact this
    · have := World.block_lt_of_cell? W _ (k3 0 h0).1
      rw [add_block] at this
      exact this
theorem isVas_lt {W : World} {B : Nat → Prop} : ∀ (l : List V) (a : Addr), isVas W B l a → isVas W (fun q => B q ∧ q < W.heap.size) l a
  | [], _, _ => by unfold isVas; trivial
  | x :: t, a, h => by
    unfold isVas at h ⊢
    obtain ⟨⟨c0, c1, c2, c3, c4, c5, g0, g1, g2, g3, g4, g5, hx⟩, ht⟩ := h
    exact ⟨⟨c0, c1, c2, c3, c4, c5, g0, g1, g2, g3, g4, g5, isVa_lt x _ hx⟩, isVas_lt t _ ht⟩
end
theorem la_lt {W : World} {S : Nat → Prop} : ∀ (l : List V) (xs : List Value), isVsLa W S l xs → isVsLa W (fun q => S q ∧ q < W.heap.size) l xs
  | [], _, h => h
  | x :: t, xs, h => by
    unfold isVsLa at h ⊢
    obtain ⟨c0, c1, c2, c3, c4, c5, rest, rfl, hx, ht⟩ := h
    exact ⟨c0, c1, c2, c3, c4, c5, rest, rfl, isVa_lt x _ hx, la_lt t _ ht⟩
end Go.Proofs.YtkigeegahepnaaaGreatDoor

namespace Go.Proofs.YtkigeegahepnaaaGreatDoor.Nu

def isD (c : UInt8) : Bool := decide (48 ≤ c.toNat) && decide (c.toNat ≤ 57)
def digs (n : Nat) : List UInt8 := if h : n < 10 then [UInt8.ofNat (48 + n)] else digs (n / 10) ++ [UInt8.ofNat (48 + n % 10)]
termination_by n
decreasing_by omega
theorem digs_lt {n : Nat} (h : n < 10) : digs n = [UInt8.ofNat (48 + n)] := by rw [digs, dif_pos h]
theorem digs_ge {n : Nat} (h : ¬ n < 10) : digs n = digs (n / 10) ++ [UInt8.ofNat (48 + n % 10)] := by rw [digs, dif_neg h]

/-- The value of digits behind a beginning worth `a`. -/
def valA (a : Nat) (l : List UInt8) : Nat := l.foldl (fun x c => x * 10 + (c.toNat - 48)) a
def val (l : List UInt8) : Nat := valA 0 l
theorem valA_nil (a : Nat) : valA a [] = a := rfl
theorem valA_cons (a : Nat) (c : UInt8) (l : List UInt8) : valA a (c :: l) = valA (a * 10 + (c.toNat - 48)) l := by unfold valA; rw [List.foldl_cons]
theorem valA_app (a : Nat) (l m : List UInt8) : valA a (l ++ m) = valA (valA a l) m := by simp [valA]
theorem val_snoc (l : List UInt8) (c : UInt8) : val (l ++ [c]) = val l * 10 + (c.toNat - 48) := by simp [val, valA]
theorem valA_ge : ∀ (l : List UInt8) (a : Nat), a ≤ valA a l
  | [], a => Nat.le_refl _
  | c :: l, a => by rw [valA_cons]; exact Nat.le_trans (by omega) (valA_ge l _)
theorem val_take_le (l : List UInt8) (k : Nat) : val (l.take k) ≤ val l := by
  have h : val l = valA (val (l.take k)) (l.drop k) := by rw [val, val, ← valA_app, List.take_append_drop]
  rw [h]; exact valA_ge _ _
theorem valA_eq : ∀ (l : List UInt8) (a : Nat), valA a l = a * 10 ^ l.length + val l
  | [], a => by simp [valA, val]
  | c :: l, a => by
    rw [valA_cons, valA_eq l, show val (c :: l) = valA (0 * 10 + (c.toNat - 48)) l from valA_cons 0 c l, valA_eq l (0 * 10 + _), List.length_cons, Nat.pow_succ]
    rw [Nat.add_mul, Nat.mul_assoc, Nat.mul_comm 10]
    simp; omega
theorem val_cons (c : UInt8) (l : List UInt8) : val (c :: l) = (c.toNat - 48) * 10 ^ l.length + val l := by
  rw [val, valA_cons, valA_eq]; simp

theorem ofD {d : Nat} (h : d < 10) : (UInt8.ofNat (48 + d)).toNat = 48 + d := by
  rw [UInt8.toNat_ofNat']; omega
theorem isD_iff {c : UInt8} : isD c = true ↔ 48 ≤ c.toNat ∧ c.toNat ≤ 57 := by simp [isD]
theorem isD_ofD {d : Nat} (h : d < 10) : isD (UInt8.ofNat (48 + d)) = true := by rw [isD_iff, ofD h]; omega

theorem val_digs (n : Nat) : val (digs n) = n := by
  induction n using Nat.strongRecOn with
  | _ n ih =>
    by_cases h : n < 10
    · rw [digs_lt h]; simp only [val, valA, List.foldl]; rw [ofD h]; omega
    · rw [digs_ge h, val_snoc, ih _ (by omega), ofD (by omega)]; omega
theorem digs_all (n : Nat) : (digs n).all isD = true := by
  induction n using Nat.strongRecOn with
  | _ n ih =>
    by_cases h : n < 10
    · rw [digs_lt h, List.all_cons, isD_ofD h]; rfl
    · rw [digs_ge h, List.all_append, ih _ (by omega), List.all_cons, isD_ofD (show n % 10 < 10 by omega)]; rfl
theorem digs_pos (n : Nat) : 1 ≤ (digs n).length := by
  by_cases h : n < 10
  · rw [digs_lt h]; simp
  · rw [digs_ge h]; simp
theorem digs_head (n : Nat) (h0 : 1 ≤ n) : ∃ c t, digs n = c :: t ∧ c ≠ 48 := by
  induction n using Nat.strongRecOn with
  | _ n ih =>
    by_cases h : n < 10
    · refine ⟨_, [], digs_lt h, fun e => ?_⟩
      have := congrArg UInt8.toNat e
      rw [ofD h] at this; have h48 : (48 : UInt8).toNat = 48 := rfl
      omega
    · obtain ⟨c, t, e, hc⟩ := ih (n / 10) (by omega) (by omega)
      exact ⟨c, t ++ [UInt8.ofNat (48 + n % 10)], by rw [digs_ge h, e]; rfl, hc⟩
theorem digs_len (n k : Nat) (h0 : 1 ≤ k) (h : n < 10 ^ k) : (digs n).length ≤ k := by
  induction n using Nat.strongRecOn generalizing k with
  | _ n ih =>
    by_cases h1 : n < 10
    · rw [digs_lt h1]; simpa using h0
    · rw [digs_ge h1]
      match k, h0, h with
      | 1, _, h => exact absurd (by simpa using h) h1
      | k + 2, _, h =>
        have := ih (n / 10) (by omega) (k + 1) (by omega) (by rw [Nat.pow_succ] at h; omega)
        simp; omega
theorem digs_len_ge (n k : Nat) (h : 10 ^ k ≤ n) : k + 1 ≤ (digs n).length := by
  induction n using Nat.strongRecOn generalizing k with
  | _ n ih =>
    match k, h with
    | 0, _ => exact digs_pos n
    | k + 1, h =>
      have hp : 0 < 10 ^ k := Nat.pow_pos (by decide)
      rw [Nat.pow_succ] at h
      rw [digs_ge (by omega)]
      have := ih (n / 10) (by omega) k (by omega)
      simp; omega
theorem digs_mono {n m : Nat} (h : n ≤ m) : (digs n).length ≤ (digs m).length := by
  match hk : (digs n).length, digs_pos n with
  | k + 1, _ =>
    by_cases h1 : 10 ^ k ≤ m
    · exact digs_len_ge m k h1
    · by_cases k0 : k = 0
      · subst k0; exact digs_pos m
      have := digs_len n k (by omega) (by omega)
      omega
theorem digs_inj {n m : Nat} (h : digs n = digs m) : n = m := by rw [← val_digs n, h, val_digs]
theorem val_lt : ∀ (l : List UInt8), l.all isD = true → val l < 10 ^ l.length
  | [], _ => by simp [val, valA]
  | c :: l, h => by
    rw [List.all_cons, Bool.and_eq_true] at h
    have := val_lt l h.2
    have hc := isD_iff.1 h.1
    rw [val_cons, List.length_cons, Nat.pow_succ]
    have h9 : (c.toNat - 48) * 10 ^ l.length ≤ 9 * 10 ^ l.length := Nat.mul_le_mul_right _ (by omega)
    omega
/-- Digits with no needless 0 ahead are the digits of their value. -/
theorem digs_val_aux : ∀ (n : Nat) (l : List UInt8), l.length = n → l ≠ [] → l.all isD = true → (1 < l.length → l.head? ≠ some 48) → digs (val l) = l
  | 0, [], _, h, _, _ => absurd rfl h
  | n + 1, l, hl, h, ha, hh => by
    have hs : l = l.dropLast ++ [l.getLast h] := (List.dropLast_concat_getLast h).symm
    generalize hx : l.dropLast = xs at hs
    generalize l.getLast h = c at hs
    subst hs
    clear hx
    rw [List.all_append, Bool.and_eq_true] at ha
    have hc : isD c = true := by simpa using ha.2
    have hc' := isD_iff.1 hc
    have hof : UInt8.ofNat (48 + (c.toNat - 48)) = c := by
      apply UInt8.toNat_inj.1
      rw [ofD (by omega)]; omega
    rw [val_snoc]
    match xs, hl, hh, ha with
    | [], _, _, _ =>
      rw [show val [] = 0 from rfl, digs_lt (by omega)]
      simp [hof]
    | x :: t, hl, hh, ha =>
      have hx48 : x ≠ 48 := fun e => hh (by simp) (by simp [e])
      have ih := digs_val_aux n (x :: t) (by simp at hl ⊢; omega) (by simp) ha.1 (fun _ => by simpa using hx48)
      have hx := isD_iff.1 (by have := ha.1; rw [List.all_cons, Bool.and_eq_true] at this; exact this.1)
      have hx1 : 1 ≤ x.toNat - 48 := by
        have : x.toNat ≠ 48 := fun e => hx48 (UInt8.toNat_inj.1 e)
        omega
      have hv : 1 ≤ val (x :: t) := by
        rw [val_cons]
        have hp : 0 < 10 ^ t.length := Nat.pow_pos (by decide)
        have : 1 * 1 ≤ (x.toNat - 48) * 10 ^ t.length := Nat.mul_le_mul hx1 hp
        omega
      rw [digs_ge (by omega)]
      rw [show (val (x :: t) * 10 + (c.toNat - 48)) / 10 = val (x :: t) by omega, show (val (x :: t) * 10 + (c.toNat - 48)) % 10 = c.toNat - 48 by omega, ih, hof]
theorem digs_val {l : List UInt8} (h : l ≠ []) (ha : l.all isD = true) (hh : 1 < l.length → l.head? ≠ some 48) : digs (val l) = l := digs_val_aux _ l rfl h ha hh

/-- Of as many digits the greater number's are the greater ones. -/
theorem lex_val : ∀ (a b : List UInt8), a.length = b.length → a.all isD = true → b.all isD = true → (a < b ↔ val a < val b)
  | [], [], _, _, _ => by simp
  | c :: a, d :: b, hl, ha, hb => by
    rw [List.all_cons, Bool.and_eq_true] at ha hb
    have ih := lex_val a b (by simpa using hl) ha.2 hb.2
    have hla : a.length = b.length := by simpa using hl
    have va := val_lt a ha.2
    have vb := val_lt b hb.2
    have hc := isD_iff.1 ha.1
    have hd := isD_iff.1 hb.1
    rw [val_cons, val_cons, List.cons_lt_cons_iff]
    rw [hla] at va ⊢
    generalize 10 ^ b.length = p at va vb ⊢
    by_cases e : c = d
    · subst e
      simp [ih, UInt8.lt_irrefl]
    · have ne : c.toNat ≠ d.toNat := fun h => e (UInt8.toNat_inj.1 h)
      simp only [e, false_and, or_false, UInt8.lt_iff_toNat_lt]
      constructor
      · intro h
        have : (c.toNat - 48 + 1) * p ≤ (d.toNat - 48) * p := Nat.mul_le_mul_right _ (by omega)
        rw [Nat.add_mul] at this
        omega
      · intro h
        refine Classical.byContradiction fun h' => ?_
        have : (d.toNat - 48 + 1) * p ≤ (c.toNat - 48) * p := Nat.mul_le_mul_right _ (by omega)
        rw [Nat.add_mul] at this
        omega

/-- May the number be? -/
def fitB (n : Int) : Bool := decide (-9007199254740992 ≤ n) && decide (n ≤ 9007199254740992)
theorem fitB_iff {n : Int} : fitB n = true ↔ -9007199254740992 ≤ n ∧ n ≤ 9007199254740992 := by simp [fitB]
/-- A number's text; none, if it may not be. -/
def txt (n : Int) : List UInt8 := if fitB n then (if n < 0 then 45 :: digs n.natAbs else digs n.natAbs) else []
theorem txt_neg {n : Int} (h : fitB n = true) (h0 : n < 0) : txt n = 45 :: digs n.natAbs := by rw [txt, if_pos h, if_pos h0]
theorem txt_pos {n : Int} (h : fitB n = true) (h0 : ¬ n < 0) : txt n = digs n.natAbs := by rw [txt, if_pos h, if_neg h0]
theorem txt_no {n : Int} (h : fitB n = false) : txt n = [] := by rw [txt, h]; rfl
theorem txt_len (n : Int) : (txt n).length ≤ 17 := by
  unfold txt
  split
  · rename_i h
    have h' := fitB_iff.1 h
    have := digs_len n.natAbs 16 (by decide) (by omega)
    split
    · simp; omega
    · omega
  · simp

/-- Behind digits it can't stand. -/
def stopB (c : UInt8) : Bool := c == 46 || c == 101 || c == 69
/-- The digits that stand in l from k on. -/
def dig (l : List UInt8) (k : Nat) : List UInt8 := (l.drop k).takeWhile isD
/-- The place of the first byte that can't stand with the digits (as many as d) of l from first on. -/
def misL (l : List UInt8) (first d : Nat) : Int × Bool :=
  if d = 0 then (first, true)
  else if l.getD first 0 = 48 ∧ 1 < d then (first + 1, true)
  else if stopB (l.getD (first + d) 0) then (first + d, true)
  else (0, false)
/-- The number that digits tell, if it may be. -/
def wL (ds : List UInt8) : Int × Bool := if val ds ≤ 9007199254740992 then (val ds, true) else (0, false)
/-- The answer behind the sign: l, the place of the whole, whether a - stands there, the place of the digits. -/
def scanB (l : List UInt8) (k : Nat) (minus : Bool) (first : Nat) : Int × Int × Int :=
  if (misL l first (dig l first).length).2 then (0, (misL l first (dig l first).length).1, 20)
  else if 9007199254740992 < val (dig l first) ∨ minus = true ∧ val (dig l first) = 0 then (0, k, 20)
  else (if minus then -(val (dig l first) : Int) else val (dig l first), first + (dig l first).length, 0)
def scanN (l : List UInt8) (k : Nat) : Int × Int × Int :=
  if l.getD k 0 = 45 then scanB l k true (k + 1) else scanB l k false k
def scanL (l : List UInt8) (at_ : Int) : Int × Int × Int := if at_ < 0 ∨ (l.length : Int) < at_ then (0, 0, 2) else scanN l at_.toNat
def readL (l : List UInt8) : Int × Int := if (scanL l 0).2.2 = 0 ∧ (scanL l 0).2.1 = l.length then ((scanL l 0).1, 0) else (0, 20)

theorem dig_le (l : List UInt8) (k : Nat) : (dig l k).length ≤ l.length - k := by
  have h := (List.takeWhile_sublist (p := isD) (l := l.drop k)).length_le
  rw [List.length_drop] at h; exact h
theorem dig_all (l : List UInt8) (k : Nat) : (dig l k).all isD = true := by
  unfold dig; exact List.all_takeWhile
theorem dig_take (l : List UInt8) (k : Nat) : dig l k = (l.drop k).take (dig l k).length := by
  have h := List.takeWhile_append_dropWhile (p := isD) (l := l.drop k)
  unfold dig
  exact (List.take_left' rfl ▸ congrArg (List.take (List.takeWhile isD (l.drop k)).length) h : _ = _)
theorem dig_at (l : List UInt8) (k j : Nat) (h : j < (dig l k).length) : isD (l.getD (k + j) 0) = true := by
  have hm := List.all_eq_true.1 (dig_all l k) _ (List.getElem_mem h)
  have e : (dig l k)[j] = l.getD (k + j) 0 := by
    have h1 : (dig l k)[j]? = l[k + j]? := by
      rw [dig_take, List.getElem?_take, if_pos h, List.getElem?_drop]
    rw [List.getElem?_eq_getElem h] at h1
    rw [List.getD, ← h1]; rfl
  rw [← e]; exact hm
theorem dig_end (l : List UInt8) (k : Nat) (h : k + (dig l k).length < l.length) : isD (l.getD (k + (dig l k).length) 0) = false := by
  have hd := List.takeWhile_append_dropWhile (p := isD) (l := l.drop k)
  match e : (l.drop k).dropWhile isD with
  | [] =>
    rw [e, List.append_nil] at hd
    have h2 : (dig l k).length = l.length - k := by rw [dig, hd, List.length_drop]
    omega
  | c :: t =>
    have hc : isD c = false := by
      have := List.head?_dropWhile_not isD (l.drop k)
      rw [e] at this; simpa using this
    have h1 : l[k + (dig l k).length]? = some c := by
      rw [← List.getElem?_drop, ← hd, e]
      unfold dig
      rw [List.getElem?_append_right (Nat.le_refl _)]; simp
    rw [List.getD, h1]; exact hc
theorem dig_of {l : List UInt8} {k : Nat} (ds rest : List UInt8) (h : l.drop k = ds ++ rest) (ha : ds.all isD = true) (hr : ∀ c t, rest = c :: t → isD c = false) : dig l k = ds := by
  unfold dig
  rw [h, List.takeWhile_append_of_pos (by simpa using ha)]
  match rest, hr with
  | [], _ => simp
  | c :: t, hr => rw [List.takeWhile_cons, hr c t rfl]; simp
theorem getD_drop (l : List UInt8) (k j : Nat) : (l.drop k).getD j 0 = l.getD (k + j) 0 := by
  simp [List.getD, List.getElem?_drop]
end Go.Proofs.YtkigeegahepnaaaGreatDoor.Nu

namespace Go.Proofs.YtkigeegahepnaaaGreatDoor.Nu
open Go.RowKit

theorem infoByte : (Tryz.prog.info? 5).map (fun i => (i.zero, i.size, i.bytes)) = some (some (.int .u8 0), 1, 1) := by kernel_rfl
theorem byteCells_app (a b : List UInt8) : Lib.byteCells (a ++ b) = Lib.byteCells a ++ Lib.byteCells b := by simp [Lib.byteCells]
theorem byteCell_digit {d : Nat} (h : d < 10) : Lib.byteCells [UInt8.ofNat (48 + d)] = [.int .u8 (48 + (d : Int))] := by
  simp only [Lib.byteCells, List.map_cons, List.map_nil]
  rw [ofD h]; rfl

def fv (N : Nat) : Value := .func (.func 133) #[] #[.pointer (some ⟨N + 1, 0, none⟩), .pointer (some ⟨N, 0, none⟩)]
/-- The memory of one call of Text: the closure, and the row of bytes. -/
structure PS (N : Nat) (A : List UInt8) (w : World) : Prop where
  put : w.heap[N + 1]? = some (.cells #[fv N] 180 (0, 0))
  b : ∃ v, w.heap[N]? = some (.cells #[v] 172 (0, 0)) ∧ w.ownsRow (N + 2) 5 1 v A.length (Lib.byteCells A)

theorem ps_push {N : Nat} {A news : List UInt8} {cs : List Value} {w w1 : World} {v v' : Value} (tmp : Obj) {m : Nat} (h : PS N A w)
    (hv : w.heap[N]? = some (.cells #[v] 172 (0, 0))) (hown : w.ownsRow (N + 2) 5 1 v A.length (Lib.byteCells A))
    (hown' : w1.ownsRow (N + 2) 5 1 v' (A.length + m) (Lib.byteCells A ++ cs)) (hgrow : (w.alloc tmp).grownBy w1 v.ownBlock) (hm : news.length = m) (hm0 : 0 < m) (hc : Lib.byteCells news = cs) :
    (∃ g' cap', v' = .slice (some ⟨g', 0, none⟩) (A.length + m) cap') ∧ w1.cell? ⟨N, 0, none⟩ = some v ∧ w1.frozen? ⟨N, 0, none⟩ = false ∧ PS N (A ++ news) (w1.setCell ⟨N, 0, none⟩ v') ∧ Below N w (w1.setCell ⟨N, 0, none⟩ v') := by
  have hN := lt_of_block hv
  have hne : ∀ k, k < N + 2 → some k ≠ v.ownBlock := fun k hk e => by
    rcases hown.2 with ⟨rfl, _⟩ | ⟨g, cap, cur, rfl, hg, hh, _⟩
    · simp [Value.ownBlock] at e
    · simp only [Value.ownBlock, Option.some.injEq] at e
      omega
  have keep : ∀ k, k < w.heap.size → k < N + 2 → w1.heap[k]? = w.heap[k]? := fun k hk hk' =>
    (hgrow.block k (by simp; omega) (hne k hk')).trans (Below.heap_alloc _ _ _ hk)
  have hv1 : w1.heap[N]? = some (.cells #[v] 172 (0, 0)) := (keep N hN (by omega)).trans hv
  have hp1 : w1.heap[N + 1]? = some (.cells #[fv N] 180 (0, 0)) := (keep (N + 1) (lt_of_block h.put) (by omega)).trans h.put
  have hne' : v'.ownBlock ≠ some N := fun e => by
    rcases hown'.2 with ⟨rfl, _⟩ | ⟨g, cap, cur, rfl, hg, hh, _⟩
    · simp [Value.ownBlock] at e
    · simp only [Value.ownBlock, Option.some.injEq] at e
      omega
  have hex : ∃ g' cap', v' = .slice (some ⟨g', 0, none⟩) (A.length + m) cap' := by
    rcases hown'.2 with ⟨_, h0⟩ | ⟨g', cap', _, h, _⟩
    · omega
    · exact ⟨g', cap', h⟩
  refine ⟨hex, cell_of_one hv1, free_of_one hv1, ⟨?_, ⟨_, one_setCell hv1, ?_⟩⟩, ?_⟩
  · exact (Below.heap_setCell _ _ _ _ (by show N + 1 ≠ N; omega)).trans hp1
  · have := ownsRow_setCell_other hown' (a := ⟨N, 0, none⟩) hne' v'
    rw [List.length_append, byteCells_app, hm, hc]
    exact this
  · exact (((Below.refl N w).alloc (by omega) _).grown hgrow (by simp; omega) (fun j hj => by have := (hown.lt j hj).1; omega)).setCell (by show N ≤ N; omega) _

set_option maxRecDepth 100000 in
set_option maxHeartbeats 2000000 in
theorem put_one (N n : Nat) (A : List UInt8) (w : World) (hn : n < 10) (hA : A.length ≤ 100) (h : PS N A w) :
    Calls Tryz.prog 133 #[.int .i64 n, .pointer (some ⟨N + 1, 0, none⟩), .pointer (some ⟨N, 0, none⟩)] w fun e w' => e = .returned (.tuple #[]) ∧ PS N (A ++ digs n) w' ∧ Below N w w' := by
  obtain ⟨i0, hi, hz0, hz1, hz2⟩ := info_parts infoByte
  have h0 := h
  obtain ⟨hp, v, hv, hown⟩ := h
  have cB := cell_of_one hv
  have fB := free_of_one hv
  have hN := lt_of_block hv
  have cP := cell_of_one hp
  have HD := Lib.hid (digs_lt hn)
  have hm : (n : Int) % 10 = n := by omega
  have hN2 := lt_of_block hp
  clear hp
  go_enter Tryz.func133, Tryz.ntmps133
  go_wp2_with (at_builtin; refine wpList_append_own _ rfl _ _ 172 rfl (N + 2) 5 i0 (.int .u8 0) 1 1 Tryz.underlying172 hi hz0 hz1 hz2 rfl (by decide) _ _ _ rfl (hown.alloc _) ⟨w.heap.size, 0, none⟩ 1 1 [.int .u8 (48 + (n : Int))] rfl rfl ?c1 ?c2 ?c3 ?c4 ?c5 ?_)
  case c1 =>
    intro j u hj
    match j, hj with
    | 0, hj => simp at hj; subst hj; simp [Addr.add]
  case c2 => intro u hu; simp at hu; subst hu; rfl
  case c3 => unfold maxLen; omega
  case c4 => omega
  case c5 => simp; omega
  intro v' w1 hown' hgrow _
  obtain ⟨⟨g', cap', rfl⟩, cW, fW, hps, hbel⟩ := ps_push (news := digs n) _ h0 hv hown hown' hgrow (by rw [HD.out]; rfl) (by decide) (by rw [HD.out, byteCell_digit hn])
  clear hown' hgrow hown h0 hv
  go_wp2_with fail
  go_end0
  exact ⟨rfl, hps, hbel⟩

set_option maxRecDepth 100000 in
set_option maxHeartbeats 2000000 in
theorem put_any (N : Nat) (k : Nat) : ∀ (n : Nat) (A : List UInt8) (w : World), n ≤ k → n ≤ 9007199254740992 → A.length + (digs n).length ≤ 100 → PS N A w →
    Calls Tryz.prog 133 #[.int .i64 n, .pointer (some ⟨N + 1, 0, none⟩), .pointer (some ⟨N, 0, none⟩)] w fun e w' => e = .returned (.tuple #[]) ∧ PS N (A ++ digs n) w' ∧ Below N w w' := by
  induction k with
  | zero => intro n A w hk hn hA h; exact put_one N n A w (by omega) (by omega) h
  | succ k ih =>
    intro n A w hk hn hA h
    by_cases h10 : n < 10
    · exact put_one N n A w h10 (by omega) h
    obtain ⟨i0, hi, hz0, hz1, hz2⟩ := info_parts infoByte
    have HD := Lib.hid (digs_ge h10)
    have hl := congrArg List.length HD.out
    rw [List.length_append, List.length_singleton] at hl
    have HI := Lib.hid (ih (n / 10) A w (by omega) (by omega) (by omega) h)
    have cP : w.cell? ⟨N + 1, 0, none⟩ = some (.func (.func 133) #[] #[.pointer (some ⟨N + 1, 0, none⟩), .pointer (some ⟨N, 0, none⟩)]) := cell_of_one h.put
    have hN := lt_of_block h.put
    have h9 : 9 < (n : Int) := by omega
    clear ih
    obtain ⟨q, hqq⟩ : ∃ q, q = n / 10 := ⟨_, rfl⟩
    have hq : (n : Int) / 10 = (q : Int) := by omega
    rw [← hqq] at HD HI
    obtain ⟨d, hd⟩ : ∃ d, d = n % 10 := ⟨_, rfl⟩
    have hm : (n : Int) % 10 = (d : Int) := by omega
    have hd10 : d < 10 := by omega
    rw [← hd] at HD
    have hA' : (A ++ digs q).length ≤ 99 := by rw [List.length_append, hqq]; omega
    have hn0 : 0 ≤ (n : Int) := by omega
    have hn1 : (n : Int) ≤ 9007199254740992 := by omega
    have HE : Hid (A ++ digs n = A ++ digs q ++ [UInt8.ofNat (48 + d)]) := Lib.hid (by rw [HD.out, List.append_assoc])
    clear hl hd h10 hA hk h hqq HD
    generalize A ++ digs n = A3 at *
    generalize A ++ digs q = A2 at *
    go_enter Tryz.func133, Tryz.ntmps133
    go_wp2_with (go_at_call 133; refine HI.out.mono ?_)
    rintro e w2 ⟨rfl, h, hbel2⟩
    have h0 := h
    obtain ⟨hp, v, hv, hown⟩ := h
    have cB := cell_of_one hv
    have fB := free_of_one hv
    have hN := lt_of_block hv
    have hN2 := lt_of_block hp
    have HB := Lib.hid hbel2
    clear hp hbel2
    go_wp2_with (at_builtin; refine wpList_append_own _ rfl _ _ 172 rfl (N + 2) 5 i0 (.int .u8 0) 1 1 Tryz.underlying172 hi hz0 hz1 hz2 rfl (by decide) _ _ _ rfl (hown.alloc _) ⟨w2.heap.size, 0, none⟩ 1 1 [.int .u8 (48 + (d : Int))] rfl rfl ?c1 ?c2 ?c3 ?c4 ?c5 ?_)
    case c1 =>
      intro j u hj
      match j, hj with
      | 0, hj => simp at hj; subst hj; simp [Addr.add]
    case c2 => intro u hu; simp at hu; subst hu; rfl
    case c3 => unfold maxLen; omega
    case c4 => omega
    case c5 => simp; omega
    intro v' w1 hown' hgrow _
    obtain ⟨⟨g', cap', rfl⟩, cW, fW, hps, hbel⟩ := ps_push (news := [UInt8.ofNat (48 + d)]) _ h0 hv hown hown' hgrow rfl (by decide) (byteCell_digit hd10)
    clear hown' hgrow hown h0 hv
    go_wp2_with fail
    go_end0
    exact ⟨rfl, by rw [HE.out]; exact hps, HB.out.trans hbel⟩
end Go.Proofs.YtkigeegahepnaaaGreatDoor.Nu

namespace Go.Proofs.YtkigeegahepnaaaGreatDoor.Nu
open Go.RowKit

theorem fits_yes (n : Int) (h : fitB n = true) (w : World) : Calls Tryz.prog 132 #[.int .i64 n] w fun e w' => e = .returned (.bool true) ∧ w = w' := by
  obtain ⟨h1, h2⟩ := fitB_iff.1 h
  clear h
  go_enter Tryz.func132, Tryz.ntmps132
  go_wp2
  go_ret
  exact ⟨by simp <;> omega, rfl⟩
theorem fits_no (n : Int) (h : fitB n = false) (w : World) : Calls Tryz.prog 132 #[.int .i64 n] w fun e w' => e = .returned (.bool false) ∧ w = w' := by
  have h' : ¬ (-9007199254740992 ≤ n ∧ n ≤ 9007199254740992) := fun e => by rw [fitB_iff.2 e] at h; cases h
  clear h
  by_cases h1 : -9007199254740992 ≤ n <;> by_cases h2 : n ≤ 9007199254740992 <;> first | (exfalso; omega) | skip
  all_goals
    clear h'
    go_enter Tryz.func132, Tryz.ntmps132
    go_wp2
    go_ret
    exact ⟨by simp <;> omega, rfl⟩
theorem digit_any (c : UInt8) (w : World) : Calls Tryz.prog 152 #[.int .u8 c.toNat] w fun e w' => e = .returned (.bool (isD c)) ∧ w = w' := by
  have e : isD c = (decide (48 ≤ c.toNat) && decide (c.toNat ≤ 57)) := rfl
  have E := Lib.hid e
  clear e
  by_cases h1 : 48 ≤ c.toNat <;> by_cases h2 : c.toNat ≤ 57 <;> first | (exfalso; omega) | skip
  all_goals
    go_enter Tryz.func152, Tryz.ntmps152
    go_wp2
    go_ret
    exact ⟨by rw [E.out]; simp [*] <;> omega, rfl⟩
theorem digit_yes (c : UInt8) (h : isD c = true) (w : World) : Calls Tryz.prog 152 #[.int .u8 c.toNat] w fun e w' => e = .returned (.bool true) ∧ w = w' := h ▸ digit_any c w
theorem digit_no (c : UInt8) (h : isD c = false) (w : World) : Calls Tryz.prog 152 #[.int .u8 c.toNat] w fun e w' => e = .returned (.bool false) ∧ w = w' := h ▸ digit_any c w

theorem ps_conv {N : Nat} {A : List UInt8} {w : World} (h : PS N A w) (hA : 0 < A.length) :
    ∃ g cap, w.cell? ⟨N, 0, none⟩ = some (.slice (some ⟨g, 0, none⟩) A.length cap) ∧ (convert 172 9 (.slice (some ⟨g, 0, none⟩) A.length cap)).run Tryz.prog w = .ok (.string ⟨A.toArray⟩) w := by
  obtain ⟨hp, v, hv, hown⟩ := h
  have hown0 := hown
  rcases hown.2 with ⟨rfl, h0⟩ | ⟨g, cap, cur, rfl, hg, hh, hnc, hcp, hcs, htake⟩
  · omega
  · refine ⟨g, cap, cell_of_one hv, run_convert_bytes_back (P := Tryz.prog) w 172 9 5 ⟨g, 0, none⟩ cap A Tryz.underlying172 Tryz.underlying5 Tryz.underlying9 (fun j hj => ?_)⟩
    rw [Addr.add_lit, Nat.zero_add, hown0.cellAt j (by omega)]
    simp [Lib.byteCells, hj]

set_option maxRecDepth 100000 in
set_option maxHeartbeats 2000000 in
theorem text_no (n : Int) (h : fitB n = false) (w : World) :
    Calls Tryz.prog 118 #[.int .i64 n] w fun e w' => e = .returned (.tuple #[.string ⟨#[]⟩, .int .i64 20]) ∧ w = w' := by
  have H := Lib.hid h
  clear h
  go_enter Tryz.func118, Tryz.ntmps118
  go_wp2_with (go_at_call 132; refine (fits_no _ H.out _).mono ?_; rintro e w' ⟨rfl, rfl⟩)
  go_ret2
  exact ⟨rfl, rfl⟩
theorem ps_start (w : World) : PS w.heap.size [] ((w.alloc (.cells #[.slice none 0 0] 172)).alloc (.cells #[fv w.heap.size] 180)) := by
  refine ⟨?_, .slice none 0 0, ?_, World.ownsRow_nil _ _ _ _⟩
  · have := heap_alloc_new (w.alloc (.cells #[.slice none 0 0] 172)) (.cells #[fv w.heap.size] 180)
    simpa using this
  · exact (Below.heap_alloc _ _ _ (by simp)).trans (heap_alloc_new w _)

set_option maxRecDepth 100000 in
set_option maxHeartbeats 2000000 in
theorem text_pos (n : Int) (h : fitB n = true) (h0 : ¬ n < 0) (w : World) :
    Calls Tryz.prog 118 #[.int .i64 n] w fun e w' => e = .returned (.tuple #[.string ⟨(txt n).toArray⟩, .int .i64 0]) ∧ Below w.heap.size w w' := by
  have HT := Lib.hid (txt_pos h h0)
  have hf := fitB_iff.1 h
  obtain ⟨k, hk⟩ : ∃ k : Nat, n = (k : Int) := ⟨n.toNat, by omega⟩
  subst hk
  have hk1 : k ≤ 9007199254740992 := by omega
  have hd := digs_len k 16 (by decide) (by omega)
  have hd0 := digs_pos k
  have H := Lib.hid h
  have HP := Lib.hid (put_any w.heap.size k k [] _ (Nat.le_refl _) hk1 (by simp; omega) (ps_start w))
  unfold fv at HP
  have HB : Hid (Below w.heap.size w ((w.alloc (.cells #[.slice none 0 0] 172)).alloc (.cells #[fv w.heap.size] 180))) := Lib.hid (((Below.refl _ _).alloc (Nat.le_refl _) _).alloc (by simp) _)
  unfold fv at HB
  clear h hf
  go_enter Tryz.func118, Tryz.ntmps118
  go_wp2_with (first | (go_at_call 132; refine (fits_yes _ H.out _).mono ?_; rintro e w' ⟨rfl, rfl⟩) | (go_at_call 133; refine HP.out.mono ?_))
  rintro e w2 ⟨rfl, hps, hbel⟩
  rw [List.nil_append] at hps
  obtain ⟨g, cap, cB, hcv⟩ := ps_conv hps (by omega)
  have HB2 := Lib.hid hbel
  clear hps hbel HP
  go_wp2_with fail
  go_ret2
  exact ⟨by rw [HT.out]; rfl, HB.out.trans HB2.out⟩
theorem ps_start_b (w : World) : ((w.alloc (.cells #[.slice none 0 0] 172)).alloc (.cells #[fv w.heap.size] 180)).heap[w.heap.size]? = some (.cells #[.slice none 0 0] 172 (0, 0)) :=
  (Below.heap_alloc _ _ _ (by simp)).trans (heap_alloc_new w _)
set_option maxRecDepth 100000 in
set_option maxHeartbeats 2000000 in
theorem text_neg (n : Int) (h : fitB n = true) (h0 : n < 0) (w : World) :
    Calls Tryz.prog 118 #[.int .i64 n] w fun e w' => e = .returned (.tuple #[.string ⟨(txt n).toArray⟩, .int .i64 0]) ∧ Below w.heap.size w w' := by
  obtain ⟨i0, hi, hz0, hz1, hz2⟩ := info_parts infoByte
  have HT := Lib.hid (txt_neg h h0)
  have hf := fitB_iff.1 h
  obtain ⟨k, hk⟩ : ∃ k : Nat, n = -(k : Int) := ⟨(-n).toNat, by omega⟩
  subst hk
  have hk1 : k ≤ 9007199254740992 := by omega
  have hd := digs_len k 16 (by decide) (by omega)
  have hd0 := digs_pos k
  have H := Lib.hid h
  have hneg : wrap64 (-(-(k : Int))) = (k : Int) := by rw [Int.neg_neg]; unfold wrap64; omega
  have h1 : IntKind.i64.wrap (-(-(k : Int))) = (k : Int) := by rw [Int.neg_neg]; exact IntWalk.i64_in _ (by omega)
  have h0k : 0 < k := by omega
  have hps0 := ps_start w
  have hpb0 := ps_start_b w
  have HB : Hid (Below w.heap.size w ((w.alloc (.cells #[.slice none 0 0] 172)).alloc (.cells #[fv w.heap.size] 180))) := Lib.hid (((Below.refl _ _).alloc (Nat.le_refl _) _).alloc (by simp) _)
  have HPS := Lib.hid hps0
  have HPB := Lib.hid hpb0
  have HO := Lib.hid ((World.ownsRow_nil ((w.alloc (.cells #[.slice none 0 0] 172)).alloc (.cells #[fv w.heap.size] 180)) (w.heap.size + 2) 5 1).alloc (.cells #[.int .u8 45] 5))
  unfold fv at HB HPS HPB HO
  clear h hf hps0 hpb0 h0
  go_enter Tryz.func118, Tryz.ntmps118
  go_wp2_with (first | (go_at_call 132; refine (fits_yes _ H.out _).mono ?_; rintro e w' ⟨rfl, rfl⟩) | (at_builtin; refine wpList_append_own _ rfl _ _ 172 rfl (w.heap.size + 2) 5 i0 (.int .u8 0) 1 1 Tryz.underlying172 hi hz0 hz1 hz2 rfl (by decide) _ _ _ rfl HO.out ⟨w.heap.size + 1 + 1, 0, none⟩ 1 1 [.int .u8 45] rfl rfl ?c1 ?c2 ?c3 ?c4 ?c5 ?_))
  case c1 =>
    intro j u hj
    match j, hj with
    | 0, hj =>
      simp at hj; subst hj
      have := cell_of_one (heap_alloc_new ((w.alloc (.cells #[.slice none 0 0] 172)).alloc (.cells #[.func (.func 133) #[] #[.pointer (some ⟨w.heap.size + 1, 0, none⟩), .pointer (some ⟨w.heap.size, 0, none⟩)]] 180)) (.cells #[.int .u8 45] 5))
      simpa [Addr.add] using this
  case c2 => intro u hu; simp at hu; subst hu; rfl
  case c3 => unfold maxLen; omega
  case c4 => omega
  case c5 => simp
  intro v' w1 hown' hgrow _
  obtain ⟨⟨g', cap', rfl⟩, cW, fW, hps, hbel⟩ := ps_push (N := w.heap.size) (A := []) (news := [45]) _ HPS.out HPB.out (World.ownsRow_nil _ _ _ _) hown' hgrow rfl (by decide) rfl
  have hps : PS w.heap.size [45] (w1.setCell ⟨w.heap.size, 0, none⟩ (.slice (some ⟨g', 0, none⟩) 1 cap')) := hps
  have HP := Lib.hid (put_any w.heap.size k k [45] _ (Nat.le_refl _) hk1 (by simp; omega) hps)
  have cP : (w1.setCell ⟨w.heap.size, 0, none⟩ (.slice (some ⟨g', 0, none⟩) 1 cap')).cell? ⟨w.heap.size + 1, 0, none⟩ = some (.func (.func 133) #[] #[.pointer (some ⟨w.heap.size + 1, 0, none⟩), .pointer (some ⟨w.heap.size, 0, none⟩)]) := cell_of_one hps.put
  have HB1 := Lib.hid (HB.out.trans hbel)
  clear hown' hgrow hps hbel HO HPS HPB
  go_wp2_with (go_at_call 133; refine HP.out.mono ?_)
  rintro e w2 ⟨rfl, hps, hbel⟩
  obtain ⟨A, hA⟩ : ∃ A, A = [45] ++ digs k := ⟨_, rfl⟩
  rw [← hA] at hps
  obtain ⟨g, cap, cB, hcv⟩ := ps_conv hps (by rw [hA]; simp)
  have HA := Lib.hid hA
  clear hA
  have HB2 := Lib.hid hbel
  clear hps hbel HP
  go_wp2_with fail
  go_ret2
  exact ⟨by rw [HT.out, HA.out, Int.natAbs_neg]; rfl, HB1.out.trans HB2.out⟩

/-- What Text answers. -/
def errN (b : Bool) : Int := if b then 0 else 20
theorem text_any (n : Int) (w : World) :
    Calls Tryz.prog 118 #[.int .i64 n] w fun e w' => e = .returned (.tuple #[.string ⟨(txt n).toArray⟩, .int .i64 (errN (fitB n))]) ∧ Below w.heap.size w w' := by
  cases h : fitB n with
  | false =>
    refine (text_no n h w).mono ?_
    rintro e w' ⟨rfl, rfl⟩
    exact ⟨by rw [txt_no h]; rfl, Below.refl _ _⟩
  | true =>
    by_cases h0 : n < 0
    · exact text_neg n h h0 w
    · exact text_pos n h h0 w
theorem size_arr (l : List UInt8) : ByteArray.size ⟨l.toArray⟩ = l.length := by simp [ByteArray.size]
end Go.Proofs.YtkigeegahepnaaaGreatDoor.Nu

namespace Go.Proofs.YtkigeegahepnaaaGreatDoor.Nu
open Go.RowKit

theorem toList_length (s : ByteArray) : s.data.toList.length = s.size := by rw [Array.length_toList]; rfl
theorem toList_getElem (s : ByteArray) (k : Nat) (h : k < s.size) : s.data.toList[k]? = some s[k] := by
  rw [List.getElem?_eq_getElem (by rw [toList_length]; exact h)]; rfl
theorem toList_getD (s : ByteArray) (k : Nat) (h : k < s.size) : s.data.toList.getD k 0 = s[k] := by
  rw [List.getD, toList_getElem s k h]; rfl
theorem toList_getD_end (s : ByteArray) (k : Nat) (h : s.size ≤ k) : s.data.toList.getD k 0 = 0 := by
  rw [List.getD, List.getElem?_eq_none (by rw [toList_length]; exact h)]; rfl
theorem take_snoc (s : ByteArray) (k : Nat) (h : k < s.size) : s.data.toList.take (k + 1) = s.data.toList.take k ++ [s[k]] := by
  rw [List.take_succ_eq_append_getElem (by simpa using h)]; rfl
theorem u8back (c : UInt8) : ((c.toNat : Int)).toNat.toUInt8 = c := by simp
def dotE : ByteArray := ⟨#[46, 101, 69]⟩
theorem idx_yes (c : UInt8) (h : stopB c = true) (w : World) : Calls Tryz.prog 159 #[.string ⟨#[46, 101, 69]⟩, .int .u8 c.toNat] w fun e w' => (∃ i : Int, 0 ≤ i ∧ e = .returned (.int .i64 i)) ∧ w = w' := by
  refine (Tryz.strings_IndexByte ⟨#[46, 101, 69]⟩ c.toNat w).mono ?_
  rintro e w' ⟨rfl, rfl⟩
  refine ⟨⟨_, ?_, rfl⟩, rfl⟩
  rw [u8back]
  have h' : c = 46 ∨ c = 101 ∨ c = 69 := by simpa [stopB, or_assoc] using h
  rcases h' with rfl | rfl | rfl <;> decide
theorem idx_no (c : UInt8) (h : stopB c = false) (w : World) : Calls Tryz.prog 159 #[.string ⟨#[46, 101, 69]⟩, .int .u8 c.toNat] w fun e w' => e = .returned (.int .i64 (-1)) ∧ w = w' := by
  refine (Tryz.strings_IndexByte ⟨#[46, 101, 69]⟩ c.toNat w).mono ?_
  rintro e w' ⟨rfl, rfl⟩
  refine ⟨?_, rfl⟩
  rw [u8back]
  have h' : c ≠ 46 ∧ c ≠ 101 ∧ c ≠ 69 := by simpa [stopB, and_assoc] using h
  obtain ⟨h1, h2, h3⟩ := h'
  have : Lib.indexByte [46, 101, 69] c = -1 := by
    simp [Lib.indexByte, Ne.symm h1, Ne.symm h2, Ne.symm h3]
  show Ending.returned (.int .i64 (Lib.indexByte [46, 101, 69] c)) = _
  rw [this]

def misV (p : Int × Bool) : Value := .tuple #[.int .i64 p.1, .bool p.2]
set_option maxRecDepth 100000 in
set_option maxHeartbeats 2000000 in
theorem mis_any (s : ByteArray) (f d : Nat) (hfd : f + d ≤ s.size) (hs : s.size ≤ maxLen) (w : World) :
    Calls Tryz.prog 153 #[.string s, .int .i64 f, .int .i64 ((f + d : Nat) : Int)] w fun e w' => e = .returned (misV (misL s.data.toList f d)) ∧ w = w' := by
  unfold maxLen at hs
  by_cases d0 : d = 0
  · have HM : Hid (misL s.data.toList f d = ((f : Int), true)) := Lib.hid (by unfold misL; rw [if_pos d0])
    have hq : ((f : Int) == ((f + d : Nat) : Int)) = true := by rw [beq_iff_eq]; omega
    clear d0
    go_enter Tryz.func153, Tryz.ntmps153
    go_wp2_with fail
    go_ret2
    exact ⟨by rw [HM.out]; rfl, rfl⟩
  have hf : f < s.size := by omega
  have hg := toList_getD s f hf
  obtain ⟨e, he⟩ : ∃ e : Nat, e = f + d := ⟨_, rfl⟩
  have HE := Lib.hid he
  rw [← he]
  have hq : ((f : Int) == (e : Int)) = false := by rw [beq_eq_false_iff_ne]; omega
  have hse : e ≤ s.size := by omega
  have hfe : f < e := by omega
  by_cases h1 : s[f] = 48 ∧ 1 < d
  · have HM : Hid (misL s.data.toList f d = ((f : Int) + 1, true)) := Lib.hid (by unfold misL; rw [if_neg d0, hg, if_pos h1])
    have h48 : ((s[f].toNat : Int) == 48) = true := by rw [h1.1]; rfl
    have hgt : 1 < (e : Int) - f := by omega
    clear d0 hg he h1 hfd
    go_enter Tryz.func153, Tryz.ntmps153
    go_wp2_with fail
    go_ret2
    exact ⟨by rw [HM.out]; rfl, rfl⟩
  have rest : ∀ (b : Bool) (hb : ((s[f].toNat : Int) == 48) = b) (g : b = true → ¬ (1 : Int) < (e : Int) - f), Calls Tryz.prog 153 #[.string s, .int .i64 f, .int .i64 e] w fun e w' => e = .returned (misV (misL s.data.toList f d)) ∧ w = w' := by
    intro b hb g
    by_cases hlt : e < s.size
    · have hge := toList_getD s e hlt
      have HI1 := Lib.hid (idx_yes s[e])
      have HI2 := Lib.hid (idx_no s[e])
      cases hst : stopB s[e] with
      | true =>
        have HM : Hid (misL s.data.toList f d = ((e : Int), true)) := Lib.hid (by unfold misL; rw [if_neg d0, hg, if_neg h1, ← he, hge, hst, if_pos rfl, he, Int.natCast_add])
        have HS := Lib.hid hst
        clear d0 hg he h1 hfd hge hst
        cases b with
        | true =>
          have g' := g rfl
          clear g
          go_enter Tryz.func153, Tryz.ntmps153
          go_wp2_with (go_at_call 159; refine (HI1.out HS.out _).mono ?_; rintro e w' ⟨⟨i, hi, rfl⟩, rfl⟩)
          go_ret2
          exact ⟨by rw [HM.out]; rfl, rfl⟩
        | false =>
          clear g
          go_enter Tryz.func153, Tryz.ntmps153
          go_wp2_with (go_at_call 159; refine (HI1.out HS.out _).mono ?_; rintro e w' ⟨⟨i, hi, rfl⟩, rfl⟩)
          go_ret2
          exact ⟨by rw [HM.out]; rfl, rfl⟩
      | false =>
        have HM : Hid (misL s.data.toList f d = (0, false)) := Lib.hid (by unfold misL; rw [if_neg d0, hg, if_neg h1, ← he, hge, hst, if_neg (by simp)])
        have HS := Lib.hid hst
        clear d0 hg he h1 hfd hge hst
        cases b with
        | true =>
          have g' := g rfl
          clear g
          go_enter Tryz.func153, Tryz.ntmps153
          go_wp2_with (go_at_call 159; refine (HI2.out HS.out _).mono ?_; rintro e w' ⟨rfl, rfl⟩)
          go_ret2
          exact ⟨by rw [HM.out]; rfl, rfl⟩
        | false =>
          clear g
          go_enter Tryz.func153, Tryz.ntmps153
          go_wp2_with (go_at_call 159; refine (HI2.out HS.out _).mono ?_; rintro e w' ⟨rfl, rfl⟩)
          go_ret2
          exact ⟨by rw [HM.out]; rfl, rfl⟩
    · have hge := toList_getD_end s e (by omega)
      have HM : Hid (misL s.data.toList f d = (0, false)) := Lib.hid (by unfold misL; rw [if_neg d0, hg, if_neg h1, ← he, hge, if_neg (by decide)])
      clear d0 hg he h1 hfd hge
      cases b with
      | true =>
        have g' := g rfl
        clear g
        go_enter Tryz.func153, Tryz.ntmps153
        go_wp2_with fail
        go_ret2
        exact ⟨by rw [HM.out]; rfl, rfl⟩
      | false =>
        clear g
        go_enter Tryz.func153, Tryz.ntmps153
        go_wp2_with fail
        go_ret2
        exact ⟨by rw [HM.out]; rfl, rfl⟩
  by_cases hx : s[f] = 48
  · exact rest true (by rw [hx]; rfl) (fun _ => by have : ¬ 1 < d := fun e => h1 ⟨hx, e⟩; omega)
  · exact rest false (by rw [beq_eq_false_iff_ne]; intro e; exact hx (UInt8.toNat_inj.1 (by have : (48 : UInt8).toNat = 48 := rfl; omega))) (fun h => by cases h)
end Go.Proofs.YtkigeegahepnaaaGreatDoor.Nu

namespace Go.Proofs.YtkigeegahepnaaaGreatDoor.Nu
open Go.RowKit

theorem val_snoc_at (s : ByteArray) (k : Nat) (h : k < s.size) : val (s.data.toList.take (k + 1)) = val (s.data.toList.take k) * 10 + (s[k].toNat - 48) := by
  rw [take_snoc s k h, val_snoc]
theorem all_at (s : ByteArray) (ha : s.data.toList.all isD = true) (k : Nat) (h : k < s.size) : 48 ≤ s[k].toNat ∧ s[k].toNat ≤ 57 := by
  have := List.all_eq_true.1 ha s[k] (by
    have e := toList_getElem s k h
    exact List.mem_of_getElem? e)
  exact isD_iff.1 this

set_option maxRecDepth 100000 in
set_option maxHeartbeats 2000000 in
theorem worth_any (s : ByteArray) (hs : s.size ≤ maxLen) (ha : s.data.toList.all isD = true) (w : World) :
    Calls Tryz.prog 154 #[.string s] w fun e w' => e = .returned (misV (wL s.data.toList)) ∧ w = w' := by
  unfold maxLen at hs
  have HA := Lib.hid (all_at s ha)
  have HV := Lib.hid (val_snoc_at s)
  have HT := Lib.hid (val_take_le s.data.toList)
  have hall : s.data.toList.take s.size = s.data.toList := List.take_of_length_le (by rw [toList_length]; omega)
  have HF := Lib.hid hall
  clear ha hall
  go_enter Tryz.func154, Tryz.ntmps154
  go_wp2
  go_loop [2, 8] (fun n i => ∃ k v : Nat, k ≤ s.size ∧ i = .int .i64 k ∧ n = .int .i64 v ∧ v ≤ 9007199254740992 ∧ Hid (val (s.data.toList.take k) = v)) (fun _ i => s.size - (intOf i).toNat)
  case atStart => exact ⟨0, 0, by omega, rfl, rfl, by omega, Lib.hid rfl⟩
  case round =>
    obtain ⟨k, v, hk, rfl, rfl, hv, hval⟩ := hrel
    by_cases hlt : k < s.size
    · obtain ⟨c0, c1⟩ := HA.out k hlt
      have hsn := HV.out k hlt
      rw [hval.out] at hsn
      obtain ⟨d, hd⟩ : ∃ d : Nat, d = s[k].toNat - 48 := ⟨_, rfl⟩
      rw [← hd] at hsn
      have hdi : (s[k].toNat : Int) - 48 = (d : Int) := by omega
      have d9 : d ≤ 9 := by omega
      obtain ⟨q, hq⟩ : ∃ q : Nat, q = (9007199254740992 - d) / 10 := ⟨_, rfl⟩
      have hqi : (9007199254740992 - (d : Int)) / 10 = (q : Int) := by omega
      by_cases ho : q < v
      · have hgt : (q : Int) < v := by omega
        have hbig : 9007199254740992 < val (s.data.toList.take (k + 1)) := by rw [hsn]; omega
        have HW : Hid (wL s.data.toList = (0, false)) := Lib.hid (by unfold wL; rw [if_neg (by have := HT.out (k + 1); omega)])
        clear hbig hsn hd hq hval
        go_wp2
        go_ret2
        exact ⟨by rw [HW.out]; rfl, rfl⟩
      · have hgt : ¬ (q : Int) < v := by omega
        have hle : v * 10 + d ≤ 9007199254740992 := by omega
        have HN : Hid (val (s.data.toList.take (k + 1)) = v * 10 + d) := Lib.hid hsn
        clear hsn hd hq hval
        go_wp2
        go_round
        case rel => exact ⟨k + 1, v * 10 + d, by omega, by go_num, by go_num, by omega, HN⟩
        case measure => simp [intOf]; omega
    · have HW : Hid (wL s.data.toList = ((v : Int), true)) := Lib.hid (by
        have e : k = s.size := by omega
        have h2 := hval.out
        rw [e, HF.out] at h2
        unfold wL
        rw [h2, if_pos hv])
      clear hval
      go_wp2
      go_ret2
      exact ⟨by rw [HW.out]; rfl, rfl⟩
end Go.Proofs.YtkigeegahepnaaaGreatDoor.Nu

namespace Go.Proofs.YtkigeegahepnaaaGreatDoor.Nu
open Go.RowKit

def scanV (r : Int × Int × Int) : Value := .tuple #[.int .i64 r.1, .int .i64 r.2.1, .int .i64 r.2.2]
set_option maxRecDepth 100000 in
set_option maxHeartbeats 2000000 in
theorem scan_low (s : ByteArray) (at_ : Int) (h : at_ < 0) (w : World) :
    Calls Tryz.prog 141 #[.string s, .int .i64 at_] w fun e w' => e = .returned (scanV (scanL s.data.toList at_)) ∧ w = w' := by
  have HS : Hid (scanL s.data.toList at_ = (0, 0, 2)) := Lib.hid (by unfold scanL; rw [if_pos (.inl h)])
  go_enter Tryz.func141, Tryz.ntmps141
  go_wp2_with fail
  go_ret3
  exact ⟨by rw [HS.out]; rfl, rfl⟩
set_option maxRecDepth 100000 in
set_option maxHeartbeats 2000000 in
theorem scan_high (s : ByteArray) (hs : s.size ≤ maxLen) (at_ : Int) (h0 : 0 ≤ at_) (h : (s.size : Int) < at_) (w : World) :
    Calls Tryz.prog 141 #[.string s, .int .i64 at_] w fun e w' => e = .returned (scanV (scanL s.data.toList at_)) ∧ w = w' := by
  unfold maxLen at hs
  have HS : Hid (scanL s.data.toList at_ = (0, 0, 2)) := Lib.hid (by unfold scanL; rw [if_pos (.inr (by rw [toList_length]; exact h))])
  have h0' : ¬ at_ < 0 := by omega
  go_enter Tryz.func141, Tryz.ntmps141
  go_wp2_with fail
  go_ret3
  exact ⟨by rw [HS.out]; rfl, rfl⟩
theorem dig_facts (s : ByteArray) (f : Nat) : (∀ j, j < (dig s.data.toList f).length → ∃ h : f + j < s.size, isD (s[f + j]'h) = true) ∧ (∀ h : f + (dig s.data.toList f).length < s.size, isD (s[f + (dig s.data.toList f).length]'h) = false) := by
  refine ⟨fun j hj => ?_, fun h => ?_⟩
  · have hl := dig_le s.data.toList f
    rw [toList_length] at hl
    have h : f + j < s.size := by omega
    refine ⟨h, ?_⟩
    rw [← toList_getD s _ h]
    exact dig_at _ _ _ hj
  · rw [← toList_getD s _ h]
    exact dig_end _ _ (by rw [toList_length]; exact h)
theorem ext_drop (s : ByteArray) (k : Nat) : (s.extract k s.size).data.toList = s.data.toList.drop k := by
  rw [Lib.extract_data, List.take_of_length_le]
  rw [List.length_drop, toList_length]; omega
theorem ext_dig (s : ByteArray) (f d : Nat) (hd : d = (dig s.data.toList f).length) : (s.extract f (f + d)).data.toList = dig s.data.toList f := by
  rw [Lib.extract_data, show f + d - f = d by omega, hd]
  exact (dig_take _ _).symm
theorem pre_any (s : ByteArray) (k : Nat) (w : World) :
    Calls Tryz.prog 151 #[.string (s.extract k s.size), .string ⟨#[45]⟩] w fun e w' => e = .returned (.bool (decide (s.data.toList.getD k 0 = 45))) ∧ w = w' := by
  refine (Tryz.strings_HasPrefix (s.extract k s.size) ⟨#[45]⟩ w).mono ?_
  rintro e w' ⟨rfl, rfl⟩
  refine ⟨?_, rfl⟩
  have h : Lib.hasPrefix (s.extract k s.size).data.toList [45] = decide (s.data.toList.getD k 0 = 45) := by
    rw [ext_drop, ← Nat.add_zero k, ← getD_drop, Nat.add_zero]
    match s.data.toList.drop k with
    | [] => rfl
    | c :: t =>
      unfold Lib.hasPrefix
      simp only [List.isPrefixOf, Bool.and_true, List.getD_cons_zero]
      by_cases hc : c = 45
      · subst hc; rfl
      · rw [decide_eq_false hc, beq_eq_false_iff_ne]; exact fun e => hc e.symm
  show Ending.returned (.bool (Lib.hasPrefix (s.extract k s.size).data.toList [45])) = _
  rw [h]
theorem scanB_bad {l : List UInt8} {k f d : Nat} {m : Bool} {p : Int} (hd : d = (dig l f).length) (h : misL l f d = (p, true)) : scanB l k m f = (0, p, 20) := by
  unfold scanB; rw [← hd, h]; rfl
theorem scanB_big {l : List UInt8} {k f d : Nat} {m : Bool} {p x : Int} (hd : d = (dig l f).length) (h : misL l f d = (p, false)) (hw : wL (dig l f) = (x, false)) : scanB l k m f = (0, (k : Int), 20) := by
  unfold scanB; rw [← hd, h]
  have : 9007199254740992 < val (dig l f) := by
    unfold wL at hw
    split at hw
    · cases hw
    · omega
  simp [this]
theorem scanB_zero {l : List UInt8} {k f d : Nat} {p : Int} (hd : d = (dig l f).length) (h : misL l f d = (p, false)) (hw : wL (dig l f) = (0, true)) : scanB l k true f = (0, (k : Int), 20) := by
  unfold scanB; rw [← hd, h]
  have : val (dig l f) = 0 := by
    unfold wL at hw
    split at hw
    · have := congrArg Prod.fst hw; simp at this; omega
    · cases hw
  simp [this]
theorem scanB_neg {l : List UInt8} {k f d : Nat} {p x : Int} (hd : d = (dig l f).length) (h : misL l f d = (p, false)) (hw : wL (dig l f) = (x, true)) (h0 : x ≠ 0) : scanB l k true f = (-x, ((f + d : Nat) : Int), 0) ∧ 0 ≤ x ∧ x ≤ 9007199254740992 := by
  unfold scanB; rw [← hd, h]
  unfold wL at hw
  split at hw
  · rename_i hv
    have hx : (val (dig l f) : Int) = x := congrArg Prod.fst hw
    rw [if_neg (by simp), if_neg (by omega), hx]
    exact ⟨by simp, by omega, by omega⟩
  · cases hw
theorem scanB_pos {l : List UInt8} {k f d : Nat} {p x : Int} (hd : d = (dig l f).length) (h : misL l f d = (p, false)) (hw : wL (dig l f) = (x, true)) : scanB l k false f = (x, ((f + d : Nat) : Int), 0) := by
  unfold scanB; rw [← hd, h]
  unfold wL at hw
  split at hw
  · rename_i hv
    have hx : (val (dig l f) : Int) = x := congrArg Prod.fst hw
    rw [if_neg (by simp), if_neg (by simp; omega), hx]
    simp
  · cases hw

set_option maxRecDepth 100000 in
set_option maxHeartbeats 4000000 in
theorem scan_false (s : ByteArray) (hs : s.size ≤ maxLen) (k : Nat) (hk : k ≤ s.size) (hm : s.data.toList.getD k 0 ≠ 45) (w : World) :
    Calls Tryz.prog 141 #[.string s, .int .i64 k] w fun e w' => e = .returned (scanV (scanB s.data.toList k false k)) ∧ w = w' := by
  obtain ⟨f, hf⟩ : ∃ f, k = f := ⟨_, rfl⟩
  subst hf
  have hfs : k ≤ s.size := hk
  have HP := Lib.hid (pre_any s k w)
  rw [decide_eq_false hm] at HP
  have hM9 := Lib.hid hs
  unfold maxLen at hs
  obtain ⟨d, hd⟩ : ∃ d, d = (dig s.data.toList k).length := ⟨_, rfl⟩
  have hdl := dig_le s.data.toList k
  rw [← hd, toList_length] at hdl
  have hfd : k + d ≤ s.size := by omega
  obtain ⟨hF1, hF2⟩ := dig_facts s k
  rw [← hd] at hF1
  have HF1 := Lib.hid hF1
  have HF2 : Hid (∀ h : k + d < s.size, isD (s[k + d]'h) = false) := Lib.hid (by subst hd; exact hF2)
  obtain ⟨en, hen⟩ : ∃ en : Nat, en = k + d := ⟨_, rfl⟩
  have HM := Lib.hid (mis_any s k d hfd hM9.out w)
  rw [← hen] at HM
  have hX := ext_dig s k d hd
  rw [← hen] at hX
  have HW := Lib.hid (worth_any (s.extract k en) (by rw [ByteArray.size_extract]; have := hM9.out; omega) (by rw [hX]; exact dig_all _ _) w)
  rw [hX] at HW
  have hen1 : en ≤ s.size := by omega
  have hen2 : k ≤ en := by omega
  have HD := Lib.hid hd
  have HE := Lib.hid hen
  have hk1 : ¬ (s.size : Int) < k := by omega
  have hk0 : ¬ (k : Int) < 0 := by omega
  clear hm hF1 hF2 hd hdl hfd hen hX
  go_enter Tryz.func141, Tryz.ntmps141
  go_wp2_with (go_at_call 151; refine HP.out.mono ?_; rintro e w' ⟨rfl, rfl⟩)
  go_loop [5] (fun v => ∃ q : Nat, k ≤ q ∧ q ≤ en ∧ v = .int .i64 q) (fun v => en - (intOf v).toNat)
  case atStart => exact ⟨k, by omega, by omega, rfl⟩
  case round =>
    obtain ⟨q, hq1, hq2, rfl⟩ := hrel
    by_cases hlt : q < en
    · obtain ⟨hqs, hdq⟩ : ∃ h : q < s.size, isD (s[q]'h) = true := by
        obtain ⟨h, h2⟩ := HF1.out (q - k) (by have := HE.out; omega)
        have e : k + (q - k) = q := by omega
        simp only [e] at h h2
        exact ⟨h, h2⟩
      have HDQ := Lib.hid hdq
      clear hdq
      go_wp2_with (go_at_call 152; refine (digit_yes _ HDQ.out _).mono ?_; rintro e w' ⟨rfl, rfl⟩)
      go_round
      case rel => exact ⟨q + 1, by omega, by omega, by go_num⟩
      case measure => simp [intOf]; omega
    · obtain rfl : q = en := by omega
      obtain ⟨p, b, hmis⟩ : ∃ p b, misL s.data.toList k d = (p, b) := ⟨_, _, rfl⟩
      obtain ⟨x, y, hwl⟩ : ∃ x y, wL (dig s.data.toList k) = (x, y) := ⟨_, _, rfl⟩
      have HMis := Lib.hid hmis
      have HWl := Lib.hid hwl
      rw [hmis] at HM
      rw [hwl] at HW
      unfold misV at HM HW
      have hnd : ∀ h : q < s.size, isD (s[q]'h) = false := by
        have e := HE.out
        subst e
        exact HF2.out
      clear hmis hwl
      cases b with
      | true =>
        have HS := Lib.hid (scanB_bad (k := k) (m := false) HD.out HMis.out)
        by_cases hqs : q < s.size
        · have HDQ := Lib.hid (hnd hqs)
          clear hnd
          go_wp2_with (first | (go_at_call 152; refine (digit_no _ HDQ.out _).mono ?_; rintro e w' ⟨rfl, rfl⟩) | (go_at_call 153; (with_reducible refine HM.out.mono ?_); rintro e w' ⟨rfl, rfl⟩))
          go_ret3
          exact ⟨by rw [HS.out]; rfl, rfl⟩
        · clear hnd
          go_wp2_with (first | (go_at_call 153; (with_reducible refine HM.out.mono ?_); rintro e w' ⟨rfl, rfl⟩))
          go_ret3
          exact ⟨by rw [HS.out]; rfl, rfl⟩
      | false =>
        cases y with
        | false =>
          have HS := Lib.hid (scanB_big (k := k) (m := false) HD.out HMis.out HWl.out)
          by_cases hqs : q < s.size
          · have HDQ := Lib.hid (hnd hqs)
            clear hnd
            go_wp2_with (first | (go_at_call 152; refine (digit_no _ HDQ.out _).mono ?_; rintro e w' ⟨rfl, rfl⟩) | (go_at_call 153; (with_reducible refine HM.out.mono ?_); rintro e w' ⟨rfl, rfl⟩) | (go_at_call 154; (with_reducible refine HW.out.mono ?_); rintro e w' ⟨rfl, rfl⟩))
            go_ret3
            exact ⟨by rw [HS.out]; rfl, rfl⟩
          · clear hnd
            go_wp2_with (first | (go_at_call 153; (with_reducible refine HM.out.mono ?_); rintro e w' ⟨rfl, rfl⟩) | (go_at_call 154; (with_reducible refine HW.out.mono ?_); rintro e w' ⟨rfl, rfl⟩))
            go_ret3
            exact ⟨by rw [HS.out]; rfl, rfl⟩
        | true =>
          have HS := Lib.hid (scanB_pos (k := k) HD.out HMis.out HWl.out)
          rw [← HE.out] at HS
          by_cases hqs : q < s.size
          · have HDQ := Lib.hid (hnd hqs)
            clear hnd
            go_wp2_with (first | (go_at_call 152; refine (digit_no _ HDQ.out _).mono ?_; rintro e w' ⟨rfl, rfl⟩) | (go_at_call 153; (with_reducible refine HM.out.mono ?_); rintro e w' ⟨rfl, rfl⟩) | (go_at_call 154; (with_reducible refine HW.out.mono ?_); rintro e w' ⟨rfl, rfl⟩))
            go_ret3
            exact ⟨by rw [HS.out]; rfl, rfl⟩
          · clear hnd
            go_wp2_with (first | (go_at_call 153; (with_reducible refine HM.out.mono ?_); rintro e w' ⟨rfl, rfl⟩) | (go_at_call 154; (with_reducible refine HW.out.mono ?_); rintro e w' ⟨rfl, rfl⟩))
            go_ret3
            exact ⟨by rw [HS.out]; rfl, rfl⟩

set_option maxRecDepth 100000 in
set_option maxHeartbeats 4000000 in
theorem scan_true (s : ByteArray) (hs : s.size ≤ maxLen) (k : Nat) (hk : k ≤ s.size) (hm : s.data.toList.getD k 0 = 45) (w : World) :
    Calls Tryz.prog 141 #[.string s, .int .i64 k] w fun e w' => e = .returned (scanV (scanB s.data.toList k true (k + 1))) ∧ w = w' := by
  have hk2 : k < s.size := by
    rcases Nat.lt_or_ge k s.size with h | h
    · exact h
    · rw [toList_getD_end s k h] at hm; exact absurd hm (by decide)
  obtain ⟨f, hf⟩ : ∃ f, f = k + 1 := ⟨_, rfl⟩
  rw [← hf]
  have hfi : (k : Int) + 1 = (f : Int) := by omega
  have hfs : f ≤ s.size := by omega
  have HP := Lib.hid (pre_any s k w)
  rw [decide_eq_true hm] at HP
  have hM9 := Lib.hid hs
  unfold maxLen at hs
  obtain ⟨d, hd⟩ : ∃ d, d = (dig s.data.toList f).length := ⟨_, rfl⟩
  have hdl := dig_le s.data.toList f
  rw [← hd, toList_length] at hdl
  have hfd : f + d ≤ s.size := by omega
  obtain ⟨hF1, hF2⟩ := dig_facts s f
  rw [← hd] at hF1
  have HF1 := Lib.hid hF1
  have HF2 : Hid (∀ h : f + d < s.size, isD (s[f + d]'h) = false) := Lib.hid (by subst hd; exact hF2)
  obtain ⟨en, hen⟩ : ∃ en : Nat, en = f + d := ⟨_, rfl⟩
  have HM := Lib.hid (mis_any s f d hfd hM9.out w)
  rw [← hen] at HM
  have hX := ext_dig s f d hd
  rw [← hen] at hX
  have HW := Lib.hid (worth_any (s.extract f en) (by rw [ByteArray.size_extract]; have := hM9.out; omega) (by rw [hX]; exact dig_all _ _) w)
  rw [hX] at HW
  have hen1 : en ≤ s.size := by omega
  have hen2 : f ≤ en := by omega
  have HD := Lib.hid hd
  have HE := Lib.hid hen
  have hk1 : ¬ (s.size : Int) < k := by omega
  have hk0 : ¬ (k : Int) < 0 := by omega
  clear hm hF1 hF2 hd hdl hfd hen hX hf
  go_enter Tryz.func141, Tryz.ntmps141
  go_wp2_with (go_at_call 151; refine HP.out.mono ?_; rintro e w' ⟨rfl, rfl⟩)
  go_loop [5] (fun v => ∃ q : Nat, f ≤ q ∧ q ≤ en ∧ v = .int .i64 q) (fun v => en - (intOf v).toNat)
  case atStart => exact ⟨f, by omega, by omega, rfl⟩
  case round =>
    obtain ⟨q, hq1, hq2, rfl⟩ := hrel
    by_cases hlt : q < en
    · obtain ⟨hqs, hdq⟩ : ∃ h : q < s.size, isD (s[q]'h) = true := by
        obtain ⟨h, h2⟩ := HF1.out (q - f) (by have := HE.out; omega)
        have e : f + (q - f) = q := by omega
        simp only [e] at h h2
        exact ⟨h, h2⟩
      have HDQ := Lib.hid hdq
      clear hdq
      go_wp2_with (go_at_call 152; refine (digit_yes _ HDQ.out _).mono ?_; rintro e w' ⟨rfl, rfl⟩)
      go_round
      case rel => exact ⟨q + 1, by omega, by omega, by go_num⟩
      case measure => simp [intOf]; omega
    · obtain rfl : q = en := by omega
      obtain ⟨p, b, hmis⟩ : ∃ p b, misL s.data.toList f d = (p, b) := ⟨_, _, rfl⟩
      obtain ⟨x, y, hwl⟩ : ∃ x y, wL (dig s.data.toList f) = (x, y) := ⟨_, _, rfl⟩
      have HMis := Lib.hid hmis
      have HWl := Lib.hid hwl
      rw [hmis] at HM
      rw [hwl] at HW
      unfold misV at HM HW
      have hnd : ∀ h : q < s.size, isD (s[q]'h) = false := by
        have e := HE.out
        subst e
        exact HF2.out
      clear hmis hwl
      cases b with
      | true =>
        have HS := Lib.hid (scanB_bad (k := k) (m := true) HD.out HMis.out)
        by_cases hqs : q < s.size
        · have HDQ := Lib.hid (hnd hqs)
          clear hnd
          go_wp2_with (first | (go_at_call 152; refine (digit_no _ HDQ.out _).mono ?_; rintro e w' ⟨rfl, rfl⟩) | (go_at_call 153; (with_reducible refine HM.out.mono ?_); rintro e w' ⟨rfl, rfl⟩))
          go_ret3
          exact ⟨by rw [HS.out]; rfl, rfl⟩
        · clear hnd
          go_wp2_with (first | (go_at_call 153; (with_reducible refine HM.out.mono ?_); rintro e w' ⟨rfl, rfl⟩))
          go_ret3
          exact ⟨by rw [HS.out]; rfl, rfl⟩
      | false =>
        cases y with
        | false =>
          have HS := Lib.hid (scanB_big (k := k) (m := true) HD.out HMis.out HWl.out)
          by_cases hqs : q < s.size
          · have HDQ := Lib.hid (hnd hqs)
            clear hnd
            go_wp2_with (first | (go_at_call 152; refine (digit_no _ HDQ.out _).mono ?_; rintro e w' ⟨rfl, rfl⟩) | (go_at_call 153; (with_reducible refine HM.out.mono ?_); rintro e w' ⟨rfl, rfl⟩) | (go_at_call 154; (with_reducible refine HW.out.mono ?_); rintro e w' ⟨rfl, rfl⟩))
            go_ret3
            exact ⟨by rw [HS.out]; rfl, rfl⟩
          · clear hnd
            go_wp2_with (first | (go_at_call 153; (with_reducible refine HM.out.mono ?_); rintro e w' ⟨rfl, rfl⟩) | (go_at_call 154; (with_reducible refine HW.out.mono ?_); rintro e w' ⟨rfl, rfl⟩))
            go_ret3
            exact ⟨by rw [HS.out]; rfl, rfl⟩
        | true =>
          by_cases hx0 : x = 0
          · subst hx0
            have HS := Lib.hid (scanB_zero (k := k) HD.out HMis.out HWl.out)
            by_cases hqs : q < s.size
            · have HDQ := Lib.hid (hnd hqs)
              clear hnd
              go_wp2_with (first | (go_at_call 152; refine (digit_no _ HDQ.out _).mono ?_; rintro e w' ⟨rfl, rfl⟩) | (go_at_call 153; (with_reducible refine HM.out.mono ?_); rintro e w' ⟨rfl, rfl⟩) | (go_at_call 154; (with_reducible refine HW.out.mono ?_); rintro e w' ⟨rfl, rfl⟩))
              go_ret3
              exact ⟨by rw [HS.out]; rfl, rfl⟩
            · clear hnd
              go_wp2_with (first | (go_at_call 153; (with_reducible refine HM.out.mono ?_); rintro e w' ⟨rfl, rfl⟩) | (go_at_call 154; (with_reducible refine HW.out.mono ?_); rintro e w' ⟨rfl, rfl⟩))
              go_ret3
              exact ⟨by rw [HS.out]; rfl, rfl⟩
          · obtain ⟨hs1, hx1, hx2⟩ := scanB_neg (k := k) HD.out HMis.out HWl.out hx0
            have HS := Lib.hid hs1
            rw [← HE.out] at HS
            have hxb : (x == 0) = false := by rw [beq_eq_false_iff_ne]; exact hx0
            clear hs1
            by_cases hqs : q < s.size
            · have HDQ := Lib.hid (hnd hqs)
              clear hnd
              go_wp2_with (first | (go_at_call 152; refine (digit_no _ HDQ.out _).mono ?_; rintro e w' ⟨rfl, rfl⟩) | (go_at_call 153; (with_reducible refine HM.out.mono ?_); rintro e w' ⟨rfl, rfl⟩) | (go_at_call 154; (with_reducible refine HW.out.mono ?_); rintro e w' ⟨rfl, rfl⟩))
              go_ret3
              exact ⟨by rw [HS.out]; rfl, rfl⟩
            · clear hnd
              go_wp2_with (first | (go_at_call 153; (with_reducible refine HM.out.mono ?_); rintro e w' ⟨rfl, rfl⟩) | (go_at_call 154; (with_reducible refine HW.out.mono ?_); rintro e w' ⟨rfl, rfl⟩))
              go_ret3
              exact ⟨by rw [HS.out]; rfl, rfl⟩

theorem scan_any (s : ByteArray) (hs : s.size ≤ maxLen) (at_ : Int) (w : World) :
    Calls Tryz.prog 141 #[.string s, .int .i64 at_] w fun e w' => e = .returned (scanV (scanL s.data.toList at_)) ∧ w = w' := by
  by_cases h0 : at_ < 0
  · exact scan_low s at_ h0 w
  by_cases h1 : (s.size : Int) < at_
  · exact scan_high s hs at_ (by omega) h1 w
  obtain ⟨k, rfl⟩ : ∃ k : Nat, at_ = (k : Int) := ⟨at_.toNat, by omega⟩
  have e : scanL s.data.toList (k : Int) = scanN s.data.toList k := by
    unfold scanL
    rw [if_neg (by rw [toList_length]; omega)]
    rfl
  rw [e]
  unfold scanN
  by_cases hm : s.data.toList.getD k 0 = 45
  · rw [if_pos hm]
    exact scan_true s hs k (by omega) hm w
  · rw [if_neg hm]
    exact scan_false s hs k (by omega) hm w
def readV (r : Int × Int) : Value := .tuple #[.int .i64 r.1, .int .i64 r.2]
theorem readL_bad {l : List UInt8} {n en e : Int} (h : scanL l 0 = (n, en, e)) (he : e ≠ 0) : readL l = (0, 20) := by
  unfold readL; rw [h, if_neg (fun x => he x.1)]
theorem readL_end {l : List UInt8} {n en e : Int} (h : scanL l 0 = (n, en, e)) (he : en ≠ l.length) : readL l = (0, 20) := by
  unfold readL; rw [h, if_neg (fun x => he x.2)]
theorem readL_ok {l : List UInt8} {n : Int} (h : scanL l 0 = (n, (l.length : Int), 0)) : readL l = (n, 0) := by
  unfold readL; rw [h, if_pos ⟨rfl, rfl⟩]
set_option maxRecDepth 100000 in
set_option maxHeartbeats 1000000 in
theorem read_any (s : ByteArray) (hs : s.size ≤ maxLen) (w : World) :
    Calls Tryz.prog 131 #[.string s] w fun e w' => e = .returned (readV (readL s.data.toList)) ∧ w = w' := by
  have hS := scan_any s hs 0 w
  unfold maxLen at hs
  obtain ⟨n, en, e, h⟩ : ∃ n en e, scanL s.data.toList 0 = (n, en, e) := ⟨_, _, _, rfl⟩
  rw [h] at hS
  unfold scanV at hS
  have HS := Lib.hid hS
  clear hS
  by_cases he : e = 0
  · subst he
    by_cases hen : en = s.size
    · subst hen
      have HR := Lib.hid (readL_ok (by rw [toList_length]; exact h))
      clear h
      go_enter Tryz.func131, Tryz.ntmps131
      go_wp2_with (go_at_call 141; refine HS.out.mono ?_; rintro e w' ⟨rfl, rfl⟩)
      go_ret2
      exact ⟨by rw [HR.out]; rfl, rfl⟩
    · have HR := Lib.hid (readL_end h (by rw [toList_length]; exact hen))
      have hq : (en == (s.size : Int)) = false := by rw [beq_eq_false_iff_ne]; exact hen
      clear h hen
      go_enter Tryz.func131, Tryz.ntmps131
      go_wp2_with (go_at_call 141; refine HS.out.mono ?_; rintro e w' ⟨rfl, rfl⟩)
      go_ret2
      exact ⟨by rw [HR.out]; rfl, rfl⟩
  · have HR := Lib.hid (readL_bad h he)
    have hq : (e == (0 : Int)) = false := by rw [beq_eq_false_iff_ne]; exact he
    clear h he
    go_enter Tryz.func131, Tryz.ntmps131
    go_wp2_with (go_at_call 141; refine HS.out.mono ?_; rintro e w' ⟨rfl, rfl⟩)
    go_ret2
    exact ⟨by rw [HR.out]; rfl, rfl⟩
end Go.Proofs.YtkigeegahepnaaaGreatDoor.Nu

namespace Go.Proofs.YtkigeegahepnaaaGreatDoor.Nu

theorem txt_head_pos {n : Int} (h : fitB n = true) (h0 : ¬ n < 0) : ∃ c t, txt n = c :: t ∧ isD c = true ∧ (c = 48 → t = []) := by
  rw [txt_pos h h0]
  have ha := digs_all n.natAbs
  by_cases hz : n.natAbs = 0
  · rw [hz, digs_lt (by omega)]
    exact ⟨_, [], rfl, isD_ofD (by omega), fun _ => rfl⟩
  · obtain ⟨c, t, e, hc⟩ := digs_head n.natAbs (by omega)
    rw [e] at ha ⊢
    rw [List.all_cons, Bool.and_eq_true] at ha
    exact ⟨c, t, rfl, ha.1, fun x => absurd x hc⟩
theorem isD_not45 {c : UInt8} (h : isD c = true) : c ≠ 45 := by
  rintro rfl
  exact absurd h (by decide)
theorem drop_pre (a b : List UInt8) : (a ++ b).drop a.length = b := by simp
theorem getD_pre (a b : List UInt8) (j : Nat) : (a ++ b).getD (a.length + j) 0 = b.getD j 0 := by
  rw [← getD_drop, drop_pre]
/-- Behind it a number's text may end. -/
def freeB (rest : List UInt8) : Bool := match rest with
  | [] => true
  | c :: _ => !isD c && !stopB c
theorem freeB_stop {rest : List UInt8} (h : freeB rest = true) : stopB (rest.getD 0 0) = false ∧ ∀ c t, rest = c :: t → isD c = false := by
  match rest, h with
  | [], _ => exact ⟨by decide, fun c t e => by cases e⟩
  | c :: t, h =>
    unfold freeB at h
    rw [Bool.and_eq_true, Bool.not_eq_true', Bool.not_eq_true'] at h
    exact ⟨h.2, fun c' t' e => by cases e; exact h.1⟩
/-- Digits of a number, with no needless 0, read behind a beginning. -/
theorem scanB_digs (pre ds rest : List UInt8) (k m : Nat) (minus : Bool) (hds : ds = digs m) (hm : m ≤ 9007199254740992) (hz : minus = true → m ≠ 0) (hr : freeB rest = true) :
    scanB (pre ++ ds ++ rest) k minus pre.length = (if minus then -(m : Int) else m, ((pre.length + ds.length : Nat) : Int), 0) := by
  obtain ⟨hst, hnd⟩ := freeB_stop hr
  have hd : dig (pre ++ ds ++ rest) pre.length = ds := by
    refine dig_of ds rest ?_ (by rw [hds]; exact digs_all m) hnd
    rw [List.append_assoc, drop_pre]
  have hpos : 1 ≤ ds.length := by rw [hds]; exact digs_pos m
  have hval : val ds = m := by rw [hds, val_digs]
  have hlead : ¬ ((pre ++ ds ++ rest).getD pre.length 0 = 48 ∧ 1 < ds.length) := by
    rintro ⟨h48, h1⟩
    rw [List.append_assoc, ← Nat.add_zero pre.length, getD_pre] at h48
    by_cases h0 : m = 0
    · rw [hds, h0, digs_lt (by omega)] at h1
      simp at h1
    · obtain ⟨c, t, e, hc⟩ := digs_head m (by omega)
      rw [hds, e] at h48
      exact hc (by simpa using h48)
  have hend : (pre ++ ds ++ rest).getD (pre.length + ds.length) 0 = rest.getD 0 0 := by
    have := getD_pre (pre ++ ds) rest 0
    rw [List.length_append, Nat.add_zero] at this
    exact this
  unfold scanB misL
  rw [hd, if_neg (by omega : ¬ ds.length = 0), if_neg hlead, hend, hst, hval]
  have hno : ¬ (9007199254740992 < m ∨ minus = true ∧ m = 0) := by
    rintro (h | ⟨h, h2⟩)
    · omega
    · exact hz h h2
  rw [if_neg (by simp), if_neg hno, Int.natCast_add]
theorem scan_text (n : Int) (h : fitB n = true) (ahead behind : List UInt8) (hr : freeB behind = true) :
    scanN (ahead ++ txt n ++ behind) ahead.length = (n, ((ahead.length + (txt n).length : Nat) : Int), 0) := by
  have hf := fitB_iff.1 h
  by_cases h0 : n < 0
  · have e : ahead ++ txt n ++ behind = (ahead ++ [45]) ++ digs n.natAbs ++ behind := by
      rw [txt_neg h h0]; simp
    have h45 : (ahead ++ txt n ++ behind).getD ahead.length 0 = 45 := by
      rw [txt_neg h h0, List.append_assoc, ← Nat.add_zero ahead.length, getD_pre]; simp
    unfold scanN
    rw [if_pos h45, e]
    have := scanB_digs (ahead ++ [45]) (digs n.natAbs) behind ahead.length n.natAbs true rfl (by omega) (fun _ => by omega) hr
    rw [List.length_append, List.length_singleton] at this
    rw [this, if_pos rfl, txt_neg h h0, List.length_cons, show -(n.natAbs : Int) = n by omega, show ahead.length + 1 + (digs n.natAbs).length = ahead.length + ((digs n.natAbs).length + 1) by omega]
  · obtain ⟨c, t, e, hc, _⟩ := txt_head_pos h h0
    have h45 : ¬ (ahead ++ txt n ++ behind).getD ahead.length 0 = 45 := by
      rw [e, List.append_assoc, ← Nat.add_zero ahead.length, getD_pre]
      simpa using isD_not45 hc
    unfold scanN
    rw [if_neg h45, txt_pos h h0]
    have := scanB_digs ahead (digs n.natAbs) behind ahead.length n.natAbs false rfl (by omega) (fun e => by cases e) hr
    rw [this, if_neg (by simp), show (n.natAbs : Int) = n by omega]
theorem scanL_nat (l : List UInt8) (k : Nat) (h : k ≤ l.length) : scanL l k = scanN l k := by
  unfold scanL
  rw [if_neg (by omega)]; rfl
theorem read_text (n : Int) (h : fitB n = true) : readL (txt n) = (n, 0) := by
  have h1 := scan_text n h [] [] rfl
  rw [List.nil_append, List.append_nil, List.length_nil, Nat.zero_add] at h1
  have h2 : scanL (txt n) 0 = (n, ((txt n).length : Int), 0) := by
    rw [show (0 : Int) = ((0 : Nat) : Int) from rfl, scanL_nat _ _ (Nat.zero_le _), h1]; rfl
  unfold readL
  rw [h2, if_pos ⟨rfl, rfl⟩]

theorem dig_full {l : List UInt8} {k : Nat} (h : k + (dig l k).length = l.length) : dig l k = l.drop k := by
  rw [dig_take, List.take_of_length_le]
  rw [List.length_drop]; omega
theorem scanB_ok {l : List UInt8} {k first : Nat} {minus : Bool} {n en : Int} (hs : scanB l k minus first = (n, en, 0)) :
    1 ≤ (dig l first).length ∧ (1 < (dig l first).length → l.getD first 0 ≠ 48) ∧ val (dig l first) ≤ 9007199254740992 ∧ (minus = true → val (dig l first) ≠ 0) ∧ n = (if minus then -(val (dig l first) : Int) else val (dig l first)) ∧ en = ((first + (dig l first).length : Nat) : Int) := by
  unfold scanB at hs
  by_cases h0 : (dig l first).length = 0
  · have e : misL l first (dig l first).length = ((first : Int), true) := by unfold misL; rw [if_pos h0]
    rw [e, if_pos rfl] at hs
    cases hs
  by_cases h1 : l.getD first 0 = 48 ∧ 1 < (dig l first).length
  · have e : misL l first (dig l first).length = ((first : Int) + 1, true) := by unfold misL; rw [if_neg h0, if_pos h1]
    rw [e, if_pos rfl] at hs
    cases hs
  by_cases h3 : (misL l first (dig l first).length).2 = true
  · rw [if_pos h3] at hs; cases hs
  rw [if_neg h3] at hs
  by_cases h2 : 9007199254740992 < val (dig l first) ∨ minus = true ∧ val (dig l first) = 0
  · rw [if_pos h2] at hs; cases hs
  rw [if_neg h2] at hs
  have a := congrArg (fun x : Int × Int × Int => x.1) hs
  have b := congrArg (fun x : Int × Int × Int => x.2.1) hs
  refine ⟨by omega, fun hx h48 => h1 ⟨h48, hx⟩, by omega, fun hm0 h => h2 (.inr ⟨hm0, h⟩), a.symm, ?_⟩
  exact b.symm.trans (by simp)
theorem text_read (l : List UInt8) (n : Int) (h : readL l = (n, 0)) : fitB n = true ∧ txt n = l := by
  unfold readL at h
  split at h
  · rename_i hc
    obtain ⟨h1, h2⟩ := hc
    have hn : (scanL l 0).1 = n := congrArg Prod.fst h
    have hs : scanN l 0 = (n, (l.length : Int), 0) := by
      rw [← scanL_nat l 0 (Nat.zero_le _)]
      exact Prod.ext hn (Prod.ext h2 h1)
    clear h h1 h2 hn
    unfold scanN at hs
    split at hs
    · rename_i h45
      obtain ⟨a, b, c, d, e, f⟩ := scanB_ok hs
      rw [if_pos rfl] at e
      have hl := dig_full (l := l) (k := 0 + 1) (by omega)
      have hv0 := d rfl
      have hfit : fitB n = true := fitB_iff.2 (by omega)
      refine ⟨hfit, ?_⟩
      have hlne : l ≠ [] := by
        rintro rfl
        exact absurd h45 (by decide)
      obtain ⟨x, t, rfl⟩ := List.exists_cons_of_ne_nil hlne
      have hx : x = 45 := by simpa using h45
      subst hx
      have hlt : dig (45 :: t) (0 + 1) = t := by rw [hl]; rfl
      rw [hlt] at a b c e hv0
      rw [txt_neg hfit (by omega), show n.natAbs = val t by omega]
      congr 1
      refine digs_val (by intro e0; rw [e0] at a; simp at a) (by rw [← hlt]; exact dig_all _ _) (fun h1 h2 => b h1 ?_)
      match t, h2 with
      | y :: t', h2 => simpa using h2
    · rename_i h45
      obtain ⟨a, b, c, d, e, f⟩ := scanB_ok hs
      rw [if_neg (by simp)] at e
      have hl := dig_full (l := l) (k := 0) (by omega)
      rw [List.drop_zero] at hl
      have hfit : fitB n = true := fitB_iff.2 (by omega)
      refine ⟨hfit, ?_⟩
      rw [hl] at a b c e
      rw [txt_pos hfit (by omega), show n.natAbs = val l by omega]
      refine digs_val (by intro e0; rw [e0] at a; simp at a) (by rw [← hl]; exact dig_all _ _) (fun h1 h2 => b h1 ?_)
      match l, h2 with
      | y :: t', h2 => simpa using h2
  · cases h
theorem txt_ne (n : Int) (h : fitB n = true) : txt n ≠ [] := by
  intro e
  by_cases h0 : n < 0
  · rw [txt_neg h h0] at e; cases e
  · rw [txt_pos h h0] at e
    have := digs_pos n.natAbs
    rw [e] at this; simp at this
theorem txt_inj {n m : Int} (hn : fitB n = true) (hm : fitB m = true) : (txt n = txt m) ↔ n = m := by
  constructor
  · intro e
    have h1 := read_text n hn
    rw [e, read_text m hm] at h1
    exact (congrArg Prod.fst h1).symm
  · rintro rfl; rfl
theorem txt_len_pos {n m : Int} (hn : fitB n = true) (hm : fitB m = true) (h0 : ¬ n < 0) (h1 : ¬ m < 0) (hl : (txt n).length ≠ (txt m).length) :
    (txt n).length < (txt m).length ↔ n < m := by
  rw [txt_pos hn h0, txt_pos hm h1] at *
  constructor
  · intro h
    refine Classical.byContradiction fun h2 => ?_
    have := digs_mono (n := m.natAbs) (m := n.natAbs) (by omega)
    omega
  · intro h
    have := digs_mono (n := n.natAbs) (m := m.natAbs) (by omega)
    omega
theorem txt_len_neg {n m : Int} (hn : fitB n = true) (hm : fitB m = true) (h0 : n < 0) (h1 : m < 0) (hl : (txt n).length ≠ (txt m).length) :
    (txt n).length < (txt m).length ↔ ¬ n < m := by
  rw [txt_neg hn h0, txt_neg hm h1] at *
  simp only [List.length_cons] at *
  constructor
  · intro h h2
    have := digs_mono (n := m.natAbs) (m := n.natAbs) (by omega)
    omega
  · intro h
    have := digs_mono (n := n.natAbs) (m := m.natAbs) (by omega)
    omega
theorem txt_lt_pos {n m : Int} (hn : fitB n = true) (hm : fitB m = true) (h0 : ¬ n < 0) (h1 : ¬ m < 0) (hl : (txt n).length = (txt m).length) : txt n < txt m ↔ n < m := by
  rw [txt_pos hn h0, txt_pos hm h1] at *
  rw [lex_val _ _ hl (digs_all _) (digs_all _), val_digs, val_digs]
  omega
theorem txt_lt_neg {n m : Int} (hn : fitB n = true) (hm : fitB m = true) (h0 : n < 0) (h1 : m < 0) (hl : (txt n).length = (txt m).length) : txt n < txt m ↔ m < n := by
  rw [txt_neg hn h0, txt_neg hm h1] at *
  rw [List.cons_lt_cons_iff]
  simp only [List.length_cons, Nat.add_right_cancel_iff] at hl
  rw [lex_val _ _ hl (digs_all _) (digs_all _), val_digs, val_digs]
  constructor
  · rintro (h | ⟨_, h⟩)
    · exact absurd h (UInt8.lt_irrefl _)
    · omega
  · intro h
    exact .inr ⟨rfl, by omega⟩
end Go.Proofs.YtkigeegahepnaaaGreatDoor.Nu
