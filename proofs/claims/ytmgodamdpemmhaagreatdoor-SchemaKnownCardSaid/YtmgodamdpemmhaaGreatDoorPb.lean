/-
  Blanks and line ends; a row to which another row is appended.
-/
import Derived.Test.YtmgodamdpemmhaaGreatDoorGc
import Derived.Test.YtmgodamdpemmhaaGreatDoorGd
import Derived.Deep.AppendLies
import Derived.Laws.OwnMore
import Derived.Laws.AppendOwn
import Derived.Lib.AppendIntMem
import Derived.IntWalk
set_option linter.unusedVariables false
namespace Go.Proofs.YtmgodamdpemmhaaGreatDoor
open Go.RowKit

/-- Is a byte no blank and no line's end? -/
def solid (c : UInt8) : Bool := c != 32 && c != 10
def strip (l : List UInt8) : List UInt8 := l.filter solid
/-- Has a value no blank in its own texts? -/
def noB (z : V) : Prop := (∀ c ∈ z.text.data.toList, c ≠ 32) ∧ ∀ k ∈ z.keys, ∀ c ∈ k.data.toList, c ≠ 32

theorem isVsL_at {W : World} : ∀ (l : List V) (xs : List Value) (i : Nat) (h : i < l.length), isVsL W l xs → ∃ c0 c1 c2 c3 c4 c5, xs[i * 6]? = some c0 ∧ xs[i * 6 + 1]? = some c1 ∧ xs[i * 6 + 2]? = some c2 ∧ xs[i * 6 + 3]? = some c3 ∧ xs[i * 6 + 4]? = some c4 ∧ xs[i * 6 + 5]? = some c5 ∧ isV W l[i] (.agg #[c0, c1, c2, c3, c4, c5])
  | x :: t, xs, 0, _, h => by
    unfold isVsL at h
    obtain ⟨c0, c1, c2, c3, c4, c5, rest, rfl, hx, ht⟩ := h
    exact ⟨c0, c1, c2, c3, c4, c5, rfl, rfl, rfl, rfl, rfl, rfl, hx⟩
  | x :: t, xs, i + 1, hi, h => by
    unfold isVsL at h
    obtain ⟨c0, c1, c2, c3, c4, c5, rest, rfl, hx, ht⟩ := h
    obtain ⟨d0, d1, d2, d3, d4, d5, h0, h1, h2, h3, h4, h5, hy⟩ := isVsL_at t rest i (by simpa using hi) ht
    refine ⟨d0, d1, d2, d3, d4, d5, ?_, ?_, ?_, ?_, ?_, ?_, hy⟩
    · rw [show (i + 1) * 6 = i * 6 + 6 by omega]; exact h0
    · rw [show (i + 1) * 6 + 1 = i * 6 + 1 + 6 by omega]; exact h1
    · rw [show (i + 1) * 6 + 2 = i * 6 + 2 + 6 by omega]; exact h2
    · rw [show (i + 1) * 6 + 3 = i * 6 + 3 + 6 by omega]; exact h3
    · rw [show (i + 1) * 6 + 4 = i * 6 + 4 + 6 by omega]; exact h4
    · rw [show (i + 1) * 6 + 5 = i * 6 + 5 + 6 by omega]; exact h5
/-- What Walk answers: a slice of the parts. -/
theorem rw_vs {w0 w W : World} {A : List V} {v : Value} (h : RW w0 w A v W) (hA : 0 < A.length) (hb : KB w0 W) : ∃ g cap, v = .slice (some ⟨g, 0, none⟩) A.length cap ∧ isVs W A ⟨g, 0, none⟩ ∧ KB w W := by
  have hB := h.choose_spec.2.2
  obtain ⟨g, cap, rfl, xs, h1, h2, h3⟩ := h.form hA
  refine ⟨g, cap, rfl, ?_, hB⟩
  have key : ∀ (l : List V) (ys : List Value) (a : Addr), isVsL w0 l ys → (∀ j u, ys[j]? = some u → W.cell? (a.add j) = some u) → isVs W l a := by
    intro l
    induction l with
    | nil => intro _ _ _ _; unfold isVs; trivial
    | cons x t ih =>
      intro ys a hl hc
      unfold isVsL at hl
      obtain ⟨c0, c1, c2, c3, c4, c5, rest, rfl, hx, ht⟩ := hl
      unfold isVs
      refine ⟨⟨c0, c1, c2, c3, c4, c5, ?_, hc 1 _ rfl, hc 2 _ rfl, hc 3 _ rfl, hc 4 _ rfl, hc 5 _ rfl, isV_below hb hx⟩, ih rest (a.add 6) ht (fun j u hj => ?_)⟩
      · have := hc 0 c0 rfl
        simpa [Addr.add] using this
      · rw [add_add]
        exact hc (6 + j) u (by rw [Nat.add_comm]; exact hj)
  exact key A xs _ h2 h3

mutual
theorem walk_szm : ∀ (x z : V), z ∈ walkV x → sizeV z ≤ sizeV x
  | .mk k b n s l ks, z, hz => by
    rw [walkV] at hz
    rcases List.mem_cons.1 hz with rfl | hz
    · exact Nat.le_refl _
    · have := walks_szm l z hz
      rw [sizeV]
      omega
theorem walks_szm : ∀ (l : List V) (z : V), z ∈ walkVs l → sizeV z ≤ sizeVs l
  | [], z, hz => by rw [walkVs] at hz; cases hz
  | x :: t, z, hz => by
    rw [walkVs] at hz
    rw [sizeVs]
    rcases List.mem_append.1 hz with hz | hz
    · have := walk_szm x z hz; omega
    · have := walks_szm t z hz; omega
end
theorem keyS_le {ks : List ByteArray} {k : ByteArray} (h : k ∈ ks) : k.size ≤ keysS ks := by
  unfold keysS
  induction ks with
  | nil => cases h
  | cons a t ih =>
    rw [List.map_cons, List.sum_cons]
    rcases List.mem_cons.1 h with rfl | h
    · omega
    · have := ih h; omega
theorem keys_count (ks : List ByteArray) (W : World) (v : Value) (h : isK W ks v) : ks.length ≤ maxLen := by
  obtain ⟨a, cap, ⟨o, rfl, h1, h2, _⟩, _⟩ := h
  omega
section
variable {P : Program} {w : World}
theorem run_append_row (base : Nat) (t ty e : TypeId) (i : TypeInfo) (z : Value) (size bytes : Nat) (ht : P.underlying t = some (.slice e)) (hi : P.info? e = some i) (hz : i.zero = some z)
    (hsize : i.size = size) (hby : i.bytes = bytes) (hzs : z.cells.size = size) (hsz : 0 < size) (v : Value) (n : Nat) (xs : List Value) (hown : w.ownsRow base e size v n xs)
    (o : Option Addr) (a : Addr) (m c : Nat) (ho : 0 < m → o = some a) (news : List Value) (hl : news.length = m * size) (hnews : ∀ j u, news[j]? = some u → w.cell? (a.add j) = some u) (h1 : ∀ u ∈ news, u.oneCell' = true)
    (h63 : n + m ≤ maxLen) (hbytes : (n + m) * bytes ≤ 140737488355328) (hbase : base ≤ w.heap.size) :
    ∃ v' w', (Builtin.append_ #[t, t] ty #[v, .slice o m c]).run P w = .ok v' w' ∧ w'.ownsRow base e size v' (n + m) (xs ++ news) ∧ w.grownBy w' v.ownBlock := by
  rcases Nat.eq_zero_or_pos m with rfl | hm
  · have hn : news = [] := List.eq_nil_of_length_eq_zero (by rw [hl]; simp)
    subst hn
    refine ⟨v, w, ?_, by simpa using hown, ⟨rfl, rfl, rfl, Nat.le_refl _, fun _ _ _ => rfl⟩⟩
    rcases hown.2 with ⟨rfl, rfl⟩ | ⟨g, cap, cur, rfl, _, _, hnc, _⟩
    · cases o <;> simp [Builtin.append_, run_underlying ht, sizeOf, typeInfo, hi, Builtin.lenOf, Builtin.firstCells, loadCells, loadCellsFrom]
    · cases o <;> simp [Builtin.append_, run_underlying ht, sizeOf, typeInfo, hi, Builtin.lenOf, Builtin.firstCells, hnc, storeCells, loadCells, loadCellsFrom]
  · rw [ho hm]
    obtain ⟨v', w', h2, h3, h4, _⟩ := run_append_own w base t ty e i z size bytes ht hi hz hsize hby hzs hsz v n xs hown a m c news hl hnews h1 h63 hbytes hbase
    exact ⟨v', w', h2, h3, h4⟩
theorem wpList_append_row {ops : Array Oper} {rest : List Oper} {o : Oper} {a : Act} {Q : Exit → Act → World → Prop} (hgd : o.guard = none) (s x : Operand) (t : TypeId)
    (ho : o.op = .call { callee := .builtin .append, args := #[s, x], argTypes := #[t, t] })
    (base : Nat) (e : TypeId) (i : TypeInfo) (z : Value) (size bytes : Nat) (ht : P.underlying t = some (.slice e)) (hi : P.info? e = some i) (hz : i.zero = some z)
    (hsize : i.size = size) (hby : i.bytes = bytes) (hzs : z.cells.size = size) (hsz : 0 < size)
    (v : Value) (n : Nat) (xs : List Value) (hs : a.eval s = v) (hown : w.ownsRow base e size v n xs)
    (oo : Option Addr) (ad : Addr) (m c : Nat) (news : List Value) (hx : a.eval x = .slice oo m c) (hoo : 0 < m → oo = some ad) (hl : news.length = m * size) (hnews : ∀ j u, news[j]? = some u → w.cell? (ad.add j) = some u) (h1 : ∀ u ∈ news, u.oneCell' = true)
    (h63 : n + m ≤ maxLen) (hbytes : (n + m) * bytes ≤ 140737488355328) (hbase : base ≤ w.heap.size)
    (h : ∀ v' w', w'.ownsRow base e size v' (n + m) (xs ++ news) → w.grownBy w' v.ownBlock → wpList P ops Q rest (a.put o.dst v') w') : wpList P ops Q (o :: rest) a w := by
  refine wpList_plain hgd fun K hK => ?_
  obtain ⟨v', w', hr, h2, h3⟩ := run_append_row (P := P) (w := w) base t o.type e i z size bytes ht hi hz hsize hby hzs hsz v n xs hown oo ad m c hoo news hl hnews h1 h63 hbytes hbase
  unfold Oper.wp execOp
  simp only [ho, resolve, invoke, builtin, Sem.run_bind, Sem.run_pure, Result.andThen_ok, List.map_toArray, List.map_cons, List.map_nil, hs, hx, hr]
  exact hK _ _ (h v' w' h2 h3)
end
theorem infoStrB : (Tryz.prog.info? 9).map (fun i => (i.zero, i.size, i.bytes)) = some (some (.string ⟨#[]⟩), 1, 16) := by kernel_rfl
end Go.Proofs.YtmgodamdpemmhaaGreatDoor
