/-
  Blanks and line ends; a row to which another row is appended. · The broad text without blanks is the short one. Plain. · What is written between quotes tells the text, and where it ends. Plain. · A printed text tells the value. Plain.
-/
import Derived.Test.YtllkcldckehipaaGreatDoorGD
import Derived.Test.YtllkcldckehipaaGreatDoorGE
import Derived.Deep.AppendLies
import Derived.Laws.OwnMore
import Derived.Laws.AppendOwn
import Derived.Lib.AppendIntMem
import Derived.IntWalk
import Derived.Test.YtllkcldckehipaaGreatDoorHE
set_option linter.unusedVariables false
set_option linter.unusedSimpArgs false
namespace Go.Proofs.YtllkcldckehipaaGreatDoor
open Go.RowKit

/-- Is a byte no blank and no line's end? -/
def solid (c : UInt8) : Bool := c != 32 && c != 10
def strip (l : List UInt8) : List UInt8 := l.filter solid
/-- Has a value no blank in its own texts? -/
def noB (z : V) : Prop := (∀ c ∈ z.text.data.toList, c ≠ 32) ∧ ∀ k ∈ z.keys, ∀ c ∈ k.data.toList, c ≠ 32

theorem isVsL_at {W : World} : ∀ (l : List V) (xs : List Value) (i : Nat) (h : i < l.length), isVsL W l xs → ∃ c0 c1 c2 c3 c4 c5, xs[i * 6]? = some c0 ∧ xs[i * 6 + 1]? = some c1 ∧ xs[i * 6 + 2]? = some c2 ∧ xs[i * 6 + 3]? = some c3 ∧ xs[i * 6 + 4]? = some c4 ∧ xs[i * 6 + 5]? = some c5 ∧ isV W l[i] (.agg #[c0, c1, c2, c3, c4, c5])
  | x :: t, xs, 0, _, h => by
    unfold isVsL at h
    obtain ⟨c0, c1, c2, c3, c4, c5, rest, rfl, hx, ht⟩ := h
    exact ⟨c0, c1, c2, c3, c4, c5, rfl, rfl, rfl, rfl, rfl, rfl, hx⟩
  | x :: t, xs, i + 1, hi, h => by
    unfold isVsL at h
    obtain ⟨c0, c1, c2, c3, c4, c5, rest, rfl, hx, ht⟩ := h
    obtain ⟨d0, d1, d2, d3, d4, d5, h0, h1, h2, h3, h4, h5, hy⟩ := isVsL_at t rest i (by simpa using hi) ht
    refine ⟨d0, d1, d2, d3, d4, d5, ?_, ?_, ?_, ?_, ?_, ?_, hy⟩
    · rw [show (i + 1) * 6 = i * 6 + 6 by omega]; exact h0
    · rw [show (i + 1) * 6 + 1 = i * 6 + 1 + 6 by omega]; exact h1
    · rw [show (i + 1) * 6 + 2 = i * 6 + 2 + 6 by omega]; exact h2
    · rw [show (i + 1) * 6 + 3 = i * 6 + 3 + 6 by omega]; exact h3
    · rw [show (i + 1) * 6 + 4 = i * 6 + 4 + 6 by omega]; exact h4
    · rw [show (i + 1) * 6 + 5 = i * 6 + 5 + 6 by omega]; exact h5
/-- What Walk answers: a slice of the parts. -/
theorem rw_vs {w0 w W : World} {A : List V} {v : Value} (h : RW w0 w A v W) (hA : 0 < A.length) (hb : KB w0 W) : ∃ g cap, v = .slice (some ⟨g, 0, none⟩) A.length cap ∧ isVs W A ⟨g, 0, none⟩ ∧ KB w W := by
  have hB := h.choose_spec.2.2
  obtain ⟨g, cap, rfl, xs, h1, h2, h3⟩ := h.form hA
  refine ⟨g, cap, rfl, ?_, hB⟩
  have key : ∀ (l : List V) (ys : List Value) (a : Addr), isVsL w0 l ys → (∀ j u, ys[j]? = some u → W.cell? (a.add j) = some u) → isVs W l a := by
    intro l
    induction l with
    | nil => intro _ _ _ _; unfold isVs; trivial
    | cons x t ih =>
      intro ys a hl hc
      unfold isVsL at hl
      obtain ⟨c0, c1, c2, c3, c4, c5, rest, rfl, hx, ht⟩ := hl
      unfold isVs
      refine ⟨⟨c0, c1, c2, c3, c4, c5, ?_, hc 1 _ rfl, hc 2 _ rfl, hc 3 _ rfl, hc 4 _ rfl, hc 5 _ rfl, isV_below hb hx⟩, ih rest (a.add 6) ht (fun j u hj => ?_)⟩
      · have := hc 0 c0 rfl
        simpa [Addr.add] using this
      · rw [add_add]
        exact hc (6 + j) u (by rw [Nat.add_comm]; exact hj)
  exact key A xs _ h2 h3

mutual
theorem walk_szm : ∀ (x z : V), z ∈ walkV x → sizeV z ≤ sizeV x
  | .mk k b n s l ks, z, hz => by
    rw [walkV] at hz
    rcases List.mem_cons.1 hz with rfl | hz
    · exact Nat.le_refl _
    · have := walks_szm l z hz
      rw [sizeV]
      omega
theorem walks_szm : ∀ (l : List V) (z : V), z ∈ walkVs l → sizeV z ≤ sizeVs l
  | [], z, hz => by rw [walkVs] at hz; cases hz
  | x :: t, z, hz => by
    rw [walkVs] at hz
    rw [sizeVs]
    rcases List.mem_append.1 hz with hz | hz
    · have := walk_szm x z hz; omega
    · have := walks_szm t z hz; omega
end
theorem keyS_le {ks : List ByteArray} {k : ByteArray} (h : k ∈ ks) : k.size ≤ keysS ks := by
  unfold keysS
  induction ks with
  | nil => cases h
  | cons a t ih =>
    rw [List.map_cons, List.sum_cons]
    rcases List.mem_cons.1 h with rfl | h
    · omega
    · have := ih h; omega
theorem keys_count (ks : List ByteArray) (W : World) (v : Value) (h : isK W ks v) : ks.length ≤ maxLen := by
  obtain ⟨a, cap, ⟨o, rfl, h1, h2, _⟩, _⟩ := h
  omega
section
variable {P : Program} {w : World}
theorem run_append_row (base : Nat) (t ty e : TypeId) (i : TypeInfo) (z : Value) (size bytes : Nat) (ht : P.underlying t = some (.slice e)) (hi : P.info? e = some i) (hz : i.zero = some z)
    (hsize : i.size = size) (hby : i.bytes = bytes) (hzs : z.cells.size = size) (hsz : 0 < size) (v : Value) (n : Nat) (xs : List Value) (hown : w.ownsRow base e size v n xs)
    (o : Option Addr) (a : Addr) (m c : Nat) (ho : 0 < m → o = some a) (news : List Value) (hl : news.length = m * size) (hnews : ∀ j u, news[j]? = some u → w.cell? (a.add j) = some u) (h1 : ∀ u ∈ news, u.oneCell' = true)
    (h63 : n + m ≤ maxLen) (hbytes : (n + m) * bytes ≤ 140737488355328) (hbase : base ≤ w.heap.size) :
    ∃ v' w', (Builtin.append_ #[t, t] ty #[v, .slice o m c]).run P w = .ok v' w' ∧ w'.ownsRow base e size v' (n + m) (xs ++ news) ∧ w.grownBy w' v.ownBlock := by
  rcases Nat.eq_zero_or_pos m with rfl | hm
  · have hn : news = [] := List.eq_nil_of_length_eq_zero (by rw [hl]; simp)
    subst hn
    refine ⟨v, w, ?_, by simpa using hown, ⟨rfl, rfl, rfl, Nat.le_refl _, fun _ _ _ => rfl⟩⟩
    rcases hown.2 with ⟨rfl, rfl⟩ | ⟨g, cap, cur, rfl, _, _, hnc, _⟩
    · cases o <;> simp [Builtin.append_, run_underlying ht, sizeOf, typeInfo, hi, Builtin.lenOf, Builtin.firstCells, loadCells, loadCellsFrom]
    · cases o <;> simp [Builtin.append_, run_underlying ht, sizeOf, typeInfo, hi, Builtin.lenOf, Builtin.firstCells, hnc, storeCells, loadCells, loadCellsFrom]
  · rw [ho hm]
    obtain ⟨v', w', h2, h3, h4, _⟩ := run_append_own w base t ty e i z size bytes ht hi hz hsize hby hzs hsz v n xs hown a m c news hl hnews h1 h63 hbytes hbase
    exact ⟨v', w', h2, h3, h4⟩
theorem wpList_append_row {ops : Array Oper} {rest : List Oper} {o : Oper} {a : Act} {Q : Exit → Act → World → Prop} (hgd : o.guard = none) (s x : Operand) (t : TypeId)
    (ho : o.op = .call { callee := .builtin .append, args := #[s, x], argTypes := #[t, t] })
    (base : Nat) (e : TypeId) (i : TypeInfo) (z : Value) (size bytes : Nat) (ht : P.underlying t = some (.slice e)) (hi : P.info? e = some i) (hz : i.zero = some z)
    (hsize : i.size = size) (hby : i.bytes = bytes) (hzs : z.cells.size = size) (hsz : 0 < size)
    (v : Value) (n : Nat) (xs : List Value) (hs : a.eval s = v) (hown : w.ownsRow base e size v n xs)
    (oo : Option Addr) (ad : Addr) (m c : Nat) (news : List Value) (hx : a.eval x = .slice oo m c) (hoo : 0 < m → oo = some ad) (hl : news.length = m * size) (hnews : ∀ j u, news[j]? = some u → w.cell? (ad.add j) = some u) (h1 : ∀ u ∈ news, u.oneCell' = true)
    (h63 : n + m ≤ maxLen) (hbytes : (n + m) * bytes ≤ 140737488355328) (hbase : base ≤ w.heap.size)
    (h : ∀ v' w', w'.ownsRow base e size v' (n + m) (xs ++ news) → w.grownBy w' v.ownBlock → wpList P ops Q rest (a.put o.dst v') w') : wpList P ops Q (o :: rest) a w := by
  refine wpList_plain hgd fun K hK => ?_
  obtain ⟨v', w', hr, h2, h3⟩ := run_append_row (P := P) (w := w) base t o.type e i z size bytes ht hi hz hsize hby hzs hsz v n xs hown oo ad m c hoo news hl hnews h1 h63 hbytes hbase
  unfold Oper.wp execOp
  simp only [ho, resolve, invoke, builtin, Sem.run_bind, Sem.run_pure, Result.andThen_ok, List.map_toArray, List.map_cons, List.map_nil, hs, hx, hr]
  exact hK _ _ (h v' w' h2 h3)
end
theorem infoStrB : (Tryz.prog.info? 9).map (fun i => (i.zero, i.size, i.bytes)) = some (some (.string ⟨#[]⟩), 1, 16) := by kernel_rfl
end Go.Proofs.YtllkcldckehipaaGreatDoor

namespace Go.Proofs.YtllkcldckehipaaGreatDoor
open Go.Lib

theorem strip_app (a b : List UInt8) : strip (a ++ b) = strip a ++ strip b := by unfold strip; rw [List.filter_append]
theorem strip_self {l : List UInt8} (h : ∀ c ∈ l, solid c = true) : strip l = l := by unfold strip; exact List.filter_eq_self.2 h
theorem u8of (x : Nat) (h : x < 256) : (x.toUInt8).toNat = x := by simp; omega
theorem solid_of {c : UInt8} (h : 33 ≤ c.toNat) : solid c = true := by
  have h1 : c ≠ 32 := fun e => by subst e; exact absurd h (by decide)
  have h2 : c ≠ 10 := fun e => by subst e; exact absurd h (by decide)
  simp [solid, h1, h2]
theorem enc_solid (r : Nat) (h : 33 ≤ r) : ∀ c ∈ encodeRune (r : Int), 33 ≤ c.toNat := by
  intro c hc
  unfold encodeRune at hc
  obtain ⟨x, hx, rfl⟩ := List.mem_map.1 hc
  have hb : 33 ≤ x ∧ x < 256 := by
    unfold encodeRuneZ at hx
    split at hx
    · simp only [List.mem_cons, List.not_mem_nil, or_false] at hx; omega
    · split at hx
      · simp only [List.mem_cons, List.not_mem_nil, or_false] at hx; omega
      · split at hx
        · simp only [List.mem_cons, List.not_mem_nil, or_false] at hx; omega
        · split at hx
          · simp only [List.mem_cons, List.not_mem_nil, or_false] at hx; omega
          · simp only [List.mem_cons, List.not_mem_nil, or_false] at hx; omega
  rw [u8of _ (by omega)]
  omega
theorem hexd_solid (n : Nat) (h : n < 16) : 33 ≤ (Ru.hexd n).toNat := by
  have : ∀ n : Fin 16, 33 ≤ (Ru.hexd n.val).toNat := by decide
  exact this ⟨n, h⟩
theorem short_solid (r : Nat) (h : Ru.shortN r ≠ 0) : 33 ≤ Ru.shortN r ∧ Ru.shortN r < 256 := by
  unfold Ru.shortN at *
  repeat' split
  all_goals first | omega | (exfalso; simp_all; done) | decide
theorem qRune_solid (r : Nat) (h : r ≠ 32) : ∀ c ∈ Ru.qRune r, 33 ≤ c.toNat := by
  intro c hc
  unfold Ru.qRune at hc
  by_cases h1 : Ru.shortN r ≠ 0
  · rw [if_pos h1] at hc
    have h2 := short_solid r h1
    simp only [List.mem_cons, List.not_mem_nil, or_false] at hc
    rcases hc with rfl | rfl
    · decide
    · rw [u8of _ h2.2]; exact h2.1
  · rw [if_neg h1] at hc
    by_cases h2 : r < 32
    · rw [if_pos h2] at hc
      simp only [List.mem_cons, List.not_mem_nil, or_false] at hc
      rcases hc with rfl | rfl | rfl | rfl | rfl | rfl
      · decide
      · decide
      · decide
      · decide
      · exact hexd_solid _ (by omega)
      · exact hexd_solid _ (by omega)
    · rw [if_neg h2] at hc
      exact enc_solid r (by omega) c hc
/-- Which runes of a text are blanks: none, if no byte is. -/
theorem steps_noblank {l : List UInt8} (h : validD l = true) : (∀ c ∈ l, c ≠ 32) → ∀ p, ∀ x ∈ stepsP p l, x.2 ≠ 32 := by
  refine valid_ind (P := fun l => (∀ c ∈ l, c ≠ 32) → ∀ p, ∀ x ∈ stepsP p l, x.2 ≠ 32) (fun _ p x hx => by simp [stepsP_nil] at hx) ?_ l.length l (Nat.le_refl _) h
  intro l h0 hb _ ih hc p x hx
  rw [stepsP_good p h0 hb] at hx
  rcases List.mem_cons.1 hx with rfl | hx
  · intro e
    have e1 := encode_decode l h0 (bad_false hb)
    have e : (decodeL l).1 = 32 := e
    rw [e] at e1
    have e2 : encodeRune ((32 : Nat) : Int) = [32] := by decide
    rw [e2] at e1
    have : (32 : UInt8) ∈ l := List.mem_of_mem_take (by rw [← e1]; simp)
    exact hc 32 this rfl
  · exact ih (fun c hc' => hc c (List.mem_of_mem_drop hc')) _ x hx
theorem quote_solid {l : List UInt8} (h : validD l = true) (hc : ∀ c ∈ l, c ≠ 32) : strip (Ru.quoteL l) = Ru.quoteL l := strip_self fun c hm => by
  unfold Ru.quoteL at hm
  simp only [List.mem_append, List.mem_cons, List.mem_flatMap, List.not_mem_nil, or_false] at hm
  rcases hm with (rfl | ⟨x, hx, hm⟩) | rfl
  · decide
  · exact solid_of (qRune_solid x.2 (steps_noblank h hc 0 x hx) c hm)
  · decide
theorem digs_solid : ∀ (n : Nat), ∀ c ∈ Nu.digs n, 33 ≤ c.toNat := by
  intro n
  induction n using Nat.strongRecOn with
  | _ n ih =>
    intro c hc
    by_cases h : n < 10
    · rw [Nu.digs_lt h] at hc
      simp only [List.mem_cons, List.not_mem_nil, or_false] at hc
      subst hc
      simp; omega
    · rw [Nu.digs_ge h] at hc
      rcases List.mem_append.1 hc with hc | hc
      · exact ih (n / 10) (by omega) c hc
      · simp only [List.mem_cons, List.not_mem_nil, or_false] at hc
        subst hc
        simp; omega
theorem txt_solid (n : Int) : strip (Nu.txt n) = Nu.txt n := strip_self fun c hc => by
  unfold Nu.txt at hc
  split at hc
  · split at hc
    · rcases List.mem_cons.1 hc with rfl | hc
      · decide
      · exact solid_of (digs_solid _ c hc)
    · exact solid_of (digs_solid _ c hc)
  · cases hc
theorem rowsT_strip (A : List UInt8) (T T' : Nat → List UInt8) (hA : strip A = []) : ∀ n, (∀ i, i < n → strip (T i) = T' i) → strip (rowsT A T n) = rowsT [] T' n
  | 0, _ => rfl
  | n + 1, h => by
    rw [rowsT, rowsT, strip_app, strip_app, strip_app, rowsT_strip A T T' hA n (fun i hi => h i (by omega)), h n (by omega), hA]
    congr 2
    split <;> decide
theorem rowT_strip (A0 A1 : List UInt8) (o c : UInt8) (n : Nat) (T T' : Nat → List UInt8) (h0 : strip A0 = []) (h1 : strip A1 = []) (ho : solid o = true) (hc : solid c = true) (h : ∀ i, i < n → strip (T i) = T' i) : strip (rowT A0 A1 o c n T) = rowT [] [] o c n T' := by
  unfold rowT
  rw [strip_app, strip_app, strip_self (l := [o]) (by simpa using ho), strip_self (l := [c]) (by simpa using hc)]
  congr 2
  split
  · rfl
  · rw [strip_app, h0, rowsT_strip A1 T T' h1 n h]
theorem ft_strip {C C' : List UInt8} {I : Nat → List UInt8} (hC : strip C = C') (hI : ∀ d, strip (I d) = []) : ∀ (N : Nat) (x : V) (d d' : Nat), depthV x ≤ N → okP x → (∀ z ∈ walkV x, noB z) → strip (ft C I d x) = ft C' I0 d' x
  | 0, x, d, d', hN, _, _ => by obtain ⟨_, _, _, _, _, _⟩ := x; unfold depthV at hN; omega
  | N + 1, x, d, d', hN, hok, hnb => by
    have hq := okP_self hok
    have hb := hnb x (self_in x)
    have hpart : ∀ y ∈ x.list, strip (ft C I (d + 1) y) = ft C' I0 (d' + 1) y := fun y hy => ft_strip hC hI N y (d + 1) (d' + 1) (by
      obtain ⟨k, b, n, s, l, ks⟩ := x
      have := depth_part (l := l) hy
      unfold depthV at hN
      omega) (okP_part hok hy) (fun z hz => hnb z (part_in hy z hz))
    obtain ⟨k, b, n, s, l, ks⟩ := x
    obtain ⟨⟨hk0, hk5⟩, q1, q2, q3, q4, q5⟩ := hq
    obtain ⟨n1, n2⟩ := hb
    simp only [V.kind, V.text, V.list, V.keys] at hk0 hk5 q1 q2 q3 q4 q5 n1 n2 hpart
    have hparts : ∀ i, i < l.length → strip ((fts C I (d + 1) l).getD i []) = (fts C' I0 (d' + 1) l).getD i [] := fun i hi => by
      rw [fts_get C I (d + 1) l i hi, fts_get C' I0 (d' + 1) l i hi]
      exact hpart _ (List.getElem_mem hi)
    rw [ft, ft]
    split
    · decide
    · split
      · cases b <;> decide
      · split
        · exact txt_solid n
        · split
          · exact quote_solid q1 n1
          · split
            · exact rowT_strip _ _ _ _ _ _ _ (hI d) (hI (d + 1)) (by decide) (by decide) hparts
            · have hk : k = 5 := by omega
              refine rowT_strip _ _ _ _ _ _ _ (hI d) (hI (d + 1)) (by decide) (by decide) (fun i hi => ?_)
              have hik : i < ks.length := by rw [q4 hk]; exact hi
              show strip (keyT C (ks.getD i ⟨#[]⟩) ((fts C I (d + 1) l).getD i [])) = keyT C' (ks.getD i ⟨#[]⟩) ((fts C' I0 (d' + 1) l).getD i [])
              rw [keyT, keyT, strip_app, strip_app, hC, hparts i hi, getD_lt ks i _ hik, quote_solid (q5 _ (List.getElem_mem hik)).1 (n2 _ (List.getElem_mem hik))]
/-- No blank in a value, none in the sorted one. -/
theorem sort_noB {x y : V} (h : SortR x y) : onceV x → (∀ z ∈ walkV x, noB z) → ∀ z ∈ walkV y, noB z := by
  induction h with
  | mk k b n s l ks l' ks' ps ho hl hs hk ih =>
    intro ho2 hx z hz
    have hpl : ps.length = l.length := by have := ho.1.length_eq; simpa [V.list] using this
    have hkp := keys_perm ho hk (ho2 _ (self_in _)).2
    rw [walkV] at hz
    rcases List.mem_cons.1 hz with rfl | hz
    · have h1 := hx _ (self_in _)
      exact ⟨h1.1, fun q hq => h1.2 q (hkp.mem_iff.1 hq)⟩
    · obtain ⟨y, hy, hz⟩ := walkVs_mem hz
      obtain ⟨i, hi, rfl⟩ := List.getElem_of_mem hy
      have hp : ps.getD i 0 < l.length := ord_lt ho (by omega)
      exact ih i hi (fun q hq => ho2 q (part_in (getD_in hp) q hq)) (fun q hq => hx q (part_in (getD_in hp) q hq)) z hz
end Go.Proofs.YtllkcldckehipaaGreatDoor

namespace Go.Proofs.YtllkcldckehipaaGreatDoor
open Go.Lib

/-- How a byte is written. -/
def qB (c : UInt8) : List UInt8 := if Ru.shortN c.toNat ≠ 0 then [92, (Ru.shortN c.toNat).toUInt8] else if c.toNat < 32 then [92, 117, 48, 48, Ru.hexd (c.toNat / 16), Ru.hexd (c.toNat % 16)] else [c]
theorem short_big {r : Nat} (h : 128 ≤ r) : Ru.shortN r = 0 := by
  unfold Ru.shortN
  repeat rw [if_neg (by omega)]
theorem qB_big {c : UInt8} (h : 128 ≤ c.toNat) : qB c = [c] := by
  unfold qB
  rw [short_big h, if_neg (by simp), if_neg (by omega)]
theorem qB_flat : ∀ (l : List UInt8), (∀ c ∈ l, 128 ≤ c.toNat) → l.flatMap qB = l
  | [], _ => rfl
  | c :: t, h => by
    rw [List.flatMap_cons, qB_big (h c (by simp)), qB_flat t fun x hx => h x (by simp [hx])]; rfl
theorem enc_big2 (r : Nat) (h : 128 ≤ r) : ∀ c ∈ encodeRune (r : Int), 128 ≤ c.toNat := by
  intro c hc
  unfold encodeRune at hc
  obtain ⟨x, hx, rfl⟩ := List.mem_map.1 hc
  have hb : 128 ≤ x ∧ x < 256 := by
    unfold encodeRuneZ at hx
    rw [if_neg (by omega)] at hx
    split at hx
    · simp only [List.mem_cons, List.not_mem_nil, or_false] at hx; omega
    · split at hx
      · simp only [List.mem_cons, List.not_mem_nil, or_false] at hx; omega
      · split at hx
        · simp only [List.mem_cons, List.not_mem_nil, or_false] at hx; omega
        · simp only [List.mem_cons, List.not_mem_nil, or_false] at hx; omega
  rw [u8of _ (by omega)]
  omega
theorem quoteB_step {l : List UInt8} (h0 : l ≠ []) (hb : bad l = false) : (l.take (decodeL l).2).flatMap qB = Ru.qRune (decodeL l).1 := by
  have e1 := encode_decode l h0 (bad_false hb)
  rw [← e1]
  generalize (decodeL l).1 = r
  by_cases h : r < 128
  · have e2 : encodeRune (r : Int) = [r.toUInt8] := by
      unfold encodeRune
      rw [encodeRuneZ_one (by omega) (by omega)]
      simp
    rw [e2, List.flatMap_cons, List.flatMap_nil, List.append_nil]
    unfold qB Ru.qRune
    rw [u8of r (by omega), e2]
  · rw [qB_flat _ (enc_big2 r (by omega))]
    unfold Ru.qRune
    rw [short_big (by omega), if_neg (by simp), if_neg (by omega)]
theorem bodyB {l : List UInt8} (hv : validD l = true) : ∀ p, (stepsP p l).flatMap (fun x => Ru.qRune x.2) = l.flatMap qB := by
  refine valid_ind (P := fun l => ∀ p, (stepsP p l).flatMap (fun x => Ru.qRune x.2) = l.flatMap qB) (fun p => by simp [stepsP_nil]) ?_ l.length l (Nat.le_refl _) hv
  intro l h0 hb _ ih p
  rw [stepsP_good p h0 hb, List.flatMap_cons, ih]
  show Ru.qRune (decodeL l).1 ++ _ = _
  rw [← quoteB_step h0 hb, ← List.flatMap_append, List.take_append_drop]
theorem quoteL_B {l : List UInt8} (hv : validD l = true) : Ru.quoteL l = 34 :: (l.flatMap qB ++ [34]) := by
  unfold Ru.quoteL steps
  rw [bodyB hv 0]
  rfl
/-- What a written byte stands for: its first bytes tell. -/
def unB : List UInt8 → Option (UInt8 × List UInt8)
  | 92 :: 117 :: 48 :: 48 :: 48 :: y :: u => some (if y.toNat < 58 then (y.toNat - 48).toUInt8 else (y.toNat - 87).toUInt8, u)
  | 92 :: 117 :: 48 :: 48 :: 49 :: y :: u => some (if y.toNat < 58 then (y.toNat - 32).toUInt8 else (y.toNat - 71).toUInt8, u)
  | 92 :: 98 :: u => some (8, u)
  | 92 :: 116 :: u => some (9, u)
  | 92 :: 110 :: u => some (10, u)
  | 92 :: 102 :: u => some (12, u)
  | 92 :: 114 :: u => some (13, u)
  | 92 :: 34 :: u => some (34, u)
  | 92 :: 92 :: u => some (92, u)
  | c :: u => some (c, u)
  | [] => none
theorem unB_qB (c : UInt8) (u : List UInt8) : unB (qB c ++ u) = some (c, u) := by
  have key : ∀ n : Nat, n < 256 → unB (qB n.toUInt8 ++ u) = some (n.toUInt8, u) := by
    intro n hn
    by_cases h : n < 32 ∨ n = 34 ∨ n = 92
    · have : n = 0 ∨ n = 1 ∨ n = 2 ∨ n = 3 ∨ n = 4 ∨ n = 5 ∨ n = 6 ∨ n = 7 ∨ n = 8 ∨ n = 9 ∨ n = 10 ∨ n = 11 ∨ n = 12 ∨ n = 13 ∨ n = 14 ∨ n = 15 ∨ n = 16 ∨ n = 17 ∨ n = 18 ∨ n = 19 ∨ n = 20 ∨ n = 21 ∨ n = 22 ∨ n = 23 ∨ n = 24 ∨ n = 25 ∨ n = 26 ∨ n = 27 ∨ n = 28 ∨ n = 29 ∨ n = 30 ∨ n = 31 ∨ n = 34 ∨ n = 92 := by omega
      rcases this with rfl | rfl | rfl | rfl | rfl | rfl | rfl | rfl | rfl | rfl | rfl | rfl | rfl | rfl | rfl | rfl | rfl | rfl | rfl | rfl | rfl | rfl | rfl | rfl | rfl | rfl | rfl | rfl | rfl | rfl | rfl | rfl | rfl | rfl <;> rfl
    · have e : qB n.toUInt8 = [n.toUInt8] := by
        unfold qB
        rw [u8of n hn]
        have : Ru.shortN n = 0 := by unfold Ru.shortN; repeat rw [if_neg (by omega)]
        rw [this, if_neg (by simp), if_neg (by omega)]
      rw [e]
      have h92 : n.toUInt8 ≠ 92 := fun e => h (.inr (.inr (by have := congrArg UInt8.toNat e; rw [u8of n hn] at this; exact this)))
      show unB (n.toUInt8 :: u) = some (n.toUInt8, u)
      generalize n.toUInt8 = d at h92
      unfold unB
      split <;> simp_all
  have := key c.toNat c.toNat_lt
  simpa using this
theorem qB_head (c : UInt8) : ∃ d t, qB c = d :: t ∧ d ≠ 34 := by
  unfold qB
  split
  · exact ⟨_, _, rfl, by decide⟩
  · split
    · exact ⟨_, _, rfl, by decide⟩
    · rename_i h1 h2
      refine ⟨_, _, rfl, fun e => h1 ?_⟩
      subst e
      decide
/-- The body and what stands behind the closing quote are told. -/
theorem body_apart : ∀ (l m r r' : List UInt8), l.flatMap qB ++ 34 :: r = m.flatMap qB ++ 34 :: r' → l = m ∧ r = r'
  | [], [], r, r', h => by simpa using h
  | [], c :: t, r, r', h => by
    obtain ⟨d, u, e, hd⟩ := qB_head c
    rw [List.flatMap_cons, e] at h
    simp at h
    exact absurd h.1.symm hd
  | c :: t, [], r, r', h => by
    obtain ⟨d, u, e, hd⟩ := qB_head c
    rw [List.flatMap_cons, e] at h
    simp at h
    exact absurd h.1 hd
  | c :: t, c' :: t', r, r', h => by
    rw [List.flatMap_cons, List.flatMap_cons, List.append_assoc, List.append_assoc] at h
    have h1 := congrArg unB h
    rw [unB_qB, unB_qB] at h1
    simp only [Option.some.injEq, Prod.mk.injEq] at h1
    obtain ⟨rfl, h2⟩ := h1
    obtain ⟨rfl, h3⟩ := body_apart t t' r r' h2
    exact ⟨rfl, h3⟩
theorem quote_uniq {s t : ByteArray} (hs : validS s = true) (ht : validS t = true) {r r' : List UInt8} (h : Ru.quoteL s.data.toList ++ r = Ru.quoteL t.data.toList ++ r') : s = t ∧ r = r' := by
  rw [quoteL_B hs, quoteL_B ht] at h
  simp only [List.cons_append, List.append_assoc, List.nil_append, List.cons.injEq, true_and] at h
  obtain ⟨h1, h2⟩ := body_apart _ _ _ _ h
  exact ⟨ByteArray.ext (by simpa using congrArg List.toArray h1), h2⟩
end Go.Proofs.YtllkcldckehipaaGreatDoor

namespace Go.Proofs.YtllkcldckehipaaGreatDoor
open Go.RowKit Go.Shelf

/-- No digit begins it. -/
def nd (l : List UInt8) : Prop := ∀ c t, l = c :: t → ¬ (48 ≤ c.toNat ∧ c.toNat ≤ 57)
theorem digs_all : ∀ (n : Nat), ∀ c ∈ Nu.digs n, 48 ≤ c.toNat ∧ c.toNat ≤ 57 := by
  intro n
  induction n using Nat.strongRecOn with
  | _ n ih =>
    intro c hc
    by_cases h : n < 10
    · rw [Nu.digs_lt h] at hc
      simp only [List.mem_cons, List.not_mem_nil, or_false] at hc
      subst hc
      simp; omega
    · rw [Nu.digs_ge h] at hc
      rcases List.mem_append.1 hc with hc | hc
      · exact ih (n / 10) (by omega) c hc
      · simp only [List.mem_cons, List.not_mem_nil, or_false] at hc
        subst hc
        simp; omega
theorem run_apart (p : UInt8 → Prop) : ∀ (a b r r' : List UInt8), (∀ c ∈ a, p c) → (∀ c ∈ b, p c) → (∀ c t, r = c :: t → ¬ p c) → (∀ c t, r' = c :: t → ¬ p c) → a ++ r = b ++ r' → a = b ∧ r = r'
  | [], [], r, r', _, _, _, _, h => ⟨rfl, by simpa using h⟩
  | [], c :: t, r, r', _, hb, hr, _, h => absurd (hb c (by simp)) (hr c (t ++ r') (by simpa using h))
  | c :: t, [], r, r', ha, _, _, hr', h => absurd (ha c (by simp)) (hr' c (t ++ r) (by simpa using h.symm))
  | c :: t, c' :: t', r, r', ha, hb, hr, hr', h => by
    simp only [List.cons_append, List.cons.injEq] at h
    obtain ⟨rfl, h⟩ := h
    obtain ⟨rfl, h2⟩ := run_apart p t t' r r' (fun x hx => ha x (by simp [hx])) (fun x hx => hb x (by simp [hx])) hr hr' h
    exact ⟨rfl, h2⟩
theorem digs_len1 {n : Nat} (h : ¬ n < 10) : 2 ≤ (Nu.digs n).length := by
  rw [Nu.digs_ge h, List.length_append]
  have := Nu.digs_pos (n / 10)
  simp; omega
theorem digs_inj : ∀ (n m : Nat), Nu.digs n = Nu.digs m → n = m := by
  intro n
  induction n using Nat.strongRecOn with
  | _ n ih =>
    intro m h
    by_cases h1 : n < 10
    · by_cases h2 : m < 10
      · rw [Nu.digs_lt h1, Nu.digs_lt h2] at h
        have := congrArg UInt8.toNat (List.cons.inj h).1
        simp at this
        omega
      · have h3 := digs_len1 h2
        rw [← h, Nu.digs_lt h1] at h3
        simp at h3
    · by_cases h2 : m < 10
      · have h3 := digs_len1 h1
        rw [h, Nu.digs_lt h2] at h3
        simp at h3
      · rw [Nu.digs_ge h1, Nu.digs_ge h2] at h
        obtain ⟨e1, e2⟩ := List.append_inj' h rfl
        have e3 := ih (n / 10) (by omega) (m / 10) e1
        have := congrArg UInt8.toNat (List.cons.inj e2).1
        simp at this
        omega
theorem txt_apart {n m : Int} (hn : Nu.fitB n = true) (hm : Nu.fitB m = true) {r r' : List UInt8} (hr : nd r) (hr' : nd r') (h : Nu.txt n ++ r = Nu.txt m ++ r') : n = m ∧ r = r' := by
  have hh : ∀ k : Nat, ∃ c t, Nu.digs k = c :: t ∧ c ≠ 45 := fun k => by
    have h1 := Nu.digs_pos k
    have h2 := digs_all k
    cases hd : Nu.digs k with
    | nil => rw [hd] at h1; simp at h1
    | cons c t =>
      refine ⟨c, t, rfl, fun e => ?_⟩
      have := h2 c (by rw [hd]; simp)
      subst e
      exact absurd this.1 (by decide)
  have key : ∀ a b : Nat, Nu.digs a ++ r = Nu.digs b ++ r' → a = b ∧ r = r' := fun a b h => by
    obtain ⟨h1, h2⟩ := run_apart (fun c => 48 ≤ c.toNat ∧ c.toNat ≤ 57) _ _ _ _ (digs_all a) (digs_all b) hr hr' h
    exact ⟨digs_inj _ _ h1, h2⟩
  by_cases h1 : n < 0
  · by_cases h2 : m < 0
    · rw [Nu.txt_neg hn h1, Nu.txt_neg hm h2] at h
      simp only [List.cons_append, List.cons.injEq, true_and] at h
      obtain ⟨h3, h4⟩ := key _ _ h
      exact ⟨by omega, h4⟩
    · obtain ⟨c, t, e, hc⟩ := hh m.natAbs
      rw [Nu.txt_neg hn h1, Nu.txt_pos hm h2, e] at h
      simp at h
      exact absurd h.1.symm hc
  · by_cases h2 : m < 0
    · obtain ⟨c, t, e, hc⟩ := hh n.natAbs
      rw [Nu.txt_pos hn h1, Nu.txt_neg hm h2, e] at h
      simp at h
      exact absurd h.1 hc
    · rw [Nu.txt_pos hn h1, Nu.txt_pos hm h2] at h
      obtain ⟨h3, h4⟩ := key _ _ h
      exact ⟨by omega, h4⟩

/-- What follows a part: the others, each behind a comma and A, and B. -/
def restT (A B : List UInt8) : List (List UInt8) → List UInt8
  | [] => B
  | t :: ts => 44 :: (A ++ (t ++ restT A B ts))
def rowX (A B : List UInt8) : List (List UInt8) → List UInt8
  | [] => B
  | t :: ts => A ++ (t ++ restT A B ts)
theorem restT_snoc (A B t : List UInt8) : ∀ ts, restT A B (ts ++ [t]) = restT A (44 :: (A ++ (t ++ B))) ts
  | [] => rfl
  | s :: ts => by rw [List.cons_append, restT, restT, restT_snoc A B t ts]
theorem rowX_snoc (A B t : List UInt8) : ∀ ts, ts ≠ [] → rowX A B (ts ++ [t]) = rowX A (44 :: (A ++ (t ++ B))) ts
  | [], h => absurd rfl h
  | s :: ts, _ => by rw [List.cons_append, rowX, rowX, restT_snoc]
theorem rows_rowX (A : List UInt8) (ts : List (List UInt8)) : ∀ (n : Nat) (B : List UInt8), n ≤ ts.length → rowsT A (fun i => ts.getD i []) n ++ B = rowX A B (ts.take n)
  | 0, B, _ => by simp [rowsT, rowX]
  | n + 1, B, h => by
    have hlt : n < ts.length := by omega
    have e : ts.getD n [] = ts[n] := getD_lt _ _ _ hlt
    rw [rowsT, List.append_assoc, rows_rowX A ts n _ (by omega), List.take_succ_eq_append_getElem hlt]
    by_cases h0 : n = 0
    · subst h0
      rw [if_pos rfl, e]
      simp [rowX, restT]
    · rw [if_neg h0, e, rowX_snoc A B _ _ (by
        intro e2
        have := congrArg List.length e2
        rw [List.length_take, List.length_nil] at this
        omega)]
      simp
theorem rowsT_congr (A : List UInt8) (T T' : Nat → List UInt8) : ∀ n, (∀ i, i < n → T i = T' i) → rowsT A T n = rowsT A T' n
  | 0, _ => rfl
  | n + 1, h => by rw [rowsT, rowsT, rowsT_congr A T T' n (fun i hi => h i (by omega)), h n (by omega)]
theorem rowT_X (A0 A1 : List UInt8) (o c : UInt8) (ts : List (List UInt8)) (T : Nat → List UInt8) (n : Nat) (hn : ts.length = n) (hT : ∀ i, i < n → T i = ts.getD i []) : rowT A0 A1 o c n T = o :: (if ts = [] then [c] else rowX A1 (A0 ++ [c]) ts) := by
  subst hn
  unfold rowT
  rw [rowsT_congr A1 T _ _ hT]
  by_cases h : ts = []
  · subst h; simp
  · have h0 : ¬ ts.length = 0 := fun e => h (List.eq_nil_of_length_eq_zero e)
    rw [if_neg h, if_neg h0]
    have := rows_rowX A1 ts ts.length (A0 ++ [c]) (Nat.le_refl _)
    rw [List.take_length] at this
    rw [← this]
    simp

def kindOf (c : UInt8) : Int := if c = 110 then 0 else if c = 116 ∨ c = 102 then 1 else if c = 34 then 3 else if c = 91 then 4 else if c = 123 then 5 else 2
theorem ft_head {C : List UInt8} {I : Nat → List UInt8} {d : Nat} {x : V} (h : ownW x = 0) : ∃ c t, ft C I d x = c :: t ∧ kindOf c = x.kind := by
  obtain ⟨hp, hn, _⟩ := own_parts h
  obtain ⟨k, b, n, s, l, ks⟩ := x
  have p1 := hp.1
  simp only [V.kind, V.num] at hn ⊢
  rcases (show k = 0 ∨ k = 1 ∨ k = 2 ∨ k = 3 ∨ k = 4 ∨ k = 5 by omega) with rfl | rfl | rfl | rfl | rfl | rfl
  · rw [ft, if_pos rfl]; exact ⟨_, _, rfl, by decide⟩
  · rw [ft, if_neg (by decide), if_pos rfl]; cases b <;> exact ⟨_, _, rfl, by decide⟩
  · rw [ft, if_neg (by decide), if_neg (by decide), if_pos rfl]
    have hf : Nu.fitB n = true := Nu.fitB_iff.2 hn
    by_cases h0 : n < 0
    · rw [Nu.txt_neg hf h0]; exact ⟨_, _, rfl, by decide⟩
    · rw [Nu.txt_pos hf h0]
      have h1 := Nu.digs_pos n.natAbs
      have h2 := digs_all n.natAbs
      cases hd : Nu.digs n.natAbs with
      | nil => rw [hd] at h1; simp at h1
      | cons c t =>
        refine ⟨c, t, rfl, ?_⟩
        have h3 := h2 c (by rw [hd]; simp)
        have g : ∀ d : UInt8, ¬ (48 ≤ d.toNat ∧ d.toNat ≤ 57) → c ≠ d := fun d hd e => by subst e; exact hd h3
        unfold kindOf
        rw [if_neg (g 110 (by decide)), if_neg (by intro e; rcases e with e | e; exact g 116 (by decide) e; exact g 102 (by decide) e), if_neg (g 34 (by decide)), if_neg (g 91 (by decide)), if_neg (g 123 (by decide))]
  · rw [ft, if_neg (by decide), if_neg (by decide), if_neg (by decide), if_pos rfl]
    exact ⟨34, _, by unfold Ru.quoteL; rfl, by decide⟩
  · rw [ft, if_neg (by decide), if_neg (by decide), if_neg (by decide), if_neg (by decide), if_pos rfl]
    exact ⟨91, _, by unfold rowT; rfl, by decide⟩
  · rw [ft, if_neg (by decide), if_neg (by decide), if_neg (by decide), if_neg (by decide), if_neg (by decide)]
    exact ⟨123, _, by unfold rowT; rfl, by decide⟩

/-- The texts of the parts of an object. -/
def kts (C : List UInt8) (ks : List ByteArray) (ts : List (List UInt8)) : List (List UInt8) := List.zipWith (keyT C) ks ts
theorem ft_list {C : List UInt8} {I : Nat → List UInt8} {d : Nat} {b : Bool} {n : Int} {s : ByteArray} {l : List V} {ks : List ByteArray} : ft C I d (.mk 4 b n s l ks) = 91 :: (if fts C I (d + 1) l = [] then [93] else rowX (I (d + 1)) (I d ++ [93]) (fts C I (d + 1) l)) := by
  rw [ft, if_neg (by decide), if_neg (by decide), if_neg (by decide), if_neg (by decide), if_pos rfl]
  exact rowT_X _ _ _ _ _ _ _ (fts_length C I (d + 1) l) (fun i _ => rfl)
theorem ft_obj {C : List UInt8} {I : Nat → List UInt8} {d : Nat} {b : Bool} {n : Int} {s : ByteArray} {l : List V} {ks : List ByteArray} (hl : ks.length = l.length) : ft C I d (.mk 5 b n s l ks) = 123 :: (if kts C ks (fts C I (d + 1) l) = [] then [125] else rowX (I (d + 1)) (I d ++ [125]) (kts C ks (fts C I (d + 1) l))) := by
  rw [ft, if_neg (by decide), if_neg (by decide), if_neg (by decide), if_neg (by decide), if_neg (by decide)]
  refine rowT_X _ _ _ _ _ _ _ (by unfold kts; rw [List.length_zipWith, fts_length, hl]; simp) (fun i hi => ?_)
  have h1 : i < ks.length := by omega
  have h2 : i < (fts C I (d + 1) l).length := by rw [fts_length]; exact hi
  have h3 : i < (kts C ks (fts C I (d + 1) l)).length := by unfold kts; rw [List.length_zipWith]; omega
  rw [getD_lt _ _ _ h3, getD_lt _ _ _ h1, getD_lt _ _ _ h2]
  simp only [kts, List.getElem_zipWith]

/-- What stands ahead of a closing bracket: nothing, or a line's end. -/
def lineI (I : Nat → List UInt8) : Prop := ∀ d, I d = [] ∨ ∃ t, I d = 10 :: t
theorem nd_rest {I : Nat → List UInt8} (hI : lineI I) (A : List UInt8) (d : Nat) (c : UInt8) (hc : ¬ (48 ≤ c.toNat ∧ c.toNat ≤ 57)) (ts : List (List UInt8)) (r : List UInt8) : nd (restT A (I d ++ [c]) ts ++ r) := by
  intro x t h
  cases ts with
  | nil =>
    rw [restT] at h
    rcases hI d with e | ⟨u, e⟩
    · rw [e] at h; simp at h; rw [← h.1]; exact hc
    · rw [e] at h; simp at h; rw [← h.1]; decide
  | cons s ts =>
    rw [restT] at h
    simp at h
    rw [← h.1]
    decide
theorem rest_nil {I : Nat → List UInt8} (hI : lineI I) (A : List UInt8) (d : Nat) (c : UInt8) (hc : c ≠ 44) (s : List UInt8) (ts : List (List UInt8)) (r r' : List UInt8) (h : restT A (I d ++ [c]) [] ++ r = restT A (I d ++ [c]) (s :: ts) ++ r') : False := by
  rw [restT, restT] at h
  rcases hI d with e | ⟨u, e⟩
  · rw [e] at h; simp at h; exact hc h.1
  · rw [e] at h; simp at h
/-- A value's parsing. -/
def ApartV (C : List UInt8) (I : Nat → List UInt8) (d : Nat) (x : V) : Prop := ∀ (y : V) (r r' : List UInt8), (∀ z ∈ walkV y, ownW z = 0) → nd r → nd r' → ft C I d x ++ r = ft C I d y ++ r' → x = y ∧ r = r'
theorem rest_apart {C : List UInt8} {I : Nat → List UInt8} (hI : lineI I) (d : Nat) : ∀ (l l' : List V) (r r' : List UInt8), (∀ x ∈ l, ApartV C I (d + 1) x) → (∀ y ∈ l', ∀ z ∈ walkV y, ownW z = 0) →
    restT (I (d + 1)) (I d ++ [93]) (fts C I (d + 1) l) ++ r = restT (I (d + 1)) (I d ++ [93]) (fts C I (d + 1) l') ++ r' → l = l' ∧ r = r'
  | [], [], r, r', _, _, h => ⟨rfl, by rw [fts, restT] at h; exact List.append_cancel_left h⟩
  | [], y :: t, r, r', _, _, h => by
    rw [fts, fts] at h
    exact absurd h (rest_nil hI _ d 93 (by decide) _ _ r r')
  | x :: t, [], r, r', _, _, h => by
    rw [fts, fts] at h
    exact absurd h.symm (rest_nil hI _ d 93 (by decide) _ _ r' r)
  | x :: t, y :: t', r, r', hl, hl', h => by
    rw [fts, fts, restT, restT] at h
    simp only [List.cons_append, List.append_assoc, List.cons.injEq, true_and] at h
    have h1 := List.append_cancel_left h
    obtain ⟨rfl, h2⟩ := hl x (by simp) y _ _ (hl' y (by simp)) (nd_rest hI _ d 93 (by decide) _ _) (nd_rest hI _ d 93 (by decide) _ _) h1
    obtain ⟨rfl, h3⟩ := rest_apart hI d t t' r r' (fun z hz => hl z (by simp [hz])) (fun z hz => hl' z (by simp [hz])) h2
    exact ⟨rfl, h3⟩
theorem restO_apart {C : List UInt8} {I : Nat → List UInt8} (hI : lineI I) (d : Nat) : ∀ (l l' : List V) (ks ks' : List ByteArray) (r r' : List UInt8), ks.length = l.length → ks'.length = l'.length → (∀ k ∈ ks, validS k = true) → (∀ k ∈ ks', validS k = true) → (∀ x ∈ l, ApartV C I (d + 1) x) → (∀ y ∈ l', ∀ z ∈ walkV y, ownW z = 0) →
    restT (I (d + 1)) (I d ++ [125]) (kts C ks (fts C I (d + 1) l)) ++ r = restT (I (d + 1)) (I d ++ [125]) (kts C ks' (fts C I (d + 1) l')) ++ r' → (l = l' ∧ ks = ks') ∧ r = r'
  | [], [], [], [], r, r', _, _, _, _, _, _, h => ⟨⟨rfl, rfl⟩, by rw [fts] at h; unfold kts at h; simp only [List.zipWith_nil_left, restT] at h; exact List.append_cancel_left h⟩
  | [], y :: t, [], k' :: ks', r, r', _, _, _, _, _, _, h => by
    rw [fts, fts] at h
    unfold kts at h
    simp only [List.zipWith_nil_left, List.zipWith_cons_cons] at h
    exact absurd h (rest_nil hI _ d 125 (by decide) _ _ r r')
  | x :: t, [], k :: ks, [], r, r', _, _, _, _, _, _, h => by
    rw [fts, fts] at h
    unfold kts at h
    simp only [List.zipWith_nil_left, List.zipWith_cons_cons] at h
    exact absurd h.symm (rest_nil hI _ d 125 (by decide) _ _ r' r)
  | x :: t, y :: t', k :: ks, k' :: ks', r, r', h1, h2, hv, hv', hl, hl', h => by
    rw [fts, fts] at h
    unfold kts at h
    simp only [List.zipWith_cons_cons] at h
    rw [restT, restT, keyT, keyT] at h
    simp only [List.cons_append, List.append_assoc, List.cons.injEq, true_and] at h
    have h3 := List.append_cancel_left h
    obtain ⟨rfl, h4⟩ := quote_uniq (hv k (by simp)) (hv' k' (by simp)) h3
    have h5 := List.append_cancel_left h4
    obtain ⟨rfl, h6⟩ := hl x (by simp) y _ _ (hl' y (by simp)) (nd_rest hI _ d 125 (by decide) _ _) (nd_rest hI _ d 125 (by decide) _ _) h5
    obtain ⟨⟨rfl, rfl⟩, h7⟩ := restO_apart hI d t t' ks ks' r r' (by simpa using h1) (by simpa using h2) (fun z hz => hv z (by simp [hz])) (fun z hz => hv' z (by simp [hz])) (fun z hz => hl z (by simp [hz])) (fun z hz => hl' z (by simp [hz])) h6
    exact ⟨⟨rfl, rfl⟩, h7⟩
  | [], _, k :: ks, _, _, _, h, _, _, _, _, _, _ => by simp at h
  | x :: t, _, [], _, _, _, h, _, _, _, _, _, _ => by simp at h
  | [], [], [], k' :: ks', _, _, _, h, _, _, _, _, _ => by simp at h
  | [], y :: t', [], [], _, _, _, h, _, _, _, _, _ => by simp at h
  | x :: t, [], k :: ks, k' :: ks', _, _, _, h, _, _, _, _, _ => by simp at h
  | x :: t, y :: t', k :: ks, [], _, _, _, h, _, _, _, _, _ => by simp at h

theorem fts_nil {C : List UInt8} {I : Nat → List UInt8} {d : Nat} {l : List V} : fts C I d l = [] ↔ l = [] := by
  cases l with
  | nil => simp [fts]
  | cons x t => simp [fts]
theorem kts_nil {C : List UInt8} {I : Nat → List UInt8} {d : Nat} {l : List V} {ks : List ByteArray} (h : ks.length = l.length) : kts C ks (fts C I d l) = [] ↔ l = [] := by
  cases l with
  | nil => simp [fts, kts]
  | cons x t =>
    cases ks with
    | nil => simp at h
    | cons k ks => simp [fts, kts]
/-- The first byte behind an opening bracket, where there are parts, is no closing one. -/
theorem first_ne {C : List UInt8} {I : Nat → List UInt8} (hI : lineI I) (d : Nat) (x : V) (hx : ownW x = 0) (u v r : List UInt8) (c : UInt8) (hc : c = 93 ∨ c = 125) (h : c :: r = I (d + 1) ++ (ft C I (d + 1) x ++ u) ++ v) : False := by
  rcases hI (d + 1) with e | ⟨t, e⟩
  · obtain ⟨c0, t0, e0, hk⟩ := ft_head (C := C) (I := I) (d := d + 1) hx
    rw [e, e0] at h
    simp at h
    have h1 := h.1
    have hp := (own_parts hx).1
    obtain ⟨k, b, n, s, l, ks⟩ := x
    subst h1
    rcases hc with rfl | rfl
    · -- kind 2: a number that begins so
      have hk2 : k = 2 := by have : kindOf 93 = 2 := by decide
                             rw [this] at hk; exact hk.symm
      subst hk2
      have hn : -9007199254740992 ≤ n ∧ n ≤ 9007199254740992 := (own_parts hx).2.1
      rw [ft, if_neg (by decide), if_neg (by decide), if_pos rfl] at e0
      have hf : Nu.fitB n = true := Nu.fitB_iff.2 hn
      by_cases h0 : n < 0
      · rw [Nu.txt_neg hf h0] at e0; simp at e0
      · rw [Nu.txt_pos hf h0] at e0
        have := digs_all n.natAbs 93 (by rw [e0]; simp)
        exact absurd this.2 (by decide)
    · have hk2 : k = 2 := by have : kindOf 125 = 2 := by decide
                             rw [this] at hk; exact hk.symm
      subst hk2
      have hn : -9007199254740992 ≤ n ∧ n ≤ 9007199254740992 := (own_parts hx).2.1
      rw [ft, if_neg (by decide), if_neg (by decide), if_pos rfl] at e0
      have hf : Nu.fitB n = true := Nu.fitB_iff.2 hn
      by_cases h0 : n < 0
      · rw [Nu.txt_neg hf h0] at e0; simp at e0
      · rw [Nu.txt_pos hf h0] at e0
        have := digs_all n.natAbs 125 (by rw [e0]; simp)
        exact absurd this.2 (by decide)
  · rw [e] at h
    simp at h
    rcases hc with rfl | rfl
    · exact absurd h.1 (by decide)
    · exact absurd h.1 (by decide)
theorem first_neO {C : List UInt8} {I : Nat → List UInt8} (hI : lineI I) (d : Nat) (k : ByteArray) (u v r : List UInt8) (h : 125 :: r = I (d + 1) ++ (keyT C k u) ++ v) : False := by
  rcases hI (d + 1) with e | ⟨t, e⟩
  · rw [e] at h
    unfold keyT Ru.quoteL at h
    simp at h
  · rw [e] at h
    simp at h
/-- A value's text, and what stands behind it, tell the value. -/
theorem ft_apart {C : List UInt8} {I : Nat → List UInt8} (hI : lineI I) : ∀ (N : Nat) (x : V) (d : Nat), depthV x ≤ N → (∀ z ∈ walkV x, ownW z = 0) → ApartV C I d x
  | 0, x, d, hN, _ => by obtain ⟨_, _, _, _, _, _⟩ := x; unfold depthV at hN; omega
  | N + 1, x, d, hN, hx => by
    intro y r r' hy hr hr' h
    have hx0 := hx x (self_in x)
    have hy0 := hy y (self_in y)
    obtain ⟨c1, t1, e1, hk1⟩ := ft_head (C := C) (I := I) (d := d) hx0
    obtain ⟨c2, t2, e2, hk2⟩ := ft_head (C := C) (I := I) (d := d) hy0
    have hkk : x.kind = y.kind := by
      have h1 := h
      rw [e1, e2] at h1
      simp at h1
      rw [← hk1, ← hk2, h1.1]
    clear e1 hk1 e2 hk2
    have hparts : ∀ z ∈ x.list, ApartV C I (d + 1) z := fun z hz => ft_apart hI N z (d + 1) (by
      obtain ⟨k, b, n, s, l, ks⟩ := x
      have := depth_part (l := l) hz
      unfold depthV at hN
      omega) (fun q hq => hx q (part_in hz q hq))
    have hpartsy : ∀ z ∈ y.list, ∀ q ∈ walkV z, ownW q = 0 := fun z hz q hq => hy q (part_in hz q hq)
    have px := own_parts hx0
    have py := own_parts hy0
    obtain ⟨k, b, n, s, l, ks⟩ := x
    obtain ⟨k', b', n', s', l', ks'⟩ := y
    obtain ⟨⟨⟨a1, a1'⟩, a2, a3, a4, a5, a6, a7⟩, an, av, ak, _⟩ := px
    obtain ⟨⟨⟨c1, c1'⟩, c2, c3, c4, c5, c6, c7⟩, cn, cv, ck, _⟩ := py
    simp only [V.kind, V.num, V.text, V.list, V.keys] at *
    subst hkk
    have bF : ∀ (b : Bool), (b = true → k = 1) → k ≠ 1 → b = false := fun b hb hk => by
      cases b
      · rfl
      · exact absurd (hb rfl) hk
    have nZ : ∀ (n : Int), (n ≠ 0 → k = 2) → k ≠ 2 → n = 0 := fun n hn hk => Decidable.not_not.1 (fun e => hk (hn e))
    have sE : ∀ (s : ByteArray), (s ≠ ⟨#[]⟩ → k = 3) → k ≠ 3 → s = ⟨#[]⟩ := fun s hs hk => Classical.byContradiction (fun e => hk (hs e))
    have lE : ∀ (l : List V), (l ≠ [] → k = 4 ∨ k = 5) → k ≠ 4 → k ≠ 5 → l = [] := fun l hl h4 h5 => Classical.byContradiction (fun e => (hl e).elim h4 h5)
    have kE : ∀ (ks : List ByteArray), (k ≠ 5 → ks.length = 0) → k ≠ 5 → ks = [] := fun ks hk h5 => List.eq_nil_of_length_eq_zero (hk h5)
    by_cases k1 : k = 1
    · obtain rfl := nZ n a3 (by omega)
      obtain rfl := nZ n' c3 (by omega)
      obtain rfl := sE s a4 (by omega)
      obtain rfl := sE s' c4 (by omega)
      obtain rfl := lE l a5 (by omega) (by omega)
      obtain rfl := lE l' c5 (by omega) (by omega)
      obtain rfl := kE ks a7 (by omega)
      obtain rfl := kE ks' c7 (by omega)
      subst k1
      rw [ft, ft, if_neg (by decide), if_pos rfl, if_neg (by decide), if_pos rfl] at h
      cases b <;> cases b' <;> simp [boolL] at h <;> first | exact ⟨rfl, h⟩ | contradiction
    obtain rfl := bF b a2 k1
    obtain rfl := bF b' c2 k1
    by_cases k2 : k = 2
    · obtain rfl := sE s a4 (by omega)
      obtain rfl := sE s' c4 (by omega)
      obtain rfl := lE l a5 (by omega) (by omega)
      obtain rfl := lE l' c5 (by omega) (by omega)
      obtain rfl := kE ks a7 (by omega)
      obtain rfl := kE ks' c7 (by omega)
      subst k2
      rw [ft, ft, if_neg (by decide), if_neg (by decide), if_pos rfl, if_neg (by decide), if_neg (by decide), if_pos rfl] at h
      obtain ⟨rfl, h2⟩ := txt_apart (Nu.fitB_iff.2 an) (Nu.fitB_iff.2 cn) hr hr' h
      exact ⟨rfl, h2⟩
    obtain rfl := nZ n a3 k2
    obtain rfl := nZ n' c3 k2
    by_cases k3 : k = 3
    · obtain rfl := lE l a5 (by omega) (by omega)
      obtain rfl := lE l' c5 (by omega) (by omega)
      obtain rfl := kE ks a7 (by omega)
      obtain rfl := kE ks' c7 (by omega)
      subst k3
      rw [ft, ft, if_neg (by decide), if_neg (by decide), if_neg (by decide), if_pos rfl, if_neg (by decide), if_neg (by decide), if_neg (by decide), if_pos rfl] at h
      obtain ⟨rfl, h2⟩ := quote_uniq av cv h
      exact ⟨rfl, h2⟩
    obtain rfl := sE s a4 k3
    obtain rfl := sE s' c4 k3
    by_cases k4 : k = 4
    · obtain rfl := kE ks a7 (by omega)
      obtain rfl := kE ks' c7 (by omega)
      subst k4
      rw [ft_list, ft_list] at h
      simp only [List.cons_append, List.cons.injEq, true_and, fts_nil] at h
      cases l with
      | nil =>
        cases l' with
        | nil => simp at h; exact ⟨rfl, h⟩
        | cons y t =>
          rw [if_pos rfl, if_neg (by simp), fts, rowX] at h
          exact (first_ne hI d y (hpartsy y (by simp) y (self_in y)) _ _ _ 93 (.inl rfl) h).elim
      | cons x t =>
        cases l' with
        | nil =>
          rw [if_pos rfl, if_neg (by simp), fts, rowX] at h
          exact (first_ne hI d x (hx x (part_in (x := .mk 4 false 0 ⟨#[]⟩ (x :: t) []) (by simp [V.list]) x (self_in x))) _ _ _ 93 (.inl rfl) h.symm).elim
        | cons y t' =>
          rw [if_neg (by simp), if_neg (by simp), fts, fts, rowX, rowX] at h
          simp only [List.append_assoc] at h
          have h1 := List.append_cancel_left h
          obtain ⟨rfl, h2⟩ := hparts x (by simp) y _ _ (hpartsy y (by simp)) (nd_rest hI _ d 93 (by decide) _ _) (nd_rest hI _ d 93 (by decide) _ _) h1
          obtain ⟨rfl, h3⟩ := rest_apart hI d t t' r r' (fun z hz => hparts z (by simp [hz])) (fun z hz => hpartsy z (by simp [hz])) h2
          exact ⟨rfl, h3⟩
    by_cases k5 : k = 5
    · subst k5
      have hl1 := a6 rfl
      have hl2 := c6 rfl
      have hv1 : ∀ q ∈ ks, validS q = true := fun q hq => List.all_eq_true.1 ak q hq
      have hv2 : ∀ q ∈ ks', validS q = true := fun q hq => List.all_eq_true.1 ck q hq
      rw [ft_obj hl1, ft_obj hl2] at h
      simp only [List.cons_append, List.cons.injEq, true_and, kts_nil hl1, kts_nil hl2] at h
      cases l with
      | nil =>
        obtain rfl : ks = [] := List.eq_nil_of_length_eq_zero hl1
        cases l' with
        | nil =>
          obtain rfl : ks' = [] := List.eq_nil_of_length_eq_zero hl2
          simp at h; exact ⟨rfl, h⟩
        | cons y t =>
          cases ks' with
          | nil => simp at hl2
          | cons q qs =>
            rw [if_pos rfl, if_neg (by simp), fts] at h
            unfold kts at h
            rw [List.zipWith_cons_cons, rowX] at h
            exact (first_neO hI d q _ _ _ (by simpa using h)).elim
      | cons x t =>
        cases ks with
        | nil => simp at hl1
        | cons q qs =>
          cases l' with
          | nil =>
            rw [if_pos rfl, if_neg (by simp), fts] at h
            unfold kts at h
            rw [List.zipWith_cons_cons, rowX] at h
            exact (first_neO hI d q _ _ _ (by simpa using h.symm)).elim
          | cons y t' =>
            cases ks' with
            | nil => simp at hl2
            | cons q' qs' =>
              rw [if_neg (by simp), if_neg (by simp), fts, fts] at h
              unfold kts at h
              rw [List.zipWith_cons_cons, List.zipWith_cons_cons, rowX, rowX, keyT, keyT] at h
              simp only [List.append_assoc] at h
              have h1 := List.append_cancel_left h
              obtain ⟨rfl, h2⟩ := quote_uniq (hv1 q (by simp)) (hv2 q' (by simp)) h1
              have h3 := List.append_cancel_left h2
              obtain ⟨rfl, h4⟩ := hparts x (by simp) y _ _ (hpartsy y (by simp)) (nd_rest hI _ d 125 (by decide) _ _) (nd_rest hI _ d 125 (by decide) _ _) h3
              obtain ⟨⟨rfl, rfl⟩, h5⟩ := restO_apart hI d t t' qs qs' r r' (by simpa using hl1) (by simpa using hl2) (fun z hz => hv1 z (by simp [hz])) (fun z hz => hv2 z (by simp [hz])) (fun z hz => hparts z (by simp [hz])) (fun z hz => hpartsy z (by simp [hz])) h4
              exact ⟨rfl, h5⟩
    obtain rfl := lE l a5 k4 k5
    obtain rfl := lE l' c5 k4 k5
    obtain rfl := kE ks a7 k5
    obtain rfl := kE ks' c7 k5
    obtain rfl : k = 0 := by omega
    exact ⟨rfl, List.append_cancel_left h⟩
/-- Two values have one text just if they are one. -/
theorem ft_one {C : List UInt8} {I : Nat → List UInt8} (hI : lineI I) {x y : V} (hx : wrongV x = 0) (hy : wrongV y = 0) (h : ft C I 0 x = ft C I 0 y) : x = y :=
  (ft_apart hI _ x 0 (Nat.le_refl _) (wrong_iff.1 hx) y [] [] (wrong_iff.1 hy) (fun c t e => by cases e) (fun c t e => by cases e) (by rw [h])).1
end Go.Proofs.YtllkcldckehipaaGreatDoor
