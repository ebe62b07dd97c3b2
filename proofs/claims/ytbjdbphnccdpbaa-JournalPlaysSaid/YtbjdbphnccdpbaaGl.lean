/-
  Rows: append of any row to an own one; rows of rows of bytes that grow.
-/
import Derived.Test.YtbjdbphnccdpbaaGo
import Derived.Maps.AppendAt
set_option linter.unusedVariables false
namespace Go.Proofs.Ytbjdbphnccdpbaa
open Go.RowKit Go.Shelf Go.Lib Go.Deep

theorem row_form {w : World} {base : Nat} {e : TypeId} {size n : Nat} {v : Value} {xs : List Value} (h : w.ownsRow base e size v n xs) : ∃ o ad c, v = .slice o n c ∧ n ≤ c ∧ c ≤ maxLen ∧ (0 < n → o = some ad) ∧ (o = none → c = 0) ∧ ∀ j u, xs[j]? = some u → w.cell? (ad.add j) = some u := by
  obtain ⟨h1, h2⟩ := h
  rcases h2 with ⟨rfl, rfl⟩ | ⟨g, cap, cur, rfl, r1, r2, r3, r4, r5, r6⟩
  · refine ⟨none, ⟨0, 0, none⟩, 0, rfl, Nat.le_refl _, by unfold maxLen; omega, fun h => absurd h (by omega), fun _ => rfl, fun j u hj => ?_⟩
    have : xs = [] := List.eq_nil_of_length_eq_zero (by rw [h1]; simp)
    subst this
    simp at hj
  · refine ⟨some ⟨g, 0, none⟩, ⟨g, 0, none⟩, cap, rfl, r3, r4, fun _ => rfl, (fun h => by cases h), ?_⟩
    exact World.ownsRow.cells (v := .slice (some ⟨g, 0, none⟩) n cap) ⟨h1, .inr ⟨g, cap, cur, rfl, r1, r2, r3, r4, r5, r6⟩⟩ rfl

section
variable {P : Program} {w : World}
theorem run_app_row (base : Nat) (t ty e : TypeId) (i : TypeInfo) (z : Value) (size bytes : Nat) (ht : P.underlying t = some (.slice e)) (hi : P.info? e = some i) (hz : i.zero = some z)
    (hsize : i.size = size) (hby : i.bytes = bytes) (hzs : z.cells.size = size) (hsz : 0 < size) (v : Value) (n : Nat) (xs : List Value) (hown : w.ownsRow base e size v n xs)
    (o : Option Addr) (a : Addr) (m c : Nat) (ho : 0 < m → o = some a) (news : List Value) (hl : news.length = m * size) (hnews : ∀ j u, news[j]? = some u → w.cell? (a.add j) = some u) (h1 : ∀ u ∈ news, u.oneCell' = true)
    (h63 : n + m ≤ maxLen) (hbytes : (n + m) * bytes ≤ 140737488355328) (hbase : base ≤ w.heap.size) :
    ∃ o' c' w', (Builtin.append_ #[t, t] ty #[v, .slice o m c]).run P w = .ok (.slice o' (n + m) c') w' ∧ w'.ownsRow base e size (.slice o' (n + m) c') (n + m) (xs ++ news) ∧ w.grownBy w' v.ownBlock ∧ ((Value.slice o' (n + m) c').ownBlock = v.ownBlock ∨ (Value.slice o' (n + m) c').ownBlock = some w.heap.size) := by
  rcases Nat.eq_zero_or_pos m with rfl | hm
  · have hn : news = [] := List.eq_nil_of_length_eq_zero (by rw [hl]; simp)
    subst hn
    obtain ⟨o', ad, c', rfl, h2, h3, h4, h5, _⟩ := row_form hown
    refine ⟨o', c', w, ?_, by simpa using hown, ⟨rfl, rfl, rfl, Nat.le_refl _, fun _ _ _ => rfl⟩, .inl rfl⟩
    rcases hown.2 with ⟨hv, rfl⟩ | ⟨g, cap, cur, hv, _, _, hnc, _⟩
    · cases hv
      cases o <;> simp [Builtin.append_, run_underlying ht, sizeOf, typeInfo, hi, Builtin.lenOf, Builtin.firstCells, loadCells, loadCellsFrom]
    · cases hv
      cases o <;> simp [Builtin.append_, run_underlying ht, sizeOf, typeInfo, hi, Builtin.lenOf, Builtin.firstCells, hnc, storeCells, loadCells, loadCellsFrom]
  · rw [ho hm]
    obtain ⟨v', w', h2, h3, h4, _, h5⟩ := run_append_own_at w base t ty e i z size bytes ht hi hz hsize hby hzs hsz v n xs hown a m c news hl hnews h1 h63 hbytes hbase
    obtain ⟨o', ad, c', rfl, _⟩ := row_form h3
    exact ⟨o', c', w', h2, h3, h4, h5⟩
theorem wpList_app_row {ops : Array Oper} {rest : List Oper} {o : Oper} {a : Act} {Q : Exit → Act → World → Prop} (hgd : o.guard = none) (s x : Operand) (t : TypeId)
    (ho : o.op = .call { callee := .builtin .append, args := #[s, x], argTypes := #[t, t] })
    (base : Nat) (e : TypeId) (i : TypeInfo) (z : Value) (size bytes : Nat) (ht : P.underlying t = some (.slice e)) (hi : P.info? e = some i) (hz : i.zero = some z)
    (hsize : i.size = size) (hby : i.bytes = bytes) (hzs : z.cells.size = size) (hsz : 0 < size)
    (v : Value) (n : Nat) (xs : List Value) (hs : a.eval s = v) (hown : w.ownsRow base e size v n xs)
    (oo : Option Addr) (ad : Addr) (m c : Nat) (news : List Value) (hx : a.eval x = .slice oo m c) (hoo : 0 < m → oo = some ad) (hl : news.length = m * size) (hnews : ∀ j u, news[j]? = some u → w.cell? (ad.add j) = some u) (h1 : ∀ u ∈ news, u.oneCell' = true)
    (h63 : n + m ≤ maxLen) (hbytes : (n + m) * bytes ≤ 140737488355328) (hbase : base ≤ w.heap.size)
    (h : ∀ o' c' w', w'.ownsRow base e size (.slice o' (n + m) c') (n + m) (xs ++ news) → w.grownBy w' v.ownBlock → ((Value.slice o' (n + m) c').ownBlock = v.ownBlock ∨ (Value.slice o' (n + m) c').ownBlock = some w.heap.size) → wpList P ops Q rest (a.put o.dst (.slice o' (n + m) c')) w') : wpList P ops Q (o :: rest) a w := by
  refine wpList_plain hgd fun K hK => ?_
  obtain ⟨o', c', w', hr, h2, h3, h4⟩ := run_app_row (P := P) (w := w) base t o.type e i z size bytes ht hi hz hsize hby hzs hsz v n xs hown oo ad m c hoo news hl hnews h1 h63 hbytes hbase
  unfold Oper.wp execOp
  simp only [ho, resolve, invoke, builtin, Sem.run_bind, Sem.run_pure, Result.andThen_ok, List.map_toArray, List.map_cons, List.map_nil, hs, hx, hr]
  exact hK _ _ (h o' c' w' h2 h3 h4)
theorem wpList_app_roww {ops : Array Oper} {rest : List Oper} {o : Oper} {a : Act} {Q : Exit → Act → World → Prop} (hgd : Region.wanted o (yielded ops a.tmps) = true) (s x : Operand) (t : TypeId)
    (ho : o.op = .call { callee := .builtin .append, args := #[s, x], argTypes := #[t, t] })
    (base : Nat) (e : TypeId) (i : TypeInfo) (z : Value) (size bytes : Nat) (ht : P.underlying t = some (.slice e)) (hi : P.info? e = some i) (hz : i.zero = some z)
    (hsize : i.size = size) (hby : i.bytes = bytes) (hzs : z.cells.size = size) (hsz : 0 < size)
    (v : Value) (n : Nat) (xs : List Value) (hs : a.eval s = v) (hown : w.ownsRow base e size v n xs)
    (oo : Option Addr) (ad : Addr) (m c : Nat) (news : List Value) (hx : a.eval x = .slice oo m c) (hoo : 0 < m → oo = some ad) (hl : news.length = m * size) (hnews : ∀ j u, news[j]? = some u → w.cell? (ad.add j) = some u) (h1 : ∀ u ∈ news, u.oneCell' = true)
    (h63 : n + m ≤ maxLen) (hbytes : (n + m) * bytes ≤ 140737488355328) (hbase : base ≤ w.heap.size)
    (h : ∀ o' c' w', w'.ownsRow base e size (.slice o' (n + m) c') (n + m) (xs ++ news) → w.grownBy w' v.ownBlock → ((Value.slice o' (n + m) c').ownBlock = v.ownBlock ∨ (Value.slice o' (n + m) c').ownBlock = some w.heap.size) → wpList P ops Q rest (a.put o.dst (.slice o' (n + m) c')) w') : wpList P ops Q (o :: rest) a w := by
  refine wpList_step fun K hK => ?_
  rw [if_pos hgd]
  obtain ⟨o', c', w', hr, h2, h3, h4⟩ := run_app_row (P := P) (w := w) base t o.type e i z size bytes ht hi hz hsize hby hzs hsz v n xs hown oo ad m c hoo news hl hnews h1 h63 hbytes hbase
  unfold Oper.wp execOp
  simp only [ho, resolve, invoke, builtin, Sem.run_bind, Sem.run_pure, Result.andThen_ok, List.map_toArray, List.map_cons, List.map_nil, hs, hx, hr]
  exact hK _ _ (h o' c' w' h2 h3 h4)
end
theorem infoSlR : (Try.prog.info? 27).map (fun i => (i.zero, i.size, i.bytes)) = some (some (.slice none 0 0), 1, 24) := by kernel_rfl
/-- A row that grows, of rows of bytes that read so in the world W0, of which all stays. -/
def RW (W0 W : World) (L : List (List UInt8)) (v : Value) : Prop :=
  ∃ xs, W.ownsRow W0.heap.size 27 1 v L.length xs ∧ (∀ i (h : i < L.length), ∃ ob cb, xs[i]? = some (.slice ob L[i].length cb) ∧ rd W0 L[i] (.slice ob L[i].length cb)) ∧ Below W0.heap.size W0 W
theorem RW.nil {W0 W : World} (h : Below W0.heap.size W0 W) : RW W0 W [] (.slice none 0 0) := ⟨[], World.ownsRow_nil _ _ _ _, fun i h => absurd h (by simp), h⟩
theorem RW.rds {W0 W : World} {L : List (List UInt8)} {v : Value} (h : RW W0 W L v) : rds W L v := by
  obtain ⟨xs, s1, s2, s3⟩ := h
  obtain ⟨o, ad, c, rfl, h1, h2, h3, h4, h5⟩ := row_form s1
  refine ⟨o, ad, c, rfl, h1, h2, h3, fun i hi => ?_⟩
  obtain ⟨ob, cb, q1, q2⟩ := s2 i hi
  exact ⟨ob, cb, h5 i _ q1, q2.below s3⟩
theorem RW.below {W0 W W' : World} {L : List (List UInt8)} {v : Value} (h : RW W0 W L v) (hb : Below W.heap.size W W') : RW W0 W' L v := by
  obtain ⟨xs, s1, s2, s3⟩ := h
  exact ⟨xs, s1.kept (row := none) ⟨hb.os, hb.tape, hb.output, hb.size, fun k hk _ => hb.block k hk⟩ (by cases hv : v.ownBlock with | none => exact .inl rfl | some k => exact .inr (by simp)), s2, s3.trans (hb.mono s3.size)⟩
/-- A row whose elements are rows of bytes that read so in the world W0. -/
def RN (W0 W : World) (M : List (List UInt8)) (u : Value) : Prop :=
  ∃ (oo : Option Addr) (ad : Addr) (c : Nat) (news : List Value), u = .slice oo M.length c ∧ (0 < M.length → oo = some ad) ∧ news.length = M.length * 1 ∧ (∀ j x, news[j]? = some x → W.cell? (ad.add j) = some x) ∧ (∀ x ∈ news, x.oneCell' = true) ∧ (∀ i (h : i < M.length), ∃ ob cb, news[i]? = some (.slice ob M[i].length cb) ∧ rd W0 M[i] (.slice ob M[i].length cb))
theorem RN.of {W0 W : World} {M : List (List UInt8)} {u : Value} (h : rds W0 M u) (hb : Below W0.heap.size W0 W) : RN W0 W M u := by
  obtain ⟨o, a, c, rfl, _, _, h1, h2⟩ := h
  obtain ⟨news, hl, hp⟩ := list_of M.length (fun i (x : Value) => W0.cell? (a.add i) = some x ∧ x.oneCell' = true ∧ ∀ (h : i < M.length), ∃ ob cb, x = .slice ob M[i].length cb ∧ rd W0 M[i] (.slice ob M[i].length cb)) (fun i hi => by
    obtain ⟨ob, cb, q1, q2⟩ := h2 i hi
    exact ⟨_, q1, rfl, fun _ => ⟨ob, cb, rfl, q2⟩⟩)
  refine ⟨o, a, c, news, rfl, h1, by omega, fun j x hj => ?_, fun x hx => ?_, fun i hi => ?_⟩
  · obtain ⟨hj1, rfl⟩ := List.getElem?_eq_some_iff.1 hj
    exact (Fr.of_below (B := fun _ => False) hb).cell _ _ (fun h => h) (hp j hj1).1
  · obtain ⟨j, hj, rfl⟩ := List.mem_iff_getElem.1 hx
    exact (hp j hj).2.1
  · obtain ⟨ob, cb, q1, q2⟩ := (hp i (by omega)).2.2 hi
    exact ⟨ob, cb, by rw [List.getElem?_eq_getElem (by omega), q1], q2⟩
theorem RW.grown {W0 W' : World} {L M : List (List UInt8)} {v' : Value} {xs news : List Value} (hb : Below W0.heap.size W0 W') (h1 : W'.ownsRow W0.heap.size 27 1 v' (L.length + M.length) (xs ++ news)) (hx : xs.length = L.length)
    (h2 : ∀ i (h : i < L.length), ∃ ob cb, xs[i]? = some (.slice ob L[i].length cb) ∧ rd W0 L[i] (.slice ob L[i].length cb)) (h3 : ∀ i (h : i < M.length), ∃ ob cb, news[i]? = some (.slice ob M[i].length cb) ∧ rd W0 M[i] (.slice ob M[i].length cb)) : RW W0 W' (L ++ M) v' := by
  refine ⟨xs ++ news, by rw [List.length_append]; exact h1, fun i hi => ?_, hb⟩
  rw [List.length_append] at hi
  by_cases e : i < L.length
  · obtain ⟨ob, cb, q1, q2⟩ := h2 i e
    exact ⟨ob, cb, by rw [List.getElem?_append_left (by omega), List.getElem_append_left e]; exact q1, by rw [List.getElem_append_left e]; exact q2⟩
  · obtain ⟨ob, cb, q1, q2⟩ := h3 (i - L.length) (by omega)
    exact ⟨ob, cb, by rw [List.getElem?_append_right (by omega), List.getElem_append_right (by omega), hx]; exact q1, by rw [List.getElem_append_right (by omega)]; exact q2⟩
theorem wpList_app_rw {w : World} {ops : Array Oper} {rest : List Oper} {o : Oper} {a : Act} {Q : Exit → Act → World → Prop} (hgd : Region.wanted o (yielded ops a.tmps) = true) (s x : Operand)
    (ho : o.op = .call { callee := .builtin .append, args := #[s, x], argTypes := #[28, 28] }) (W0 : World) (v u : Value) (L M : List (List UInt8)) (hs : a.eval s = v) (hx : a.eval x = u) (h : RW W0 w L v) (hm : RN W0 w M u) (hlen : L.length + M.length ≤ 1000000)
    (hk : ∀ o' c' w', RW W0 w' (L ++ M) (.slice o' (L.length + M.length) c') → w.grownBy w' v.ownBlock → wpList Try.prog ops Q rest (a.put o.dst (.slice o' (L.length + M.length) c')) w') : wpList Try.prog ops Q (o :: rest) a w := by
  obtain ⟨xs, s1, s2, s3⟩ := h
  obtain ⟨oo, ad, c, news, rfl, n1, n2, n3, n4, n5⟩ := hm
  obtain ⟨ii, hi, hj⟩ := Option.map_eq_some_iff.1 infoSlR
  simp only [Prod.mk.injEq] at hj
  obtain ⟨hj1, hj2, hj3⟩ := hj
  have hxl : xs.length = L.length := by have := s1.1; omega
  have hlo : ∀ k, v.ownBlock = some k → W0.heap.size ≤ k := fun k hk => by
    rcases s1.2 with ⟨rfl, _⟩ | ⟨g, cap, cur, rfl, hb, _⟩
    · cases hk
    · have : g = k := by simpa [Value.ownBlock] using hk
      omega
  refine wpList_app_roww hgd s x 28 ho W0.heap.size 27 ii (.slice none 0 0) 1 24 Try.underlying28 hi hj1 hj2 hj3 rfl (by decide) v L.length xs hs s1 oo ad M.length c news hx n1 n2 n3 n4 (by unfold maxLen; omega) (by omega) s3.size ?_
  intro o' c' w' own gr _
  exact hk o' c' w' (RW.grown (s3.trans ((Fr.grown (B := fun k => W0.heap.size ≤ k) gr hlo).below (fun k hk => hk) s3.size)) own hxl s2 n5) gr
end Go.Proofs.Ytbjdbphnccdpbaa
