/-
  append to a row that is full (its capacity is its length), whoever has it. · The program's Create. · The program's Delete.
-/
import Derived.Test.YtkigeegahepnaaaGreatDoorGP
import Derived.Laws.Append
import Derived.Deep.RegionWith
import Derived.Test.YtkigeegahepnaaaGreatDoorGL
set_option linter.unusedVariables false
set_option linter.unusedSimpArgs false
namespace Go.Proofs.YtkigeegahepnaaaGreatDoor
open Go.RowKit

section
variable {P : Program} {w : World}
theorem run_append_full (t ty e : TypeId) (i : TypeInfo) (z : Value) (size bytes : Nat) (ht : P.underlying t = some (.slice e)) (hi : P.info? e = some i) (hz : i.zero = some z) (hsize : i.size = size) (hby : i.bytes = bytes) (hzs : z.cells.size = size)
    (o : Option Addr) (a : Addr) (n : Nat) (ho : 0 < n → o = some a) (olds : List Value) (hlo : olds.length = n * size) (holds : ∀ j u, olds[j]? = some u → w.cell? (a.add j) = some u)
    (o2 : Option Addr) (a2 : Addr) (m c : Nat) (ho2 : 0 < m → o2 = some a2) (news : List Value) (hl : news.length = m * size) (hnews : ∀ j u, news[j]? = some u → w.cell? (a2.add j) = some u) (h63 : n + m ≤ maxLen) (hbytes : (n + m) * bytes ≤ 140737488355328) :
    ∃ o' a' c' w', (Builtin.append_ #[t, t] ty #[.slice o n n, .slice o2 m c]).run P w = .ok (.slice o' (n + m) c') w' ∧ n + m ≤ c' ∧ c' ≤ maxLen ∧ (0 < n + m → o' = some a') ∧ (∀ j u, (olds ++ news)[j]? = some u → w'.cell? (a'.add j) = some u) ∧ Below w.heap.size w w' ∧ (0 < m → a' = ⟨w.heap.size, 0, none⟩) ∧ (m = 0 → a' = a) := by
  subst hsize hby
  rcases Nat.eq_zero_or_pos m with rfl | hm
  · have hn : news = [] := List.eq_nil_of_length_eq_zero (by rw [hl]; simp)
    subst hn
    refine ⟨o, a, n, w, ?_, by omega, by omega, fun h => ho (by omega), fun j u h => holds j u (by simpa using h), Below.refl _ _, fun h => absurd h (by omega), fun _ => rfl⟩
    cases o <;> cases o2 <;> simp [Builtin.append_, run_underlying ht, sizeOf, typeInfo, hi, Builtin.lenOf, Builtin.firstCells, loadCells, loadCellsFrom, storeCells]
  · rw [ho2 hm]
    have hcell : ∀ (cap : Nat), ∀ j u, (olds ++ news)[j]? = some u → (w.drew.alloc (.cells (olds.toArray ++ news.toArray ++ Builtin.zeroCells z.cells cap) e)).cell? ((⟨w.heap.size, 0, none⟩ : Addr).add j) = some u := fun cap j u h => by
      rw [add0g]
      have e1 : (w.drew.alloc (.cells (olds.toArray ++ news.toArray ++ Builtin.zeroCells z.cells cap) e)).cell? ⟨w.heap.size, j, none⟩ = (olds.toArray ++ news.toArray ++ Builtin.zeroCells z.cells cap)[j]? := World.cell?_alloc_new w.drew _ _ j
      have hj := (List.getElem?_eq_some_iff.1 h).1
      rw [e1, Array.getElem?_append_left (by simpa using hj)]
      simpa using h
    have hbel : ∀ ob : Obj, Below w.heap.size w (w.drew.alloc ob) := fun ob => (drewB1 _ _).trans ((kbA (w := w.drew) (o := ob)))
    have hgc : ∀ s, n + m ≤ grownCap w (n + m) s e ∧ grownCap w (n + m) s e ≤ maxLen := fun s => ⟨grownCap_ge w _ s e, grownCap_le_maxLen w _ s e h63⟩
    have hml : n + m ≤ 9223372036854775807 := by unfold maxLen at h63; omega
    cases o with
    | none =>
      have hn0 : n = 0 := by
        rcases Nat.eq_zero_or_pos n with h | h
        · exact h
        · cases ho h
      subst hn0
      have ho0 : olds = [] := List.eq_nil_of_length_eq_zero (by rw [hlo]; simp)
      subst ho0
      simp only [Nat.zero_add] at hgc hbytes hml ⊢
      refine ⟨_, ⟨w.heap.size, 0, none⟩, _, _, run_append_nil (P := P) w t ty e i z ht hi hz a2 m c news hl hnews hm (by omega) (by omega), (hgc 0).1, (hgc 0).2, fun _ => rfl, ?_, hbel _, fun _ => rfl, fun h => by omega⟩
      have := hcell (grownCap w m 0 e - m)
      simpa using this
    | some b =>
      have hb : ∀ j u, olds[j]? = some u → w.cell? (b.add j) = some u := fun j u h => by
        have hj := (List.getElem?_eq_some_iff.1 h).1
        have hn : 0 < n := by
          rcases Nat.eq_zero_or_pos n with h0 | h0
          · subst h0; rw [hlo] at hj; simp at hj
          · exact h0
        have e1 := ho hn
        cases e1
        exact holds j u h
      exact ⟨_, ⟨w.heap.size, 0, none⟩, _, _, run_append_grow (P := P) w t ty e i z ht hi hz b n n olds hlo hb a2 m c news hl hnews (by omega) (by omega) (growslice_fits (by omega) hbytes), (hgc n).1, (hgc n).2, fun _ => rfl, hcell _, hbel _, fun _ => rfl, fun h => by omega⟩
theorem wp_append_full {o : Oper} {a : Act} {K : Act → World → Prop} {Q : Exit → Act → World → Prop} (s x : Operand) (t : TypeId)
    (hop : o.op = .call { callee := .builtin .append, args := #[s, x], argTypes := #[t, t] })
    (e : TypeId) (i : TypeInfo) (z : Value) (size bytes : Nat) (ht : P.underlying t = some (.slice e)) (hi : P.info? e = some i) (hz : i.zero = some z) (hsize : i.size = size) (hby : i.bytes = bytes) (hzs : z.cells.size = size)
    (oo : Option Addr) (ad : Addr) (n : Nat) (hs : a.eval s = .slice oo n n) (ho : 0 < n → oo = some ad) (olds : List Value) (hlo : olds.length = n * size) (holds : ∀ j u, olds[j]? = some u → w.cell? (ad.add j) = some u)
    (o2 : Option Addr) (a2 : Addr) (m c : Nat) (hx : a.eval x = .slice o2 m c) (ho2 : 0 < m → o2 = some a2) (news : List Value) (hl : news.length = m * size) (hnews : ∀ j u, news[j]? = some u → w.cell? (a2.add j) = some u) (h63 : n + m ≤ maxLen) (hbytes : (n + m) * bytes ≤ 140737488355328)
    (h : ∀ o' a' c' w', n + m ≤ c' → c' ≤ maxLen → (0 < n + m → o' = some a') → (∀ j u, (olds ++ news)[j]? = some u → w'.cell? (a'.add j) = some u) → Below w.heap.size w w' → (0 < m → a' = ⟨w.heap.size, 0, none⟩) → (m = 0 → a' = ad) → K (a.put o.dst (.slice o' (n + m) c')) w') : o.wp P a w K Q := by
  obtain ⟨o', a', c', w', hr, h1, h2, h3, h4, h5, h6, h7⟩ := run_append_full (P := P) (w := w) t o.type e i z size bytes ht hi hz hsize hby hzs oo ad n ho olds hlo holds o2 a2 m c ho2 news hl hnews h63 hbytes
  unfold Oper.wp execOp
  simp only [hop, resolve, invoke, builtin, Sem.run_bind, Sem.run_pure, Result.andThen_ok, List.map_toArray, List.map_cons, List.map_nil, hs, hx, hr]
  exact h o' a' c' w' h1 h2 h3 h4 h5 h6 h7
theorem wpList_append_full {ops : Array Oper} {rest : List Oper} {o : Oper} {a : Act} {Q : Exit → Act → World → Prop} (hgd : o.guard = none) (s x : Operand) (t : TypeId)
    (hop : o.op = .call { callee := .builtin .append, args := #[s, x], argTypes := #[t, t] })
    (e : TypeId) (i : TypeInfo) (z : Value) (size bytes : Nat) (ht : P.underlying t = some (.slice e)) (hi : P.info? e = some i) (hz : i.zero = some z) (hsize : i.size = size) (hby : i.bytes = bytes) (hzs : z.cells.size = size)
    (oo : Option Addr) (ad : Addr) (n : Nat) (hs : a.eval s = .slice oo n n) (ho : 0 < n → oo = some ad) (olds : List Value) (hlo : olds.length = n * size) (holds : ∀ j u, olds[j]? = some u → w.cell? (ad.add j) = some u)
    (o2 : Option Addr) (a2 : Addr) (m c : Nat) (hx : a.eval x = .slice o2 m c) (ho2 : 0 < m → o2 = some a2) (news : List Value) (hl : news.length = m * size) (hnews : ∀ j u, news[j]? = some u → w.cell? (a2.add j) = some u) (h63 : n + m ≤ maxLen) (hbytes : (n + m) * bytes ≤ 140737488355328)
    (h : ∀ o' a' c' w', n + m ≤ c' → c' ≤ maxLen → (0 < n + m → o' = some a') → (∀ j u, (olds ++ news)[j]? = some u → w'.cell? (a'.add j) = some u) → Below w.heap.size w w' → (0 < m → a' = ⟨w.heap.size, 0, none⟩) → (m = 0 → a' = ad) → wpList P ops Q rest (a.put o.dst (.slice o' (n + m) c')) w') : wpList P ops Q (o :: rest) a w :=
  wpList_plain hgd fun _ hK => wp_append_full s x t hop e i z size bytes ht hi hz hsize hby hzs oo ad n hs ho olds hlo holds o2 a2 m c hx ho2 news hl hnews h63 hbytes fun o' a' c' w' h1 h2 h3 h4 h5 h6 h7 => hK _ _ (h o' a' c' w' h1 h2 h3 h4 h5 h6 h7)
end
/-- A row of things, out of its cells. -/
theorem isTsa_cells {W : World} {B : Nat → Prop} {L : List Th} {xs : List Value} {o : Option Addr} {a : Addr} {c : Nat} (h1 : L.length ≤ c) (h2 : c ≤ maxLen) (ho : 0 < L.length → o = some a) (hB : 0 < L.length → B a.block) (hx : isTLa W B L xs) (hc : ∀ j u, xs[j]? = some u → W.cell? (a.add j) = some u) : isTsa W B L (.slice o L.length c) := by
  refine ⟨a, c, ⟨o, rfl, h1, h2, ho⟩, hB, ?_⟩
  rcases Nat.eq_zero_or_pos L.length with h0 | h0
  · exact fun i hi => absurd hi (by omega)
  · have hl := isTLa_len _ _ hx
    have h00 : xs[0]? = some xs[0] := List.getElem?_eq_getElem (by omega)
    have hs : a.spot = none := by
      have := cell_spot (hc 0 _ h00)
      rwa [show a.add 0 = a by simp [Addr.add]] at this
    exact isTLa_at L xs a hs hx hc
theorem isTLa_app {W : World} {B : Nat → Prop} : ∀ (l m : List Th) (xs ys : List Value), isTLa W B l xs → isTLa W B m ys → isTLa W B (l ++ m) (xs ++ ys)
  | [], m, xs, ys, h, h' => by
    unfold isTLa at h
    subst h
    exact h'
  | x :: t, m, xs, ys, h, h' => by
    unfold isTLa at h
    obtain ⟨pv, rest, rfl, hx, hn, hm, ht⟩ := h
    rw [List.cons_append]
    unfold isTLa
    exact ⟨pv, rest ++ ys, rfl, hx, hn, hm, isTLa_app t m rest ys ht h'⟩
theorem isTLa_keep {W W' : World} {B : Nat → Prop} (hc : ∀ a c, B a.block → W.cell? a = some c → W'.cell? a = some c) : ∀ (l : List Th) (xs : List Value), isTLa W B l xs → isTLa W' B l xs
  | [], xs, h => by unfold isTLa at h ⊢; exact h
  | x :: t, xs, h => by
    unfold isTLa at h ⊢
    obtain ⟨pv, rest, e, hx, hn, hm, ht⟩ := h
    exact ⟨pv, rest, e, isGsa_keep hc hx, hn, hm, isTLa_keep hc t rest ht⟩
theorem isTLa_mono {W : World} {B B' : Nat → Prop} (hb : ∀ q, B q → B' q) : ∀ (l : List Th) (xs : List Value), isTLa W B l xs → isTLa W B' l xs
  | [], xs, h => by unfold isTLa at h ⊢; exact h
  | x :: t, xs, h => by
    unfold isTLa at h ⊢
    obtain ⟨pv, rest, e, hx, hn, hm, ht⟩ := h
    exact ⟨pv, rest, e, isGsa_mono hb hx, hn, hm, isTLa_mono hb t rest ht⟩
end Go.Proofs.YtkigeegahepnaaaGreatDoor

namespace Go.Proofs.YtkigeegahepnaaaGreatDoor
open Go.RowKit

def zS : St := ⟨[], 0⟩
theorem isS_zero (W : World) : isS W zS (.agg #[.slice none 0 0, .int .i64 0]) :=
  ⟨_, rfl, ⟨⟨0, 0, none⟩, 0, ⟨none, rfl, Nat.le_refl _, by unfold maxLen; omega, fun h => absurd h (by decide)⟩, fun i h => absurd h (by simp [zS])⟩, by show (-9223372036854775808 : Int) ≤ 0 ∧ (0 : Int) ≤ 9223372036854775807; omega⟩
theorem rowIs_two {w : World} {b : Nat} {c0 c1 : Value} {t : TypeId} (h : w.heap[b]? = some (.cells #[c0, c1] t (0, 0))) : w.rowIs b t 2 (fun i => (#[c0, c1][i]?).getD undef) :=
  ⟨_, h, rfl, fun i hi => by
    match i, hi with
    | 0, _ => rfl
    | 1, _ => rfl⟩
/-- Both cells of a box are set. -/
theorem store_two {w : World} {b : Nat} {c0 c1 : Value} {t : TypeId} (h : w.heap[b]? = some (.cells #[c0, c1] t (0, 0))) (d0 d1 : Value) :
    ∃ w1 w2, ((∃ u, w.cell? ⟨b, 0, none⟩ = some u) ∧ w.frozen? ⟨b, 0, none⟩ = false ∧ w.setCell ⟨b, 0, none⟩ d0 = w1) ∧ ((∃ u, w1.cell? ⟨b, 1, none⟩ = some u) ∧ w1.frozen? ⟨b, 1, none⟩ = false ∧ w1.setCell ⟨b, 1, none⟩ d1 = w2) ∧
      w2.cell? ⟨b, 0, none⟩ = some d0 ∧ w2.cell? ⟨b, 1, none⟩ = some d1 ∧ w.grownBy w2 (some b) ∧ w2.heap[b]? = some (.cells #[d0, d1] t (0, 0)) := by
  have h0 := rowIs_two h
  have h1 := h0.set 0 d0
  have h2 := h1.set 1 d1
  have e1 : (w.setCell ⟨b, 0, none⟩ d0).heap[b]? = some (.cells #[d0, c1] t (0, 0)) := by simp [World.setCell, Array.getElem?_modify, h]
  have e2 : ((w.setCell ⟨b, 0, none⟩ d0).setCell ⟨b, 1, none⟩ d1).heap[b]? = some (.cells #[d0, d1] t (0, 0)) := by
    generalize w.setCell ⟨b, 0, none⟩ d0 = y at e1
    simp [World.setCell, Array.getElem?_modify, e1]
  obtain ⟨q0, q1⟩ := two_cells e2
  exact ⟨_, _, ⟨⟨_, h0.cell (show 0 < 2 by decide)⟩, h0.frozen _, rfl⟩, ⟨⟨_, h1.cell (show 1 < 2 by decide)⟩, h1.frozen _, rfl⟩, q0, q1, grown_trans (grown_set _ _ _ _) (grown_set _ _ _ _), e2⟩

noncomputable def createL (s : St) (K : ByteArray) (ps : List G) : St × ByteArray × Int :=
  if checkS s = 0 then (if wrongL K ps = 0 then (if s.made = 1099511627776 then (zS, ⟨#[]⟩, 3) else (⟨s.l ++ [⟨physS (s.made + 1), K, ps⟩], s.made + 1⟩, physS (s.made + 1), 0)) else (zS, ⟨#[]⟩, wrongL K ps)) else (zS, ⟨#[]⟩, checkS s)

/-- What lies there as Create begins: the store's box, the result's. -/
structure CrW (w : World) (o : Option Addr) (n cap : Nat) (md : Int) (W : World) : Prop where
  bel : Below w.heap.size w W
  sz : w.heap.size + 2 ≤ W.heap.size
  box : W.heap[w.heap.size]? = some (.cells #[.slice o n cap, .int .i64 md] 69 (0, 0))
  res : W.heap[w.heap.size + 1]? = some (.cells #[.slice none 0 0, .int .i64 0] 69 (0, 0))
theorem CrW.below {w : World} {o : Option Addr} {n cap : Nat} {md : Int} {W W' : World} (h : CrW w o n cap md W) (hb : Below W.heap.size W W') : CrW w o n cap md W' :=
  ⟨h.bel.trans (hb.mono h.bel.size), Nat.le_trans h.sz hb.size, (hb.block _ (by have := h.sz; omega)).trans h.box, (hb.block _ (by have := h.sz; omega)).trans h.res⟩
theorem CrW.start (w : World) (o : Option Addr) (n cap : Nat) (md : Int) : CrW w o n cap md ((w.alloc (.cells #[.slice o n cap, .int .i64 md] 69)).alloc (.cells #[.slice none 0 0, .int .i64 0] 69)) := by
  refine ⟨by go_grown, by simp, (Below.heap_alloc (w.alloc (.cells #[.slice o n cap, .int .i64 md] 69)) (.cells #[.slice none 0 0, .int .i64 0] 69) w.heap.size (by simp)).trans (World.alloc_heap_new w _), ?_⟩
  have n2 := World.alloc_heap_new (w.alloc (.cells #[.slice o n cap, .int .i64 md] 69)) (.cells #[.slice none 0 0, .int .i64 0] 69)
  rwa [World.size_alloc] at n2
theorem CrW.fin {w : World} {o : Option Addr} {n cap : Nat} {md : Int} {W y : World} (h : CrW w o n cap md W) (hg : W.grownBy y (some (w.heap.size + 1))) : Below w.heap.size w y :=
  h.bel.grown hg h.bel.size (fun r e => by cases e; omega)

set_option maxRecDepth 100000 in
set_option maxHeartbeats 8000000 in
theorem Create_any (s : St) (K : ByteArray) (ps : List G) (v u : Value) (w : World) (hE : Env9 w) (hF : fineS s) (hK : K.size ≤ 400) (hP : fineG ps) (h : isS w s v) (hg : isGs w ps u) :
    Calls Tryz.prog 75 #[v, .string K, u] w fun e w' => (∃ v', e = .returned (.tuple #[v', .string (createL s K ps).2.1, .int .i64 (createL s K ps).2.2]) ∧ isS w' (createL s K ps).1 v') ∧ Below w.heap.size w w' := by
  obtain ⟨o, cap, rfl, hts, hm⟩ := isS_two h
  obtain ⟨ou, cu, rfl⟩ : ∃ ou cu, u = .slice ou ps.length cu := by obtain ⟨a, cap, ⟨o, rfl, _⟩, _⟩ := hg; exact ⟨_, _, rfl⟩
  have HB0 := CrW.start w o s.l.length cap s.made
  have HC := Lib.hid (Check10_any s _ _ (hE.kb HB0.bel) hF (isS_below HB0.bel h))
  have HW : Hid (∀ w1, KB w w1 → Calls Tryz.prog 95 #[.string K, .slice ou ps.length cu] w1 fun e w' => e = .returned (.int .i64 (wrongL K ps)) ∧ Below w1.heap.size w1 w') := Lib.hid fun w1 hk => wrong10_any K ps _ w1 (hE.kb hk) hK hP (isGs_below hk hg)
  have HPH : Hid (∀ w1, -9223372036854775808 ≤ s.made + 1 ∧ s.made + 1 ≤ 9223372036854775807 → Calls Tryz.prog 96 #[.int .i64 (s.made + 1)] w1 fun e w' => e = .returned (.tuple #[.string (if 1 ≤ s.made + 1 ∧ s.made + 1 ≤ 1099511627776 then physS (s.made + 1) else ⟨#[]⟩), .int .i64 (if 1 ≤ s.made + 1 ∧ s.made + 1 ≤ 1099511627776 then 0 else 2)]) ∧ Below w1.heap.size w1 w') := Lib.hid fun w1 hn => Phys_any _ w1 hn
  have HTS := Lib.hid hts
  have HGS := Lib.hid hg
  have HFF := Lib.hid (And.intro hF (And.intro hP hK))
  have hok : checkS s = 0 → 0 ≤ s.made ∧ s.made ≤ 1099511627776 := fun h => ⟨(checkS_ok.1 h).1, (checkS_ok.1 h).2.1⟩
  unfold createL
  obtain ⟨C, hC'⟩ : ∃ C, checkS s = C := ⟨_, rfl⟩
  obtain ⟨X, hX'⟩ : ∃ X, wrongL K ps = X := ⟨_, rfl⟩
  rw [hC'] at HC hok ⊢
  rw [hX'] at HW ⊢
  clear h hts hg hE hF hK hP hC' hX'
  by_cases hC : C = 0
  · subst hC
    rw [if_pos rfl]
    obtain ⟨hm1, hm2⟩ := hok rfl
    by_cases hX : X = 0
    · subst hX
      rw [if_pos rfl]
      by_cases hM : s.made = 1099511627776
      · rw [if_pos hM]
        have HPQ := fun w1 => HPH.out w1 (by omega)
        rw [if_neg (by omega), if_neg (by omega)] at HPQ
        have HPQ := Lib.hid HPQ
        have hwr : IntKind.i64.wrap (s.made + 1) = s.made + 1 := IntWalk.i64_in _ (by omega)
        clear hok HPH hm hm1 hm2 HTS HGS HFF hM
        generalize s.l.length = n at *
        generalize s.made = md at *
        generalize ps.length = pn at *
        go_enter Tryz.func75, Tryz.ntmps75
        go_wp2_with fail
        generalize ((w.alloc (.cells #[.slice o n cap, .int .i64 md] 69)).alloc (.cells #[.slice none 0 0, .int .i64 0] 69)) = W2 at *
        refine HC.out.mono ?_
        rintro e w5 ⟨rfl, hb5⟩
        have H5 := Lib.hid (HB0.below hb5)
        clear HB0 hb5 HC
        go_wp2_with fail
        refine (HW.out _ H5.out.bel).mono ?_
        rintro e w6 ⟨rfl, hb6⟩
        have H6 := Lib.hid (H5.out.below hb6)
        obtain ⟨r0, r1⟩ := two_cells H6.out.box
        clear H5 hb6 HW
        go_wp2_with fail
        refine (HPQ.out _).mono ?_
        rintro e w7 ⟨rfl, hb7⟩
        have H7 := Lib.hid (H6.out.below hb7)
        obtain ⟨x1, x2, ⟨⟨_, q1⟩, q1', q1''⟩, ⟨⟨_, q2⟩, q2', q2''⟩, d0, d1, hg8, -⟩ := store_two H7.out.res (.slice none 0 0) (.int .i64 0)
        have HF8 := Lib.hid (H7.out.fin hg8)
        clear H6 hb7 HPQ hg8 H7 r0 r1
        go_wp2_with fail
        refine bodyPost_ret (v := .tuple #[.agg #[.slice none 0 0, .int .i64 0], .string ⟨#[]⟩, .int .i64 3]) (by simp [results, Tryz.results75, go_sem, d0, d1]) rfl ?_
        exact ⟨⟨_, rfl, isS_zero _⟩, HF8.out⟩
      · rw [if_neg hM]
        have HPQ := fun w1 => HPH.out w1 (by omega)
        rw [if_pos ⟨by omega, by omega⟩, if_pos ⟨by omega, by omega⟩] at HPQ
        have HPQ := Lib.hid HPQ
        have hwr : IntKind.i64.wrap (s.made + 1) = s.made + 1 := IntWalk.i64_in _ (by omega)
        have hwr2 : wrap64 (s.made + 1) = s.made + 1 := by unfold wrap64; omega
        have HRNG : Hid (0 ≤ s.made ∧ s.made ≤ 1099511627776) := Lib.hid ⟨hm1, hm2⟩
        obtain ⟨i0, hi, hz0, hz1, hz2⟩ := info_parts infoT10
        obtain ⟨a, cap', ⟨o', e', hc1, hc2, ho⟩, hBa, hat⟩ := isTsa_of HTS.out
        simp only [Value.slice.injEq, true_and] at e'
        obtain ⟨rfl, rfl⟩ := e'
        obtain ⟨olds, hol, hoc⟩ := isTLa_of s.l a hat
        have HOL := Lib.hid (And.intro hol hoc)
        have HA := Lib.hid ho
        have hps : (physS (s.made + 1)).size ≤ maxLen := by
          have : (physS (s.made + 1)).size = (112 :: Nu.txt (s.made + 1)).length := Nu.size_arr _
          have := Nu.txt_len (s.made + 1)
          simp only [List.length_cons] at *
          unfold maxLen; omega
        have HPS := Lib.hid hps
        have hl1000 := HFF.out.1.1
        unfold maxLen at hc2
        generalize hph : physS (s.made + 1) = PH at *
        clear hok HPH hm hm1 hm2 hM hat hol hoc ho hps hph hBa
        go_enter Tryz.func75, Tryz.ntmps75
        go_wp2_with fail
        generalize ((w.alloc (.cells #[.slice o s.l.length cap, .int .i64 s.made] 69)).alloc (.cells #[.slice none 0 0, .int .i64 0] 69)) = W2 at *
        refine HC.out.mono ?_
        rintro e w5 ⟨rfl, hb5⟩
        have H5 := Lib.hid (HB0.below hb5)
        clear HB0 hb5 HC
        go_wp2_with fail
        refine (HW.out _ H5.out.bel).mono ?_
        rintro e w6 ⟨rfl, hb6⟩
        have H6 := Lib.hid (H5.out.below hb6)
        obtain ⟨r0, r1⟩ := two_cells H6.out.box
        clear H5 hb6 HW
        go_wp2_with fail
        refine (HPQ.out _).mono ?_
        rintro e w7 ⟨rfl, hb7⟩
        have H7 := Lib.hid (H6.out.below hb7)
        obtain ⟨r0, r1⟩ := two_cells H7.out.box
        have hbT : Below w7.heap.size w7 (w7.alloc (.cells #[.string PH, .string K, .slice ou ps.length cu] 44)) := kbA
        have hcell : ∀ j u, olds[j]? = some u → (w7.alloc (.cells #[.string PH, .string K, .slice ou ps.length cu] 44)).cell? (a.add j) = some u := fun j u hj => cell_below hbT _ _ (cell_below H7.out.bel _ _ (HOL.out.2 j u hj))
        have hnews : ∀ j u, [Value.string PH, .string K, .slice ou ps.length cu][j]? = some u → (w7.alloc (.cells #[.string PH, .string K, .slice ou ps.length cu] 44)).cell? ((⟨w7.heap.size, 0, none⟩ : Addr).add j) = some u := fun j u hj => by
          rw [add0g, World.cell?_alloc_new]
          simpa using hj
        have hlo := isTLa_len _ _ HOL.out.1
        have HCL := Lib.hid hcell
        have HNW := Lib.hid hnews
        have HLO := Lib.hid hlo
        have HT := Lib.hid (H7.out.below hbT)
        clear H6 hb7 HPQ hcell hnews hlo hbT
        go_wp2_with (at_builtin; refine wpList_append_full rfl _ _ 48 rfl 44 i0 _ 3 56 Tryz.underlying48 hi hz0 hz1 hz2 rfl _ a s.l.length rfl HA.out olds HLO.out HCL.out _ ⟨w7.heap.size, 0, none⟩ 1 1 rfl (fun _ => rfl) [.string PH, .string K, .slice ou ps.length cu] rfl HNW.out (by unfold maxLen; omega) (by omega) ?_)
        all_goals
          intro o8 a8 c8 w8 h81 h82 h83 h84 h85 h86
          have h85' : Below (w7.alloc (.cells #[.string PH, .string K, .slice ou ps.length cu] 44)).heap.size (w7.alloc (.cells #[.string PH, .string K, .slice ou ps.length cu] 44)) w8 := by rw [World.size_alloc]; exact h85
          have H8 := Lib.hid (HT.out.below h85')
          have h7s := H7.out.sz
          have h8s := h85'.size
          rw [World.size_alloc] at h8s
          have h88 : w7.heap.size + 1 = w7.heap.size + 1 → a8.block = w7.heap.size + 1 := fun _ => by rw [h86]
          have hL : (s.l ++ [⟨PH, K, ps⟩] : List Th).length = s.l.length + 1 := by simp
          have hbw8 := H8.out.bel
          have hts8 : isTsa w8 (fun q => q ≠ w.heap.size + 1 ∧ q < w8.heap.size) (s.l ++ [⟨PH, K, ps⟩]) (.slice o8 (s.l ++ [⟨PH, K, ps⟩] : List Th).length c8) := by
            refine isTsa_cells (by rw [hL]; exact h81) h82 (fun _ => h83) (fun _ => ⟨by have := h88 rfl; omega, by
              have h0 : ((olds ++ [Value.string PH, .string K, .slice ou ps.length cu])[0]?).isSome = true := by
                rw [List.getElem?_eq_getElem (by simp)]; rfl
              obtain ⟨u0, hu0⟩ := Option.isSome_iff_exists.1 h0
              have := World.block_lt_of_cell? _ _ (h84 0 u0 hu0)
              rwa [add_block] at this⟩) (isTLa_app _ _ _ _ (isTLa_mono (fun q (hq : q < w.heap.size) => ⟨by omega, by have := hbw8.size; omega⟩) _ _ (isTLa_keep (fun a c _ hc => cell_below hbw8 _ _ hc) _ _ HOL.out.1)) ?_) h84
            unfold isTLa
            exact ⟨_, [], rfl, isGsa_mono (fun q (hq : q < w.heap.size) => ⟨by omega, by have := hbw8.size; omega⟩) (isGsa_keep (fun a c _ hc => cell_below hbw8 _ _ hc) (isGsa_of HGS.out)), HPS.out, by have := HFF.out.2.2; unfold maxLen; show K.size ≤ _; omega, by unfold isTLa; rfl⟩
          rw [hL] at hts8
          have CT : Hid (∀ w1, KB w8 w1 → Calls Tryz.prog 97 #[.slice o8 (s.l.length + 1) c8] w1 fun e w' => ∃ v', e = .returned v' ∧ Trow w1 w' (fun q => q ≠ w.heap.size + 1) (s.l ++ [⟨PH, K, ps⟩]) v' ∧ Below w1.heap.size w1 w') := Lib.hid fun w1 hk => copiedTs_any _ _ w1 _ (by rw [hL]; omega) (fun t ht => by
            rcases List.mem_append.1 ht with ht | ht
            · exact (HFF.out.1.2 t ht).2
            · rw [List.mem_singleton.1 ht]; exact HFF.out.2.1) (fun q hq => by have := hk.size; omega) (isTsa_mono (fun q hq => ⟨hq.1, by have := hq.2; have := hk.size; omega⟩) (isTsa_keep (fun a c _ hc => cell_below hk _ _ hc) hts8))
          have HS8 : Hid (w.heap.size + 1 < w8.heap.size) := Lib.hid (by omega)
          have HL1 := Lib.hid hL
          obtain ⟨r0, r1⟩ := two_cells H8.out.box
          clear HT h81 h82 h83 h84 h85 h85' h86 h88 hL hts8 HCL HNW HLO HOL HGS HPS H7 hbw8 h7s h8s
          go_wp2_with fail
          go_region_with (go_at_call 97; refine (CT.out _ ?_).mono ?_; exact drewB1 _ _; rintro e w9 ⟨v9, rfl, hts9, hb9⟩; obtain ⟨o9, g9, c9, e9, -⟩ := id hts9; rw [HL1.out] at e9; subst e9; have r1 := cell_below (below_drew_of hb9) _ _ r1; obtain ⟨x1, x2, ⟨⟨_, q1⟩, q1', q1''⟩, ⟨⟨_, q2⟩, q2', q2''⟩, d0, d1, hg8, -⟩ := store_two (H8.out.below (below_drew_of hb9)).res (.slice o9 (s.l.length + 1) c9) (.int .i64 (s.made + 1)))
          all_goals
            have hfin := (H8.out.below (below_drew_of hb9)).fin hg8
            have hx9 := hts9.grown hg8 (fun q hq => hq) (by show w.heap.size + 1 < w8.heap.size; exact HS8.out)
            have HX := Lib.hid (And.intro hfin hx9.ts)
            clear hfin hx9 hg8 hts9 hb9 CT
            go_wp2_with fail
            refine bodyPost_ret (v := .tuple #[.agg #[.slice o9 (s.l.length + 1) c9, .int .i64 (s.made + 1)], .string PH, .int .i64 0]) (by simp [results, Tryz.results75, go_sem, d0, d1]) rfl ?_
            exact ⟨⟨_, rfl, _, rfl, HX.out.2, by have := HRNG.out; show -9223372036854775808 ≤ s.made + 1 ∧ s.made + 1 ≤ 9223372036854775807; omega⟩, HX.out.1⟩
    · rw [if_neg hX]
      have z1 : (X == 0) = false := beqI hX
      have z2 : (X != 0) = true := bne_iff_ne.2 hX
      clear hok hX HPH hm hm1 hm2 HTS HGS HFF
      generalize s.l.length = n at *
      generalize s.made = md at *
      generalize ps.length = pn at *
      go_enter Tryz.func75, Tryz.ntmps75
      go_wp2_with fail
      generalize ((w.alloc (.cells #[.slice o n cap, .int .i64 md] 69)).alloc (.cells #[.slice none 0 0, .int .i64 0] 69)) = W2 at *
      refine HC.out.mono ?_
      rintro e w5 ⟨rfl, hb5⟩
      have H5 := Lib.hid (HB0.below hb5)
      clear HB0 hb5 HC
      go_wp2_with fail
      refine (HW.out _ H5.out.bel).mono ?_
      rintro e w6 ⟨rfl, hb6⟩
      have H6 := Lib.hid (H5.out.below hb6)
      obtain ⟨x1, x2, ⟨⟨_, q1⟩, q1', q1''⟩, ⟨⟨_, q2⟩, q2', q2''⟩, d0, d1, hg8, -⟩ := store_two H6.out.res (.slice none 0 0) (.int .i64 0)
      have HF8 := Lib.hid (H6.out.fin hg8)
      clear H5 hb6 HW hg8 H6
      go_wp2_with fail
      refine bodyPost_ret (v := .tuple #[.agg #[.slice none 0 0, .int .i64 0], .string ⟨#[]⟩, .int .i64 X]) (by simp [results, Tryz.results75, go_sem, d0, d1]) rfl ?_
      exact ⟨⟨_, rfl, isS_zero _⟩, HF8.out⟩
  · rw [if_neg hC]
    have z1 : (C == 0) = false := beqI hC
    have z2 : (C != 0) = true := bne_iff_ne.2 hC
    clear hok hC HPH hm HTS HGS HFF HW
    generalize s.l.length = n at *
    generalize s.made = md at *
    generalize ps.length = pn at *
    go_enter Tryz.func75, Tryz.ntmps75
    go_wp2_with fail
    generalize ((w.alloc (.cells #[.slice o n cap, .int .i64 md] 69)).alloc (.cells #[.slice none 0 0, .int .i64 0] 69)) = W2 at *
    refine HC.out.mono ?_
    rintro e w5 ⟨rfl, hb5⟩
    have H6 := Lib.hid (HB0.below hb5)
    obtain ⟨x1, x2, ⟨⟨_, q1⟩, q1', q1''⟩, ⟨⟨_, q2⟩, q2', q2''⟩, d0, d1, hg8, -⟩ := store_two H6.out.res (.slice none 0 0) (.int .i64 0)
    have HF8 := Lib.hid (H6.out.fin hg8)
    clear HB0 hb5 HC H6 hg8
    go_wp2_with fail
    refine bodyPost_ret (v := .tuple #[.agg #[.slice none 0 0, .int .i64 0], .string ⟨#[]⟩, .int .i64 C]) (by simp [results, Tryz.results75, go_sem, d0, d1]) rfl ?_
    exact ⟨⟨_, rfl, isS_zero _⟩, HF8.out⟩
end Go.Proofs.YtkigeegahepnaaaGreatDoor

namespace Go.Proofs.YtkigeegahepnaaaGreatDoor
open Go.RowKit

noncomputable def deleteL (s : St) (p : ByteArray) : St × Int :=
  if checkS s = 0 then (match idxT s.l p with | some j => (⟨s.l.take j ++ s.l.drop (j + 1), s.made⟩, 0) | none => (zS, 4)) else (zS, checkS s)
theorem isTLa_cut {W : World} {B : Nat → Prop} : ∀ (l : List Th) (xs : List Value) (k : Nat), isTLa W B l xs → isTLa W B (l.take k) (xs.take (k * 3)) ∧ isTLa W B (l.drop k) (xs.drop (k * 3))
  | l, xs, 0, h => by
    rw [Nat.zero_mul, List.take_zero, List.take_zero, List.drop_zero, List.drop_zero]
    exact ⟨rfl, h⟩
  | [], xs, k + 1, h => by
    unfold isTLa at h
    subst h
    simp only [List.take_nil, List.drop_nil]
    exact ⟨rfl, rfl⟩
  | x :: t, xs, k + 1, h => by
    unfold isTLa at h
    obtain ⟨pv, rest, rfl, hx, hn, hm, ht⟩ := h
    obtain ⟨h1, h2⟩ := isTLa_cut t rest k ht
    rw [show (k + 1) * 3 = k * 3 + 3 by omega]
    simp only [List.take_succ_cons, List.drop_succ_cons]
    refine ⟨?_, h2⟩
    unfold isTLa
    exact ⟨pv, _, rfl, hx, hn, hm, h1⟩

set_option maxRecDepth 100000 in
set_option maxHeartbeats 8000000 in
theorem Delete_any (s : St) (p : ByteArray) (v : Value) (w : World) (hE : Env9 w) (hF : fineS s) (h : isS w s v) :
    Calls Tryz.prog 77 #[v, .string p] w fun e w' => (∃ v', e = .returned (.tuple #[v', .int .i64 (deleteL s p).2]) ∧ isS w' (deleteL s p).1 v') ∧ Below w.heap.size w w' := by
  obtain ⟨o, cap, rfl, hts, hm⟩ := isS_two h
  have HB0 := CrW.start w o s.l.length cap s.made
  have HNM := named_any s p _ _ (hE.kb HB0.bel) hF (isS_below HB0.bel h)
  have HTS := Lib.hid hts
  have HFF := Lib.hid hF
  have HMM := Lib.hid hm
  clear h hts hE hF hm
  have key : ∀ e : Int, e ≠ 0 → (namedL s p).2 = e → Calls Tryz.prog 77 #[.agg #[.slice o s.l.length cap, .int .i64 s.made], .string p] w fun e' w' => (∃ v', e' = .returned (.tuple #[v', .int .i64 e]) ∧ isS w' zS v') ∧ Below w.heap.size w w' := by
    intro e he hN
    rw [hN] at HNM
    have HNM := Lib.hid HNM
    generalize (namedL s p).1 = n1 at *
    have z1 : (e == 0) = false := beqI he
    have z2 : (e != 0) = true := bne_iff_ne.2 he
    clear hN HTS HFF HMM he
    generalize s.l.length = n at *
    generalize s.made = md at *
    go_enter Tryz.func77, Tryz.ntmps77
    go_wp2_with fail
    generalize ((w.alloc (.cells #[.slice o n cap, .int .i64 md] 69)).alloc (.cells #[.slice none 0 0, .int .i64 0] 69)) = W2 at *
    refine HNM.out.mono ?_
    rintro e5 w5 ⟨rfl, hb5⟩
    have H6 := Lib.hid (HB0.below hb5)
    obtain ⟨x1, x2, ⟨⟨_, q1⟩, q1', q1''⟩, ⟨⟨_, q2⟩, q2', q2''⟩, d0, d1, hg8, -⟩ := store_two H6.out.res (.slice none 0 0) (.int .i64 0)
    have HF8 := Lib.hid (H6.out.fin hg8)
    clear HB0 hb5 HNM H6 hg8
    go_wp2_with fail
    refine bodyPost_ret (v := .tuple #[.agg #[.slice none 0 0, .int .i64 0], .int .i64 e]) (by simp [results, Tryz.results77, go_sem, d0, d1]) rfl ?_
    exact ⟨⟨_, rfl, isS_zero _⟩, HF8.out⟩
  unfold deleteL
  by_cases hC : checkS s = 0
  · rw [if_pos hC]
    cases hI : idxT s.l p with
    | none => exact key 4 (by decide) (by unfold namedL; rw [if_pos hC, hI])
    | some j =>
      have hN : namedL s p = ((j : Int), 0) := by unfold namedL; rw [if_pos hC, hI]
      rw [hN] at HNM
      have HNM := Lib.hid HNM
      obtain ⟨hj, -⟩ := idxT_at hI
      obtain ⟨i0, hi, hz0, hz1, hz2⟩ := info_parts infoT10
      obtain ⟨a, cap', ⟨o', e', hc1, hc2, ho⟩, hBa, hat⟩ := isTsa_of HTS.out
      simp only [Value.slice.injEq, true_and] at e'
      obtain ⟨rfl, rfl⟩ := e'
      obtain rfl := ho (by omega)
      obtain ⟨xs, hx1, hx2⟩ := isTLa_of s.l a hat
      have HX := Lib.hid (And.intro hx1 hx2)
      have HBA := Lib.hid (hBa (by omega))
      have hl1000 := HFF.out.1
      unfold maxLen at hc2
      clear key hC hI hN hat hx1 hx2 hBa ho
      go_enter Tryz.func77, Tryz.ntmps77
      go_wp2_with fail
      generalize ((w.alloc (.cells #[.slice (some a) s.l.length cap, .int .i64 s.made] 69)).alloc (.cells #[.slice none 0 0, .int .i64 0] 69)) = W2 at *
      refine HNM.out.mono ?_
      rintro e5 w5 ⟨rfl, hb5⟩
      have H5 := Lib.hid (HB0.below hb5)
      obtain ⟨r0, r1⟩ := two_cells H5.out.box
      have v1 : IntKind.i64.wrap ((j : Int) + 1) = (j : Int) + 1 := IntWalk.i64_in _ (by omega)
      have v2 : (0 : Int) ≤ (j : Int) + 1 := by omega
      have v3 : (j : Int) + 1 ≤ (s.l.length : Int) := by omega
      have v4 : j + 1 ≤ cap := by omega
      have v5 : j ≤ cap := by omega
      have v6 : ¬ cap = j := by omega
      clear HB0 hb5 HNM
      go_wp2_with fail
      refine Rn.region_any (by kernel_rfl) ?_
      refine Rn.any_seg 0 10 (by kernel_rfl) rfl ?_
      simp only [List.take_succ_cons, List.take_zero, List.drop_zero]
      repeat (refine Rn.ws_one (fun KK hKK => ?_); go_simp; refine hKK _ ?_; clear hKK KK)
      refine Rn.ws_nil ?_
      intro K0 hK0
      rw [if_pos (by simp [Region.wanted])]
      have hxl := isTLa_len _ _ HX.out.1
      have hb5 := H5.out.bel
      have hLL : (s.l.take j ++ s.l.drop (j + 1)).length = j + (s.l.length - (j + 1)) := by simp; omega
      have hlt : ∀ i u, (xs.take (j * 3))[i]? = some u → w5.drew.cell? (a.add i) = some u := fun i u hu => by
        rw [List.getElem?_take] at hu
        split at hu
        · exact cell_below hb5 _ _ (HX.out.2 i u hu)
        · cases hu
      have hld : ∀ i u, (xs.drop ((j + 1) * 3))[i]? = some u → w5.drew.cell? ((a.add ((j + 1) * 3)).add i) = some u := fun i u hu => by
        rw [List.getElem?_drop] at hu
        rw [add_add]
        exact cell_below hb5 _ _ (HX.out.2 _ u hu)
      refine .inl (wp_append_full _ _ 48 rfl 44 i0 _ 3 56 Tryz.underlying48 hi hz0 hz1 hz2 rfl _ a j rfl (fun _ => rfl) (xs.take (j * 3)) (by rw [List.length_take, hxl]; omega) hlt _ (a.add ((j + 1) * 3)) (s.l.length - (j + 1)) _ rfl (fun h0 => by rw [if_neg (by omega)]) (xs.drop ((j + 1) * 3)) (by rw [List.length_drop, hxl]; omega) hld (by unfold maxLen; omega) (by omega) ?_)
      intro o8 a8 c8 w8 h81 h82 h83 h84 h85 h86 h87
      refine hK0 _ _ ?_
      clear hK0 K0 hlt hld
      have h85' : Below w5.heap.size w5 w8 := below_drew_of h85
      have H8 := Lib.hid (H5.out.below h85')
      have hbw8 := H8.out.bel
      have h5s := H5.out.sz
      have hts8 : isTsa w8 (fun q => q ≠ w.heap.size + 1 ∧ q < w8.heap.size) (s.l.take j ++ s.l.drop (j + 1)) (.slice o8 (s.l.take j ++ s.l.drop (j + 1)).length c8) := by
        obtain ⟨hc1, hc2⟩ := isTLa_cut s.l xs j HX.out.1
        obtain ⟨_, hc4⟩ := isTLa_cut s.l xs (j + 1) HX.out.1
        refine isTsa_cells (by rw [hLL]; exact h81) h82 (fun h0 => h83 (by rw [hLL] at h0; exact h0)) (fun h0 => ?_) (isTLa_app _ _ _ _ (isTLa_mono (fun q (hq : q < w.heap.size) => ⟨by omega, by have := hbw8.size; omega⟩) _ _ (isTLa_keep (fun a c _ hc => cell_below hbw8 _ _ hc) _ _ hc1)) (isTLa_mono (fun q (hq : q < w.heap.size) => ⟨by omega, by have := hbw8.size; omega⟩) _ _ (isTLa_keep (fun a c _ hc => cell_below hbw8 _ _ hc) _ _ hc4))) h84
        rcases Nat.eq_zero_or_pos (s.l.length - (j + 1)) with hm | hm
        · rw [h87 hm]
          have := HBA.out
          have := hbw8.size
          exact ⟨by omega, by omega⟩
        · rw [h86 hm]
          refine ⟨by show w5.heap.size ≠ _; omega, ?_⟩
          have hx0 : (xs.take (j * 3) ++ xs.drop ((j + 1) * 3)).length = (j + (s.l.length - (j + 1))) * 3 := by rw [List.length_append, List.length_take, List.length_drop, hxl]; omega
          have h0' : (xs.take (j * 3) ++ xs.drop ((j + 1) * 3))[0]? = some _ := List.getElem?_eq_getElem (by rw [hx0]; omega)
          have := World.block_lt_of_cell? _ _ (h84 0 _ h0')
          rw [h86 hm, add_block] at this
          exact this
      rw [hLL] at hts8
      have CT : Hid (∀ w1, KB w8 w1 → Calls Tryz.prog 97 #[.slice o8 (j + (s.l.length - (j + 1))) c8] w1 fun e w' => ∃ v', e = .returned v' ∧ Trow w1 w' (fun q => q ≠ w.heap.size + 1) (s.l.take j ++ s.l.drop (j + 1)) v' ∧ Below w1.heap.size w1 w') := Lib.hid fun w1 hk => copiedTs_any _ _ w1 _ (by rw [hLL]; omega) (fun t ht => by
        rcases List.mem_append.1 ht with ht | ht
        · exact (HFF.out.2 t (List.mem_of_mem_take ht)).2
        · exact (HFF.out.2 t (List.mem_of_mem_drop ht)).2) (fun q hq => by have := hk.size; have := hbw8.size; have := h85'.size; omega) (isTsa_mono (fun q hq => ⟨hq.1, by have := hq.2; have := hk.size; omega⟩) (isTsa_keep (fun a c _ hc => cell_below hk _ _ hc) hts8))
      have HS8 : Hid (w.heap.size + 1 < w8.heap.size) := Lib.hid (by have := h85'.size; omega)
      have HL1 := Lib.hid hLL
      obtain ⟨r0, r1⟩ := two_cells H8.out.box
      clear h81 h82 h83 h84 h85 h85' h86 h87 hLL hts8 H5 hbw8 h5s hxl hb5 HX
      generalize hm : j + (s.l.length - (j + 1)) = nn at *
      refine Rn.any_end 11 (by kernel_rfl) ?_
      simp only [List.drop_succ_cons, List.drop_zero]
      repeat (refine Rn.ws_one (fun KK hKK => ?_); go_simp; refine hKK _ ?_; clear hKK KK)
      refine Rn.ws_nil ?_
      go_wp2_with fail
      all_goals go_region_with (go_at_call 97; refine (CT.out _ ?_).mono ?_; exact drewB1 _ _; rintro e w9 ⟨v9, rfl, hts9, hb9⟩; obtain ⟨o9, g9, c9, e9, -⟩ := id hts9; rw [HL1.out] at e9; subst e9; have r1 := cell_below (below_drew_of hb9) _ _ r1; obtain ⟨x1, x2, ⟨⟨_, q1⟩, q1', q1''⟩, ⟨⟨_, q2⟩, q2', q2''⟩, d0, d1, hg8, -⟩ := store_two (H8.out.below (below_drew_of hb9)).res (.slice o9 nn c9) (.int .i64 s.made))
      all_goals
        have hfin := (H8.out.below (below_drew_of hb9)).fin hg8
        have hx9 := hts9.grown hg8 (fun q hq => hq) (by show w.heap.size + 1 < w8.heap.size; exact HS8.out)
        have HX := Lib.hid (And.intro hfin hx9.ts)
        clear hfin hx9 hg8 hts9 hb9 CT
        go_wp2_with fail
        refine bodyPost_ret (v := .tuple #[.agg #[.slice o9 nn c9, .int .i64 s.made], .int .i64 0]) (by simp [results, Tryz.results77, go_sem, d0, d1]) rfl ?_
        exact ⟨⟨_, rfl, _, rfl, HX.out.2, HMM.out⟩, HX.out.1⟩
  · rw [if_neg hC]
    exact key (checkS s) hC (by unfold namedL; rw [if_neg hC])
end Go.Proofs.YtkigeegahepnaaaGreatDoor
