/-
  lex of package sub: plain steps over runes, and what the loop keeps.
-/
import Derived.Test.YtjnoomefppncoaaDoorLf
import Derived.Lib.TrimUEq
import Derived.Lib.OthersKept
set_option linter.unusedVariables false
namespace Go.Proofs.YtjnoomefppncoaaDoor
open Go.RowKit Go.Shelf

theorem decN_high (n b0 b1 b2 b3 : Nat) (h0 : 128 ≤ b0) (hn : 0 < n) : 128 ≤ (Lib.decodeN n b0 b1 b2 b3).1 ∧ 1 ≤ (Lib.decodeN n b0 b1 b2 b3).2 ∧ (Lib.decodeN n b0 b1 b2 b3).2 ≤ n ∧ (1 < (Lib.decodeN n b0 b1 b2 b3).2 → 128 ≤ b1) ∧ (2 < (Lib.decodeN n b0 b1 b2 b3).2 → 128 ≤ b2) ∧ (3 < (Lib.decodeN n b0 b1 b2 b3).2 → 128 ≤ b3) ∧ (Lib.decodeN n b0 b1 b2 b3).2 ≤ 4 := by
  unfold Lib.decodeN
  rw [if_neg (by omega)]
  split
  · split <;> (simp only; omega)
  split
  · split <;> (simp only; omega)
  split
  · split <;> (simp only; omega)
  · simp only; omega
/-- A rune at a place where a byte of 128 or more stands: it is 128 or more, and so are all its bytes. -/
theorem dec_high (s : ByteArray) (p : Nat) (c : UInt8) (t : List UInt8) (hc : s.data.toList.drop p = c :: t) (h : 128 ≤ c.toNat) :
    128 ≤ (Utf8.decode s p).1 ∧ 1 ≤ (Utf8.decode s p).2 ∧ p + (Utf8.decode s p).2 ≤ s.size ∧ ∀ d ∈ (s.data.toList.drop p).take (Utf8.decode s p).2, 128 ≤ d.toNat := by
  have hp := drop_len hc
  have hlen : (s.data.toList.drop p).length = s.size - p := by rw [List.length_drop, toList_length]
  rw [toList_length] at hp
  have hD := Lib.decode_N s p
  have g : ∀ i, s.data.toList.getD (p + i) 0 = (s.data.toList.drop p).getD i 0 := fun i => by simp [List.getD, List.getElem?_drop]
  have g0 := g 0
  have h0 : s.data.toList.getD p 0 = c := by rw [Nat.add_zero] at g0; rw [g0, hc]; rfl
  rw [h0, toList_length, g 1, g 2, g 3] at hD
  obtain ⟨a1, a2, a3, a4, a5, a6, a7⟩ := decN_high (s.size - p) c.toNat ((s.data.toList.drop p).getD 1 0).toNat ((s.data.toList.drop p).getD 2 0).toNat ((s.data.toList.drop p).getD 3 0).toNat h (by omega)
  rw [← hD] at a1 a2 a3 a4 a5 a6 a7
  refine ⟨a1, a2, by omega, fun d hd => ?_⟩
  obtain ⟨i, hi, rfl⟩ := List.mem_iff_getElem.1 hd
  have hi' := hi
  rw [List.length_take] at hi'
  rw [List.getElem_take]
  have e : ∀ j (hj : j < (s.data.toList.drop p).length), (s.data.toList.drop p).getD j 0 = (s.data.toList.drop p)[j] := fun j hj => by simp [List.getD, List.getElem?_eq_getElem hj]
  have hcases : i = 0 ∨ i = 1 ∨ i = 2 ∨ i = 3 := by omega
  rcases hcases with rfl | rfl | rfl | rfl
  · have : (s.data.toList.drop p)[0]'(by omega) = c := by
      simp only [hc]; rfl
    rw [this]; exact h
  · rw [← e 1 (by omega)]; exact a4 (by omega)
  · rw [← e 2 (by omega)]; exact a5 (by omega)
  · rw [← e 3 (by omega)]; exact a6 (by omega)
theorem dec_low (s : ByteArray) (p : Nat) (c : UInt8) (t : List UInt8) (hc : s.data.toList.drop p = c :: t) (h : c.toNat < 128) : Utf8.decode s p = (c.toNat, 1) := by
  have hp := drop_len hc
  rw [toList_length] at hp
  have hD := Lib.decode_N s p
  have g : s.data.toList.getD (p + 0) 0 = (s.data.toList.drop p).getD 0 0 := by simp [List.getD, List.getElem?_drop]
  have h0 : s.data.toList.getD p 0 = c := by rw [Nat.add_zero] at g; rw [g, hc]; rfl
  rw [h0] at hD
  rw [hD]
  unfold Lib.decodeN
  rw [if_pos h]

/-- One round of the machine over runes. -/
theorem mach_step (s : ByteArray) {R : Nat ⊕ List X} {st fr p : Nat} {L : List X} (h : Mach s.data.toList R st fr p L) (hp : p < s.size) :
    (nextN st (Utf8.decode s p).1 = 2 ∧ (Utf8.decode s p).2 = 1 ∧ 1 ≤ p ∧ fr ≤ p - 1 ∧ Mach s.data.toList R 2 (p - 1) (p + 1) (addR (.text (sub s.data.toList fr (p - 1))) L)) ∨
    (st = 4 ∧ nextN st (Utf8.decode s p).1 = 0 ∧ (Utf8.decode s p).2 = 1 ∧ fr + 3 ≤ p ∧ Mach s.data.toList R 0 (p + 1) (p + 1) (addR (.text (36 :: 123 :: (sub s.data.toList (fr + 3) p ++ [125]))) L)) ∨
    ((st = 2 ∨ st = 3) ∧ nextN st (Utf8.decode s p).1 = 0 ∧ (Utf8.decode s p).2 = 1 ∧ fr + 2 ≤ p ∧ (∀ x, holeP (sub s.data.toList (fr + 2) p) = some x → Mach s.data.toList R 0 (p + 1) (p + 1) (addR x L)) ∧ (holeP (sub s.data.toList (fr + 2) p) = none → R = .inl fr)) ∨
    (nextN st (Utf8.decode s p).1 ≠ 2 ∧ ¬ (st = 4 ∧ nextN st (Utf8.decode s p).1 = 0) ∧ ¬ ((st = 2 ∨ st = 3) ∧ nextN st (Utf8.decode s p).1 = 0) ∧ 1 ≤ (Utf8.decode s p).2 ∧ p + (Utf8.decode s p).2 ≤ s.size ∧ Mach s.data.toList R (nextN st (Utf8.decode s p).1) fr (p + (Utf8.decode s p).2) L) := by
  obtain ⟨c, t, hc⟩ : ∃ c t, s.data.toList.drop p = c :: t := by
    cases hd : s.data.toList.drop p with
    | nil =>
      have := congrArg List.length hd
      rw [List.length_drop, toList_length] at this
      simp at this; omega
    | cons c t => exact ⟨c, t, rfl⟩
  rcases Nat.lt_or_ge c.toNat 128 with hlo | hhi
  · rw [dec_low s p c t hc hlo]
    simp only
    by_cases h2 : nextN st c.toNat = 2
    · obtain ⟨_, _, a, b, d⟩ := mach_open h hc h2
      exact .inl ⟨h2, trivial, a, b, d⟩
    by_cases h4 : st = 4 ∧ nextN st c.toNat = 0
    · obtain ⟨_, a, b⟩ := mach_kept h hc h4.1 h4.2
      exact .inr (.inl ⟨h4.1, h4.2, trivial, a, b⟩)
    by_cases h3 : (st = 2 ∨ st = 3) ∧ nextN st c.toNat = 0
    · obtain ⟨_, a, b, d⟩ := mach_hole h hc h3.1 h3.2
      exact .inr (.inr (.inl ⟨h3.1, h3.2, trivial, a, b, d⟩))
    exact .inr (.inr (.inr ⟨h2, h4, h3, Nat.le_refl _, hp, mach_else h hc h2 h4 h3⟩))
  · obtain ⟨a1, a2, a3, a4⟩ := dec_high s p c t hc hhi
    obtain ⟨n1, n2, n3⟩ := next_calm a1 (mach_hi h)
    refine .inr (.inr (.inr ⟨n1, n2, n3, a2, a3, ?_⟩))
    have hlen : ((s.data.toList.drop p).take (Utf8.decode s p).2).length = (Utf8.decode s p).2 := by
      rw [List.length_take, List.length_drop, toList_length]; omega
    have := mach_high (Utf8.decode s p).1 a1 ((s.data.toList.drop p).take (Utf8.decode s p).2) st p a4 (by intro e; rw [e] at hlen; simp at hlen; omega) ((s.data.toList.drop p).drop (Utf8.decode s p).2) (by rw [List.take_append_drop]) h
    rw [hlen] at this
    exact this

/-- What a slice reads as: these parts. -/
def isXr (W : World) (l : List X) (v : Value) : Prop := ∃ o g c, v = .slice o l.length c ∧ l.length ≤ c ∧ c ≤ maxLen ∧ (0 < l.length → o = some ⟨g, 0, none⟩) ∧ ∀ j u, (xcells l)[j]? = some u → W.cell? ⟨g, j, none⟩ = some u
theorem isXr.below {W W' : World} {l : List X} {v : Value} (h : isXr W l v) (hb : Below W.heap.size W W') : isXr W' l v := by
  obtain ⟨o, g, c, h1, h2, h3, h4, h5⟩ := h
  exact ⟨o, g, c, h1, h2, h3, h4, fun j u hj => (hb.cell (p := ⟨g, j, none⟩) (World.block_lt_of_cell? W _ (h5 j u hj))).trans (h5 j u hj)⟩
theorem isXr_nil (W : World) : isXr W [] (.slice none 0 0) := ⟨none, 0, 0, rfl, Nat.le_refl _, by unfold maxLen; omega, fun h => absurd h (by simp), fun j u hj => by simp [xcells] at hj⟩
theorem PR.isXr {P B : Nat} {L : List X} {v : Value} {W : World} (h : PR P B L v W) : isXr W L.reverse v := by
  rcases h.2.2 with ⟨rfl, h0⟩ | ⟨g, cap, cur, rfl, hgB, hg, h1, h2, h3, h4⟩
  · have : L = [] := List.eq_nil_of_length_eq_zero h0
    subst this
    exact isXr_nil W
  · refine ⟨_, g, cap, by rw [List.length_reverse], by rw [List.length_reverse]; exact h1, h2, fun _ => rfl, fun j u hj => ?_⟩
    have hj2 := (List.getElem?_eq_some_iff.1 hj).1
    rw [xcells_len, List.length_reverse] at hj2
    rw [h.2.cellAt j hj2]
    exact hj
/-- What lex answers. -/
def LexR (w : World) (R : Nat ⊕ List X) (e : Ending) (w' : World) : Prop :=
  match R with
  | .inl p => e = .returned (.tuple #[.slice none 0 0, .int .i64 p, .int .i64 130]) ∧ Below w.heap.size w w'
  | .inr L => ∃ v, e = .returned (.tuple #[v, .int .i64 0, .int .i64 0]) ∧ isXr w' L.reverse v ∧ Below w.heap.size w w'

/-- What the loop of lex keeps. -/
structure LI (w : World) (s : ByteArray) (R : Nat ⊕ List X) (p st fr : Nat) (L : List X) (v : Value) (wr : World) : Prop where
  pr : PR w.heap.size (w.heap.size + 2) L v wr
  it : wr.heap[w.heap.size + 1]? = some (.stringIter s p)
  be : Below w.heap.size w wr
  sz : w.heap.size + 2 ≤ wr.heap.size
  ma : Mach s.data.toList R st fr p L
  ln : L.length ≤ fr
  tx : (L.map fun y => y.t.length).sum ≤ fr
theorem LI.below {w : World} {s : ByteArray} {R : Nat ⊕ List X} {p st fr : Nat} {L : List X} {v : Value} {W W' : World} (h : LI w s R p st fr L v W) (hb : Below W.heap.size W W') : LI w s R p st fr L v W' :=
  ⟨h.pr.below hb, (hb.block _ (Array.getElem?_eq_some_iff.1 h.it).1).trans h.it, h.be.trans (hb.mono h.be.size), Nat.le_trans h.sz hb.size, h.ma, h.ln, h.tx⟩
theorem addR_len (x : X) (L : List X) : (addR x L).length ≤ L.length + 1 ∧ ((addR x L).map fun y => y.t.length).sum = (L.map fun y => y.t.length).sum + x.t.length := by
  unfold addR
  split
  · split
    · rename_i h; subst h; simp [X.t]
    · split
      · simp [X.t]; omega
      · simp [X.t]; omega
  · simp; omega
/-- The parts are moved on: the iterator goes to p', a part is read, and the machine stands as told. -/
theorem LI.go {w : World} {s : ByteArray} {R : Nat ⊕ List X} {p st fr : Nat} {L : List X} {v : Value} {W : World} (h : LI w s R p st fr L v W) (p' : Nat) :
    PR w.heap.size (w.heap.size + 2) L v (W.iterAt (w.heap.size + 1) s p') ∧ (W.iterAt (w.heap.size + 1) s p').heap[w.heap.size + 1]? = some (.stringIter s p') ∧ Below w.heap.size w (W.iterAt (w.heap.size + 1) s p') ∧ w.heap.size + 2 ≤ (W.iterAt (w.heap.size + 1) s p').heap.size := by
  have hg : W.grownBy (W.iterAt (w.heap.size + 1) s p') (some (w.heap.size + 1)) := ⟨rfl, rfl, rfl, by rw [Lib.iterAt_size]; exact Nat.le_refl _, fun k _ hk => Lib.iterAt_other _ _ _ _ _ (fun e => hk (by rw [e]))⟩
  refine ⟨⟨(Lib.iterAt_other _ _ _ _ _ (by omega)).trans h.pr.1, h.pr.2.kept hg ?_⟩, Lib.iterAt_heap _ _ _ _ _ h.it, Lib.below_iterAt h.be (by omega) _ _, by rw [Lib.iterAt_size]; exact h.sz⟩
  cases hv : v.ownBlock with
  | none => exact .inl rfl
  | some g =>
    have := (h.pr.2.lt g hv).1
    exact .inr (fun e => by cases e; omega)
theorem iterPos_of {W : World} {k : Nat} {s : ByteArray} {p : Nat} (h : W.heap[k]? = some (.stringIter s p)) : W.iterPos k = p := by simp [World.iterPos, h]
theorem LI.init {w : World} {s : ByteArray} {R : Nat ⊕ List X} (h : Mach s.data.toList R 0 0 0 []) : LI w s R 0 0 0 [] (.slice none 0 0) ((w.alloc (.cells #[.slice none 0 0] 23)).iter s 0) := by
  have hz : (w.alloc (.cells #[.slice none 0 0] 23)).heap.size = w.heap.size + 1 := by simp
  refine ⟨⟨?_, World.ownsRow_nil _ _ _ _⟩, ?_, ((Below.refl _ _).alloc (Nat.le_refl _) _).trans (((Below.refl _ _).alloc (Nat.le_refl _) _).mono (by omega)), by simp [World.iter], h, Nat.zero_le _, Nat.zero_le _⟩
  · show ((w.alloc _).alloc _).heap[w.heap.size]? = _
    rw [heap_alloc_old _ _ (show w.heap.size < _ by rw [hz]; omega)]
    exact heap_alloc_new w _
  · have := World.iter_heap (w.alloc (.cells #[.slice none 0 0] 23)) s 0
    rw [hz] at this
    exact this
/-- The iterator, the closure's cell and the row behind the iterator's step. -/
def LB (w : World) (s : ByteArray) (p : Nat) (L : List X) (v : Value) (W : World) : Prop :=
  PR w.heap.size (w.heap.size + 2) L v W ∧ W.heap[w.heap.size + 1]? = some (.stringIter s p) ∧ Below w.heap.size w W ∧ w.heap.size + 2 ≤ W.heap.size
theorem LB.below {w : World} {s : ByteArray} {p : Nat} {L : List X} {v : Value} {W W' : World} (h : LB w s p L v W) (hb : Below W.heap.size W W') : LB w s p L v W' :=
  ⟨h.1.below hb, (hb.block _ (Array.getElem?_eq_some_iff.1 h.2.1).1).trans h.2.1, h.2.2.1.trans (hb.mono h.2.2.1.size), Nat.le_trans h.2.2.2 hb.size⟩
theorem LB.li {w : World} {s : ByteArray} {R : Nat ⊕ List X} {p st fr : Nat} {L : List X} {v : Value} {W : World} (h : LB w s p L v W) (ma : Mach s.data.toList R st fr p L) (ln : L.length ≤ fr) (tx : (L.map fun y => y.t.length).sum ≤ fr) : LI w s R p st fr L v W :=
  ⟨h.1, h.2.1, h.2.2.1, h.2.2.2, ma, ln, tx⟩
theorem LB.read {w : World} {s : ByteArray} {p : Nat} {L L' : List X} {v v' : Value} {W W' : World} (h : LB w s p L v W) (h3 : PR w.heap.size (w.heap.size + 2) L' v' W') (k3 : Kp w.heap.size (w.heap.size + 2) W W') : LB w s p L' v' W' :=
  ⟨h3, k3.2 _ _ (by omega) (by omega) h.2.1, h.2.2.1.trans (k3.below (by omega) h.2.2.1.size), Nat.le_trans h.2.2.2 k3.1.2.2.2⟩
theorem ext_sub (s : ByteArray) (a b : Nat) : s.extract a b = bs (sub s.data.toList a b) := by
  apply ByteArray.ext
  apply Array.ext'
  simp [sub]
end Go.Proofs.YtjnoomefppncoaaDoor
