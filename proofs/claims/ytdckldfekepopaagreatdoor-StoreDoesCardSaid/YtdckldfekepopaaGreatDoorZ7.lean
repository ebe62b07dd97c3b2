/-
  The library's slices.Clone at properties and at things; rows of them as lists of cells. · Which stores may be: the program's Check.
-/
import Derived.Test.YtdckldfekepopaaGreatDoorZM
import Derived.Test.YtdckldfekepopaaGreatDoorZ3
import Derived.Test.YtdckldfekepopaaGreatDoorZ6
set_option linter.unusedVariables false
set_option linter.unusedSimpArgs false
namespace Go.Proofs.YtdckldfekepopaaGreatDoor
open Go.RowKit Go.Maps

theorem infoG10 : (Tryz.prog.info? 66).map (fun i => (i.zero, i.size, i.bytes)) = some (some (.agg #[.string ⟨#[]⟩, .bool false, .int .i8 0, .bool false, .int .i64 0, .string ⟨#[]⟩, .slice none 0 0, .slice none 0 0]), 8, 104) := by kernel_rfl
theorem infoT10 : (Tryz.prog.info? 52).map (fun i => (i.zero, i.size, i.bytes)) = some (some (.agg #[.string ⟨#[]⟩, .string ⟨#[]⟩, .slice none 0 0]), 3, 56) := by kernel_rfl

set_option maxRecDepth 100000 in
set_option maxHeartbeats 2000000 in
/-- slices.Clone of so many properties: their cells, in a row of the call's own. -/
theorem cloneG_any (o : Option Addr) (a : Addr) (n cap : Nat) (ho : 0 < n → o = some a) (hn : n ≤ 1000000) (news : List Value) (w : World) (hl : news.length = n * 8) (hc : ∀ j u, news[j]? = some u → w.cell? (a.add j) = some u) (h1 : ∀ u ∈ news, u.oneCell' = true) :
    Calls Tryz.prog 62 #[.slice o n cap] w fun e w' => ∃ v', e = .returned v' ∧ w'.ownsRow w.heap.size 66 8 v' n news ∧ Below w.heap.size w w' := by
  obtain ⟨i0, hi0, hz0, hz1, hz2⟩ := info_parts infoG10
  have hq : ∀ (w : World) (a : Option Addr) (n c n' c' : Nat), (binOp .eql 25 (.slice a n c) (.slice none n' c')).run Tryz.prog w = .ok (.bool a.isNone) w := fun w a n c n' c' => Lib.run_eql_slice_nil w _ _ a n c n' c' Tryz.underlying25
  cases o with
  | none =>
    obtain rfl : n = 0 := by
      rcases Nat.eq_zero_or_pos n with h | h
      · exact h
      · cases ho h
    go_enter Tryz.func62, Tryz.ntmps62
    go_wp2
    go_ret
    exact ⟨_, rfl, ⟨hl, .inl ⟨rfl, rfl⟩⟩, Below.refl _ _⟩
  | some b =>
    have hc2 : ∀ j u, news[j]? = some u → w.cell? (b.add j) = some u := fun j u h => by
      have hj := (List.getElem?_eq_some_iff.1 h).1
      cases ho (by omega)
      exact hc j u h
    have HC := Lib.hid hc2
    have H1 := Lib.hid h1
    clear hc hc2 h1 ho
    go_enter Tryz.func62, Tryz.ntmps62
    go_wp2_with (at_builtin; refine wpList_append_own _ rfl _ _ 25 rfl w.heap.size 66 i0 _ 8 104 Tryz.underlying25 hi0 hz0 hz1 hz2 rfl (by decide) _ 0 [] rfl (World.ownsRow_lit w #[] 0 (Nat.le_refl _) (by unfold maxLen; omega) rfl) b n cap news rfl hl ?d1 H1.out ?d3 ?d4 ?d5 ?_)
    case d1 => intro j u h; exact cell_below ((Below.refl _ w).alloc (Nat.le_refl _) _) _ _ (HC.out j u h)
    case d3 => unfold maxLen; omega
    case d4 => omega
    case d5 => simp
    intro v' w1 hown' hgrow _
    have hO : w1.ownsRow w.heap.size 66 8 v' n news := by simpa using hown'
    have HO := Lib.hid hO
    have HB : Hid (Below w.heap.size w w1) := Lib.hid (((Below.refl _ w).alloc (Nat.le_refl _) _).grown hgrow (by simp) (fun r e => by cases e; exact Nat.le_refl _))
    clear hown' hgrow hO
    go_wp2_with fail
    go_ret
    exact ⟨v', rfl, HO.out, HB.out⟩
set_option maxRecDepth 100000 in
set_option maxHeartbeats 2000000 in
/-- slices.Clone of so many things: their cells, in a row of the call's own. -/
theorem cloneT_any (o : Option Addr) (a : Addr) (n cap : Nat) (ho : 0 < n → o = some a) (hn : n ≤ 1000000) (news : List Value) (w : World) (hl : news.length = n * 3) (hc : ∀ j u, news[j]? = some u → w.cell? (a.add j) = some u) (h1 : ∀ u ∈ news, u.oneCell' = true) :
    Calls Tryz.prog 51 #[.slice o n cap] w fun e w' => ∃ v', e = .returned v' ∧ w'.ownsRow w.heap.size 52 3 v' n news ∧ Below w.heap.size w w' := by
  obtain ⟨i0, hi0, hz0, hz1, hz2⟩ := info_parts infoT10
  have hq : ∀ (w : World) (a : Option Addr) (n c n' c' : Nat), (binOp .eql 22 (.slice a n c) (.slice none n' c')).run Tryz.prog w = .ok (.bool a.isNone) w := fun w a n c n' c' => Lib.run_eql_slice_nil w _ _ a n c n' c' Tryz.underlying22
  cases o with
  | none =>
    obtain rfl : n = 0 := by
      rcases Nat.eq_zero_or_pos n with h | h
      · exact h
      · cases ho h
    go_enter Tryz.func51, Tryz.ntmps51
    go_wp2
    go_ret
    exact ⟨_, rfl, ⟨hl, .inl ⟨rfl, rfl⟩⟩, Below.refl _ _⟩
  | some b =>
    have hc2 : ∀ j u, news[j]? = some u → w.cell? (b.add j) = some u := fun j u h => by
      have hj := (List.getElem?_eq_some_iff.1 h).1
      cases ho (by omega)
      exact hc j u h
    have HC := Lib.hid hc2
    have H1 := Lib.hid h1
    clear hc hc2 h1 ho
    go_enter Tryz.func51, Tryz.ntmps51
    go_wp2_with (at_builtin; refine wpList_append_own _ rfl _ _ 22 rfl w.heap.size 52 i0 _ 3 56 Tryz.underlying22 hi0 hz0 hz1 hz2 rfl (by decide) _ 0 [] rfl (World.ownsRow_lit w #[] 0 (Nat.le_refl _) (by unfold maxLen; omega) rfl) b n cap news rfl hl ?d1 H1.out ?d3 ?d4 ?d5 ?_)
    case d1 => intro j u h; exact cell_below ((Below.refl _ w).alloc (Nat.le_refl _) _) _ _ (HC.out j u h)
    case d3 => unfold maxLen; omega
    case d4 => omega
    case d5 => simp
    intro v' w1 hown' hgrow _
    have hO : w1.ownsRow w.heap.size 52 3 v' n news := by simpa using hown'
    have HO := Lib.hid hO
    have HB : Hid (Below w.heap.size w w1) := Lib.hid (((Below.refl _ w).alloc (Nat.le_refl _) _).grown hgrow (by simp) (fun r e => by cases e; exact Nat.le_refl _))
    clear hown' hgrow hO
    go_wp2_with fail
    go_ret
    exact ⟨v', rfl, HO.out, HB.out⟩

/-- Cells that hold such things, one behind another. -/
def isTL (W : World) : List Th → List Value → Prop
  | [], xs => xs = []
  | t :: r, xs => ∃ pv rest, xs = .string t.ph :: .string t.ty :: pv :: rest ∧ isGs W t.ps pv ∧ t.ph.size ≤ maxLen ∧ t.ty.size ≤ maxLen ∧ isTL W r rest
theorem isTL_app {W : World} : ∀ (l m : List Th) (xs ys : List Value), isTL W l xs → isTL W m ys → isTL W (l ++ m) (xs ++ ys)
  | [], m, xs, ys, h, h' => by
    unfold isTL at h
    subst h
    exact h'
  | x :: t, m, xs, ys, h, h' => by
    unfold isTL at h
    obtain ⟨pv, rest, rfl, hx, hn, hm, ht⟩ := h
    rw [List.cons_append]
    unfold isTL
    exact ⟨pv, rest ++ ys, rfl, hx, hn, hm, isTL_app t m rest ys ht h'⟩
theorem isTL_len {W : World} : ∀ (l : List Th) (xs : List Value), isTL W l xs → xs.length = l.length * 3
  | [], xs, h => by unfold isTL at h; subst h; rfl
  | x :: t, xs, h => by
    unfold isTL at h
    obtain ⟨pv, rest, rfl, hx, hn, hm, ht⟩ := h
    have := isTL_len t rest ht
    simp only [List.length_cons]; omega
theorem isTL_one {W : World} : ∀ (l : List Th) (xs : List Value), isTL W l xs → ∀ u ∈ xs, u.oneCell' = true
  | [], xs, h, u, hu => by unfold isTL at h; subst h; cases hu
  | x :: t, xs, h, u, hu => by
    unfold isTL at h
    obtain ⟨pv, rest, rfl, ⟨a, cap, ⟨o, rfl, _⟩, _⟩, hn, hm, ht⟩ := h
    rcases List.mem_cons.1 hu with rfl | hu
    · rfl
    rcases List.mem_cons.1 hu with rfl | hu
    · rfl
    rcases List.mem_cons.1 hu with rfl | hu
    · rfl
    · exact isTL_one t rest ht u hu
theorem isTL_below {W W' : World} (hb : Below W.heap.size W W') : ∀ (l : List Th) (xs : List Value), isTL W l xs → isTL W' l xs
  | [], xs, h => by unfold isTL at h ⊢; exact h
  | x :: t, xs, h => by
    unfold isTL at h ⊢
    obtain ⟨pv, rest, e, hx, hn, hm, ht⟩ := h
    exact ⟨pv, rest, e, isGs_below hb hx, hn, hm, isTL_below hb t rest ht⟩
theorem isTL_cut {W : World} : ∀ (l : List Th) (xs : List Value) (k : Nat), isTL W l xs → isTL W (l.take k) (xs.take (k * 3)) ∧ isTL W (l.drop k) (xs.drop (k * 3))
  | l, xs, 0, h => by
    rw [Nat.zero_mul, List.take_zero, List.take_zero, List.drop_zero, List.drop_zero]
    exact ⟨rfl, h⟩
  | [], xs, k + 1, h => by
    unfold isTL at h
    subst h
    simp only [List.take_nil, List.drop_nil]
    exact ⟨rfl, rfl⟩
  | x :: t, xs, k + 1, h => by
    unfold isTL at h
    obtain ⟨pv, rest, rfl, hx, hn, hm, ht⟩ := h
    obtain ⟨h1, h2⟩ := isTL_cut t rest k ht
    rw [show (k + 1) * 3 = k * 3 + 3 by omega]
    simp only [List.take_succ_cons, List.drop_succ_cons]
    refine ⟨?_, h2⟩
    unfold isTL
    exact ⟨pv, _, rfl, hx, hn, hm, h1⟩
theorem isTL_of {W : World} : ∀ (l : List Th) (a : Addr), (∀ i (h : i < l.length), isTat W l[i] (a.add (i * 3))) → ∃ xs, isTL W l xs ∧ ∀ j u, xs[j]? = some u → W.cell? (a.add j) = some u
  | [], a, _ => ⟨[], by unfold isTL; rfl, fun j u h => by simp at h⟩
  | g :: t, a, h => by
    obtain ⟨xs, h1, h2⟩ := isTL_of t (a.add 3) (fun i hi => by
      have := h (i + 1) (by simpa using hi)
      rw [show (i + 1) * 3 = 3 + i * 3 by omega, ← add_add] at this
      simpa using this)
    obtain ⟨pv, g0, g1, g2, h3, h4, h5⟩ := h 0 (by simp)
    simp only [List.getElem_cons_zero] at g0 g1 h3 h4 h5
    have hs : a.spot = none := cell_spot g0
    simp only [at_add hs, Nat.zero_mul, Nat.zero_add] at g0 g1 g2
    refine ⟨.string g.ph :: .string g.ty :: pv :: xs, by unfold isTL; exact ⟨pv, xs, rfl, h3, h4, h5, h1⟩, fun j u hj => ?_⟩
    match j, hj with
    | 0, hj => obtain rfl := Option.some.inj hj; exact g0
    | 1, hj => obtain rfl := Option.some.inj hj; exact g1
    | 2, hj => obtain rfl := Option.some.inj hj; exact g2
    | j + 3, hj =>
      have := h2 j u (by simpa using hj)
      rwa [add_add, Nat.add_comm 3 j] at this
theorem isTL_at {W : World} : ∀ (l : List Th) (xs : List Value) (a : Addr), a.spot = none → isTL W l xs → (∀ j u, xs[j]? = some u → W.cell? (a.add j) = some u) → ∀ i (h : i < l.length), isTat W l[i] (a.add (i * 3))
  | [], xs, a, hs, h, hc, i, hi => absurd hi (by simp)
  | g :: t, xs, a, hs, h, hc, i, hi => by
    unfold isTL at h
    obtain ⟨pv, rest, rfl, hx, hn, hm, ht⟩ := h
    match i, hi with
    | 0, hi =>
      refine ⟨pv, ?_, ?_, ?_, hx, hn, hm⟩
      · exact hc 0 _ rfl
      all_goals (rw [at_add hs]; apply hc; rfl)
    | i + 1, hi =>
      have := isTL_at t rest (a.add 3) (by simp [Addr.add]) ht (fun j u hj => by
        rw [add_add, Nat.add_comm 3 j]
        exact hc (j + 3) u (by simpa using hj)) i (by simpa using hi)
      rw [add_add, show 3 + i * 3 = (i + 1) * 3 by omega] at this
      simpa using this

/-- Cells that hold such properties, in given blocks, one behind another. -/
def isGLa (W : World) (B : Nat → Prop) : List G → List Value → Prop
  | [], xs => xs = []
  | g :: t, xs => ∃ c0 c1 c2 c3 c4 c5 rest, xs = .string g.nm :: .bool g.unk :: c0 :: c1 :: c2 :: c3 :: c4 :: c5 :: rest ∧ isVa W B g.v (.agg #[c0, c1, c2, c3, c4, c5]) ∧ g.nm.size ≤ maxLen ∧ isGLa W B t rest
theorem isGLa_len {W : World} {B : Nat → Prop} : ∀ (l : List G) (xs : List Value), isGLa W B l xs → xs.length = l.length * 8
  | [], xs, h => by unfold isGLa at h; subst h; rfl
  | x :: t, xs, h => by
    unfold isGLa at h
    obtain ⟨c0, c1, c2, c3, c4, c5, rest, rfl, hx, hn, ht⟩ := h
    have := isGLa_len t rest ht
    simp only [List.length_cons]; omega
theorem isGLa_one {W : World} {B : Nat → Prop} : ∀ (l : List G) (xs : List Value), isGLa W B l xs → ∀ u ∈ xs, u.oneCell' = true
  | [], xs, h, u, hu => by unfold isGLa at h; subst h; cases hu
  | x :: t, xs, h, u, hu => by
    unfold isGLa at h
    obtain ⟨c0, c1, c2, c3, c4, c5, rest, rfl, hx, hn, ht⟩ := h
    rcases List.mem_cons.1 hu with rfl | hu
    · rfl
    rcases List.mem_cons.1 hu with rfl | hu
    · rfl
    rw [show c0 :: c1 :: c2 :: c3 :: c4 :: c5 :: rest = [c0, c1, c2, c3, c4, c5] ++ rest from rfl] at hu
    rcases List.mem_append.1 hu with hu | hu
    · exact isV_one (isV_of_a _ _ hx) u hu
    · exact isGLa_one t rest ht u hu
theorem isGLa_of {W : World} {B : Nat → Prop} : ∀ (l : List G) (a : Addr), (∀ i (h : i < l.length), isGata W B l[i] (a.add (i * 8))) → ∃ xs, isGLa W B l xs ∧ ∀ j u, xs[j]? = some u → W.cell? (a.add j) = some u
  | [], a, _ => ⟨[], by unfold isGLa; rfl, fun j u h => by simp at h⟩
  | g :: t, a, h => by
    obtain ⟨xs, h1, h2⟩ := isGLa_of t (a.add 8) (fun i hi => by
      have := h (i + 1) (by simpa using hi)
      rw [show (i + 1) * 8 = 8 + i * 8 by omega, ← add_add] at this
      simpa using this)
    obtain ⟨c0, c1, c2, c3, c4, c5, g0, g1, g2, g3, g4, g5, g6, g7, h3, h4⟩ := h 0 (by simp)
    simp only [List.getElem_cons_zero] at g0 g1 h3 h4
    have hs : a.spot = none := cell_spot g0
    simp only [at_add hs, Nat.zero_mul, Nat.zero_add] at g0 g1 g2 g3 g4 g5 g6 g7
    refine ⟨.string g.nm :: .bool g.unk :: c0 :: c1 :: c2 :: c3 :: c4 :: c5 :: xs, by unfold isGLa; exact ⟨c0, c1, c2, c3, c4, c5, xs, rfl, h3, h4, h1⟩, fun j u hj => ?_⟩
    match j, hj with
    | 0, hj => obtain rfl := Option.some.inj hj; exact g0
    | 1, hj => obtain rfl := Option.some.inj hj; exact g1
    | 2, hj => obtain rfl := Option.some.inj hj; exact g2
    | 3, hj => obtain rfl := Option.some.inj hj; exact g3
    | 4, hj => obtain rfl := Option.some.inj hj; exact g4
    | 5, hj => obtain rfl := Option.some.inj hj; exact g5
    | 6, hj => obtain rfl := Option.some.inj hj; exact g6
    | 7, hj => obtain rfl := Option.some.inj hj; exact g7
    | j + 8, hj =>
      have := h2 j u (by simpa using hj)
      rwa [add_add, Nat.add_comm 8 j] at this
/-- The cells of a property in a row of the call's own. -/
def Gfa (W : World) (B : Nat → Prop) (g : G) (f : Nat → Value) (p : Nat) : Prop := f p = .string g.nm ∧ f (p + 1) = .bool g.unk ∧ isVa W B g.v (.agg #[f (p + 2), f (p + 3), f (p + 4), f (p + 5), f (p + 6), f (p + 7)]) ∧ g.nm.size ≤ maxLen
theorem isGLa_get {W : World} {B : Nat → Prop} : ∀ (L : List G) (xs : List Value) (f : Nat → Value), isGLa W B L xs → (∀ j u, xs[j]? = some u → f j = u) → ∀ i (h : i < L.length), Gfa W B L[i] f (i * 8)
  | g :: t, xs, f, h, hf, i, hi => by
    unfold isGLa at h
    obtain ⟨c0, c1, c2, c3, c4, c5, rest, rfl, hx, hn, ht⟩ := h
    match i, hi with
    | 0, hi =>
      have e0 := hf 0 _ rfl
      have e1 := hf 1 _ rfl
      have e2 := hf 2 _ rfl
      have e3 := hf 3 _ rfl
      have e4 := hf 4 _ rfl
      have e5 := hf 5 _ rfl
      have e6 := hf 6 _ rfl
      have e7 := hf 7 _ rfl
      refine ⟨e0, e1, ?_, hn⟩
      show isVa W B g.v (.agg #[f 2, f 3, f 4, f 5, f 6, f 7])
      rw [e2, e3, e4, e5, e6, e7]
      exact hx
    | i + 1, hi =>
      obtain ⟨h1, h2, h3, h4⟩ := isGLa_get t rest (fun j => f (j + 8)) ht (fun j u hj => hf (j + 8) u (by simpa using hj)) i (by simpa using hi)
      have e : (i + 1) * 8 = i * 8 + 8 := by omega
      rw [e]
      refine ⟨h1, ?_, ?_, h4⟩
      · rw [show i * 8 + 8 + 1 = i * 8 + 1 + 8 by omega]; exact h2
      · rw [show i * 8 + 8 + 2 = i * 8 + 2 + 8 by omega, show i * 8 + 8 + 3 = i * 8 + 3 + 8 by omega, show i * 8 + 8 + 4 = i * 8 + 4 + 8 by omega, show i * 8 + 8 + 5 = i * 8 + 5 + 8 by omega, show i * 8 + 8 + 6 = i * 8 + 6 + 8 by omega, show i * 8 + 8 + 7 = i * 8 + 7 + 8 by omega]
        exact h3
/-! Things in given blocks. -/
def isTata (W : World) (B : Nat → Prop) (t : Th) (a : Addr) : Prop := ∃ pv, W.cell? a = some (.string t.ph) ∧ W.cell? ⟨a.block, a.off + 1, none⟩ = some (.string t.ty) ∧ W.cell? ⟨a.block, a.off + 2, none⟩ = some pv ∧ isGsa W B t.ps pv ∧ t.ph.size ≤ maxLen ∧ t.ty.size ≤ maxLen
def isTLa (W : World) (B : Nat → Prop) : List Th → List Value → Prop
  | [], xs => xs = []
  | t :: r, xs => ∃ pv rest, xs = .string t.ph :: .string t.ty :: pv :: rest ∧ isGsa W B t.ps pv ∧ t.ph.size ≤ maxLen ∧ t.ty.size ≤ maxLen ∧ isTLa W B r rest
theorem isTLa_of_TL {W : World} : ∀ (l : List Th) (xs : List Value), isTL W l xs → isTLa W (fun q => q < W.heap.size) l xs
  | [], xs, h => by unfold isTL at h; unfold isTLa; exact h
  | x :: t, xs, h => by
    unfold isTL at h
    obtain ⟨pv, rest, e, hx, hn, hm, ht⟩ := h
    unfold isTLa
    exact ⟨pv, rest, e, isGsa_of hx, hn, hm, isTLa_of_TL t rest ht⟩
/-- The cells of a thing in a row of the call's own. -/
def Tfa (W : World) (B : Nat → Prop) (t : Th) (f : Nat → Value) (p : Nat) : Prop := f p = .string t.ph ∧ f (p + 1) = .string t.ty ∧ isGsa W B t.ps (f (p + 2)) ∧ t.ph.size ≤ maxLen ∧ t.ty.size ≤ maxLen
theorem isTLa_get {W : World} {B : Nat → Prop} : ∀ (L : List Th) (xs : List Value) (f : Nat → Value), isTLa W B L xs → (∀ j u, xs[j]? = some u → f j = u) → ∀ i (h : i < L.length), Tfa W B L[i] f (i * 3)
  | g :: t, xs, f, h, hf, i, hi => by
    unfold isTLa at h
    obtain ⟨pv, rest, rfl, hx, hn, hm, ht⟩ := h
    match i, hi with
    | 0, hi =>
      have e0 := hf 0 _ rfl
      have e1 := hf 1 _ rfl
      have e2 := hf 2 _ rfl
      refine ⟨e0, e1, ?_, hn, hm⟩
      show isGsa W B g.ps (f 2)
      rw [e2]
      exact hx
    | i + 1, hi =>
      obtain ⟨h1, h2, h3, h4, h5⟩ := isTLa_get t rest (fun j => f (j + 3)) ht (fun j u hj => hf (j + 3) u (by simpa using hj)) i (by simpa using hi)
      have e : (i + 1) * 3 = i * 3 + 3 := by omega
      rw [e]
      refine ⟨h1, ?_, ?_, h4, h5⟩
      · rw [show i * 3 + 3 + 1 = i * 3 + 1 + 3 by omega]; exact h2
      · rw [show i * 3 + 3 + 2 = i * 3 + 2 + 3 by omega]; exact h3
end Go.Proofs.YtdckldfekepopaaGreatDoor

namespace Go.Proofs.YtdckldfekepopaaGreatDoor
open Go.RowKit

def zTh : Th := ⟨⟨#[]⟩, ⟨#[]⟩, []⟩
def lastN (L : List Th) : Nat → Int
  | 0 => 0
  | j + 1 => (numL (L.getD j zTh).ph).1
noncomputable def stepT (made : Int) (L : List Th) (i : Nat) : Bool :=
  (numL (L.getD i zTh).ph).2 && (decide (lastN L i < (numL (L.getD i zTh).ph).1) && (decide ((numL (L.getD i zTh).ph).1 ≤ made) && decide (wrongL (L.getD i zTh).ty (L.getD i zTh).ps = 0)))
noncomputable def checkS (s : St) : Int := if s.made < 0 then 2 else if 1099511627776 < s.made then 2 else if (List.range s.l.length).all (stepT s.made s.l) then 0 else 2
def fineS (s : St) : Prop := s.l.length ≤ 1000 ∧ ∀ t ∈ s.l, t.ty.size ≤ 400 ∧ fineG t.ps
theorem getD_t {L : List Th} {i : Nat} (h : i < L.length) : L.getD i zTh = L[i] := by
  rw [List.getD_eq_getElem?_getD, List.getElem?_eq_getElem h]; rfl
theorem checkS_ok {s : St} : checkS s = 0 ↔ 0 ≤ s.made ∧ s.made ≤ 1099511627776 ∧ ∀ i, i < s.l.length → stepT s.made s.l i = true := by
  unfold checkS
  by_cases h1 : s.made < 0
  · rw [if_pos h1]; constructor
    · intro h; omega
    · intro h; omega
  · rw [if_neg h1]
    by_cases h2 : 1099511627776 < s.made
    · rw [if_pos h2]; constructor
      · intro h; omega
      · intro h; omega
    · rw [if_neg h2]
      have key : (List.range s.l.length).all (stepT s.made s.l) = true ↔ ∀ i, i < s.l.length → stepT s.made s.l i = true := by
        rw [List.all_eq_true]
        exact ⟨fun h i hi => h i (List.mem_range.2 hi), fun h i hi => h i (List.mem_range.1 hi)⟩
      by_cases h3 : (List.range s.l.length).all (stepT s.made s.l) = true
      · rw [if_pos h3]
        exact ⟨fun _ => ⟨by omega, by omega, key.1 h3⟩, fun _ => rfl⟩
      · rw [if_neg h3]
        constructor
        · intro h; omega
        · rintro ⟨_, _, h⟩; exact absurd (key.2 h) h3
theorem checkS_two (s : St) : checkS s = 0 ∨ checkS s = 2 := by
  unfold checkS
  split
  · exact .inr rfl
  · split
    · exact .inr rfl
    · split
      · exact .inl rfl
      · exact .inr rfl
theorem checkS_no {s : St} {i : Nat} (hi : i < s.l.length) (h : stepT s.made s.l i = false) : checkS s = 2 := by
  rcases checkS_two s with h0 | h2
  · rw [(checkS_ok.1 h0).2.2 i hi] at h; cases h
  · exact h2

set_option maxRecDepth 100000 in
set_option maxHeartbeats 8000000 in
theorem Check10_any (s : St) (v : Value) (w : World) (hE : Env9 w) (hF : fineS s) (h : isS w s v) :
    Calls Tryz.prog 20 #[v] w fun e w' => e = .returned (.int .i64 (checkS s)) ∧ Below w.heap.size w w' := by
  obtain ⟨o, cap, rfl, ⟨a, cap', ⟨o', e', hc1, hc2, ho⟩, hts⟩, hm⟩ := isS_two h
  simp only [Value.slice.injEq, true_and] at e'
  obtain ⟨rfl, rfl⟩ := e'
  unfold maxLen at hc2
  have HK := Lib.hid hts
  have HE := Lib.hid hE
  have HF := Lib.hid hF.2
  have HB0 : Hid (KB w (w.alloc (.cells #[.slice o s.l.length cap, .int .i64 s.made] 24))) := Lib.hid kbA
  have hl := hF.1
  obtain ⟨r, hr⟩ : ∃ r, checkS s = r := ⟨_, rfl⟩
  rw [hr]
  have HR := Lib.hid hr
  clear hts hE hF hr h
  by_cases hm1 : s.made < 0
  · have HR2 : Hid (r = 2) := Lib.hid (by rw [← HR.out]; unfold checkS; rw [if_pos hm1])
    have z1 : decide (s.made < 0) = true := decide_eq_true hm1
    clear HK HF HR hm1
    generalize s.l.length = n at *
    generalize s.made = md at *
    go_enter Tryz.func20, Tryz.ntmps20
    go_wp2_with fail
    go_ret
    exact ⟨by rw [HR2.out]; rfl, HB0.out⟩
  · have z1 : decide (s.made < 0) = false := decide_eq_false hm1
    by_cases hm2 : 1099511627776 < s.made
    · have HR2 : Hid (r = 2) := Lib.hid (by rw [← HR.out]; unfold checkS; rw [if_neg hm1, if_pos hm2])
      have z2 : decide (1099511627776 < s.made) = true := decide_eq_true hm2
      clear HK HF HR hm1 hm2
      generalize s.l.length = n at *
      generalize s.made = md at *
      go_enter Tryz.func20, Tryz.ntmps20
      go_wp2_with fail
      go_ret
      exact ⟨by rw [HR2.out]; rfl, HB0.out⟩
    · have z2 : decide (1099511627776 < s.made) = false := decide_eq_false hm2
      have HM := Lib.hid (And.intro hm1 hm2)
      clear hm1 hm2
      go_enter Tryz.func20, Tryz.ntmps20
      go_wp2_with fail
      go_loopw [3, 19] (fun lv i wr => ∃ (j : Nat), j ≤ s.l.length ∧ lv = .int .i64 (lastN s.l j) ∧ i = .int .i64 j ∧ Hid (∀ i, i < j → stepT s.made s.l i = true) ∧ Hid (Below (w.alloc (.cells #[.slice o s.l.length cap, .int .i64 s.made] 24)).heap.size (w.alloc (.cells #[.slice o s.l.length cap, .int .i64 s.made] 24)) wr)) (fun _ i _ => s.l.length - (intOf i).toNat)
      case atStart => exact ⟨0, by omega, rfl, rfl, Lib.hid (fun i hi => absurd hi (by omega)), Lib.hid (Below.refl _ _)⟩
      case round =>
        obtain ⟨j, hj, rfl, rfl, hA, hB⟩ := hrel
        have hBw : Below w.heap.size w wr := HB0.out.trans (hB.out.mono HB0.out.size)
        have hbx := (hB.out.block w.heap.size (by simp)).trans (World.alloc_heap_new w (.cells #[.slice o s.l.length cap, .int .i64 s.made] 24))
        have b1 : wr.cell? ⟨w.heap.size, 1, none⟩ = some (.int .i64 s.made) := cell_below hB.out _ _ (by simp)
        by_cases hlt : j < s.l.length
        · obtain rfl := ho (by omega)
          obtain ⟨o1, c1, q0, q1, q2, ht⟩ := isTat_three (isTat_below hBw (HK.out j hlt))
          have hth := HF.out _ (List.getElem_mem hlt)
          obtain ⟨_, _, _, hgs, hp1, hp2⟩ := isTh_three ht
          have HN : Hid (∀ w1, Calls Tryz.prog 18 #[.string s.l[j].ph] w1 fun e w' => e = .returned (.tuple #[.int .i64 (numL s.l[j].ph).1, .bool (numL s.l[j].ph).2]) ∧ w1 = w') := Lib.hid fun w1 => Number_any _ hp1 w1
          have hstep : stepT s.made s.l j = ((numL s.l[j].ph).2 && (decide (lastN s.l j < (numL s.l[j].ph).1) && (decide ((numL s.l[j].ph).1 ≤ s.made) && decide (wrongL s.l[j].ty s.l[j].ps = 0)))) := by unfold stepT; rw [getD_t hlt]
          have hlast : lastN s.l (j + 1) = (numL s.l[j].ph).1 := by show (numL (s.l.getD j zTh).ph).1 = _; rw [getD_t hlt]
          have HA1 : Hid (KB wr (wr.alloc (.cells #[.string s.l[j].ph, .string s.l[j].ty, .slice o1 s.l[j].ps.length c1] 52))) := Lib.hid kbA
          have HW : Hid (∀ w1, KB wr w1 → Calls Tryz.prog 25 #[.string s.l[j].ty, .slice o1 s.l[j].ps.length c1] w1 fun e w' => e = .returned (.int .i64 (wrongL s.l[j].ty s.l[j].ps)) ∧ KB wr w') := Lib.hid fun w1 hK => Calls.kb hK (wrong10_any _ _ _ w1 ((HE.out.kb hBw).kb hK) hth.1 hth.2 (isGs_below hK (by
            obtain ⟨pv, e, hg, _⟩ := ht
            simp only [Value.agg.injEq, Array.mk.injEq, List.cons.injEq, true_and, and_true] at e
            rw [e]; exact hg)))
          have b1 := cell_below HA1.out _ _ b1
          obtain ⟨N, hN⟩ : ∃ N, (numL s.l[j].ph).1 = N := ⟨_, rfl⟩
          obtain ⟨K, hK⟩ : ∃ K, (numL s.l[j].ph).2 = K := ⟨_, rfl⟩
          obtain ⟨X, hX⟩ : ∃ X, wrongL s.l[j].ty s.l[j].ps = X := ⟨_, rfl⟩
          rw [hN, hK, hX] at hstep
          rw [hN] at hlast
          rw [hN, hK] at HN
          rw [hX] at HW
          have HBW := Lib.hid hBw
          clear hN hK hX hth hgs hp1 hp2 ht hbx hBw
          have fin : stepT s.made s.l j = false → r = 2 := fun h => by rw [← HR.out]; exact checkS_no hlt h
          cases K with
          | false =>
            have HR2 : Hid (r = 2) := Lib.hid (fin (by rw [hstep]; rfl))
            clear fin hstep hlast hA
            generalize s.l[j] = t at *
            generalize lastN s.l j = la at *
            go_wp2_with (go_at_call 18; refine (HN.out _).mono ?_; rintro e w5 ⟨rfl, rfl⟩)
            go_ret
            exact ⟨by rw [HR2.out]; rfl, HBW.out.trans (HA1.out.mono HBW.out.size)⟩
          | true =>
            by_cases h1 : lastN s.l j < N
            · by_cases h2 : N ≤ s.made
              · have y1 : decide (N ≤ lastN s.l j) = false := decide_eq_false (by omega)
                have y2 : decide (s.made < N) = false := decide_eq_false (by omega)
                by_cases h3 : X = 0
                · have HST : Hid (∀ i, i < j + 1 → stepT s.made s.l i = true) := Lib.hid fun i hi => by
                    by_cases e : i = j
                    · subst e; rw [hstep, decide_eq_true h1, decide_eq_true h2, decide_eq_true h3]; rfl
                    · exact hA.out i (by omega)
                  subst h3
                  have HLA := Lib.hid hlast
                  clear fin hstep hlast hA h1 h2
                  generalize s.l[j] = t at *
                  generalize lastN s.l j = la at *
                  go_wp2_with (first
                    | (go_at_call 18; refine (HN.out _).mono ?_; rintro e w5 ⟨rfl, rfl⟩)
                    | (go_at_call 25; refine (HW.out _ HA1.out).mono ?_; rintro e w6 ⟨rfl, hb6⟩))
                  go_roundw
                  case rel => exact ⟨j + 1, by omega, by rw [HLA.out], by go_num, HST, Lib.hid (hB.out.trans (hb6.mono hB.out.size))⟩
                  case measure => simp [intOf]; omega
                · have HR2 : Hid (r = 2) := Lib.hid (fin (by rw [hstep, decide_eq_false h3]; simp))
                  have y3 : (X == 0) = false := beqI h3
                  have y4 : (X != 0) = true := bne_iff_ne.2 h3
                  clear fin hstep hlast hA h1 h2 h3
                  generalize s.l[j] = t at *
                  generalize lastN s.l j = la at *
                  go_wp2_with (first
                    | (go_at_call 18; refine (HN.out _).mono ?_; rintro e w5 ⟨rfl, rfl⟩)
                    | (go_at_call 25; refine (HW.out _ HA1.out).mono ?_; rintro e w6 ⟨rfl, hb6⟩))
                  go_ret
                  exact ⟨by rw [HR2.out]; rfl, HBW.out.trans (hb6.mono HBW.out.size)⟩
              · have HR2 : Hid (r = 2) := Lib.hid (fin (by rw [hstep, decide_eq_false h2]; simp))
                have y1 : decide (N ≤ lastN s.l j) = false := decide_eq_false (by omega)
                have y2 : decide (s.made < N) = true := decide_eq_true (by omega)
                clear fin hstep hlast hA h1 h2
                generalize s.l[j] = t at *
                generalize lastN s.l j = la at *
                go_wp2_with (go_at_call 18; refine (HN.out _).mono ?_; rintro e w5 ⟨rfl, rfl⟩)
                go_ret
                exact ⟨by rw [HR2.out]; rfl, HBW.out.trans (HA1.out.mono HBW.out.size)⟩
            · have HR2 : Hid (r = 2) := Lib.hid (fin (by rw [hstep, decide_eq_false h1]; simp))
              have y1 : decide (N ≤ lastN s.l j) = true := decide_eq_true (by omega)
              clear fin hstep hlast hA h1
              generalize s.l[j] = t at *
              generalize lastN s.l j = la at *
              go_wp2_with (go_at_call 18; refine (HN.out _).mono ?_; rintro e w5 ⟨rfl, rfl⟩)
              go_ret
              exact ⟨by rw [HR2.out]; rfl, HBW.out.trans (HA1.out.mono HBW.out.size)⟩
        · obtain rfl : j = s.l.length := by omega
          have HRES : Hid (r = 0) := Lib.hid (by rw [← HR.out, checkS_ok]; exact ⟨by have := HM.out.1; omega, by have := HM.out.2; omega, hA.out⟩)
          clear hbx
          go_wp2_with fail
          go_ret
          exact ⟨by rw [HRES.out]; rfl, hBw⟩
end Go.Proofs.YtdckldfekepopaaGreatDoor
