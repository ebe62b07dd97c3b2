/-
  The reference's sorted: its world, and the case of a list. · The reference's Equal of two values that a type holds. · What differs of two rows of properties, by the reference. · The reference's Differ.
-/
import Derived.Test.YtdckldfekepopaaGreatDoorZ0
import Derived.Test.YtdckldfekepopaaGreatDoorU0
import Derived.Test.YtdckldfekepopaaGreatDoorWQ
import Derived.Test.YtdckldfekepopaaGreatDoorZX
import Derived.Test.YtdckldfekepopaaGreatDoorZY
import Derived.Test.YtdckldfekepopaaGreatDoorU1
set_option linter.unusedVariables false
set_option linter.unusedSimpArgs false
namespace Go.Proofs.YtdckldfekepopaaGreatDoor
open Go.RowKit Go.Shelf

/-- What a sorting of a part gives. -/
def SortC (x : V) (u : Value) (w1 : World) : Prop :=
  Calls Tryz.prog 73 #[u] w1 fun e w' => ∃ v', e = .returned v' ∧ isVa w' (fun q => w1.heap.size ≤ q) (psortV x) v' ∧ Below w1.heap.size w1 w'

theorem box_set4 {w : World} {b : Nat} {c0 c1 c2 c3 c4 c5 : Value} {t : TypeId} (u : Value) (h : w.heap[b]? = some (.cells #[c0, c1, c2, c3, c4, c5] t (0, 0))) :
    ∃ y, ((∃ u, w.cell? ⟨b, 4, none⟩ = some u) ∧ w.frozen? ⟨b, 4, none⟩ = false ∧ w.setCell ⟨b, 4, none⟩ u = y) ∧ y.heap[b]? = some (.cells #[c0, c1, c2, c3, u, c5] t (0, 0)) ∧ w.grownBy y (some b) := by
  have h1 : (w.setCell ⟨b, 4, none⟩ u).heap[b]? = some (.cells #[c0, c1, c2, c3, u, c5] t (0, 0)) := by simp [World.setCell, Array.getElem?_modify, h]
  have g1 := rowIs_six h
  exact ⟨_, ⟨⟨_, g1.cell (show 4 < 6 by decide)⟩, g1.frozen _, rfl⟩, h1, grown_set _ _ _ _⟩
theorem box_set5 {w : World} {b : Nat} {c0 c1 c2 c3 c4 c5 : Value} {t : TypeId} (u : Value) (h : w.heap[b]? = some (.cells #[c0, c1, c2, c3, c4, c5] t (0, 0))) :
    ∃ y, ((∃ u, w.cell? ⟨b, 5, none⟩ = some u) ∧ w.frozen? ⟨b, 5, none⟩ = false ∧ w.setCell ⟨b, 5, none⟩ u = y) ∧ y.heap[b]? = some (.cells #[c0, c1, c2, c3, c4, u] t (0, 0)) ∧ w.grownBy y (some b) := by
  have h1 : (w.setCell ⟨b, 5, none⟩ u).heap[b]? = some (.cells #[c0, c1, c2, c3, c4, u] t (0, 0)) := by simp [World.setCell, Array.getElem?_modify, h]
  have g1 := rowIs_six h
  exact ⟨_, ⟨⟨_, g1.cell (show 5 < 6 by decide)⟩, g1.frozen _, rfl⟩, h1, grown_set _ _ _ _⟩

/-- Where the parts lie: apart from both rows of the call's own. -/
def Apt (w : World) (ol : Option Addr) (n cl : Nat) (ok : Option Addr) (m ck : Nat) (q : Nat) : Prop := w.heap.size + 3 ≤ q ∧ some q ≠ (Value.slice ol n cl).ownBlock ∧ some q ≠ (Value.slice ok m ck).ownBlock
/-- What lies there between two rounds: the value's box, the result's cell, what is gathered. -/
def SGx (w : World) (cs zs : Array Value) (c0 c1 c2 c3 : Value) (L : List V) (K : List ByteArray) (ol : Option Addr) (cl : Nat) (ok : Option Addr) (ck : Nat) (xs : List Value) (wr : World) : Prop :=
  Below w.heap.size w wr ∧ wr.heap[w.heap.size]? = some (.cells cs 64 (0, 0)) ∧ wr.heap[w.heap.size + 1]? = some (.cells zs 64 (0, 0)) ∧
  wr.heap[w.heap.size + 1 + 1]? = some (.cells #[c0, c1, c2, c3, .slice ol L.length cl, .slice ok K.length ck] 64 (0, 0)) ∧
  wr.ownsRow (w.heap.size + 3) 64 6 (.slice ol L.length cl) L.length xs ∧ wr.ownsRow (w.heap.size + 3) 9 1 (.slice ok K.length ck) K.length (K.map Value.string) ∧
  isVsLa wr (Apt w ol L.length cl ok K.length ck) L xs
def SG (w : World) (cs zs : Array Value) (c0 c1 c2 c3 : Value) (L : List V) (K : List ByteArray) (wr : World) : Prop := ∃ ol cl ok ck xs, SGx w cs zs c0 c1 c2 c3 L K ol cl ok ck xs wr
theorem own_high {w : World} {base : Nat} {e : TypeId} {sz n : Nat} {v : Value} {xs : List Value} (h : w.ownsRow base e sz v n xs) {q : Nat} (hq : some q = v.ownBlock) : base ≤ q ∧ q < w.heap.size := h.lt q hq.symm
/-- Rows of two types are apart. -/
theorem own_apart {w : World} {b1 b2 : Nat} {e1 e2 : TypeId} {s1 s2 n1 n2 : Nat} {v1 v2 : Value} {xs ys : List Value} (h : w.ownsRow b1 e1 s1 v1 n1 xs) (k : w.ownsRow b2 e2 s2 v2 n2 ys) (hne : e1 ≠ e2) : v1.ownBlock = none ∨ v1.ownBlock ≠ v2.ownBlock := by
  rcases h.2 with ⟨rfl, _⟩ | ⟨g, cap, cur, rfl, _, r, _⟩
  · exact .inl rfl
  · refine .inr fun e => ?_
    rcases k.2 with ⟨rfl, _⟩ | ⟨g', cap', cur', rfl, _, r', _⟩
    · cases e
    · simp only [Value.ownBlock, Option.some.injEq] at e
      subst e
      rw [r] at r'
      simp only [Option.some.injEq, Obj.cells.injEq] at r'
      exact hne r'.2.1
theorem SGx.below {w wr wr' : World} {cs zs : Array Value} {c0 c1 c2 c3 : Value} {L : List V} {K : List ByteArray} {ol ok : Option Addr} {cl ck : Nat} {xs : List Value} (h : SGx w cs zs c0 c1 c2 c3 L K ol cl ok ck xs wr) (hb : Below wr.heap.size wr wr') : SGx w cs zs c0 c1 c2 c3 L K ol cl ok ck xs wr' := by
  obtain ⟨h1, h2, h3, h4, h5, h6, h7⟩ := h
  have hg : wr.grownBy wr' none := grown_bel hb
  refine ⟨h1.trans (hb.mono h1.size), ?_, ?_, ?_, h5.kept hg (by cases (Value.slice ol L.length cl).ownBlock <;> simp), h6.kept hg (by cases (Value.slice ok K.length ck).ownBlock <;> simp), la_keep (fun a c _ hc => cell_below hb _ _ hc) _ _ h7⟩
  · exact (hb.block _ (Array.getElem?_eq_some_iff.1 h2).1).trans h2
  · exact (hb.block _ (Array.getElem?_eq_some_iff.1 h3).1).trans h3
  · exact (hb.block _ (Array.getElem?_eq_some_iff.1 h4).1).trans h4
/-- One more part behind the others. -/
theorem SGx.push {w wr w8 y : World} {cs zs : Array Value} {c0 c1 c2 c3 : Value} {L : List V} {K : List ByteArray} {ol ok o' : Option Addr} {cl ck c' : Nat} {xs : List Value} {x : V} {d0 d1 d2 d3 d4 d5 : Value} {B : Nat → Prop}
    (h : SGx w cs zs c0 c1 c2 c3 L K ol cl ok ck xs wr) (hx : isVa wr B x (.agg #[d0, d1, d2, d3, d4, d5])) (hB : ∀ q, B q → Apt w ol L.length cl ok K.length ck q)
    (hown : w8.ownsRow (w.heap.size + 3) 64 6 (.slice o' (L.length + 1) c') (L.length + 1) (xs ++ [d0, d1, d2, d3, d4, d5])) (hg : wr.grownBy w8 (Value.slice ol L.length cl).ownBlock)
    (hat : (Value.slice o' (L.length + 1) c').ownBlock = (Value.slice ol L.length cl).ownBlock ∨ (Value.slice o' (L.length + 1) c').ownBlock = some wr.heap.size)
    (hy : y.heap[w.heap.size + 1 + 1]? = some (.cells #[c0, c1, c2, c3, .slice o' (L.length + 1) c', .slice ok K.length ck] 64 (0, 0))) (hgy : w8.grownBy y (some (w.heap.size + 1 + 1))) :
    SG w cs zs c0 c1 c2 c3 (L ++ [x]) K y := by
  obtain ⟨h1, h2, h3, h4, h5, h6, h7⟩ := h
  have hz : w.heap.size + 1 + 1 < wr.heap.size := (Array.getElem?_eq_some_iff.1 h4).1
  have hlen : (L ++ [x]).length = L.length + 1 := by simp
  have hrow : ∀ q, q < w.heap.size + 3 → some q ≠ (Value.slice ol L.length cl).ownBlock := fun q hq e => by have := own_high h5 e; omega
  have hkrow : ∀ q, q < w.heap.size + 3 → some q ≠ (Value.slice ok K.length ck).ownBlock := fun q hq e => by have := own_high h6 e; omega
  have key : ∀ a c, (Apt w ol L.length cl ok K.length ck a.block ∧ a.block < wr.heap.size) → wr.cell? a = some c → y.cell? a = some c := fun a c hq hc => hgy.cell (hg.cell hc hq.1.2.1) (fun e => by have := Option.some.inj e; have := hq.1.1; omega)
  refine ⟨o', c', ok, ck, xs ++ [d0, d1, d2, d3, d4, d5], (h1.grown hg h1.size (fun r e => by have := h5.lt r e; omega)).grown hgy (by have := h1.size; have := hg.size; omega) (fun r e => by cases e; omega), ?_, ?_, ?_, ?_, ?_, ?_⟩
  · exact (hgy.block _ (by have := hg.size; omega) (fun e => by have := Option.some.inj e; omega)).trans ((hg.block _ (by omega) (hrow _ (by omega))).trans h2)
  · exact (hgy.block _ (by have := hg.size; omega) (fun e => by have := Option.some.inj e; omega)).trans ((hg.block _ (by omega) (hrow _ (by omega))).trans h3)
  · rw [hlen]; exact hy
  · rw [hlen]
    exact hown.kept hgy (.inr fun e => by have := hown.lt _ e; omega)
  · refine (h6.kept hg ?_).kept hgy (.inr fun e => by have := h6.lt _ e; omega)
    exact own_apart h6 h5 (by decide)
  · rw [hlen]
    have hS : ∀ q, (Apt w ol L.length cl ok K.length ck q ∧ q < wr.heap.size) → Apt w o' (L.length + 1) c' ok K.length ck q := fun q hq => ⟨hq.1.1, fun e => by
      rcases hat with e' | e'
      · exact hq.1.2.1 (e.trans e')
      · have := Option.some.inj (e.trans e'); omega, hq.1.2.2⟩
    refine la_mono hS _ _ (la_app _ _ _ _ (la_keep key _ _ (la_lt _ _ h7)) (la_single (isVa_keep key _ _ (isVa_mono (fun q hq => ⟨hB q hq.1, hq.2⟩) _ _ (isVa_lt _ _ hx)))))

/-- What is gathered is a value. -/
theorem SGx.result {w wr y : World} {cs zs : Array Value} {k n : Int} {b : Bool} {s : ByteArray} {L : List V} {K : List ByteArray} {ol ok : Option Addr} {cl ck : Nat} {xs : List Value} (h : SGx w cs zs (.int .i8 k) (.bool b) (.int .i64 n) (.string s) L K ol cl ok ck xs wr) (hg : wr.grownBy y (some (w.heap.size + 1)))
    (hk : -128 ≤ k ∧ k ≤ 127) (hn : -9223372036854775808 ≤ n ∧ n ≤ 9223372036854775807) (hs : s.size ≤ maxLen) (hK : ∀ q ∈ K, q.size ≤ maxLen) :
    isVa y (fun q => w.heap.size ≤ q) (.mk k b n s L K) (.agg #[.int .i8 k, .bool b, .int .i64 n, .string s, .slice ol L.length cl, .slice ok K.length ck]) := by
  obtain ⟨h1, h2, h3, h4, h5, h6, h7⟩ := h
  have h5' := h5.kept hg (.inr fun e => by have := h5.lt _ e; omega)
  have h6' := h6.kept hg (.inr fun e => by have := h6.lt _ e; omega)
  have h7' := la_mono (S' := fun q => w.heap.size ≤ q) (fun q hq => by have := hq.1; omega) _ _ (la_keep (fun a c hq hc => hg.cell hc (fun e => by have := Option.some.inj e; have := hq.1; omega)) _ _ h7)
  obtain ⟨o, ad, c, e1, e2, e3, e4, e5, e6⟩ := own_form h5'
  obtain ⟨o2, ad2, c2, f1, f2, f3, f4, f5, f6⟩ := own_form h6'
  simp only [Value.slice.injEq, true_and] at e1 f1
  obtain ⟨rfl, rfl⟩ := e1
  obtain ⟨rfl, rfl⟩ := f1
  unfold isVa
  refine ⟨_, _, rfl, hk, hn, hs, ⟨ad, cl, ⟨ol, rfl, e2, e3, e4⟩, fun h0 => ?_, la_vas L xs ad h7' e6⟩, ⟨ad2, ck, ⟨ok, rfl, f2, f3, f4⟩, fun h0 => ?_, fun i hi => ⟨f6 i _ (by rw [List.getElem?_map, List.getElem?_eq_getElem hi]; rfl), hK _ (List.getElem_mem hi)⟩⟩⟩
  · have e := e4 h0
    subst e
    have := h5.lt ad.block rfl
    omega
  · have e := f4 h0
    subst e
    have := h6.lt ad2.block rfl
    omega
theorem SGx.bel {w wr y : World} {cs zs : Array Value} {c0 c1 c2 c3 : Value} {L : List V} {K : List ByteArray} {ol ok : Option Addr} {cl ck : Nat} {xs : List Value} (h : SGx w cs zs c0 c1 c2 c3 L K ol cl ok ck xs wr) (hg : wr.grownBy y (some (w.heap.size + 1))) : Below w.heap.size w y :=
  h.1.grown hg h.1.size (fun r e => by cases e; omega)
/-- A list is sorted part by part; what has no part is sorted. -/
theorem psort_list {k n : Int} {b : Bool} {s : ByteArray} {l : List V} (hk : k = 4 ∨ l = []) (ho : onceV (.mk k b n s l [])) : psortV (.mk k b n s l []) = .mk k b n s (l.map psortV) [] := by
  refine (psort_eq (SortR.mk k b n s l [] (l.map psortV) [] (List.range l.length) ⟨List.Perm.refl _, fun _ => rfl, fun h i j hi hj => ?_⟩ (by simp) (fun i h => ?_) ?_) ho).symm
  · rcases hk with e | e
    · have : k = 5 := h
      omega
    · subst e; simp at hj
  · have hi : i < l.length := by simpa using h
    have e : (List.range l.length).getD i 0 = i := by rw [List.getD, List.getElem?_range hi]; rfl
    rw [e, getD_lt _ _ _ hi, List.getElem_map]
    exact sort_p _
  · split
    · rcases hk with e | e
      · omega
      · subst e; rfl
    · rfl

set_option maxRecDepth 100000 in
set_option maxHeartbeats 8000000 in
theorem rsorted4 (k : Int) (b : Bool) (n : Int) (s : ByteArray) (l : List V) (hk4 : k = 4 ∨ l = []) (v : Value) (w : World) (h : isV w (.mk k b n s l []) v) (hll : l.length ≤ 1000000)
    (IH : Hid (∀ i (hi : i < l.length) u w1, KB w w1 → isV w1 l[i] u → SortC l[i] u w1)) (ho4 : onceV (.mk k b n s l [])) : SortC (.mk k b n s l []) v w := by
  have HX := Lib.hid h
  unfold isV at h
  obtain ⟨lv, kv, rfl, hk, hn, hs, ⟨a, cap, ⟨o, rfl, hc1, hc2, ho⟩, hvs⟩, ⟨a2, cap2, ⟨o2, rfl, hc3, hc4, ho2⟩, hks⟩⟩ := h
  have HV := Lib.hid hvs
  have HN := Lib.hid (And.intro hk (And.intro hn hs))
  have HK4 := Lib.hid hk4
  unfold maxLen at hs hc2 hc4
  obtain ⟨i0, hi, hz0, hz1, hz2⟩ := info_parts infoV
  clear hvs hks hn hk hk4
  obtain ⟨cs, hcs⟩ : ∃ cs : Array Value, #[.int .i8 k, .bool b, .int .i64 n, .string s, .slice o l.length cap, .slice o2 ([] : List ByteArray).length cap2] = cs := ⟨_, rfl⟩
  have hsg : SGx w #[.int .i8 k, .bool b, .int .i64 n, .string s, .slice o l.length cap, .slice o2 ([] : List ByteArray).length cap2] #[.int .i8 0, .bool false, .int .i64 0, .string ⟨#[]⟩, .slice none 0 0, .slice none 0 0] (.int .i8 k) (.bool b) (.int .i64 n) (.string s) [] [] none 0 none 0 []
      (((w.alloc (.cells #[.int .i8 k, .bool b, .int .i64 n, .string s, .slice o l.length cap, .slice o2 ([] : List ByteArray).length cap2] 64)).alloc (.cells #[.int .i8 0, .bool false, .int .i64 0, .string ⟨#[]⟩, .slice none 0 0, .slice none 0 0] 64)).alloc (.cells #[.int .i8 k, .bool b, .int .i64 n, .string s, .slice none 0 0, .slice none 0 0] 64)) := by
    refine ⟨by go_grown, ?_, ?_, ?_, World.ownsRow_nil _ _ _ _, World.ownsRow_nil _ _ _ _, rfl⟩
    · exact (Below.heap_alloc _ _ _ (by simp; omega)).trans ((Below.heap_alloc _ _ _ (by simp)).trans (World.alloc_heap_new w _))
    · have := World.alloc_heap_new (w.alloc (.cells #[.int .i8 k, .bool b, .int .i64 n, .string s, .slice o l.length cap, .slice o2 ([] : List ByteArray).length cap2] 64)) (.cells #[.int .i8 0, .bool false, .int .i64 0, .string ⟨#[]⟩, .slice none 0 0, .slice none 0 0] 64)
      rw [World.size_alloc] at this
      exact (Below.heap_alloc _ _ _ (by simp)).trans this
    · have := World.alloc_heap_new ((w.alloc (.cells #[.int .i8 k, .bool b, .int .i64 n, .string s, .slice o l.length cap, .slice o2 ([] : List ByteArray).length cap2] 64)).alloc (.cells #[.int .i8 0, .bool false, .int .i64 0, .string ⟨#[]⟩, .slice none 0 0, .slice none 0 0] 64)) (.cells #[.int .i8 k, .bool b, .int .i64 n, .string s, .slice none 0 0, .slice none 0 0] 64)
      rw [World.size_alloc, World.size_alloc] at this
      exact this
  clear hcs
  unfold SortC
  go_enter Tryz.func73, Tryz.ntmps73
  go_wp2_with fail
  have HSG := Lib.hid hsg
  clear hsg
  simp only [List.length_nil] at HSG
  generalize hW1 : ((w.alloc (.cells #[.int .i8 k, .bool b, .int .i64 n, .string s, .slice o l.length cap, .slice o2 0 cap2] 64)).alloc (.cells #[.int .i8 0, .bool false, .int .i64 0, .string ⟨#[]⟩, .slice none 0 0, .slice none 0 0] 64)).alloc (.cells #[.int .i8 k, .bool b, .int .i64 n, .string s, .slice none 0 0, .slice none 0 0] 64) = W1 at *
  clear hW1
  go_loopw [4] (fun i wr => ∃ j : Nat, j ≤ l.length ∧ i = .int .i64 j ∧ Hid (SG w #[.int .i8 k, .bool b, .int .i64 n, .string s, .slice o l.length cap, .slice o2 0 cap2] #[.int .i8 0, .bool false, .int .i64 0, .string ⟨#[]⟩, .slice none 0 0, .slice none 0 0] (.int .i8 k) (.bool b) (.int .i64 n) (.string s) ((l.take j).map psortV) [] wr)) (fun i _ => l.length - (intOf i).toNat)
  case atStart => exact ⟨0, by omega, rfl, Lib.hid ⟨_, _, _, _, _, HSG.out⟩⟩
  case round =>
    obtain ⟨j, hj, rfl, hR⟩ := hrel
    obtain ⟨ol, cl, ok, ck, xs, hS⟩ := hR.out
    have HLL : Hid (((l.take j).map psortV).length = j) := Lib.hid (by simp; omega)
    obtain ⟨r0, r1, r2, r3, r4, r5⟩ := six_cells hS.2.1
    obtain ⟨q0, q1, q2, q3, q4, q5⟩ := six_cells hS.2.2.2.1
    have hzw := (Array.getElem?_eq_some_iff.1 hS.2.2.2.1).1
    by_cases hlt : j < l.length
    · obtain rfl : k = 4 := HK4.out.resolve_right (fun e => by subst e; simp at hlt)
      have b1 : decide ((j : Int) < (l.length : Int)) = true := decide_eq_true (by omega)
      obtain rfl := ho (by omega)
      obtain ⟨k1', b1', n1', s1', o1', m1', p1', o2', m2', p2', g0, g1, g2, g3, g4, g5, hx⟩ := isVs_sl l a j hlt (isVs_keep (cell_below hS.1) l _ HV.out)
      have HC := Lib.hid (IH.out j hlt _ wr hS.1 hx)
      have hnx : (l.take (j + 1)).map psortV = (l.take j).map psortV ++ [psortV l[j]] := by rw [List.take_succ_eq_append_getElem hlt, List.map_append]; rfl
      have HNX := Lib.hid hnx
      have HS := Lib.hid hS
      clear hx hnx hS hR
      generalize l[j] = xe at *
      generalize (l.take j).map psortV = L at *
      go_wp2_with fail
      refine HC.out.mono ?_
      rintro e w7 ⟨v', rfl, hv', hb7⟩
      have hS7 := HS.out.below hb7
      have hB7 : ∀ q, wr.heap.size ≤ q → Apt w ol L.length cl ok ([] : List ByteArray).length ck q := fun q hq => ⟨by omega, fun e => by have := own_high HS.out.2.2.2.2.1 e; omega, fun e => by have := own_high HS.out.2.2.2.2.2.1 e; omega⟩
      have HB7 := Lib.hid hB7
      have hzz := hb7.size
      obtain ⟨k6, b6, n6, s6, o6, m6, p6, o7, m7, p7, rfl⟩ := isV_six (isV_of_a _ _ hv')
      clear HC HS hb7 hB7 r0 r1 r2 r3 r4 r5 q0 q1 q2 q3 q4 q5 g0 g1 g2 g3 g4 g5
      have hb1 : Below w7.heap.size w7 (w7.alloc (.cells #[.int .i8 k6, .bool b6, .int .i64 n6, .string s6, .slice o6 m6 p6, .slice o7 m7 p7] 64)) := by go_grown
      obtain ⟨r0, r1, r2, r3, r4, r5⟩ := six_cells (hS7.below hb1).2.1
      obtain ⟨q0, q1, q2, q3, q4, q5⟩ := six_cells (hS7.below hb1).2.2.2.1
      obtain ⟨t0, t1, t2, t3, t4, t5⟩ := six_cells (World.alloc_heap_new w7 (.cells #[.int .i8 k6, .bool b6, .int .i64 n6, .string s6, .slice o6 m6 p6, .slice o7 m7 p7] 64))
      have hbl : Below w7.heap.size w7 ((w7.alloc (.cells #[.int .i8 k6, .bool b6, .int .i64 n6, .string s6, .slice o6 m6 p6, .slice o7 m7 p7] 64)).alloc (.cells #[.int .i8 k6, .bool b6, .int .i64 n6, .string s6, .slice o6 m6 p6, .slice o7 m7 p7] 64)) := by go_grown
      have HS9 := Lib.hid (hS7.below hbl)
      have HV9 := Lib.hid (isVa_keep (fun a c _ hc => cell_below hbl _ _ hc) _ _ hv')
      have hz1' : (w7.alloc (.cells #[.int .i8 k6, .bool b6, .int .i64 n6, .string s6, .slice o6 m6 p6, .slice o7 m7 p7] 64)).heap.size = w7.heap.size + 1 := by simp
      have hnews := (World.ownsRow_lit (base := 0) (e := 64) (size := 6) (w7.alloc (.cells #[.int .i8 k6, .bool b6, .int .i64 n6, .string s6, .slice o6 m6 p6, .slice o7 m7 p7] 64)) #[.int .i8 k6, .bool b6, .int .i64 n6, .string s6, .slice o6 m6 p6, .slice o7 m7 p7] 1 (Nat.zero_le _) (by unfold maxLen; omega) rfl).cells rfl
      rw [hz1'] at hnews
      have HNEWS := Lib.hid hnews
      have HZ9 : Hid (w.heap.size + 3 ≤ ((w7.alloc (.cells #[.int .i8 k6, .bool b6, .int .i64 n6, .string s6, .slice o6 m6 p6, .slice o7 m7 p7] 64)).alloc (.cells #[.int .i8 k6, .bool b6, .int .i64 n6, .string s6, .slice o6 m6 p6, .slice o7 m7 p7] 64)).heap.size) := Lib.hid (by simp; omega)
      have HONE := Lib.hid (isV_one (isV_of_a _ _ hv'))
      clear hbl hz1' hnews hv' hb1
      go_wp2_with (at_builtin; refine wpList_append_row_at rfl _ _ 61 rfl (w.heap.size + 3) 64 i0 _ 6 80 Tryz.underlying61 hi hz0 hz1 hz2 rfl (by decide) _ _ _ rfl HS9.out.2.2.2.2.1 _ _ _ _ [.int .i8 k6, .bool b6, .int .i64 n6, .string s6, .slice o6 m6 p6, .slice o7 m7 p7] rfl (fun _ => rfl) rfl HNEWS.out HONE.out ?c3 ?c4 HZ9.out ?_)
      case c3 => have := HLL.out; unfold maxLen; omega
      case c4 => have := HLL.out; omega
      intro o' c' w8 hown' hgrow hat
      have hb8 := (hgrow.block (w.heap.size + 1 + 1) (Array.getElem?_eq_some_iff.1 HS9.out.2.2.2.1).1 (fun e => by have := own_high HS9.out.2.2.2.2.1 e; omega)).trans HS9.out.2.2.2.1
      obtain ⟨y, ⟨⟨_, f1⟩, f2, f3⟩, hy, hgy⟩ := box_set4 (.slice o' (L.length + 1) c') hb8
      have HSG := Lib.hid (SGx.push HS9.out HV9.out HB7.out hown' hgrow (by rw [World.size_alloc, World.size_alloc]; exact hat) hy hgy)
      clear hb8 hy hgy hown' hgrow hat
      go_wp2_with fail
      go_roundw
      case rel => exact ⟨j + 1, by omega, by go_num, Lib.hid (by rw [HNX.out]; exact HSG.out)⟩
      case measure => simp [intOf]; omega
    · obtain rfl : j = l.length := by omega
      rw [List.take_length] at *
      obtain ⟨x1, x2, x3, x4, x5, x6, f', ⟨⟨_, t1⟩, t1', t1''⟩, ⟨⟨_, t2⟩, t2', t2''⟩, ⟨⟨_, t3⟩, t3', t3''⟩, ⟨⟨_, t4⟩, t4', t4''⟩, ⟨⟨_, t5⟩, t5', t5''⟩, ⟨⟨_, t6⟩, t6', t6''⟩, hf7, hg7, e0, e1, e2, e3, e4, e5, -⟩ := store_six (rowIs_six hS.2.2.1) 0 (by decide) (.int .i8 k) (.bool b) (.int .i64 n) (.string s) (.slice ol (l.map psortV).length cl) (.slice ok 0 ck) (by intro u hu; simp only [List.mem_cons, List.not_mem_nil, or_false] at hu; rcases hu with rfl | rfl | rfl | rfl | rfl | rfl <;> rfl)
      simp only [Nat.zero_add] at t2 t2' t2'' t3 t3' t3'' t4 t4' t4'' t5 t5' t5'' t6 t6' t6'' e1 e2 e3 e4 e5
      have d0 := hf7.cell (show 0 < 6 by decide)
      have d1 := hf7.cell (show 1 < 6 by decide)
      have d2 := hf7.cell (show 2 < 6 by decide)
      have d3 := hf7.cell (show 3 < 6 by decide)
      have d4 := hf7.cell (show 4 < 6 by decide)
      have d5 := hf7.cell (show 5 < 6 by decide)
      rw [e0] at d0
      rw [e1] at d1
      rw [e2] at d2
      rw [e3] at d3
      rw [e4] at d4
      rw [e5] at d5
      have HD := Lib.hid (And.intro d0 (And.intro d1 (And.intro d2 (And.intro d3 (And.intro d4 d5)))))
      have HEND := Lib.hid (And.intro (hS.result hg7 HN.out.1 HN.out.2.1 HN.out.2.2 (fun q hq => by cases hq)) (hS.bel hg7))
      have HPS := Lib.hid (psort_list HK4.out ho4)
      clear hf7 hg7 e0 e1 e2 e3 e4 e5 d0 d1 d2 d3 d4 d5 hR hS
      generalize l.map psortV = L at *
      have b1 : decide ((l.length : Int) < (l.length : Int)) = false := decide_eq_false (by omega)
      go_wp2_with fail
      obtain ⟨d0, d1, d2, d3, d4, d5⟩ := HD.out
      refine bodyPost_ret (v := .agg #[.int .i8 k, .bool b, .int .i64 n, .string s, .slice ol L.length cl, .slice ok 0 ck]) (by simp [results, Tryz.results73, go_sem, d0, d1, d2, d3, d4, d5]) rfl ?_
      exact ⟨_, rfl, by rw [HPS.out]; exact HEND.out.1, HEND.out.2⟩
end Go.Proofs.YtdckldfekepopaaGreatDoor

namespace Go.Proofs.YtdckldfekepopaaGreatDoor
open Go.RowKit Go.Deep

theorem size_kids' (x : V) : sizeVs x.list + 1 ≤ sizeV x := by
  obtain ⟨k, b, n, s, l, ks⟩ := x
  show sizeVs l + 1 ≤ sizeV (.mk k b n s l ks)
  unfold sizeV
  omega
theorem rsorted_leaf (k n : Int) (s : ByteArray) (v : Value) (w : World) (h : isV w (.mk k false n s [] []) v) (ho : onceV (.mk k false n s [] [])) : SortC (.mk k false n s [] []) v w :=
  rsorted4 k false n s [] (.inr rfl) v w h (by decide) (Lib.hid fun i hi => absurd hi (by simp)) ho
theorem once_leaf (k n : Int) (s : ByteArray) (hk : k ≠ 5) : onceV (.mk k false n s [] []) := by
  intro z hz
  rw [walkV] at hz
  simp [walkVs] at hz
  subst hz
  exact ⟨List.nodup_nil, fun h => absurd h hk⟩
theorem rsorted_held {x : V} (hx : heldP x) (hM : sizeV x ≤ 1000000) (ho : onceV x) (v : Value) (w : World) (h : isV w x v) :
    Calls Tryz.prog 73 #[v] w fun e w' => ∃ v', e = .returned v' ∧ isV w' x v' ∧ Below w.heap.size w w' := by
  have he := (psort_eq (sort_held hx) ho).symm
  have hS : SortC x v w := by
    rcases hx with e | e | ⟨e, e'⟩
    · rw [e] at h ho ⊢
      exact rsorted_leaf 2 x.num ⟨#[]⟩ v w h ho
    · rw [e] at h ho ⊢
      exact rsorted_leaf 3 0 x.text v w h ho
    · have hl : x.list.length ≤ 1000000 := by
        have := sizeVs_len x.list
        have := size_kids' x
        omega
      rw [e] at h ho ⊢
      refine rsorted4 4 false 0 ⟨#[]⟩ x.list (.inl rfl) v w h hl (Lib.hid fun i hi u w1 _ hu => ?_) ho
      have h1 := e' _ (List.getElem_mem hi)
      rw [h1] at hu ⊢
      exact rsorted_leaf 3 0 _ u w1 hu (once_leaf 3 0 _ (by decide))
  refine hS.mono ?_
  rintro e w' ⟨v', rfl, hv, hb⟩
  rw [he] at hv
  exact ⟨v', rfl, isV_of_a _ _ hv, hb⟩
theorem cmp_sm {x y : V} (hx : wrongV x = 0) (hy : wrongV y = 0) : (cmpV x y == 0) = sm x y := by
  by_cases h : x = y
  · subst h
    rw [sm_yes rfl, cmp_self]; rfl
  · rw [sm_no h, beq_eq_false_iff_ne]
    intro e
    exact h (cmp_zero _ _ (okw_of_wrong _ hx) (okw_of_wrong _ hy) e)
section
variable {P : Program} {ops : Array Oper} {md : Region.Mode} {Q : Exit → Act → World → Prop}
/-- Some operations of a region are done. -/
structure AnyL (P : Program) (md : Region.Mode) (ops : Array Oper) (Q : Exit → Act → World → Prop) (g : Nat) (l : Array Bool) (a : Act) (w : World) : Prop where
  out : wpAny P md ops Q g l a w
theorem AnyL.of {k g : Nat} {a : Act} {w : World} (hg : ops.size - k = g) (h : AnyL P md ops Q g (Rn.upTo ops.size k) a w) : Rn.AnyFrom P md ops Q k a w := ⟨by rw [hg]; exact h.out⟩
theorem anyL_op {g n : Nat} {l : Array Bool} {o : Oper} {a : Act} {w : World} (ho : ops[n]? = some o) (h : ∀ K : Act → World → Prop, (∀ a2 w2, AnyL P md ops Q g (l.setIfInBounds n true) a2 w2 → K a2 w2) → if Region.wanted o (yielded ops a.tmps) then o.wp P a w K Q ∨ (o.asks P a w ∧ LetsOut Q) else K (a.put o.dst undef) w) :
    wpOp P ops Q n (wpAny P md ops Q g (l.setIfInBounds n true)) a w := by
  unfold wpOp
  simp only [ho]
  exact h _ (fun a2 w2 h => h.out)
theorem anyL_one {g : Nat} (n : Nat) {l : Array Bool} {o : Oper} {a : Act} {w : World} (hr : Region.ready md ops l = [n]) (ho : ops[n]? = some o) (h : ∀ K : Act → World → Prop, (∀ a2 w2, AnyL P md ops Q g (l.setIfInBounds n true) a2 w2 → K a2 w2) → if Region.wanted o (yielded ops a.tmps) then o.wp P a w K Q ∨ (o.asks P a w ∧ LetsOut Q) else K (a.put o.dst undef) w) :
    AnyL P md ops Q (g + 1) l a w := by
  refine ⟨⟨fun h0 => (by rw [hr] at h0; cases h0), fun i hi => ?_⟩⟩
  rw [hr] at hi
  obtain rfl : i = n := by simpa using hi
  exact anyL_op ho h
theorem anyL_two {g : Nat} (n m : Nat) {l : Array Bool} {o o' : Oper} {a : Act} {w : World} (hr : Region.ready md ops l = [n, m]) (ho : ops[n]? = some o) (ho' : ops[m]? = some o') (h : ∀ K : Act → World → Prop, (∀ a2 w2, AnyL P md ops Q g (l.setIfInBounds n true) a2 w2 → K a2 w2) → if Region.wanted o (yielded ops a.tmps) then o.wp P a w K Q ∨ (o.asks P a w ∧ LetsOut Q) else K (a.put o.dst undef) w)
    (h' : ∀ K : Act → World → Prop, (∀ a2 w2, AnyL P md ops Q g (l.setIfInBounds m true) a2 w2 → K a2 w2) → if Region.wanted o' (yielded ops a.tmps) then o'.wp P a w K Q ∨ (o'.asks P a w ∧ LetsOut Q) else K (a.put o'.dst undef) w) :
    AnyL P md ops Q (g + 1) l a w := by
  refine ⟨⟨fun h0 => (by rw [hr] at h0; cases h0), fun i hi => ?_⟩⟩
  rw [hr] at hi
  rcases List.mem_cons.1 hi with rfl | hi
  · exact anyL_op ho h
  · obtain rfl : i = m := by simpa using hi
    exact anyL_op ho' h'
theorem anyL_done {l : Array Bool} {a : Act} {w : World} (hr : Region.ready md ops l = []) (h : Q .normal a w) : AnyL P md ops Q 0 l a w := ⟨⟨hr, h⟩⟩
end
theorem hkb_drew {W w : World} : Hid (KB W w.drew) ↔ Hid (KB W w) := ⟨fun h => Lib.hid (Below.trans h.out (⟨rfl, rfl, rfl, Nat.le_refl _, fun _ _ => rfl⟩ : Below W.heap.size w.drew w)), fun h => Lib.hid (Below.drew h.out)⟩
set_option maxRecDepth 100000 in
set_option maxHeartbeats 8000000 in
theorem rEqual_any {x y : V} {q q' : Int} (hq : q = 2 ∨ q = 3 ∨ q = 4) (hq' : q' = 2 ∨ q' = 3 ∨ q' = 4) (hx : holdsB x q = true) (hy : holdsB y q' = true) (hM : sizeV x ≤ 1000000) (hM' : sizeV y ≤ 1000000) (v u : Value) (w : World) (h : isV w x v) (h' : isV w y u) :
    Calls Tryz.prog 44 #[v, u] w fun e w' => e = .returned (.bool (sm x y)) ∧ Below w.heap.size w w' := by
  obtain ⟨hpx, hwx, -⟩ := held_form hq hx
  obtain ⟨hpy, hwy, -⟩ := held_form hq' hy
  have hcx : checkV x = 0 := (check_iff x).2 (by unfold holdsB at hx; simp only [Bool.and_eq_true, decide_eq_true_eq] at hx; exact hx.1.2)
  have hcy : checkV y = 0 := (check_iff y).2 (by unfold holdsB at hy; simp only [Bool.and_eq_true, decide_eq_true_eq] at hy; exact hy.1.2)
  obtain ⟨k, b, n, s, o, m, c, o2, m2, c2, rfl⟩ := isV_six h
  obtain ⟨k', b', n', s', o', m', c', o2', m2', c2', rfl⟩ := isV_six h'
  obtain ⟨r, hr⟩ : ∃ r, sm x y = r := ⟨_, rfl⟩
  have HCM := Lib.hid (show (cmpV x y == 0) = r by rw [cmp_sm hwx hwy, hr])
  rw [hr]
  obtain ⟨W2, hW2⟩ : ∃ W2, (w.alloc (.cells #[.int .i8 k, .bool b, .int .i64 n, .string s, .slice o m c, .slice o2 m2 c2] 64)).alloc (.cells #[.int .i8 k', .bool b', .int .i64 n', .string s', .slice o' m' c', .slice o2' m2' c2'] 64) = W2 := ⟨_, rfl⟩
  have hb2 : KB w W2 := by rw [← hW2]; unfold KB; go_grown
  have hn1 : W2.heap[w.heap.size]? = some (.cells #[.int .i8 k, .bool b, .int .i64 n, .string s, .slice o m c, .slice o2 m2 c2] 64 (0, 0)) := by
    rw [← hW2]
    exact (Below.heap_alloc (w.alloc (.cells #[.int .i8 k, .bool b, .int .i64 n, .string s, .slice o m c, .slice o2 m2 c2] 64)) (.cells #[.int .i8 k', .bool b', .int .i64 n', .string s', .slice o' m' c', .slice o2' m2' c2'] 64) w.heap.size (by simp)).trans (World.alloc_heap_new w _)
  have hn2 : W2.heap[w.heap.size + 1]? = some (.cells #[.int .i8 k', .bool b', .int .i64 n', .string s', .slice o' m' c', .slice o2' m2' c2'] 64 (0, 0)) := by
    rw [← hW2]
    have := World.alloc_heap_new (w.alloc (.cells #[.int .i8 k, .bool b, .int .i64 n, .string s, .slice o m c, .slice o2 m2 c2] 64)) (.cells #[.int .i8 k', .bool b', .int .i64 n', .string s', .slice o' m' c', .slice o2' m2' c2'] 64)
    rw [World.size_alloc] at this
    exact this
  have hs2 : w.heap.size + 2 = W2.heap.size := by rw [← hW2]; simp
  have H1 : Hid (∀ w1, KB W2 w1 → Calls Tryz.prog 71 #[.agg #[.int .i8 k, .bool b, .int .i64 n, .string s, .slice o m c, .slice o2 m2 c2]] w1 fun e w' => e = .returned (.int .i64 0) ∧ KB W2 w') := Lib.hid fun w1 hk => by
    have := Calls.kb hk (check_any x _ w1 hM (isV_below (hb2.trans (Below.mono hk hb2.size)) h))
    rwa [hcx] at this
  have H2 : Hid (∀ w1, KB W2 w1 → Calls Tryz.prog 71 #[.agg #[.int .i8 k', .bool b', .int .i64 n', .string s', .slice o' m' c', .slice o2' m2' c2']] w1 fun e w' => e = .returned (.int .i64 0) ∧ KB W2 w') := Lib.hid fun w1 hk => by
    have := Calls.kb hk (check_any y _ w1 hM' (isV_below (hb2.trans (Below.mono hk hb2.size)) h'))
    rwa [hcy] at this
  have H3 : Hid (∀ w1, KB W2 w1 → Calls Tryz.prog 73 #[.agg #[.int .i8 k, .bool b, .int .i64 n, .string s, .slice o m c, .slice o2 m2 c2]] w1 fun e w' => ∃ v', e = .returned v' ∧ Hid (isV w' x v') ∧ KB w1 w' ∧ KB W2 w') := Lib.hid fun w1 hk => by
    refine (rsorted_held hpx hM (once_of_wrong hwx) _ w1 (isV_below (hb2.trans (Below.mono hk hb2.size)) h)).mono ?_
    rintro e w' ⟨v', rfl, hv, hb⟩
    exact ⟨v', rfl, Lib.hid hv, hb, Below.trans hk (hb.mono hk.size)⟩
  have H4 : Hid (∀ w1, KB W2 w1 → Calls Tryz.prog 73 #[.agg #[.int .i8 k', .bool b', .int .i64 n', .string s', .slice o' m' c', .slice o2' m2' c2']] w1 fun e w' => ∃ v', e = .returned v' ∧ Hid (isV w' y v') ∧ KB w1 w' ∧ KB W2 w') := Lib.hid fun w1 hk => by
    refine (rsorted_held hpy hM' (once_of_wrong hwy) _ w1 (isV_below (hb2.trans (Below.mono hk hb2.size)) h')).mono ?_
    rintro e w' ⟨v', rfl, hv, hb⟩
    exact ⟨v', rfl, Lib.hid hv, hb, Below.trans hk (hb.mono hk.size)⟩
  have H5 : Hid (∀ (v u : Value) w1, KB W2 w1 → isV w1 x v → isV w1 y u → Calls Tryz.prog 72 #[v, u] w1 fun e w' => (∃ z : Int, e = .returned (.int .i64 z) ∧ (z == 0) = r) ∧ KB W2 w') := Lib.hid fun v u w1 hk hv hu => by
    refine (Cq.compare_any 1000000 x y v u w1 hM (ok_of_wrong _ hwx) (ok_of_wrong _ hwy) hv hu).mono ?_
    rintro e w' ⟨rfl, hb⟩
    exact ⟨⟨_, rfl, HCM.out⟩, Below.trans hk (hb.mono hk.size)⟩
  have HC : Hid (∀ w1, KB W2 w1 → (w1.cell? ⟨w.heap.size, 0, none⟩ = some (.int .i8 k) ∧ w1.cell? ⟨w.heap.size, 1, none⟩ = some (.bool b) ∧ w1.cell? ⟨w.heap.size, 2, none⟩ = some (.int .i64 n) ∧ w1.cell? ⟨w.heap.size, 3, none⟩ = some (.string s) ∧ w1.cell? ⟨w.heap.size, 4, none⟩ = some (.slice o m c) ∧ w1.cell? ⟨w.heap.size, 5, none⟩ = some (.slice o2 m2 c2)) ∧ (w1.cell? ⟨w.heap.size + 1, 0, none⟩ = some (.int .i8 k') ∧ w1.cell? ⟨w.heap.size + 1, 1, none⟩ = some (.bool b') ∧ w1.cell? ⟨w.heap.size + 1, 2, none⟩ = some (.int .i64 n') ∧ w1.cell? ⟨w.heap.size + 1, 3, none⟩ = some (.string s') ∧ w1.cell? ⟨w.heap.size + 1, 4, none⟩ = some (.slice o' m' c') ∧ w1.cell? ⟨w.heap.size + 1, 5, none⟩ = some (.slice o2' m2' c2'))) := Lib.hid fun w1 hk =>
    ⟨six_cells ((Below.block hk _ (by omega)).trans hn1), six_cells ((Below.block hk _ (by omega)).trans hn2)⟩
  have HB2 := Lib.hid hb2
  obtain ⟨⟨a0, a1, a2, a3, a4, a5⟩, ⟨d0, d1, d2, d3, d4, d5⟩⟩ := HC.out W2 (Below.refl _ _)
  have hk0 : KB W2 W2 := Below.refl _ _
  have HK0 := Lib.hid hk0
  clear h h' hpx hpy hwx hwy hcx hcy hr hn1 hn2 hs2 hb2 hM hM' hx hy hq hq' hk0
  go_enter Tryz.func44, Tryz.ntmps44
  go_wp2_with fail
  try rw [hW2]
  clear hW2
  refine Rn.region_any (by kernel_rfl) ?_
  refine Rn.any_seg 0 1 (by kernel_rfl) rfl ?_
  simp only [List.take_succ_cons, List.take_zero, List.drop_succ_cons, List.drop_zero]
  repeat (refine Rn.ws_one (fun KK hKK => ?_); go_simp; refine hKK _ ?_; clear hKK KK)
  refine Rn.ws_nil ?_
  intro K0 hK0
  go_simp
  refine .inl ((H1.out _ (drewB1 _ _)).mono ?_)
  rintro e w3 ⟨rfl, hk3⟩
  clear a0 a1 a2 a3 a4 a5 d0 d1 d2 d3 d4 d5
  obtain ⟨⟨a0, a1, a2, a3, a4, a5⟩, ⟨d0, d1, d2, d3, d4, d5⟩⟩ := HC.out _ hk3
  try go_simp
  refine hK0 _ _ ?_
  clear hK0 K0
  refine Rn.any_seg 2 5 (by kernel_rfl) rfl ?_
  simp only [List.take_succ_cons, List.take_zero, List.drop_succ_cons, List.drop_zero]
  repeat (refine Rn.ws_one (fun KK hKK => ?_); go_simp; refine hKK _ ?_; clear hKK KK)
  refine Rn.ws_nil ?_
  intro K0 hK0
  go_simp
  refine .inl ((H2.out _ hk3).mono ?_)
  rintro e w4 ⟨rfl, hk4⟩
  clear a0 a1 a2 a3 a4 a5 d0 d1 d2 d3 d4 d5
  obtain ⟨⟨a0, a1, a2, a3, a4, a5⟩, ⟨d0, d1, d2, d3, d4, d5⟩⟩ := HC.out _ hk4
  try go_simp
  refine hK0 _ _ ?_
  clear hK0 K0
  refine AnyL.of (g := 11) rfl ?_
  refine anyL_one (g := 10) 6 (by kernel_rfl) rfl (fun K hK => ?_)
  go_simp
  refine .inl ?_
  try go_simp
  refine hK _ _ ?_
  clear hK K
  refine anyL_one (g := 9) 7 (by kernel_rfl) rfl (fun K hK => ?_)
  go_simp
  refine .inl ?_
  try go_simp
  refine hK _ _ ?_
  clear hK K
  refine anyL_one (g := 8) 8 (by kernel_rfl) rfl (fun K hK => ?_)
  go_simp
  refine .inl ?_
  try go_simp
  refine hK _ _ ?_
  clear hK K
  refine anyL_two (g := 7) 9 11 (by kernel_rfl) rfl rfl (fun K hK => ?_) (fun K hK => ?_)
  · go_simp
    refine .inl ?_
    try go_simp
    refine hK _ _ ?_
    clear hK K
    refine anyL_two (g := 6) 10 11 (by kernel_rfl) rfl rfl (fun K hK => ?_) (fun K hK => ?_)
    · go_simp
      refine .inl ((H3.out _ hk4).mono ?_)
      rintro e w5 ⟨v5, rfl, hv5, hb5, hk5⟩
      clear a0 a1 a2 a3 a4 a5 d0 d1 d2 d3 d4 d5
      obtain ⟨⟨a0, a1, a2, a3, a4, a5⟩, ⟨d0, d1, d2, d3, d4, d5⟩⟩ := HC.out _ hk5
      try go_simp
      refine hK _ _ ?_
      clear hK K
      refine anyL_one (g := 5) 11 (by kernel_rfl) rfl (fun K hK => ?_)
      go_simp
      refine .inl ?_
      try go_simp
      refine hK _ _ ?_
      clear hK K
      refine anyL_one (g := 4) 12 (by kernel_rfl) rfl (fun K hK => ?_)
      go_simp
      refine .inl ((H4.out _ hk5).mono ?_)
      rintro e w6 ⟨v6, rfl, hv6, hb6, hk6⟩
      clear a0 a1 a2 a3 a4 a5 d0 d1 d2 d3 d4 d5
      obtain ⟨⟨a0, a1, a2, a3, a4, a5⟩, ⟨d0, d1, d2, d3, d4, d5⟩⟩ := HC.out _ hk6
      try go_simp
      refine hK _ _ ?_
      clear hK K
      refine anyL_one (g := 3) 13 (by kernel_rfl) rfl (fun K hK => ?_)
      go_simp
      refine .inl ((H5.out _ _ _ hk6 (isV_below hb6 hv5.out) hv6.out).mono ?_)
      rintro e w7 ⟨⟨z, rfl, hz⟩, hk7⟩
      try go_simp
      refine hK _ _ ?_
      clear hK K
      refine anyL_one (g := 2) 14 (by kernel_rfl) rfl (fun K hK => ?_)
      go_simp
      refine .inl ?_
      try go_simp
      refine hK _ _ ?_
      clear hK K
      refine anyL_one (g := 1) 15 (by kernel_rfl) rfl (fun K hK => ?_)
      go_simp
      refine .inl ?_
      try go_simp
      refine hK _ _ ?_
      clear hK K
      refine anyL_one (g := 0) 16 (by kernel_rfl) rfl (fun K hK => ?_)
      go_simp
      refine .inl ?_
      try go_simp
      refine hK _ _ ?_
      clear hK K
      refine anyL_done (by kernel_rfl) ?_
      go_wp2_with fail
      go_ret
      exact ⟨rfl, HB2.out.trans (Below.mono hk7 HB2.out.size)⟩
    · go_simp
      refine .inl ?_
      try go_simp
      refine hK _ _ ?_
      clear hK K
      refine anyL_one (g := 5) 10 (by kernel_rfl) rfl (fun K hK => ?_)
      go_simp
      refine .inl ((H3.out _ hk4).mono ?_)
      rintro e w5 ⟨v5, rfl, hv5, hb5, hk5⟩
      clear a0 a1 a2 a3 a4 a5 d0 d1 d2 d3 d4 d5
      obtain ⟨⟨a0, a1, a2, a3, a4, a5⟩, ⟨d0, d1, d2, d3, d4, d5⟩⟩ := HC.out _ hk5
      try go_simp
      refine hK _ _ ?_
      clear hK K
      refine anyL_one (g := 4) 12 (by kernel_rfl) rfl (fun K hK => ?_)
      go_simp
      refine .inl ((H4.out _ hk5).mono ?_)
      rintro e w6 ⟨v6, rfl, hv6, hb6, hk6⟩
      clear a0 a1 a2 a3 a4 a5 d0 d1 d2 d3 d4 d5
      obtain ⟨⟨a0, a1, a2, a3, a4, a5⟩, ⟨d0, d1, d2, d3, d4, d5⟩⟩ := HC.out _ hk6
      try go_simp
      refine hK _ _ ?_
      clear hK K
      refine anyL_one (g := 3) 13 (by kernel_rfl) rfl (fun K hK => ?_)
      go_simp
      refine .inl ((H5.out _ _ _ hk6 (isV_below hb6 hv5.out) hv6.out).mono ?_)
      rintro e w7 ⟨⟨z, rfl, hz⟩, hk7⟩
      try go_simp
      refine hK _ _ ?_
      clear hK K
      refine anyL_one (g := 2) 14 (by kernel_rfl) rfl (fun K hK => ?_)
      go_simp
      refine .inl ?_
      try go_simp
      refine hK _ _ ?_
      clear hK K
      refine anyL_one (g := 1) 15 (by kernel_rfl) rfl (fun K hK => ?_)
      go_simp
      refine .inl ?_
      try go_simp
      refine hK _ _ ?_
      clear hK K
      refine anyL_one (g := 0) 16 (by kernel_rfl) rfl (fun K hK => ?_)
      go_simp
      refine .inl ?_
      try go_simp
      refine hK _ _ ?_
      clear hK K
      refine anyL_done (by kernel_rfl) ?_
      go_wp2_with fail
      go_ret
      exact ⟨rfl, HB2.out.trans (Below.mono hk7 HB2.out.size)⟩
  · go_simp
    refine .inl ?_
    try go_simp
    refine hK _ _ ?_
    clear hK K
    refine anyL_one (g := 6) 9 (by kernel_rfl) rfl (fun K hK => ?_)
    go_simp
    refine .inl ?_
    try go_simp
    refine hK _ _ ?_
    clear hK K
    refine anyL_one (g := 5) 10 (by kernel_rfl) rfl (fun K hK => ?_)
    go_simp
    refine .inl ((H3.out _ hk4).mono ?_)
    rintro e w5 ⟨v5, rfl, hv5, hb5, hk5⟩
    clear a0 a1 a2 a3 a4 a5 d0 d1 d2 d3 d4 d5
    obtain ⟨⟨a0, a1, a2, a3, a4, a5⟩, ⟨d0, d1, d2, d3, d4, d5⟩⟩ := HC.out _ hk5
    try go_simp
    refine hK _ _ ?_
    clear hK K
    refine anyL_one (g := 4) 12 (by kernel_rfl) rfl (fun K hK => ?_)
    go_simp
    refine .inl ((H4.out _ hk5).mono ?_)
    rintro e w6 ⟨v6, rfl, hv6, hb6, hk6⟩
    clear a0 a1 a2 a3 a4 a5 d0 d1 d2 d3 d4 d5
    obtain ⟨⟨a0, a1, a2, a3, a4, a5⟩, ⟨d0, d1, d2, d3, d4, d5⟩⟩ := HC.out _ hk6
    try go_simp
    refine hK _ _ ?_
    clear hK K
    refine anyL_one (g := 3) 13 (by kernel_rfl) rfl (fun K hK => ?_)
    go_simp
    refine .inl ((H5.out _ _ _ hk6 (isV_below hb6 hv5.out) hv6.out).mono ?_)
    rintro e w7 ⟨⟨z, rfl, hz⟩, hk7⟩
    try go_simp
    refine hK _ _ ?_
    clear hK K
    refine anyL_one (g := 2) 14 (by kernel_rfl) rfl (fun K hK => ?_)
    go_simp
    refine .inl ?_
    try go_simp
    refine hK _ _ ?_
    clear hK K
    refine anyL_one (g := 1) 15 (by kernel_rfl) rfl (fun K hK => ?_)
    go_simp
    refine .inl ?_
    try go_simp
    refine hK _ _ ?_
    clear hK K
    refine anyL_one (g := 0) 16 (by kernel_rfl) rfl (fun K hK => ?_)
    go_simp
    refine .inl ?_
    try go_simp
    refine hK _ _ ?_
    clear hK K
    refine anyL_done (by kernel_rfl) ?_
    go_wp2_with fail
    go_ret
    exact ⟨rfl, HB2.out.trans (Below.mono hk7 HB2.out.size)⟩
end Go.Proofs.YtdckldfekepopaaGreatDoor

namespace Go.Proofs.YtdckldfekepopaaGreatDoor
open Go.RowKit Go.Deep

/-- Does a property stay? -/
noncomputable def stays (A B : List G) (s : ByteArray) : Bool :=
  match firstG A s, firstG B s with
  | none, none => true
  | some x, some y => !y.unk && sm x.v y.v
  | _, _ => false
noncomputable def rchgL (c : ByteArray → Bool) : List RwS → Int → Int
  | [], out => out
  | x :: t, out => if c x.nm then rchgL c t out else if x.r then 3 else rchgL c t 2
noncomputable def rdifferL (K : ByteArray) (A B : List G) : Int × Int :=
  if checkL K A ≠ 0 then (0, checkL K A) else if checkL K B ≠ 0 then (0, checkL K B) else if A.any (·.unk) then (0, 91) else (rchgL (stays A B) (specL K) 0, 0)
theorem rchgL_eq (c : ByteArray → Bool) : ∀ (l : List RwS) (out : Int), rchgL c l out = if l.any (fun x => !c x.nm && x.r) then 3 else if l.any (fun x => !c x.nm) then 2 else out
  | [], out => rfl
  | x :: t, out => by
    rw [rchgL]
    simp only [List.any_cons]
    by_cases hc : c x.nm = true
    · rw [if_pos hc, rchgL_eq c t out]
      simp [hc]
    · have hc' : c x.nm = false := by simpa using hc
      rw [if_neg hc]
      by_cases hr : x.r = true
      · rw [if_pos hr]
        simp [hc', hr]
      · have hr' : x.r = false := by simpa using hr
        rw [if_neg hr, rchgL_eq c t 2]
        simp [hc', hr']
theorem specL_spec {K : ByteArray} {x : RwS} (h : x ∈ specL K) : spec K x.nm = some x := by
  cases hk : known K with
  | false =>
    obtain ⟨h1, h2, h3, h4⟩ := known_no hk
    unfold specL at h
    rw [if_neg h1, if_neg h2, if_neg h3, if_neg h4] at h
    cases h
  | true =>
    have := (known_iff K).1 hk
    simp only [List.mem_cons, List.not_mem_nil, or_false] at this
    have key : ∀ K ∈ [sDisk, sNet, sNode, sRule], ∀ x ∈ specL K, spec K x.nm = some x := by decide
    exact key K (by simpa using this) x h
theorem spec_specL {K s : ByteArray} {x : RwS} (h : spec K s = some x) : x ∈ specL K ∧ x.nm = s := by
  rw [spec_find] at h
  exact ⟨List.mem_of_find?_eq_some h, by simpa using List.find?_some h⟩
theorem first_last {K : ByteArray} {L : List G} (h : checkL K L = 0) (s : ByteArray) : firstG L s = lastG L s := by
  cases hf : firstG L s with
  | none =>
    have h1 := List.find?_eq_none.1 hf
    cases hl : lastG L s with
    | none => rfl
    | some g =>
      obtain ⟨hm, hn⟩ := lastG_mem hl
      exact absurd hn (by simpa using h1 g hm)
  | some g =>
    have h1 := List.mem_of_find?_eq_some hf
    have h2 : g.nm = s := by simpa using List.find?_some hf
    rw [← h2, lastG_of h h1]
theorem stays_eq {K : ByteArray} {A B : List G} (hA : checkL K A = 0) (hB : checkL K B = 0) (uA : A.any (·.unk) = false) (uB : B.any (·.unk) = false) {s : ByteArray} {x : RwS} (hs : spec K s = some x) :
    stays A B s = !turnsB (gg A s) (gg B s) := by
  have key : stays A B s = true ↔ gg A s = gg B s := by
    unfold stays gg
    rw [first_last hA, first_last hB]
    have hne := spec_ne hs
    cases ha : lastG A s with
    | none =>
      cases hb : lastG B s with
      | none => simp
      | some g =>
        obtain ⟨hm, hn⟩ := lastG_mem hb
        simp only [Option.getD_none, Option.getD_some]
        exact ⟨fun h => (by cases h), fun h => absurd (by rw [← hn, ← h]; rfl) hne⟩
    | some g =>
      obtain ⟨hm, hn⟩ := lastG_mem ha
      cases hb : lastG B s with
      | none =>
        simp only [Option.getD_none, Option.getD_some]
        exact ⟨fun h => (by cases h), fun h => absurd (by rw [← hn, h]; rfl) hne⟩
      | some g' =>
        obtain ⟨hm', hn'⟩ := lastG_mem hb
        have u1 := unk_no uA hm
        have u2 := unk_no uB hm'
        simp only [Option.getD_some, u2, Bool.not_false, Bool.true_and]
        constructor
        · intro h9
          have hv := sm_eq h9
          clear h9
          obtain ⟨gn, gu, gv⟩ := g
          obtain ⟨gn', gu', gv'⟩ := g'
          dsimp only at u1 u2 hn hn' hv
          rw [u1, u2, hn, hn', hv]
        · intro h
          subst h
          exact sm_yes rfl
  have h2 := turn_eq hA hB uA uB hs
  cases ht : turnsB (gg A s) (gg B s) with
  | false => exact key.2 (h2.1 ht)
  | true =>
    show stays A B s = false
    rw [Bool.eq_false_iff]
    intro h
    rw [h2.2 (key.1 h)] at ht
    cases ht
theorem rdiffer_eq {K : ByteArray} {A B : List G} (uB : B.any (·.unk) = false) : rdifferL K A B = differL K A B := by
  unfold rdifferL differL
  by_cases hA : checkL K A = 0
  · rw [if_neg (show ¬ checkL K A ≠ 0 from fun h => h hA), if_neg (show ¬ checkL K A ≠ 0 from fun h => h hA)]
    by_cases hB : checkL K B = 0
    · rw [if_neg (show ¬ checkL K B ≠ 0 from fun h => h hB), if_neg (show ¬ checkL K B ≠ 0 from fun h => h hB)]
      cases uA : A.any (·.unk) with
      | true => rfl
      | false =>
        rw [if_neg Bool.false_ne_true, if_neg Bool.false_ne_true, rchgL_eq]
        unfold chg
        have e1 : (specL K).any (fun x => !stays A B x.nm && x.r) = anyT K A B true := by
          rw [Bool.eq_iff_iff, anyT_iff, List.any_eq_true]
          constructor
          · rintro ⟨x, hx, h⟩
            have hs := specL_spec hx
            rw [stays_eq hA hB uA uB hs, Bool.not_not, Bool.and_eq_true] at h
            exact ⟨x.nm, x, hs, h.1, fun _ => h.2⟩
          · rintro ⟨s, x, hs, ht, hr⟩
            obtain ⟨hx, hn⟩ := spec_specL hs
            refine ⟨x, hx, ?_⟩
            rw [hn, stays_eq hA hB uA uB hs, Bool.not_not, ht, hr rfl]; rfl
        have e2 : (specL K).any (fun x => !stays A B x.nm) = anyT K A B false := by
          rw [Bool.eq_iff_iff, anyT_iff, List.any_eq_true]
          constructor
          · rintro ⟨x, hx, h⟩
            have hs := specL_spec hx
            rw [stays_eq hA hB uA uB hs, Bool.not_not] at h
            exact ⟨x.nm, x, hs, h, fun h => by cases h⟩
          · rintro ⟨s, x, hs, ht, hr⟩
            obtain ⟨hx, hn⟩ := spec_specL hs
            refine ⟨x, hx, ?_⟩
            rw [hn, stays_eq hA hB uA uB hs, Bool.not_not, ht]
        rw [e1, e2]
    · rw [if_pos hB, if_pos hB]
  · rw [if_pos hA, if_pos hA]
theorem held_row {K : ByteArray} {L : List G} (h : checkL K L = 0) {g : G} (hg : g ∈ L) (hu : g.unk = false) : ∃ q, (q = 2 ∨ q = 3 ∨ q = 4) ∧ holdsB g.v q = true := by
  obtain ⟨x, hx, hm⟩ := row_mem h hg
  obtain ⟨_, _, hq, _⟩ := spec_facts hx
  unfold mayB at hm
  rw [hu, if_neg Bool.false_ne_true] at hm
  exact ⟨x.q, hq, hm⟩
end Go.Proofs.YtdckldfekepopaaGreatDoor

namespace Go.Proofs.YtdckldfekepopaaGreatDoor
open Go.RowKit Go.Deep

theorem cells8 {W : World} {B : Nat} {c0 c1 c2 c3 c4 c5 c6 c7 : Value} {t : TypeId} (h : W.heap[B]? = some (.cells #[c0, c1, c2, c3, c4, c5, c6, c7] t (0, 0))) : W.cell? ⟨B, 0, none⟩ = some c0 ∧ W.cell? ⟨B, 1, none⟩ = some c1 ∧ W.cell? ⟨B, 2, none⟩ = some c2 ∧ W.cell? ⟨B, 3, none⟩ = some c3 ∧ W.cell? ⟨B, 4, none⟩ = some c4 ∧ W.cell? ⟨B, 5, none⟩ = some c5 ∧ W.cell? ⟨B, 6, none⟩ = some c6 ∧ W.cell? ⟨B, 7, none⟩ = some c7 := by
  simp [World.cell?, h]
theorem firstG_mem {L : List G} {s : ByteArray} {g : G} (h : firstG L s = some g) : g ∈ L ∧ g.nm = s := ⟨List.mem_of_find?_eq_some h, by simpa using List.find?_some h⟩
theorem ret_i8 {a b c : Int} (h : a = b) : Ending.returned (.tuple #[.int .i8 a, .int .i64 c]) = .returned (.tuple #[.int .i8 b, .int .i64 c]) := by rw [h]
set_option maxRecDepth 100000 in
set_option maxHeartbeats 16000000 in
theorem rDiffer_any (K : ByteArray) (A B : List G) (v u : Value) (w : World) (hP : fineG A) (hP' : fineG B) (h : isGs w A v) (h' : isGs w B u) :
    Calls Tryz.prog 35 #[.string K, v, u] w fun e w' => e = .returned (.tuple #[.int .i8 (rdifferL K A B).1, .int .i64 (rdifferL K A B).2]) ∧ Below w.heap.size w w' := by
  have hl := hP.1
  have hl' := hP'.1
  have HCA := rCheck_any K A v w (by omega) (fun g hg => (hP.2 g hg).1) h
  have HCB : ∀ w1, KB w w1 → Calls Tryz.prog 28 #[.string K, u] w1 fun e w' => e = .returned (.int .i64 (checkL K B)) ∧ Below w1.heap.size w1 w' := fun w1 hk => rCheck_any K B u w1 (by omega) (fun g hg => (hP'.2 g hg).1) (isGs_below hk h')
  have HGA : Hid (∀ s w1, KB w w1 → Calls Tryz.prog 64 #[v, .string s] w1 fun e w' => (∃ v', e = .returned (.tuple #[v', .bool (firstG A s).isSome]) ∧ isG w' ((firstG A s).getD zG) v') ∧ Below w1.heap.size w1 w') := Lib.hid fun s w1 hk => rget_any A s v w1 (by omega) (isGs_below hk h)
  have HGB : Hid (∀ s w1, KB w w1 → Calls Tryz.prog 64 #[u, .string s] w1 fun e w' => (∃ v', e = .returned (.tuple #[v', .bool (firstG B s).isSome]) ∧ isG w' ((firstG B s).getD zG) v') ∧ Below w1.heap.size w1 w') := Lib.hid fun s w1 hk => rget_any B s u w1 (by omega) (isGs_below hk h')
  obtain ⟨a, cap, ⟨o, rfl, hc1, hc2, ho⟩, hgs⟩ := h
  obtain ⟨a', cap', ⟨o', rfl, hc1', hc2', ho'⟩, hgs'⟩ := h'
  unfold maxLen at hc2 hc2'
  have HK := Lib.hid hgs
  clear hgs hgs'
  unfold rdifferL
  by_cases hA : checkL K A = 0
  · rw [hA] at HCA
    rw [if_neg (show ¬ checkL K A ≠ 0 from fun h => h hA)]
    have HCA := Lib.hid HCA
    by_cases hB : checkL K B = 0
    · rw [hB] at HCB
      rw [if_neg (show ¬ checkL K B ≠ 0 from fun h => h hB)]
      have HCB := Lib.hid HCB
      have HSP := Lib.hid (fun w1 => rspecs_some K w1)
      have HEQ : A.any (·.unk) = false → Hid (∀ s x y, firstG A s = some x → firstG B s = some y → y.unk = false → ∀ v u w1, isV w1 x.v v → isV w1 y.v u → Calls Tryz.prog 44 #[v, u] w1 fun e w' => e = .returned (.bool (sm x.v y.v)) ∧ Below w1.heap.size w1 w') := fun uA => Lib.hid fun s x y hx hy hu v u w1 hv hu' => by
        obtain ⟨m1, -⟩ := firstG_mem hx
        obtain ⟨m2, -⟩ := firstG_mem hy
        obtain ⟨q, hq, hh⟩ := held_row hA m1 (unk_no uA m1)
        obtain ⟨q', hq', hh'⟩ := held_row hB m2 hu
        exact rEqual_any hq hq' hh hh' (hP.2 x m1).1 (hP'.2 y m2).1 v u w1 hv hu'
      obtain ⟨l, hl9⟩ : ∃ l, specL K = l := ⟨_, rfl⟩
      have hll := specL_len K
      rw [hl9] at HSP hll ⊢
      obtain ⟨U, hU⟩ : ∃ U, A.any (·.unk) = U := ⟨_, rfl⟩
      rw [hU] at HEQ ⊢
      obtain ⟨Q, hQ⟩ : ∃ Q : Int × Int, (if U = true then ((0 : Int), (91 : Int)) else (rchgL (stays A B) l 0, 0)) = Q := ⟨_, rfl⟩
      rw [hQ]
      have HU := Lib.hid hU
      have HQ := Lib.hid hQ
      clear hA hB hP hP' hl9 hU hQ
      go_enter Tryz.func35, Tryz.ntmps35
      go_wp2_with fail
      refine HCA.out.mono ?_
      rintro e w1 ⟨rfl, hb1⟩
      have HB1 := Lib.hid hb1
      clear hb1 HCA
      go_wp2_with fail
      refine (HCB.out _ HB1.out).mono ?_
      rintro e w2 ⟨rfl, hb2⟩
      have HB2 := Lib.hid (HB1.out.trans (hb2.mono HB1.out.size))
      clear hb2 HCB HB1
      go_wp2_with fail
      go_loopw [9] (fun i wr => ∃ j : Nat, j ≤ A.length ∧ i = .int .i64 j ∧ wr = w2 ∧ Hid ((A.take j).any (·.unk) = false)) (fun i _ => A.length - (intOf i).toNat)
      case atStart => exact ⟨0, by omega, rfl, rfl, Lib.hid (by simp)⟩
      case round =>
        obtain ⟨j, hj, rfl, rfl, hno⟩ := hrel
        by_cases hlt : j < A.length
        · obtain rfl := ho (by omega)
          obtain ⟨c0, c1, c2, c3, c4, c5, g0, g1, -⟩ := isGat_below HB2.out (HK.out j hlt)
          cases hu : A[j].unk with
          | true =>
            rw [hu] at g1
            have HRES : Hid (Q = (0, 91)) := Lib.hid (by
              have : U = true := by rw [← HU.out]; exact List.any_eq_true.2 ⟨A[j], List.getElem_mem hlt, hu⟩
              rw [← HQ.out, this]; rfl)
            clear hu hno HU HQ g0
            go_wp2_with fail
            go_ret2
            exact ⟨by rw [HRES.out]; try rfl, HB2.out⟩
          | false =>
            rw [hu] at g1
            have HN := Lib.hid (show (A.take (j + 1)).any (·.unk) = false by rw [any_take_g hlt, hno.out, hu]; rfl)
            clear hu hno g0
            go_wp2_with fail
            go_roundw
            case rel => exact ⟨j + 1, by omega, by go_num, by trivial, HN⟩
            case measure => simp [intOf]; omega
        · obtain rfl : j = A.length := by omega
          obtain rfl : U = false := by
            rw [← HU.out]
            have := hno.out
            rwa [List.take_of_length_le (Nat.le_refl _)] at this
          have HEQ2 := HEQ rfl
          clear HEQ
          obtain ⟨R, hR⟩ : ∃ R, rchgL (stays A B) l 0 = R := ⟨_, rfl⟩
          have HRQ : Hid (Q = (R, 0)) := Lib.hid (by rw [← HQ.out, ← hR]; rfl)
          clear hno HQ HU
          go_wp2_with fail
          refine (HSP.out _).mono ?_
          rintro e w3 ⟨⟨vs, ec, rfl, as9, caps, ⟨os, rfl, hd1, hd2, hos⟩, hsp⟩, hb3⟩
          have HB3 := Lib.hid (HB2.out.trans (hb3.mono HB2.out.size))
          have HSPC := Lib.hid hsp
          have HR0 : Hid (rchgL (stays A B) (l.drop 0) 0 = R) := Lib.hid (by rw [List.drop_zero]; exact hR)
          unfold maxLen at hd2
          clear hb3 hsp HSP HB2 hR
          go_wp2_with fail
          go_loopw [12, 13] (fun ov i wr => ∃ (j : Nat) (out : Int), j ≤ l.length ∧ ov = .int .i8 out ∧ i = .int .i64 j ∧ Hid (rchgL (stays A B) (l.drop j) out = R) ∧ Hid (Below w.heap.size w wr) ∧ Hid (KB w3 wr)) (fun _ i _ => l.length - (intOf i).toNat)
          case atStart => exact ⟨0, 0, by omega, rfl, rfl, HR0, HB3, Lib.hid (Below.refl _ _)⟩
          case round =>
            obtain ⟨j, out, hj, rfl, rfl, hT, hB, hB3⟩ := hrel
            clear HR0
            by_cases hlt : j < l.length
            · obtain rfl := hos (by omega)
              obtain ⟨p0, p1, p2, p3⟩ := HSPC.out j hlt
              have p0 := cell_below hB3.out _ _ p0
              have p2 := cell_below hB3.out _ _ p2
              have hT2 := hT.out
              rw [List.drop_eq_getElem_cons hlt, rchgL] at hT2
              clear hT p1 p3
              generalize l[j] = x at *
              obtain ⟨xK, xn, xq, xr⟩ := x
              dsimp only at p0 p2 hT2
              have HG1 := HGA.out xn wr hB.out
              have HG2 := HGB.out xn
              have HE := HEQ2.out xn
              have hst9 : stays A B xn = (match firstG A xn, firstG B xn with | none, none => true | some x, some y => !y.unk && sm x.v y.v | _, _ => false) := rfl
              rw [hst9] at hT2
              generalize firstG A xn = FA at *
              generalize firstG B xn = FB at *
              have HG1 := Lib.hid HG1
              have HG2 := Lib.hid HG2
              have HE := Lib.hid HE
              clear hst9
              go_wp2_with fail
              refine HG1.out.mono ?_
              rintro e w4 ⟨⟨v4, rfl, hg4⟩, hb4⟩
              obtain ⟨k4, b4, n4, s4, o4, m4, c4, o5, m5, c5, rfl, hv4⟩ := isG_eight hg4
              have HB4 : Hid (Below w.heap.size w w4) := Lib.hid (hB.out.trans (hb4.mono hB.out.size))
              have HK4 : Hid (KB w3 w4) := Lib.hid (Below.trans hB3.out (hb4.mono hB3.out.size))
              obtain ⟨X4, hX4⟩ : ∃ X4 : Obj, Obj.cells #[.string (FA.getD zG).nm, .bool (FA.getD zG).unk, .int .i8 k4, .bool b4, .int .i64 n4, .string s4, .slice o4 m4 c4, .slice o5 m5 c5] 66 (0, 0) = X4 := ⟨_, rfl⟩
              have A5 : KB w4 (w4.alloc (.cells #[.string (FA.getD zG).nm, .bool (FA.getD zG).unk, .int .i8 k4, .bool b4, .int .i64 n4, .string s4, .slice o4 m4 c4, .slice o5 m5 c5] 66)) := kbA
              have N5 := Lib.hid (World.alloc_heap_new w4 (.cells #[.string (FA.getD zG).nm, .bool (FA.getD zG).unk, .int .i8 k4, .bool b4, .int .i64 n4, .string s4, .slice o4 m4 c4, .slice o5 m5 c5] 66))
              have S5 := Lib.hid (World.size_alloc w4 (.cells #[.string (FA.getD zG).nm, .bool (FA.getD zG).unk, .int .i8 k4, .bool b4, .int .i64 n4, .string s4, .slice o4 m4 c4, .slice o5 m5 c5] 66))
              have HV4 := Lib.hid hv4
              have HA5 := Lib.hid A5
              have p0 := cell_below A5 _ _ (cell_below hb4 _ _ p0)
              have p2 := cell_below A5 _ _ (cell_below hb4 _ _ p2)
              clear hg4 hv4 hb4 hB hB3 HG1 hX4 A5
              go_wp2_with fail
              generalize hW5 : w4.alloc (.cells #[.string (FA.getD zG).nm, .bool (FA.getD zG).unk, .int .i8 k4, .bool b4, .int .i64 n4, .string s4, .slice o4 m4 c4, .slice o5 m5 c5] 66) = W5 at *
              clear hW5
              refine (HG2.out _ (HB4.out.trans (Below.mono HA5.out HB4.out.size))).mono ?_
              rintro e w6 ⟨⟨v6, rfl, hg6⟩, hb6⟩
              obtain ⟨k6, b6, n6, s6, o6, m6, c6, o7, m7, c7, rfl, hv6⟩ := isG_eight hg6
              have HB6 : Hid (Below w.heap.size w w6) := Lib.hid ((HB4.out.trans (Below.mono HA5.out HB4.out.size)).trans (hb6.mono (HB4.out.trans (Below.mono HA5.out HB4.out.size)).size))
              have A7 : KB w6 (w6.alloc (.cells #[.string (FB.getD zG).nm, .bool (FB.getD zG).unk, .int .i8 k6, .bool b6, .int .i64 n6, .string s6, .slice o6 m6 c6, .slice o7 m7 c7] 66)) := kbA
              have HN7 := Lib.hid (World.alloc_heap_new w6 (.cells #[.string (FB.getD zG).nm, .bool (FB.getD zG).unk, .int .i8 k6, .bool b6, .int .i64 n6, .string s6, .slice o6 m6 c6, .slice o7 m7 c7] 66))
              have hl46 : w4.heap.size < w6.heap.size := by have := hb6.size; have := S5.out; omega
              have HN5 := Lib.hid ((A7.block _ hl46).trans ((hb6.block _ (by have := S5.out; omega)).trans N5.out))
              have p0 := cell_below A7 _ _ (cell_below hb6 _ _ p0)
              have p2 := cell_below A7 _ _ (cell_below hb6 _ _ p2)
              have hv4w := isV_below A7 (isV_below hb6 (isV_below HA5.out HV4.out))
              have hv6w := isV_below A7 hv6
              have HVV := Lib.hid (And.intro hv4w hv6w)
              have HBX : Hid (Below w.heap.size w (w6.alloc (.cells #[.string (FB.getD zG).nm, .bool (FB.getD zG).unk, .int .i8 k6, .bool b6, .int .i64 n6, .string s6, .slice o6 m6 c6, .slice o7 m7 c7] 66))) := Lib.hid (HB6.out.trans (Below.mono A7 HB6.out.size))
              have HK7 : Hid (KB w3 (w6.alloc (.cells #[.string (FB.getD zG).nm, .bool (FB.getD zG).unk, .int .i8 k6, .bool b6, .int .i64 n6, .string s6, .slice o6 m6 c6, .slice o7 m7 c7] 66))) := Lib.hid ((Below.trans HK4.out (Below.mono HA5.out HK4.out.size)).trans (Below.mono (hb6.trans (Below.mono A7 hb6.size)) (Below.trans HK4.out (Below.mono HA5.out HK4.out.size)).size))
              obtain ⟨x0, x1, x2, x3, x4, x5, x6, x7⟩ := cells8 HN5.out
              obtain ⟨y0, y1, y2, y3, y4, y5, y6, y7⟩ := cells8 HN7.out
              clear hg6 hv6 hb6 HG2 A7 hl46 hv4w hv6w N5 S5 HV4 HN5 HN7
              cases FA with
              | none =>
                cases FB with
                | none =>
                  have HT1 : Hid (rchgL (stays A B) (l.drop (j + 1)) out = R) := Lib.hid hT2
                  clear hT2
                  simp only [Option.isSome_none, Option.getD_none] at *
                  go_wp2_with fail
                  go_roundw
                  case rel => exact ⟨j + 1, out, by omega, rfl, by go_num, HT1, HBX, HK7⟩
                  case measure => simp [intOf]; omega
                | some y =>
                  simp only [Option.isSome_none, Option.isSome_some, Option.getD_none, Option.getD_some] at *
                  rw [if_neg Bool.false_ne_true] at hT2
                  cases xr with
                  | true =>
                    have HR3 : Hid (R = 3) := Lib.hid (by rw [← hT2]; rfl)
                    clear hT2
                    go_wp2_with fail
                    go_ret2
                    exact ⟨by rw [HRQ.out, HR3.out]; try rfl, HBX.out⟩
                  | false =>
                    have HT1 : Hid (rchgL (stays A B) (l.drop (j + 1)) 2 = R) := Lib.hid (by rw [← hT2]; rfl)
                    clear hT2
                    go_wp2_with fail
                    go_roundw
                    case rel => exact ⟨j + 1, 2, by omega, rfl, by go_num, HT1, HBX, HK7⟩
                    case measure => simp [intOf]; omega
              | some x =>
                cases FB with
                | none =>
                  simp only [Option.isSome_none, Option.isSome_some, Option.getD_none, Option.getD_some] at *
                  rw [if_neg Bool.false_ne_true] at hT2
                  cases xr with
                  | true =>
                    have HR3 : Hid (R = 3) := Lib.hid (by rw [← hT2]; rfl)
                    clear hT2
                    go_wp2_with fail
                    go_ret2
                    exact ⟨by rw [HRQ.out, HR3.out]; try rfl, HBX.out⟩
                  | false =>
                    have HT1 : Hid (rchgL (stays A B) (l.drop (j + 1)) 2 = R) := Lib.hid (by rw [← hT2]; rfl)
                    clear hT2
                    go_wp2_with fail
                    go_roundw
                    case rel => exact ⟨j + 1, 2, by omega, rfl, by go_num, HT1, HBX, HK7⟩
                    case measure => simp [intOf]; omega
                | some y =>
                  have HE := HE.out x y rfl rfl
                  obtain ⟨yn, yu, yv⟩ := y
                  simp only [Option.isSome_some, Option.getD_some] at *
                  cases yu with
                  | true =>
                    have hT2 : (if xr = true then (3 : Int) else rchgL (stays A B) (l.drop (j + 1)) 2) = R := hT2
                    clear HE
                    cases xr with
                    | true =>
                      have HR3 : Hid (R = 3) := Lib.hid (by rw [← hT2]; rfl)
                      clear hT2
                      go_wp2_with fail
                      go_ret2
                      exact ⟨by rw [HRQ.out, HR3.out]; try rfl, HBX.out⟩
                    | false =>
                      have HT1 : Hid (rchgL (stays A B) (l.drop (j + 1)) 2 = R) := Lib.hid (by rw [← hT2]; rfl)
                      clear hT2
                      go_wp2_with fail
                      go_roundw
                      case rel => exact ⟨j + 1, 2, by omega, rfl, by go_num, HT1, HBX, HK7⟩
                      case measure => simp [intOf]; omega
                  | false =>
                    have hT2 : (if sm x.v yv = true then rchgL (stays A B) (l.drop (j + 1)) out else if xr = true then (3 : Int) else rchgL (stays A B) (l.drop (j + 1)) 2) = R := hT2
                    have HE9 := HE rfl _ _ _ HVV.out.1 HVV.out.2
                    clear HE
                    cases hsm : sm x.v yv with
                    | true =>
                      rw [hsm] at HE9 hT2
                      have HE := Lib.hid HE9
                      clear HE9
                      have HT1 : Hid (rchgL (stays A B) (l.drop (j + 1)) out = R) := Lib.hid hT2
                      clear hT2 hsm
                      go_wp2_with fail
                      refine HE.out.mono ?_
                      rintro e w8 ⟨rfl, hb8⟩
                      have HBX := Lib.hid (HBX.out.trans (hb8.mono HBX.out.size))
                      have HK7 : Hid (KB w3 w8) := Lib.hid (Below.trans HK7.out (hb8.mono HK7.out.size))
                      have p2 := cell_below hb8 _ _ p2
                      clear hb8
                      go_wp2_with fail
                      go_roundw
                      case rel => exact ⟨j + 1, out, by omega, rfl, by go_num, HT1, HBX, HK7⟩
                      case measure => simp [intOf]; omega
                    | false =>
                      rw [hsm] at HE9 hT2
                      have HE := Lib.hid HE9
                      clear HE9
                      rw [if_neg Bool.false_ne_true] at hT2
                      clear hsm
                      go_wp2_with fail
                      refine HE.out.mono ?_
                      rintro e w8 ⟨rfl, hb8⟩
                      have HBX := Lib.hid (HBX.out.trans (hb8.mono HBX.out.size))
                      have HK7 : Hid (KB w3 w8) := Lib.hid (Below.trans HK7.out (hb8.mono HK7.out.size))
                      have p2 := cell_below hb8 _ _ p2
                      clear hb8
                      cases xr with
                      | true =>
                        have HR3 : Hid (R = 3) := Lib.hid (by rw [← hT2]; rfl)
                        clear hT2
                        go_wp2_with fail
                        go_ret2
                        exact ⟨by rw [HRQ.out, HR3.out]; try rfl, HBX.out⟩
                      | false =>
                        have HT1 : Hid (rchgL (stays A B) (l.drop (j + 1)) 2 = R) := Lib.hid (by rw [← hT2]; rfl)
                        clear hT2
                        go_wp2_with fail
                        go_roundw
                        case rel => exact ⟨j + 1, 2, by omega, rfl, by go_num, HT1, HBX, HK7⟩
                        case measure => simp [intOf]; omega
            · obtain rfl : j = l.length := by omega
              have HRO : Hid (out = R) := Lib.hid (by have := hT.out; rw [List.drop_of_length_le (Nat.le_refl _)] at this; exact this)
              clear hT
              go_wp2_with fail
              go_ret2
              exact ⟨by rw [HRQ.out, HRO.out]; try rfl, hB.out⟩
    · rw [if_pos hB]
      have HCB := Lib.hid HCB
      generalize checkL K B = cb at *
      have z1 : (cb == 0) = false := beqI hB
      have z2 : (cb != 0) = true := bne_iff_ne.2 hB
      clear hB
      go_enter Tryz.func35, Tryz.ntmps35
      go_wp2_with fail
      refine HCA.out.mono ?_
      rintro e w1 ⟨rfl, hb1⟩
      have HB1 := Lib.hid hb1
      clear hb1 HCA
      go_wp2_with fail
      refine (HCB.out _ HB1.out).mono ?_
      rintro e w2 ⟨rfl, hb2⟩
      have HB2 := Lib.hid (HB1.out.trans (hb2.mono HB1.out.size))
      clear hb2 HCB HB1
      go_wp2_with fail
      go_ret2
      exact ⟨rfl, HB2.out⟩
  · rw [if_pos hA]
    have HCA := Lib.hid HCA
    generalize checkL K A = ca at *
    have z1 : (ca == 0) = false := beqI hA
    have z2 : (ca != 0) = true := bne_iff_ne.2 hA
    clear hA
    go_enter Tryz.func35, Tryz.ntmps35
    go_wp2_with fail
    refine HCA.out.mono ?_
    rintro e w1 ⟨rfl, hb1⟩
    have HB1 := Lib.hid hb1
    clear hb1 HCA
    go_wp2_with fail
    go_ret2
    exact ⟨rfl, HB1.out⟩
end Go.Proofs.YtdckldfekepopaaGreatDoor
