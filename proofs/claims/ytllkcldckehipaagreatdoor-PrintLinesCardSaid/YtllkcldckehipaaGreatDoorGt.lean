/-
  Blanks and line ends; a row to which another row is appended. · The statement on lines: walked.
-/
import Derived.Test.YtllkcldckehipaaGreatDoorGc
import Derived.Test.YtllkcldckehipaaGreatDoorGd
import Derived.Deep.AppendLies
import Derived.Laws.OwnMore
import Derived.Laws.AppendOwn
import Derived.Lib.AppendIntMem
import Derived.IntWalk
import Derived.Test.YtllkcldckehipaaGreatDoorGf
set_option linter.unusedVariables false
namespace Go.Proofs.YtllkcldckehipaaGreatDoor
open Go.RowKit

/-- Is a byte no blank and no line's end? -/
def solid (c : UInt8) : Bool := c != 32 && c != 10
def strip (l : List UInt8) : List UInt8 := l.filter solid
/-- Has a value no blank in its own texts? -/
def noB (z : V) : Prop := (∀ c ∈ z.text.data.toList, c ≠ 32) ∧ ∀ k ∈ z.keys, ∀ c ∈ k.data.toList, c ≠ 32

theorem isVsL_at {W : World} : ∀ (l : List V) (xs : List Value) (i : Nat) (h : i < l.length), isVsL W l xs → ∃ c0 c1 c2 c3 c4 c5, xs[i * 6]? = some c0 ∧ xs[i * 6 + 1]? = some c1 ∧ xs[i * 6 + 2]? = some c2 ∧ xs[i * 6 + 3]? = some c3 ∧ xs[i * 6 + 4]? = some c4 ∧ xs[i * 6 + 5]? = some c5 ∧ isV W l[i] (.agg #[c0, c1, c2, c3, c4, c5])
  | x :: t, xs, 0, _, h => by
    unfold isVsL at h
    obtain ⟨c0, c1, c2, c3, c4, c5, rest, rfl, hx, ht⟩ := h
    exact ⟨c0, c1, c2, c3, c4, c5, rfl, rfl, rfl, rfl, rfl, rfl, hx⟩
  | x :: t, xs, i + 1, hi, h => by
    unfold isVsL at h
    obtain ⟨c0, c1, c2, c3, c4, c5, rest, rfl, hx, ht⟩ := h
    obtain ⟨d0, d1, d2, d3, d4, d5, h0, h1, h2, h3, h4, h5, hy⟩ := isVsL_at t rest i (by simpa using hi) ht
    refine ⟨d0, d1, d2, d3, d4, d5, ?_, ?_, ?_, ?_, ?_, ?_, hy⟩
    · rw [show (i + 1) * 6 = i * 6 + 6 by omega]; exact h0
    · rw [show (i + 1) * 6 + 1 = i * 6 + 1 + 6 by omega]; exact h1
    · rw [show (i + 1) * 6 + 2 = i * 6 + 2 + 6 by omega]; exact h2
    · rw [show (i + 1) * 6 + 3 = i * 6 + 3 + 6 by omega]; exact h3
    · rw [show (i + 1) * 6 + 4 = i * 6 + 4 + 6 by omega]; exact h4
    · rw [show (i + 1) * 6 + 5 = i * 6 + 5 + 6 by omega]; exact h5
/-- What Walk answers: a slice of the parts. -/
theorem rw_vs {w0 w W : World} {A : List V} {v : Value} (h : RW w0 w A v W) (hA : 0 < A.length) (hb : KB w0 W) : ∃ g cap, v = .slice (some ⟨g, 0, none⟩) A.length cap ∧ isVs W A ⟨g, 0, none⟩ ∧ KB w W := by
  have hB := h.choose_spec.2.2
  obtain ⟨g, cap, rfl, xs, h1, h2, h3⟩ := h.form hA
  refine ⟨g, cap, rfl, ?_, hB⟩
  have key : ∀ (l : List V) (ys : List Value) (a : Addr), isVsL w0 l ys → (∀ j u, ys[j]? = some u → W.cell? (a.add j) = some u) → isVs W l a := by
    intro l
    induction l with
    | nil => intro _ _ _ _; unfold isVs; trivial
    | cons x t ih =>
      intro ys a hl hc
      unfold isVsL at hl
      obtain ⟨c0, c1, c2, c3, c4, c5, rest, rfl, hx, ht⟩ := hl
      unfold isVs
      refine ⟨⟨c0, c1, c2, c3, c4, c5, ?_, hc 1 _ rfl, hc 2 _ rfl, hc 3 _ rfl, hc 4 _ rfl, hc 5 _ rfl, isV_below hb hx⟩, ih rest (a.add 6) ht (fun j u hj => ?_)⟩
      · have := hc 0 c0 rfl
        simpa [Addr.add] using this
      · rw [add_add]
        exact hc (6 + j) u (by rw [Nat.add_comm]; exact hj)
  exact key A xs _ h2 h3

mutual
theorem walk_szm : ∀ (x z : V), z ∈ walkV x → sizeV z ≤ sizeV x
  | .mk k b n s l ks, z, hz => by
    rw [walkV] at hz
    rcases List.mem_cons.1 hz with rfl | hz
    · exact Nat.le_refl _
    · have := walks_szm l z hz
      rw [sizeV]
      omega
theorem walks_szm : ∀ (l : List V) (z : V), z ∈ walkVs l → sizeV z ≤ sizeVs l
  | [], z, hz => by rw [walkVs] at hz; cases hz
  | x :: t, z, hz => by
    rw [walkVs] at hz
    rw [sizeVs]
    rcases List.mem_append.1 hz with hz | hz
    · have := walk_szm x z hz; omega
    · have := walks_szm t z hz; omega
end
theorem keyS_le {ks : List ByteArray} {k : ByteArray} (h : k ∈ ks) : k.size ≤ keysS ks := by
  unfold keysS
  induction ks with
  | nil => cases h
  | cons a t ih =>
    rw [List.map_cons, List.sum_cons]
    rcases List.mem_cons.1 h with rfl | h
    · omega
    · have := ih h; omega
theorem keys_count (ks : List ByteArray) (W : World) (v : Value) (h : isK W ks v) : ks.length ≤ maxLen := by
  obtain ⟨a, cap, ⟨o, rfl, h1, h2, _⟩, _⟩ := h
  omega
section
variable {P : Program} {w : World}
theorem run_append_row (base : Nat) (t ty e : TypeId) (i : TypeInfo) (z : Value) (size bytes : Nat) (ht : P.underlying t = some (.slice e)) (hi : P.info? e = some i) (hz : i.zero = some z)
    (hsize : i.size = size) (hby : i.bytes = bytes) (hzs : z.cells.size = size) (hsz : 0 < size) (v : Value) (n : Nat) (xs : List Value) (hown : w.ownsRow base e size v n xs)
    (o : Option Addr) (a : Addr) (m c : Nat) (ho : 0 < m → o = some a) (news : List Value) (hl : news.length = m * size) (hnews : ∀ j u, news[j]? = some u → w.cell? (a.add j) = some u) (h1 : ∀ u ∈ news, u.oneCell' = true)
    (h63 : n + m ≤ maxLen) (hbytes : (n + m) * bytes ≤ 140737488355328) (hbase : base ≤ w.heap.size) :
    ∃ v' w', (Builtin.append_ #[t, t] ty #[v, .slice o m c]).run P w = .ok v' w' ∧ w'.ownsRow base e size v' (n + m) (xs ++ news) ∧ w.grownBy w' v.ownBlock := by
  rcases Nat.eq_zero_or_pos m with rfl | hm
  · have hn : news = [] := List.eq_nil_of_length_eq_zero (by rw [hl]; simp)
    subst hn
    refine ⟨v, w, ?_, by simpa using hown, ⟨rfl, rfl, rfl, Nat.le_refl _, fun _ _ _ => rfl⟩⟩
    rcases hown.2 with ⟨rfl, rfl⟩ | ⟨g, cap, cur, rfl, _, _, hnc, _⟩
    · cases o <;> simp [Builtin.append_, run_underlying ht, sizeOf, typeInfo, hi, Builtin.lenOf, Builtin.firstCells, loadCells, loadCellsFrom]
    · cases o <;> simp [Builtin.append_, run_underlying ht, sizeOf, typeInfo, hi, Builtin.lenOf, Builtin.firstCells, hnc, storeCells, loadCells, loadCellsFrom]
  · rw [ho hm]
    obtain ⟨v', w', h2, h3, h4, _⟩ := run_append_own w base t ty e i z size bytes ht hi hz hsize hby hzs hsz v n xs hown a m c news hl hnews h1 h63 hbytes hbase
    exact ⟨v', w', h2, h3, h4⟩
theorem wpList_append_row {ops : Array Oper} {rest : List Oper} {o : Oper} {a : Act} {Q : Exit → Act → World → Prop} (hgd : o.guard = none) (s x : Operand) (t : TypeId)
    (ho : o.op = .call { callee := .builtin .append, args := #[s, x], argTypes := #[t, t] })
    (base : Nat) (e : TypeId) (i : TypeInfo) (z : Value) (size bytes : Nat) (ht : P.underlying t = some (.slice e)) (hi : P.info? e = some i) (hz : i.zero = some z)
    (hsize : i.size = size) (hby : i.bytes = bytes) (hzs : z.cells.size = size) (hsz : 0 < size)
    (v : Value) (n : Nat) (xs : List Value) (hs : a.eval s = v) (hown : w.ownsRow base e size v n xs)
    (oo : Option Addr) (ad : Addr) (m c : Nat) (news : List Value) (hx : a.eval x = .slice oo m c) (hoo : 0 < m → oo = some ad) (hl : news.length = m * size) (hnews : ∀ j u, news[j]? = some u → w.cell? (ad.add j) = some u) (h1 : ∀ u ∈ news, u.oneCell' = true)
    (h63 : n + m ≤ maxLen) (hbytes : (n + m) * bytes ≤ 140737488355328) (hbase : base ≤ w.heap.size)
    (h : ∀ v' w', w'.ownsRow base e size v' (n + m) (xs ++ news) → w.grownBy w' v.ownBlock → wpList P ops Q rest (a.put o.dst v') w') : wpList P ops Q (o :: rest) a w := by
  refine wpList_plain hgd fun K hK => ?_
  obtain ⟨v', w', hr, h2, h3⟩ := run_append_row (P := P) (w := w) base t o.type e i z size bytes ht hi hz hsize hby hzs hsz v n xs hown oo ad m c hoo news hl hnews h1 h63 hbytes hbase
  unfold Oper.wp execOp
  simp only [ho, resolve, invoke, builtin, Sem.run_bind, Sem.run_pure, Result.andThen_ok, List.map_toArray, List.map_cons, List.map_nil, hs, hx, hr]
  exact hK _ _ (h v' w' h2 h3)
end
theorem infoStrB : (Tryz.prog.info? 9).map (fun i => (i.zero, i.size, i.bytes)) = some (some (.string ⟨#[]⟩), 1, 16) := by kernel_rfl
end Go.Proofs.YtllkcldckehipaaGreatDoor

set_option linter.unusedVariables false
namespace Go.Proofs.YtllkcldckehipaaGreatDoor
open Go.RowKit

theorem strip_snoc (l : List UInt8) (c : UInt8) : strip (l ++ [c]) = strip l ++ (if solid c then [c] else []) := by
  unfold strip
  rw [List.filter_append]
  congr 1
  cases h : solid c <;> simp [h]
theorem infoBb : (Tryz.prog.info? 5).map (fun i => (i.zero, i.size, i.bytes)) = some (some (.int .u8 0), 1, 1) := by kernel_rfl
theorem row_conv {B : Nat} {v : Value} {l : List UInt8} {W : World} (h : W.ownsRow B 5 1 v l.length (Lib.byteCells l)) (hl : l ≠ []) :
    ∃ g cap, v = .slice (some ⟨g, 0, none⟩) l.length cap ∧ (convert 37 9 (.slice (some ⟨g, 0, none⟩) l.length cap)).run Tryz.prog W = .ok (.string ⟨l.toArray⟩) W := by
  have h0 := h
  have hl0 : l.length ≠ 0 := by simpa using hl
  rcases h.2 with ⟨_, h1⟩ | ⟨g, cap, cur, rfl, _⟩
  · exact absurd h1 hl0
  · refine ⟨g, cap, rfl, run_convert_bytes_back (P := Tryz.prog) W 37 9 5 ⟨g, 0, none⟩ cap l Tryz.underlying37 Tryz.underlying5 Tryz.underlying9 (fun j hj => ?_)⟩
    rw [Addr.add_lit, Nat.zero_add, h0.cellAt j (by omega)]
    simp [Lib.byteCells, hj]
theorem byte_ne {c d : UInt8} (h : c ≠ d) : ((c.toNat : Int) == (d.toNat : Int)) = false := beq_eq_false_iff_ne.2 fun e => h (UInt8.toNat_inj.1 (Int.ofNat_inj.1 e))

set_option maxRecDepth 100000 in
set_option maxHeartbeats 8000000 in
theorem linesLaw_walk (x : V) (v : Value) (w : World) (h : isV w x v) (S1 S2 : ByteArray) (E1 E2 : Int)
    (WK : Hid (∀ w1, KB w w1 → Calls Tryz.prog 7 #[] w1 fun e w' => e = .returned (.bool true) ∧ Below w1.heap.size w1 w'))
    (GR : Hid (∀ w1, KB w w1 → Calls Tryz.prog 6 #[v] w1 fun e w' => e = .returned (.bool (greatB x)) ∧ Below w1.heap.size w1 w'))
    (PR : Hid (greatB x = false → ∀ w1, KB w w1 → Calls Tryz.prog 8 #[v] w1 fun e w' => e = .returned (.tuple #[.string S1, .int .i64 E1]) ∧ Below w1.heap.size w1 w'))
    (BR : Hid (greatB x = false → ∀ w1, KB w w1 → Calls Tryz.prog 10 #[v] w1 fun e w' => e = .returned (.tuple #[.string S2, .int .i64 E2]) ∧ Below w1.heap.size w1 w'))
    (hE : Hid (E1 ≠ 0 ∨ E2 ≠ 0 → E1 ≠ 0 ∨ E2 = 3)) (hs2 : S2.size ≤ 40000)
    (hfin : Hid (greatB x = false → (∀ z ∈ walkV x, noB z) → E1 = 0 → E2 = 0 → strip S2.data.toList = S1.data.toList ∧ S1.data.toList ≠ [])) :
    Calls Tryz.prog 5 #[v] w fun e w' => e = .returned (.bool true) ∧ Below w.heap.size w w' := by
  have HV := Lib.hid h
  obtain ⟨k, b, n, s, o, m, c, o2, m2, c2, rfl⟩ := isV_six h
  have HB := Lib.hid (kbA (w := w) (o := .cells #[.int .i8 k, .bool b, .int .i64 n, .string s, .slice o m c, .slice o2 m2 c2] 26))
  have HN := Lib.hid (World.alloc_heap_new w (.cells #[.int .i8 k, .bool b, .int .i64 n, .string s, .slice o m c, .slice o2 m2 c2] 26))
  clear h
  cases hg : greatB x with
  | true =>
    rw [hg] at GR
    clear hg
    go_enter Tryz.func5, Tryz.ntmps5
    go_wp2_with fail
    refine (GR.out _ HB.out).mono ?_
    rintro e w2 ⟨rfl, hb2⟩
    have HB2 := Lib.hid (HB.out.trans (hb2.mono HB.out.size))
    clear hb2
    go_wp2_with fail
    refine (WK.out _ HB2.out).mono ?_
    rintro e w3 ⟨rfl, hb3⟩
    have HB3 := Lib.hid (HB2.out.trans (hb3.mono HB2.out.size))
    clear hb3
    go_wp2_with fail
    go_ret
    exact ⟨rfl, HB3.out⟩
  | false =>
    have PR := Lib.hid (PR.out hg)
    have BR := Lib.hid (BR.out hg)
    have hfin := Lib.hid (hfin.out hg)
    have hgn := great_no hg
    have hgf := great_fine hg
    rw [hg] at GR
    have hlen : (walkV x).length ≤ 5000 := by rw [walk_len]; exact Nat.le_trans (count_le_size x) hgn.1
    have hpos : 0 < (walkV x).length := by obtain ⟨_, _, _, _, _, _⟩ := x; rw [walkV, List.length_cons]; omega
    have HSZ := Lib.hid hgn.1
    have WA : Hid (∀ w1, KB w w1 → Calls Tryz.prog 17 #[.agg #[.int .i8 k, .bool b, .int .i64 n, .string s, .slice o m c, .slice o2 m2 c2]] w1 (RetR w (walkV x) w1)) := Lib.hid fun w1 hK => walk_any 5000 x _ w w1 hgn.1 (by decide) HV.out hK
    have HMEM : Hid (∀ z, z ∈ walkV x → sizeV z ≤ 5000) := Lib.hid fun z hz => Nat.le_trans (walk_szm x z hz) hgn.1
    have HFI : Hid (∀ z, z ∈ walkV x → z.keys.length ≤ 3000) := Lib.hid hgf
    obtain ⟨A, hA⟩ : ∃ A, walkV x = A := ⟨_, rfl⟩
    rw [hA] at hlen hpos WA hfin HMEM HFI
    clear hg hgn hA hgf
    obtain ⟨i0, hi, hz0, hz1, hz2⟩ := info_parts infoStrB
    go_enter Tryz.func5, Tryz.ntmps5
    go_wp2_with fail
    refine (GR.out _ HB.out).mono ?_
    rintro e w2 ⟨rfl, hb2⟩
    have HB2 := Lib.hid (HB.out.trans (hb2.mono HB.out.size))
    have hn2 := (hb2.block _ (Array.getElem?_eq_some_iff.1 HN.out).1).trans HN.out
    have HN2 := Lib.hid hn2
    obtain ⟨r0, r1, r2, r3, r4, r5⟩ := six_cells hn2
    clear hb2 hn2
    go_wp2_with fail
    refine (WA.out _ HB2.out).mono ?_
    rintro e w3 ⟨rv, rfl, hrw⟩
    have hb3 : Below w2.heap.size w2 w3 := hrw.choose_spec.2.2
    have HB3 := Lib.hid (HB2.out.trans (hb3.mono HB2.out.size))
    obtain ⟨aw, cap, rfl, hvs⟩ : ∃ aw cap, rv = .slice (some aw) A.length cap ∧ isVs w3 A aw := by
      obtain ⟨g, cap, h1, h2, -⟩ := rw_vs hrw hpos HB3.out
      exact ⟨_, cap, h1, h2⟩
    have hn3 := (hb3.block _ (Array.getElem?_eq_some_iff.1 HN2.out).1).trans HN2.out
    have HN3 := Lib.hid hn3
    have HVS := Lib.hid hvs
    clear hrw hb3 hn3 hvs r0 r1 r2 r3 r4 r5
    go_wp2_with fail
    go_loopw [20] (fun i wr => ∃ j : Nat, j ≤ A.length ∧ i = .int .i64 j ∧ Hid (∀ q, q < j → ∀ (h : q < A.length), noB A[q]) ∧ Hid (KB w3 wr)) (fun i _ => A.length - (intOf i).toNat)
    case atStart => exact ⟨0, by omega, rfl, Lib.hid (fun q hq => absurd hq (by omega)), Lib.hid (Below.refl _ _)⟩
    case round =>
      obtain ⟨j, hj, rfl, hA, hK⟩ := hrel
      by_cases hlt : j < A.length
      · have b1 : decide ((j : Int) < (A.length : Int)) = true := decide_eq_true (by omega)
        obtain ⟨k1', b1', n1', s1', o1', m1', p1', o2', m2', p2', g0, g1, g2, g3, g4, g5, hx⟩ := isVs_sl A aw j hlt (isVs_keep (cell_below hK.out) A _ HVS.out)
        have hzs := HMEM.out _ (List.getElem_mem hlt)
        have hkl3 := HFI.out _ (List.getElem_mem hlt)
        obtain ⟨z, hz⟩ : ∃ z, A[j] = z := ⟨_, rfl⟩
        have HZ := Lib.hid hz
        rw [hz] at hx hzs hkl3
        obtain ⟨k', b', n', s', l', ks'⟩ := z
        have hkl3 : ks'.length ≤ 3000 := hkl3
        unfold isV at hx
        obtain ⟨lv, kv, he, -, -, hs', -, hkk⟩ := hx
        simp only [Value.agg.injEq, Array.mk.injEq, List.cons.injEq, and_true, Value.int.injEq, Value.bool.injEq, Value.string.injEq, true_and] at he
        obtain ⟨rfl, rfl, rfl, rfl, rfl, rfl⟩ := he
        obtain ⟨a4, cap4, ⟨o4, hkv, hc41, hc42, ho4⟩, hks⟩ := hkk
        simp only [Value.slice.injEq] at hkv
        obtain ⟨rfl, rfl, rfl⟩ := hkv
        unfold maxLen at hc42
        have hz1' : (wr.alloc (.cells #[.int .i8 k1', .bool b1', .int .i64 n1', .string s1', .slice o1' m1' p1', .slice o2' ks'.length p2'] 26)).heap.size = wr.heap.size + 1 := by simp
        have hown := World.ownsRow_lit (base := wr.heap.size + 1) (e := 9) (size := 1) (wr.alloc (.cells #[.int .i8 k1', .bool b1', .int .i64 n1', .string s1', .slice o1' m1' p1', .slice o2' ks'.length p2'] 26)) #[.string s1'] 1 (by rw [hz1']; exact Nat.le_refl _) (by unfold maxLen; omega) rfl
        rw [hz1'] at hown
        have hbb : Below wr.heap.size wr ((wr.alloc (.cells #[.int .i8 k1', .bool b1', .int .i64 n1', .string s1', .slice o1' m1' p1', .slice o2' ks'.length p2'] 26)).alloc (.cells #[.string s1'] 9)) := by go_grown
        have hnews : ∀ q u, (ks'.map Value.string)[q]? = some u → ((wr.alloc (.cells #[.int .i8 k1', .bool b1', .int .i64 n1', .string s1', .slice o1' m1' p1', .slice o2' ks'.length p2'] 26)).alloc (.cells #[.string s1'] 9)).cell? (a4.add q) = some u := fun q u hq => by
          rw [List.getElem?_map] at hq
          obtain ⟨y, hy, rfl⟩ := Option.map_eq_some_iff.1 hq
          obtain ⟨hq1, rfl⟩ := List.getElem?_eq_some_iff.1 hy
          exact cell_below hbb _ _ (hks q hq1).1
        have hsz5 : s1'.size ≤ 5000 ∧ ∀ q ∈ ks', q.size ≤ 5000 := by
          rw [sizeV] at hzs
          exact ⟨by omega, fun q hq => by have := keyS_le hq; omega⟩
        have HS5 := Lib.hid hsz5
        have HBB := Lib.hid hbb
        have HNEWS := Lib.hid hnews
        have HO4 := Lib.hid ho4
        have HOWN := Lib.hid hown
        clear hz hzs hks hsz5 hbb hnews ho4 hown hz1' hs'
        go_wp2_with (at_builtin; refine wpList_append_row rfl _ _ 24 rfl (wr.heap.size + 1) 9 i0 (.string ⟨#[]⟩) 1 16 Tryz.underlying24 hi hz0 hz1 hz2 rfl (by decide) _ _ _ rfl HOWN.out o2' a4 ks'.length p2' (ks'.map Value.string) rfl HO4.out ?c1 HNEWS.out ?c2 ?c3 ?c4 ?c5 ?_)
        case c2 =>
          intro u hu
          first
            | rfl
            | (obtain ⟨y, _, rfl⟩ := List.mem_map.1 hu; rfl)
        case c3 => unfold maxLen; omega
        case c4 => omega
        intro v' w7 hown' hgrow
        obtain ⟨a7, cap7, rfl, hc7⟩ : ∃ a7 cap7, v' = .slice (some a7) (1 + ks'.length) cap7 ∧ ∀ q u, ((s1' :: ks').map Value.string)[q]? = some u → w7.cell? (a7.add q) = some u := by
          rcases hown'.2 with ⟨_, h0⟩ | ⟨g7, cap7, cur, hv, _⟩
          · omega
          · subst hv
            exact ⟨⟨g7, 0, none⟩, cap7, rfl, fun q u hq => hown'.cells rfl q u hq⟩
        have hbg : Below wr.heap.size wr w7 := HBB.out.grown hgrow (by have := HBB.out.size; simp; omega) (fun r e => by simp [Value.ownBlock] at e; omega)
        have HK7 := Lib.hid (hK.out.trans (hbg.mono hK.out.size))
        have HC7 := Lib.hid hc7
        obtain ⟨strs, hstrs⟩ : ∃ strs : List ByteArray, s1' :: ks' = strs := ⟨_, rfl⟩
        have hsl : strs.length = 1 + ks'.length := by rw [← hstrs, List.length_cons]; omega
        have HSS : Hid (∀ q (h : q < strs.length), strs[q].size ≤ 5000) := Lib.hid fun q hq => by
          have hm : strs[q] ∈ strs := List.getElem_mem hq
          generalize strs[q] = y at hm ⊢
          rw [← hstrs] at hm
          rcases List.mem_cons.1 hm with e | hm
          · rw [e]; exact HS5.out.1
          · exact HS5.out.2 _ hm
        have HSTR := Lib.hid hstrs
        rw [hstrs] at HC7
        obtain ⟨L, hL⟩ : ∃ L, 1 + ks'.length = L := ⟨_, rfl⟩
        rw [hL] at hsl
        have hL5 : L ≤ 3001 := by omega
        have hLI : ((1 + ks'.length : Nat) : Int) = (L : Int) := by rw [hL]
        have hLI2 : (1 : Int) + (ks'.length : Int) = (L : Int) := by rw [← hL]; omega
        clear hown' hgrow hc7 hbg hstrs HBB HNEWS HO4 HOWN g0 g1 g2 g3 g4 g5
        rw [hL]
        go_wp2_with fail
        go_loopw [31] (fun i wr => ∃ q : Nat, q ≤ L ∧ i = .int .i64 q ∧ Hid (∀ r, r < q → ∀ (h : r < strs.length), ∀ c ∈ strs[r].data.toList, c ≠ 32) ∧ Hid (KB w7 wr)) (fun i _ => L - (intOf i).toNat)
        case atStart => exact ⟨0, by omega, rfl, Lib.hid (fun r hr => absurd hr (by omega)), Lib.hid (Below.refl _ _)⟩
        case round =>
          obtain ⟨q, hq, rfl, hQ, hKq⟩ := hrel
          by_cases hlq : q < L
          · have c1 : decide ((q : Int) < (L : Int)) = true := decide_eq_true (by omega)
            have hqs : q < strs.length := by omega
            have hcell := cell_below hKq.out _ _ (HC7.out q (.string strs[q]) (by rw [List.getElem?_map, List.getElem?_eq_getElem hqs]; rfl))
            have hsq := HSS.out q hqs
            obtain ⟨st, hst⟩ : ∃ st, strs[q] = st := ⟨_, rfl⟩
            have HSQ := Lib.hid hst
            rw [hst] at hcell hsq
            obtain ⟨wo, hwo⟩ : ∃ wo : World, wo = wr := ⟨_, rfl⟩
            rw [← hwo] at hcell hKq ⊢
            clear hst hwo
            go_wp2_with fail
            go_loopw [7] (fun i wr => ∃ p : Nat, p ≤ st.size ∧ i = .int .i64 p ∧ Hid (∀ r, r < p → ∀ (h : r < st.size), st[r] ≠ 32) ∧ wr = wo) (fun i _ => st.size - (intOf i).toNat)
            case atStart => exact ⟨0, by omega, rfl, Lib.hid (fun r hr => absurd hr (by omega)), rfl⟩
            case round =>
              obtain ⟨p, hp, rfl, hP, rfl⟩ := hrel
              by_cases hlp : p < st.size
              · have d1 : decide ((p : Int) < (st.size : Int)) = true := decide_eq_true (by omega)
                by_cases h32 : st[p] = 32
                · have y1 : ((st[p].toNat : Int) == 32) = true := by rw [h32]; rfl
                  have HKo : Hid (KB w wr) := Lib.hid ((HB3.out.trans (HK7.out.mono HB3.out.size)).trans (hKq.out.mono (HB3.out.trans (HK7.out.mono HB3.out.size)).size))
                  go_wp2_with fail
                  refine (WK.out _ HKo.out).mono ?_
                  rintro e w9 ⟨rfl, hb9⟩
                  have HK9 := Lib.hid (HKo.out.trans (hb9.mono HKo.out.size))
                  clear hb9
                  go_wp2_with fail
                  go_ret
                  exact ⟨rfl, HK9.out⟩
                · have y1 : ((st[p].toNat : Int) == 32) = false := byte_ne (d := 32) h32
                  have H32 := Lib.hid h32
                  clear h32
                  go_wp2_with fail
                  go_roundw
                  case rel => exact ⟨p + 1, by omega, by go_num, Lib.hid (fun r hr h2 => by
                    by_cases e : r = p
                    · subst e; exact H32.out
                    · exact hP.out r (by omega) h2), (by first | rfl | trivial)⟩
                  case measure => simp [intOf]; omega
              · obtain rfl : p = st.size := by omega
                have d1 : decide ((st.size : Int) < (st.size : Int)) = false := decide_eq_false (by omega)
                go_wp2_with fail
                go_roundw
                case rel => exact ⟨q + 1, by omega, by go_num, Lib.hid (fun r hr h2 c hc => by
                  by_cases e : r = q
                  · subst e
                    rw [HSQ.out] at hc
                    obtain ⟨i, hi, rfl⟩ := List.getElem_of_mem hc
                    have hi2 : i < st.size := by rw [toList_length] at hi; exact hi
                    exact hP.out i hi2 hi2
                  · exact hQ.out r (by omega) h2 c hc), hKq⟩
                case measure => simp [intOf]; omega
          · obtain rfl : q = L := by omega
            have c1 : decide ((q : Int) < (q : Int)) = false := decide_eq_false (by omega)
            have HNB : Hid (noB A[j]) := Lib.hid (by
              rw [HZ.out]
              have hall : ∀ y ∈ s1' :: ks', ∀ c ∈ y.data.toList, c ≠ 32 := fun y hy => by
                rw [HSTR.out] at hy
                obtain ⟨r, hr, rfl⟩ := List.getElem_of_mem hy
                exact hQ.out r (by omega) hr
              exact ⟨hall s1' (by simp), fun y hy => hall y (List.mem_cons_of_mem _ hy)⟩)
            have HKB : Hid (KB w3 wr) := Lib.hid (HK7.out.trans (hKq.out.mono HK7.out.size))
            go_wp2_with fail
            go_roundw
            case rel => exact ⟨j + 1, by omega, by go_num, Lib.hid (fun r hr h2 => by
              by_cases e : r = j
              · subst e; exact HNB.out
              · exact hA.out r (by omega) h2), HKB⟩
            case measure => simp [intOf]; omega
      · obtain rfl : j = A.length := by omega
        have b1 : decide ((A.length : Int) < (A.length : Int)) = false := decide_eq_false (by omega)
        have HFN := Lib.hid (hfin.out (fun z hz => by
          obtain ⟨i, hi, rfl⟩ := List.getElem_of_mem hz
          exact hA.out i hi hi))
        have HKW : Hid (KB w wr) := Lib.hid (HB3.out.trans (hK.out.mono HB3.out.size))
        have hnr := (hK.out.block _ (Array.getElem?_eq_some_iff.1 HN3.out).1).trans HN3.out
        have HNR := Lib.hid hnr
        obtain ⟨r0, r1, r2, r3, r4, r5⟩ := six_cells hnr
        clear hnr
        go_wp2_with fail
        refine (PR.out _ HKW.out).mono ?_
        rintro e w5 ⟨rfl, hb5⟩
        have HK5 := Lib.hid (HKW.out.trans (hb5.mono HKW.out.size))
        have hn5 := (hb5.block _ (Array.getElem?_eq_some_iff.1 HNR.out).1).trans HNR.out
        clear r0 r1 r2 r3 r4 r5
        obtain ⟨r0, r1, r2, r3, r4, r5⟩ := six_cells hn5
        clear hb5 hn5
        by_cases hEE : E1 = 0 ∧ E2 = 0
        · obtain ⟨rfl, rfl⟩ := hEE
          obtain ⟨hf1, hf2⟩ := HFN.out rfl rfl
          have HF1 := Lib.hid hf1
          have HF2 := Lib.hid hf2
          clear hf1 hf2
          obtain ⟨j0, hj0, hjz0, hjz1, hjz2⟩ := info_parts infoBb
          go_wp2_with fail
          refine (BR.out _ HK5.out).mono ?_
          rintro e w6 ⟨rfl, hb6⟩
          have HK6 := Lib.hid (HK5.out.trans (hb6.mono HK5.out.size))
          clear hb6 r0 r1 r2 r3 r4 r5
          go_wp2_with fail
          go_loopw [12, 13] (fun ov iv wr => ∃ p : Nat, p ≤ S2.size ∧ iv = .int .i64 p ∧ Hid (wr.ownsRow w6.heap.size 5 1 ov (strip (S2.data.toList.take p)).length (Lib.byteCells (strip (S2.data.toList.take p)))) ∧ Hid (Below w6.heap.size w6 wr)) (fun _ iv _ => S2.size - (intOf iv).toNat)
          case atStart => exact ⟨0, by omega, rfl, Lib.hid (World.ownsRow_nil _ _ _ _), Lib.hid (Below.refl _ _)⟩
          case round =>
            obtain ⟨p, hp, rfl, hO, hBl⟩ := hrel
            by_cases hlp : p < S2.size
            · have d1 : decide ((p : Int) < (S2.size : Int)) = true := decide_eq_true (by omega)
              have hsl : (strip (S2.data.toList.take p)).length ≤ 40000 := by
                have h1 := List.length_filter_le solid (S2.data.toList.take p)
                have h2 := List.length_take_le p S2.data.toList
                unfold strip
                omega
              by_cases h32 : S2[p] = 32
              · have y1 : ((S2[p].toNat : Int) != 32) = false := by rw [h32]; rfl
                have HST : Hid (strip (S2.data.toList.take (p + 1)) = strip (S2.data.toList.take p)) := Lib.hid (by
                  rw [take_snoc S2 p hlp, strip_snoc, h32, show solid 32 = false from rfl]; simp)
                clear h32
                go_wp2_with fail
                go_roundw
                case rel => exact ⟨p + 1, by omega, by go_num, Lib.hid (by rw [HST.out]; exact hO.out), hBl⟩
                case measure => simp [intOf]; omega
              · by_cases h10 : S2[p] = 10
                · have y1 : ((S2[p].toNat : Int) != 32) = true := by rw [h10]; rfl
                  have y2 : ((S2[p].toNat : Int) != 10) = false := by rw [h10]; rfl
                  have HST : Hid (strip (S2.data.toList.take (p + 1)) = strip (S2.data.toList.take p)) := Lib.hid (by
                    rw [take_snoc S2 p hlp, strip_snoc, h10, show solid 10 = false from rfl]; simp)
                  clear h10 h32
                  go_wp2_with fail
                  go_roundw
                  case rel => exact ⟨p + 1, by omega, by go_num, Lib.hid (by rw [HST.out]; exact hO.out), hBl⟩
                  case measure => simp [intOf]; omega
                · have y1 : ((S2[p].toNat : Int) != 32) = true := by
                    have := byte_ne (d := 32) h32
                    simpa [bne] using this
                  have y2 : ((S2[p].toNat : Int) != 10) = true := by
                    have := byte_ne (d := 10) h10
                    simpa [bne] using this
                  have HST : Hid (strip (S2.data.toList.take (p + 1)) = strip (S2.data.toList.take p) ++ [S2[p]]) := Lib.hid (by
                    rw [take_snoc S2 p hlp, strip_snoc, if_pos]
                    simp [solid, h32, h10])
                  clear h32 h10
                  obtain ⟨cc, hcc⟩ : ∃ cc, S2[p] = cc := ⟨_, rfl⟩
                  rw [hcc] at HST
                  have hcn : (S2[p].toNat : Int) = (cc.toNat : Int) := by rw [hcc]
                  obtain ⟨xs, hxs⟩ : ∃ xs, strip (S2.data.toList.take p) = xs := ⟨_, rfl⟩
                  rw [hxs] at HST hO hsl
                  have HCC := Lib.hid hcc
                  clear hxs hcc hcn
                  go_wp2_with (at_builtin; refine wpList_append_own _ rfl _ _ 37 rfl w6.heap.size 5 j0 (.int .u8 0) 1 1 Tryz.underlying37 hj0 hjz0 hjz1 hjz2 rfl (by decide) _ _ _ rfl (hO.out.alloc _) ⟨wr.heap.size, 0, none⟩ 1 1 [.int .u8 S2[p].toNat] rfl rfl ?e1 ?e2 ?e3 ?e4 ?e5 ?_)
                  case e1 =>
                    intro j u hj
                    match j, hj with
                    | 0, hj => simp at hj; subst hj; simp [Addr.add]
                  case e2 => intro u hu; simp at hu; subst hu; rfl
                  case e3 => unfold maxLen; omega
                  case e4 => omega
                  case e5 => have := hBl.out.size; simp; omega
                  intro v' w7 hown' hgrow _
                  obtain ⟨g', cap', rfl⟩ : ∃ g' cap', v' = .slice (some ⟨g', 0, none⟩) (xs.length + 1) cap' := by
                    rcases hown'.2 with ⟨_, h0⟩ | ⟨g', cap', cur, hv, _⟩
                    · omega
                    · exact ⟨g', cap', hv⟩
                  have HO7 : Hid (w7.ownsRow w6.heap.size 5 1 (.slice (some ⟨g', 0, none⟩) (xs.length + 1) cap') (xs ++ [S2[p]]).length (Lib.byteCells (xs ++ [S2[p]]))) := Lib.hid (by
                    rw [List.length_append, Lib.byteCells_append]
                    exact hown')
                  have HB7 : Hid (Below w6.heap.size w6 w7) := Lib.hid ((hBl.out.alloc hBl.out.size _).grown hgrow (by have := hBl.out.size; simp; omega) (fun r e => (hO.out.lt r e).1))
                  clear hown' hgrow
                  go_wp2_with fail
                  go_roundw
                  case rel => exact ⟨p + 1, by omega, by go_num, Lib.hid (by rw [HST.out, ← HCC.out]; exact HO7.out), HB7⟩
                  case measure => simp [intOf]; omega
            · obtain rfl : p = S2.size := by omega
              have d1 : decide ((S2.size : Int) < (S2.size : Int)) = false := decide_eq_false (by omega)
              have hO2 := hO.out
              rw [List.take_of_length_le (by rw [toList_length]; exact Nat.le_refl _), HF1.out] at hO2
              obtain ⟨T1, hT1⟩ : ∃ T1, S1.data.toList = T1 := ⟨_, rfl⟩
              have hne1 := HF2.out
              rw [hT1] at hO2 hne1
              obtain ⟨g8, cap8, rfl, hcv⟩ := row_conv hO2 hne1
              have f1 : ((⟨T1.toArray⟩ : ByteArray).toList == S1.toList) = true := by
                have : (⟨T1.toArray⟩ : ByteArray) = S1 := by rw [← hT1]
                rw [this]; simp
              have hTS : S1.toList = T1 := by rw [Lib.toList_data, hT1]
              clear hT1 hne1
              have HKW : Hid (KB w wr) := Lib.hid (HK6.out.trans (hBl.out.mono HK6.out.size))
              clear hO2
              go_wp2_with fail
              refine (WK.out _ HKW.out).mono ?_
              rintro e w9 ⟨rfl, hb9⟩
              have HK9 := Lib.hid (HKW.out.trans (hb9.mono HKW.out.size))
              clear hb9
              go_wp2_with fail
              go_ret
              exact ⟨rfl, HK9.out⟩
        · by_cases hE1 : E1 = 0
          · subst hE1
            obtain rfl : E2 = 3 := (hE.out (.inr (fun e => hEE ⟨rfl, e⟩))).resolve_left (fun e => e rfl)
            clear hEE
            go_wp2_with fail
            refine (BR.out _ HK5.out).mono ?_
            rintro e w6 ⟨rfl, hb6⟩
            have HK6 := Lib.hid (HK5.out.trans (hb6.mono HK5.out.size))
            clear hb6 r0 r1 r2 r3 r4 r5
            go_wp2_with fail
            refine (WK.out _ HK6.out).mono ?_
            rintro e w9 ⟨rfl, hb9⟩
            have HK9 := Lib.hid (HK6.out.trans (hb9.mono HK6.out.size))
            clear hb9
            go_wp2_with fail
            go_ret
            exact ⟨rfl, HK9.out⟩
          · have x1 : (E1 == 0) = false := beqI hE1
            have x2 : (E1 != 0) = true := bne_iff_ne.2 hE1
            clear hE1 hEE
            go_wp2_with fail
            refine (BR.out _ HK5.out).mono ?_
            rintro e w6 ⟨rfl, hb6⟩
            have HK6 := Lib.hid (HK5.out.trans (hb6.mono HK5.out.size))
            clear hb6 r0 r1 r2 r3 r4 r5
            go_wp2_with fail
            refine (WK.out _ HK6.out).mono ?_
            rintro e w9 ⟨rfl, hb9⟩
            have HK9 := Lib.hid (HK6.out.trans (hb9.mono HK6.out.size))
            clear hb9
            go_wp2_with fail
            go_ret
            exact ⟨rfl, HK9.out⟩
end Go.Proofs.YtllkcldckehipaaGreatDoor
