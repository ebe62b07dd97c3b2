/-
  The program's frames: Scan.
-/
import Derived.Test.YtbjdbphnccdpbaaGf
import Derived.Maps.OwnIn
set_option linter.unusedVariables false
namespace Go.Proofs.Ytbjdbphnccdpbaa
open Go.RowKit Go.Shelf Go.Lib
attribute [local go_sem] Oper.semAt_some

/-- A row of rows of bytes, all of it from base on. -/
def rdz (base : Nat) (W : World) (L : List (List UInt8)) (v : Value) : Prop :=
  ∃ o a cap, v = .slice o L.length cap ∧ L.length ≤ cap ∧ cap ≤ maxLen ∧ (0 < L.length → o = some a ∧ base ≤ a.block) ∧ (L.length = 0 → v = .slice none 0 0 ∨ o = some a) ∧
    ∀ i (h : i < L.length), ∃ ab cb, W.cell? (a.add i) = some (.slice (some ab) L[i].length cb) ∧ base ≤ ab.block ∧ rd W L[i] (.slice (some ab) L[i].length cb)
theorem rdz.rds {base : Nat} {W : World} {L : List (List UInt8)} {v : Value} (h : rdz base W L v) : rds W L v := by
  obtain ⟨o, a, cap, h1, h2, h3, h4, _, h5⟩ := h
  refine ⟨o, a, cap, h1, h2, h3, fun h => (h4 h).1, fun i hi => ?_⟩
  obtain ⟨ab, cb, q1, _, q2⟩ := h5 i hi
  exact ⟨some ab, cb, q1, q2⟩
theorem block_add (a : Addr) (i : Nat) : (a.add i).block = a.block := by unfold Addr.add; split <;> rfl
theorem rd.keepAt {W W' : World} {x : List UInt8} {v : Value} (B : Nat → Prop) (h : rd W x v) (hB : ∀ a n c, v = .slice (some a) n c → ¬ B a.block) (hF : Fr B W W') : rd W' x v := by
  obtain ⟨o, a, c, rfl, h1, h2, h3, h4⟩ := h
  refine ⟨o, a, c, rfl, h1, h2, h3, fun j u hj => ?_⟩
  have hx : 0 < x.length := by
    have := (List.getElem?_eq_some_iff.1 hj).1
    rw [byteCells_length] at this
    omega
  obtain rfl := h3 hx
  exact hF.cell _ _ (by rw [block_add]; exact hB _ _ _ rfl) (h4 j u hj)
theorem rdz.fr {base : Nat} {W W' : World} {L : List (List UInt8)} {v : Value} (h : rdz base W L v) (B : Nat → Prop) (hB : ∀ k, B k → k < base) (hF : Fr B W W') : rdz base W' L v := by
  obtain ⟨o, a, cap, h1, h2, h3, h4, h6, h5⟩ := h
  refine ⟨o, a, cap, h1, h2, h3, h4, h6, fun i hi => ?_⟩
  obtain ⟨ab, cb, q1, q2, q3⟩ := h5 i hi
  refine ⟨ab, cb, hF.cell _ _ (fun hb => ?_) q1, q2, q3.keepAt B (fun a n c e hb => ?_) hF⟩
  · rw [block_add] at hb
    have := hB _ hb
    have := (h4 (by omega)).2
    omega
  · cases e
    have := hB _ hb
    omega
theorem cell_put {W : World} {D : Nat} {o o' : Obj} (h : W.heap[D]? = some o) (hc : o.isCells = false) (a : Addr) (c : Value) (hx : W.cell? a = some c) : (W.putObj D o').cell? a = some c := by
  have hne : a.block ≠ D := fun e => by
    unfold World.cell? at hx
    rw [e, h] at hx
    cases o <;> first | (cases hc; done) | (simp at hx)
  exact (World.cell?_of_block (h := World.putObj_heap_other hne)).trans hx
theorem rdz.keep {base : Nat} {W W' : World} {L : List (List UInt8)} {v : Value} (h : rdz base W L v) (hc : ∀ a c, W.cell? a = some c → W'.cell? a = some c) : rdz base W' L v := by
  obtain ⟨o, a, cap, h1, h2, h3, h4, h6, h5⟩ := h
  refine ⟨o, a, cap, h1, h2, h3, h4, h6, fun i hi => ?_⟩
  obtain ⟨ab, cb, q1, q2, q3⟩ := h5 i hi
  exact ⟨ab, cb, hc _ _ q1, q2, q3.keep hc⟩
theorem rdz.mono {base base' : Nat} {W : World} {L : List (List UInt8)} {v : Value} (h : rdz base W L v) (hb : base' ≤ base) : rdz base' W L v := by
  obtain ⟨o, a, cap, h1, h2, h3, h4, h6, h5⟩ := h
  refine ⟨o, a, cap, h1, h2, h3, fun h => ⟨(h4 h).1, Nat.le_trans hb (h4 h).2⟩, h6, fun i hi => ?_⟩
  obtain ⟨ab, cb, q1, q2, q3⟩ := h5 i hi
  exact ⟨ab, cb, q1, Nat.le_trans hb q2, q3⟩
theorem rdz.below {base : Nat} {W W' : World} {L : List (List UInt8)} {v : Value} (h : rdz base W L v) (hb : Below W.heap.size W W') : rdz base W' L v :=
  h.keep fun a c hc => (Fr.of_below (B := fun _ => False) hb).cell a c (fun h => h) hc
theorem atL_ge : ∀ (L : List (List UInt8)) (k : Nat), k ≤ L.length → k ≤ atL L k
  | _, 0, _ => Nat.zero_le _
  | [], k + 1, h => absurd h (by simp)
  | l :: t, k + 1, h => by
    have := atL_ge t k (by simpa using h)
    rw [atL]
    omega
/-- Scan's rows, between two rounds. -/
def SCI (hi : Nat) (w : World) (P : Nat → Prop) (a : Addr) (L : List (List UInt8)) (Y : List UInt8) (vY : Value) (xl : Int) (k : Nat) (W : World) : Prop :=
  ∃ rv xs, Boxed W w.heap.size 28 rv ∧ W.ownsRow hi 27 1 rv k xs ∧ (∀ i, i < k → xs[i]? = some (.slice (some (a.add (atL L i + 4))) (lk L i).length (lk L i).length)) ∧ Boxed W (w.heap.size + 1) 3 (.int .i64 (xl - (atL L k : Nat))) ∧ Below w.heap.size w W ∧ buf P W Y vY ∧ hi ≤ W.heap.size
theorem free_row {β : Type} {B base e sz n : Nat} {v : Value} {xs : List Value} {W W' : World} {row : Option Nat} (h : W.ownsRow base e sz v n xs) (hg : W.grownBy W' row) (hr : NoRow B W row) : W'.ownsRow base e sz v n xs := by
  refine h.kept hg ?_
  cases hv : v.ownBlock with
  | none => exact .inl rfl
  | some k =>
    refine .inr fun e => ?_
    obtain ⟨_, o, h1, h2⟩ := hr k e.symm
    rcases h.2 with ⟨rfl, _⟩ | ⟨g, cap, cur, rfl, _, hgg, _⟩
    · cases hv
    · have : g = k := by simpa [Value.ownBlock] using hv
      subst this
      rw [hgg] at h1
      cases h1
      cases h2
theorem buf.free {P : Nat → Prop} {W W' : World} {x : List UInt8} {v : Value} (h : buf P W x v) {row : Option Nat} {B : Nat} (hg : W.grownBy W' row) (hr : NoRow B W row) : buf P W' x v :=
  h.kk ⟨hg.size, fun k cs t ro hk hx => (hg.block k (Array.getElem?_eq_some_iff.1 hx).1 (fun e => by obtain ⟨_, o, h1, h2⟩ := hr k e.symm; rw [hx] at h1; cases h1; cases h2)).trans hx⟩
theorem sci_free {hi : Nat} {w : World} {P : Nat → Prop} {a : Addr} {L : List (List UInt8)} {Y : List UInt8} {vY : Value} {xl : Int} (hB : w.heap.size ≤ hi) : Free hi (SCI hi w P a L Y vY xl) := fun k W W' row hs hg hr => by
  obtain ⟨rv, xs, s1, s2, s3, s4, s5, s6, s7⟩ := hs
  exact ⟨rv, xs, free_boxed (β := Unit) hi _ _ (fun _ => rv) () W W' row s1 hg hr, free_row (β := Unit) s2 hg hr, s3, free_boxed (β := Unit) hi _ _ (fun _ => _) () W W' row s4 hg hr, free_below (β := Unit) hB (Nat.le_refl _) () W W' row s5 hg hr, s6.free hg hr, Nat.le_trans s7 hg.size⟩

theorem SCI.rdz {hi base : Nat} {w W : World} {P : Nat → Prop} {a : Addr} {L : List (List UInt8)} {Y : List UInt8} {oy : Option Addr} {cy : Nat} {xl : Int} (h : SCI hi w P a L Y (.slice oy Y.length cy) xl L.length W) (hYL : (scanL Y).1 = L) (ha : adr (.slice oy Y.length cy) = a)
    (hb : ∀ a', oy = some a' → base ≤ a'.block) (hhi : base ≤ hi) : ∃ o c, Boxed W w.heap.size 28 (.slice o L.length c) ∧ rdz base W L (.slice o L.length c) ∧ Boxed W (w.heap.size + 1) 3 (.int .i64 (xl - (atL L L.length : Nat))) ∧ Below w.heap.size w W := by
  obtain ⟨rv, xs, s1, s2, s3, s4, s5, s6, s7⟩ := h
  have hload : ∀ i, i < L.length → ∃ ab cb, xs[i]? = some (.slice (some ab) (lk L i).length cb) ∧ base ≤ ab.block ∧ rd W (lk L i) (.slice (some ab) (lk L i).length cb) := fun i hi => by
    have hld := at_load Y i (by rw [hYL]; exact hi)
    rw [hYL] at hld
    obtain ⟨q1, q2, q3, q4, q5⟩ := hld
    refine ⟨_, _, s3 i hi, ?_, ?_⟩
    · rw [block_add]
      obtain ⟨o2, a2, c2, e2, _, _, e3, _⟩ := s6.1
      cases e2
      obtain rfl := e3 (by omega)
      rw [← ha]
      exact hb _ rfl
    · obtain ⟨o2, a2, c2, e2, _, _, e3, _⟩ := s6.1
      cases e2
      obtain rfl := e3 (by omega)
      have : a2 = a := ha
      subst this
      have h2 := s6.1.part (atL L i + 4) (lk L i).length (lk L i).length q5 (Nat.le_refl _) (by unfold maxLen; omega)
      rw [q2] at h2
      exact h2
  rcases s2.2 with ⟨rfl, h0⟩ | ⟨g, cap, cur, rfl, hg, hgg, r1, r2, r3, r4⟩
  · refine ⟨none, 0, by rw [h0]; exact s1, ⟨none, ⟨0, 0, none⟩, 0, by rw [h0], by omega, by unfold maxLen; omega, fun h => by omega, fun _ => .inl (by rw [h0]), fun i hi => by omega⟩, s4, s5⟩
  · refine ⟨some ⟨g, 0, none⟩, cap, s1, ⟨some ⟨g, 0, none⟩, ⟨g, 0, none⟩, cap, rfl, r1, r2, fun _ => ⟨rfl, Nat.le_trans hhi hg⟩, fun _ => .inr rfl, fun i hi => ?_⟩, s4, s5⟩
    obtain ⟨ab, cb, q1, q2, q3⟩ := hload i hi
    rw [lk_get hi] at q1 q3
    exact ⟨ab, cb, s2.cells (g := g) rfl i _ q1, q2, q3⟩
set_option maxRecDepth 100000 in
set_option maxHeartbeats 4000000 in
theorem pscan_any (x : List UInt8) (v : Value) (w : World) (hx : rd w x v) (hf : fit v) (hl : x.length ≤ 4000000) :
    Calls Try.prog 48 #[v] w fun e w' => ∃ o c, e = .returned (.tuple #[.slice o (scanL x).1.length c, .int .i64 ((scanL x).2 : Nat)]) ∧ Hid (rdz w.heap.size w' (scanL x).1 (.slice o (scanL x).1.length c) ∧ Below w.heap.size w w') := by
  obtain ⟨o, c, rfl, hc1, hc2⟩ := hx.form
  have hyl := scan_whole x
  have hwl : (wholeB x).length ≤ x.length := by unfold wholeB; rw [List.length_take]; omega
  obtain ⟨q1, q2⟩ := at_end x
  obtain ⟨L, hL⟩ : ∃ L, (scanL x).1 = L := ⟨_, rfl⟩
  obtain ⟨T, hT⟩ : ∃ T, (scanL x).2 = T := ⟨_, rfl⟩
  have HW : Hid (∀ W : World, Below w.heap.size w W → Calls Try.prog 64 #[.slice o x.length c] W fun e w' => ∃ o c, e = .returned (.slice o (wholeB x).length c) ∧ Hid (ow W.heap.size w' (.slice o (wholeB x).length c) (wholeB x) ∧ Below W.heap.size W w')) := Lib.hid fun W hW => whole_any x _ W (hx.below hW) hf hl
  rw [hL, hT] at q2
  rw [hL] at hyl
  rw [hL, hT]
  obtain ⟨Y, hY⟩ : ∃ Y, wholeB x = Y := ⟨_, rfl⟩
  rw [hY] at HW hyl hwl
  have HY : Hid ((scanL Y).1 = L) := Lib.hid (by rw [hyl])
  have HE := Lib.hid (And.intro q2 (And.intro hwl hl))
  clear hx hf hc1 hc2 hl hyl q1 q2 hL hT hY hwl
  refine (callsIn_wide (n := 9)).1 ?_
  refine callsIn_of_wp_marks Try.func48 rfl trivial ?_ rfl
  simp only [Try.ntmps48, List.size_toArray, List.length_cons, List.length_nil, Nat.reduceAdd, Nat.reduceSub, Array.replicate_succ, Array.replicate_zero, List.push_toArray, List.append_toArray, List.nil_append, List.cons_append]
  gi_wp2_with fail
  obtain ⟨W0, hW0, hB0, hsz, bL, bT⟩ : ∃ W0, (w.alloc (Obj.cells #[Value.slice none 0 0] 28)).alloc (Obj.cells #[Value.int IntKind.i64 (x.length : Nat)] 3) = W0 ∧ Below w.heap.size w W0 ∧ W0.heap.size = w.heap.size + 1 + 1 ∧ Boxed W0 w.heap.size 28 (.slice none 0 0) ∧ Boxed W0 (w.heap.size + 1) 3 (.int .i64 (x.length : Nat)) := by
    have h := World.alloc_heap_new (w.alloc (Obj.cells #[Value.slice none 0 0] 28)) (Obj.cells #[Value.int IntKind.i64 (x.length : Nat)] 3)
    rw [World.size_alloc] at h
    exact ⟨_, rfl, by go_grown, by simp, (Boxed.new w _ _).alloc _, h⟩
  rw [hW0]
  clear hW0
  refine ⟨trivial, ?_⟩
  refine (callsIn_wide.2 (HW.out W0 hB0)).mono ?_
  rintro e W1 ⟨oy, cy, rfl, HQ⟩
  have HB0 := Lib.hid hB0
  have HZ := Lib.hid hsz
  have BL := Lib.hid bL
  have BT := Lib.hid bT
  clear hB0 hsz bL bT HW
  gi_wp2_with fail
  refine ⟨trivial, ?_⟩
  refine (frames_in _ _ _ _ _).mono ?_
  rintro e w' ⟨rfl, rfl⟩
  gi_wp2_with fail
  obtain ⟨W2, hW2⟩ : ∃ W2, W1.alloc (.cells #[.slice oy Y.length cy] 27) = W2 := ⟨_, rfl⟩
  obtain ⟨hb2, bS, hz2⟩ : Below W1.heap.size W1 W2 ∧ Boxed W2 W1.heap.size 27 (.slice oy Y.length cy) ∧ W2.heap.size = W1.heap.size + 1 := by
    rw [← hW2]
    exact ⟨(Below.refl _ _).alloc (Nat.le_refl _) _, Boxed.new W1 _ _, by simp⟩
  rw [hW2]
  obtain ⟨hQ1, hQ2⟩ := HQ.out
  have hz0 := HZ.out
  have hz1 := hQ2.size
  have hB2 : Below w.heap.size w W2 := (HB0.out.trans (hQ2.mono HB0.out.size)).trans (hb2.mono (by omega))
  have bL2 : Boxed W2 w.heap.size 28 (.slice none 0 0) := Boxed.kept (Boxed.kept BL.out (grown_bel hQ2) (by simp)) (grown_bel hb2) (by simp)
  have bT2 : Boxed W2 (w.heap.size + 1) 3 (.int .i64 (x.length : Nat)) := Boxed.kept (Boxed.kept BT.out (grown_bel hQ2) (by simp)) (grown_bel hb2) (by simp)
  obtain ⟨P, hP⟩ : ∃ P : Nat → Prop, P = fun k => k ≠ w.heap.size ∧ k ≠ w.heap.size + 1 ∧ k < W2.heap.size := ⟨_, rfl⟩
  have hrd : rd W2 Y (.slice oy Y.length cy) := (ow.rd hQ1).below hb2
  have hbuf : buf P W2 Y (.slice oy Y.length cy) := by
    refine ⟨hrd, hQ1.fit, fun a n c' h hx => ?_⟩
    cases h
    obtain ⟨h1, h2, _⟩ := hQ1.lt a.block (by simp [Value.ownBlock])
    rw [hP]
    exact ⟨by omega, by omega, by omega⟩
  have hPx : P W1.heap.size := by rw [hP]; exact ⟨by omega, by omega, by omega⟩
  have SQ := frames_seq (9 - 1) (by omega) P Y _ W1.heap.size W2 hbuf bS hPx
  rw [HY.out] at SQ
  have hI0 : SCI W2.heap.size w P (adr (.slice oy Y.length cy)) L Y (.slice oy Y.length cy) (x.length : Nat) 0 W2 :=
    ⟨.slice none 0 0, [], bL2, World.ownsRow_nil _ _ _ _, fun i h => absurd h (by omega), by simpa [atL] using bT2, hB2, hbuf, Nat.le_refl _⟩
  have HI0 := Lib.hid hI0
  have HP := Lib.hid hP
  have HSZ : Hid (w.heap.size + 2 ≤ W2.heap.size) := Lib.hid (by omega)
  have HBUF := Lib.hid hbuf
  have HBW2 : Hid (Below W2.heap.size W2 W2) := Lib.hid (Below.refl _ _)
  obtain ⟨ay, hay⟩ : ∃ ay, adr (.slice oy Y.length cy) = ay := ⟨_, rfl⟩
  rw [hay] at HI0 SQ
  have HAY := Lib.hid hay
  have HOY : Hid (∀ a', oy = some a' → w.heap.size + 2 ≤ a'.block) := Lib.hid fun a' e => by
    have := (hQ1.lt a'.block (by rw [e]; rfl)).1
    omega
  obtain ⟨ii, hi, hj⟩ := Option.map_eq_some_iff.1 infoSl
  simp only [Prod.mk.injEq] at hj
  obtain ⟨hj1, hj2, hj3⟩ := hj
  clear hI0 hP hbuf hrd hB2 bL2 bT2 hQ1 hQ2 hz0 bS hb2 hW2 hay hz2 hz1 hPx
  refine range_ix (by omega) (gf := 70) (lb := #[.pointer (some ⟨W1.heap.size, 0, none⟩)]) rfl (enters_of Try.func70 (by kernel_rfl) rfl)
    SQ (Below.refl _ _) (fun _ _ => rfl)
    (SCI W2.heap.size w P ay L Y (.slice oy Y.length cy) (x.length : Nat))
    (fun _ _ _ => False) (sci_free (by have := HSZ.out; omega)) (fun _ _ _ _ _ hs _ _ => hs) HI0.out
    (fun k v => { tmps := #[Value.slice o x.length c, undef, Value.pointer (some { block := w.heap.size, off := 0 }),
          Value.pointer (some { block := w.heap.size + 1, off := 0 }), undef, v, Value.slice o x.length c,
          Value.int IntKind.i64 ↑x.length, Value.slice o x.length c, Value.slice oy Y.length cy,
          Value.func (Fn.func 70) #[] #[Value.pointer (some { block := W1.heap.size, off := 0 })], .int .i64 (atL L k : Nat), v, undef,
          undef, undef, undef, undef, undef, undef, undef, undef, undef, undef], defers := [] })
    (fun k v W l r o' _ _ h => h) ?assign ?body ?done ?stop
  case assign =>
    rintro l' k v W K hK
    have HK := Lib.hid hK
    clear hK
    unfold encF
    generalize atL L k = A at *
    gi_wp2_with fail
    exact HK.out
  case body =>
    rintro l' k v W hl' _ hk ⟨rv, xs, s1, s2, s3, s4, s5, s6, s7⟩ hpre
    have hld := at_load Y k (by rw [HY.out]; exact hk)
    rw [HY.out] at hld
    obtain ⟨q1, q2, q3, q4, q5⟩ := hld
    have qs := atL_succ L k hk
    unfold PreF at hpre
    obtain ⟨aa, haa⟩ : ∃ aa, aa = ay.add (atL L k + 4) := ⟨_, rfl⟩
    rw [← haa] at hpre
    subst hpre
    have S1 := Lib.hid s1
    have S2 := Lib.hid s2
    have S3 := Lib.hid s3
    have S4 := Lib.hid s4
    have S5 := Lib.hid s5
    have S6 := Lib.hid s6
    have S7 := Lib.hid s7
    have hsf : sizeF ((lk L k).length : Int) = ((4 + (lk L k).length : Nat) : Int) := by unfold sizeF; rw [if_neg (by omega)]; omega
    have HS := Lib.hid hsf
    have f1 := s1.frozen
    have c1 := s1.cell
    have QS := Lib.hid qs
    have HX5 := Lib.hid q5
    have HAA := Lib.hid haa
    have HK := Lib.hid hk
    have HKX : Hid (k ≤ 4000000) := Lib.hid (by
      have h1 := atL_ge L k (by omega)
      have h2 := HE.out
      omega)
    obtain ⟨A, hA⟩ : ∃ A, atL L k = A := ⟨_, rfl⟩
    obtain ⟨m, hm⟩ : ∃ m, (lk L k).length = m := ⟨_, rfl⟩
    have HLK := Lib.hid (And.intro hA hm)
    rw [hA] at S4 QS HX5 HAA ⊢
    rw [hm] at HS QS HX5 ⊢
    clear q1 q2 q3 q4 q5 qs hsf s1 s2 s3 s4 s5 s6 s7 haa hk hA hm
    gi_wp2_with (gi_at_builtin; refine wpListIn_append_own_at _ rfl _ _ 28 rfl W2.heap.size 27 ii (.slice none 0 0) 1 24 Try.underlying28 hi hj1 hj2 hj3 rfl (by decide) rv k xs rfl (S2.out.alloc _) ⟨W.heap.size, 0, none⟩ 1 1 [.slice (some aa) m m] rfl rfl (cell_one_new _ _ _) ?c2 ?c3 ?c4 ?c5 ?_)
    case c2 => intro u hu; simp at hu; subst hu; rfl
    case c3 => have := HKX.out; unfold maxLen; omega
    case c4 => have := HKX.out; omega
    case c5 => have := S7.out; simp; omega
    intro v6 w6 own6 gr6 nil6 at6
    obtain ⟨g6, c6, rfl⟩ : ∃ g cap, v6 = .slice (some ⟨g, 0, none⟩) (k + 1) cap := by
      rcases own6.2 with ⟨_, h0⟩ | ⟨g, cap, cur, hv, _⟩
      · omega
      · exact ⟨g, cap, hv⟩
    have hba : Below W.heap.size W (W.alloc (.cells #[.slice (some aa) m m] 27)) := (Below.refl _ _).alloc (Nat.le_refl _) _
    have hlt := S2.out.lt
    have hkk : KK P W w6 := (KK.below hba).trans (KK.grown gr6 (fun r e h => by rw [HP.out] at h; have := (hlt r e).1; omega))
    have hko : KeepsOthers W w6 := (KeepsOthers.alloc W _).trans (KeepsOthers.of_grownBy gr6 (fun j o e ho => by
      rcases S2.out.2 with ⟨rfl, _⟩ | ⟨g, cap, cur, rfl, _, hg, _⟩
      · cases e
      · have : g = j := by simpa [Value.ownBlock] using e
        subst this
        have h2 := (hba.block g (Array.getElem?_eq_some_iff.1 hg).1).trans hg
        rw [h2] at ho
        cases ho
        rfl))
    have hsz6 := HSZ.out
    have bL6 : Boxed w6 w.heap.size 28 rv := Boxed.kept (S1.out.alloc _) gr6 (by intro e; have := (hlt _ e.symm).1; omega)
    have bT6 : Boxed w6 (w.heap.size + 1) 3 (.int .i64 ((x.length : Int) - (A : Int))) := Boxed.kept (S4.out.alloc _) gr6 (by intro e; have := (hlt _ e.symm).1; omega)
    have hb6 : Below w.heap.size w w6 := ((S5.out.trans (hba.mono S5.out.size)).grown gr6 (by have := S5.out.size; have := hba.size; omega) (fun r e => by have := (hlt r e).1; omega))
    have hs6 : W2.heap.size ≤ w6.heap.size := by have := S7.out; have := hba.size; have := gr6.size; omega
    have f6 := bL6.frozen
    have d6 := bL6.cell
    have hne6 : g6 ≠ w.heap.size := by have := (own6.lt g6 (by simp [Value.ownBlock])).1; omega
    obtain ⟨W7, hW7⟩ : ∃ W7, w6.setCell ⟨w.heap.size, 0, none⟩ (.slice (some ⟨g6, 0, none⟩) (k + 1) c6) = W7 := ⟨_, rfl⟩
    have bL7 : Boxed W7 w.heap.size 28 (.slice (some ⟨g6, 0, none⟩) (k + 1) c6) := by rw [← hW7]; exact bL6.set _
    have bT7 : Boxed W7 (w.heap.size + 1) 3 (.int .i64 ((x.length : Int) - (A : Int))) := by rw [← hW7]; exact bT6.other (by omega) _
    have hk7 : KK P W W7 := by rw [← hW7]; exact hkk.trans (KK.set _ _ _ (by rw [HP.out]; intro h; exact h.1 rfl))
    have hko7 : KeepsOthers W W7 := by rw [← hW7]; exact hko.trans (KeepsOthers.setCell _ _ _)
    have hb7 : Below w.heap.size w W7 := by rw [← hW7]; exact hb6.setCell (p := ⟨w.heap.size, 0, none⟩) (by simp) _
    have own7 : W7.ownsRow W2.heap.size 27 1 (.slice (some ⟨g6, 0, none⟩) (k + 1) c6) (k + 1) (xs ++ [.slice (some aa) m m]) := by
      rw [← hW7]
      exact own6.kept (grownBy_setCell' w6 w.heap.size _) (.inr (by simp [Value.ownBlock]; exact hne6))
    have hs7 : W2.heap.size ≤ W7.heap.size := by rw [← hW7]; simpa [World.setCell] using hs6
    have BL7 := Lib.hid bL7
    have BT7 := Lib.hid bT7
    have K7 := Lib.hid hk7
    have KO7 := Lib.hid hko7
    have HB7 := Lib.hid hb7
    have OWN7 := Lib.hid own7
    have HS7 := Lib.hid hs7
    have HXL : Hid (xs.length = k) := Lib.hid (by have := S2.out.1; omega)
    clear own6 gr6 nil6 at6 hba hlt hkk hko bL6 hb6 hs6 bT6 bL7 bT7 hk7 hko7 hb7 own7 hs7 c1 f1 hne6
    gi_wp2_with fail
    clear f6 d6 hW7 hsz6
    have f7 := BT7.out.frozen
    have c7 := BT7.out.cell
    have hmx : Try.prog.follows .mixedOrders = true := by kernel_rfl
    have hw7 : IntKind.i64.wrap ((x.length : Int) - (A : Int) - (4 + (m : Int))) = (x.length : Int) - (A : Int) - (4 + (m : Int)) := by have := HE.out; have := HX5.out; go_unwrap
    have QF : Hid (ownPostN W2.heap.size P (SCI W2.heap.size w P ay L Y (.slice oy Y.length cy) (x.length : Nat)) (fun _ _ _ => False) k W .normal { tmps := #[], defers := [] } ((W7.setCell ⟨w.heap.size + 1, 0, none⟩ (.int .i64 ((x.length : Int) - (A : Int) - (4 + (m : Int))))).drew)) := Lib.hid (by
      have hsz6 := HSZ.out
      have hk8 : KK P W (W7.setCell ⟨w.heap.size + 1, 0, none⟩ (.int .i64 ((x.length : Int) - (A : Int) - (4 + (m : Int))))) := K7.out.trans (KK.set _ _ _ (by rw [HP.out]; intro h; exact h.2.1 rfl))
      have hne : g6 ≠ w.heap.size + 1 := by have := (OWN7.out.lt g6 (by simp [Value.ownBlock])).1; omega
      refine ⟨((KO7.out.trans (KeepsOthers.setCell _ _ _)).trans (KeepsOthers.drew _)).from _, hk8, .slice (some ⟨g6, 0, none⟩) (k + 1) c6, xs ++ [.slice (some aa) m m], ?_, ?_, fun i hi => ?_, ?_, ?_, ?_, ?_⟩
      · exact BL7.out.other (B' := w.heap.size + 1) (by omega) _
      · exact World.ownsRow.drew (OWN7.out.kept (grownBy_setCell' W7 (w.heap.size + 1) _) (.inr (by simp [Value.ownBlock]; exact hne)))
      · by_cases e : i < k
        · rw [List.getElem?_append_left (by rw [HXL.out]; exact e)]
          exact S3.out i e
        · obtain rfl : i = k := by omega
          rw [List.getElem?_append_right (by rw [HXL.out]; exact Nat.le_refl _), HXL.out, Nat.sub_self, HLK.out.1, HLK.out.2, ← HAA.out]
          rfl
      · rw [QS.out, show ((x.length : Nat) : Int) - ((A + (4 + m) : Nat) : Int) = (x.length : Int) - (A : Int) - (4 + (m : Int)) by omega]
        exact BT7.out.set _
      · exact (HB7.out.setCell (p := ⟨w.heap.size + 1, 0, none⟩) (by simp) _).drew
      · exact S6.out.kk hk8
      · have := HS7.out; simpa [World.setCell] using this)
    gi_region_with_o (refine ⟨trivial, ?_⟩; refine (CallsIn.inRound l' (callsIn_wide.2 (psize_any _ _))).mono ?_; rintro e w0 ⟨rfl, rfl⟩; rw [HS.out])
    all_goals exact QF.out
  case done =>
    rintro D W hD hS hK
    obtain ⟨o5, c5, b1, hz5, b2, hB1⟩ := hS.rdz (base := w.heap.size + 2) HY.out HAY.out HOY.out (by have := HSZ.out; omega)
    have hT : ((x.length : Nat) : Int) - (atL L L.length : Nat) = (T : Int) := by have := HE.out.1; omega
    rw [hT] at b2
    have f1 := b1.frozen
    have c1 := b1.cell
    have f2 := b2.frozen
    have c2 := b2.cell
    have B1 := Lib.hid b1
    have B2 := Lib.hid b2
    have HB := Lib.hid hB1
    have HK := Lib.hid hK
    have HZ5 := Lib.hid hz5
    obtain ⟨W9, hW9⟩ : ∃ W9, ((W.setCell ⟨w.heap.size, 0, none⟩ (.slice o5 L.length c5)).setCell ⟨w.heap.size + 1, 0, none⟩ (.int .i64 (T : Nat))).drew = W9 := ⟨_, rfl⟩
    have hDz := HSZ.out
    have hK9 : W9.heap[D]? = some (.deferred (some [])) := by
      rw [← hW9]
      exact (Below.heap_setCell _ _ _ _ (by simp; omega)).trans ((Below.heap_setCell _ _ _ _ (by simp; omega)).trans hK)
    have hF9 : Fr (fun k => k < w.heap.size + 2) W W9 := by
      rw [← hW9]
      have h2 := (Fr.set (B := fun k => k < w.heap.size + 2) W w.heap.size 0 (.slice o5 L.length c5) (show w.heap.size < w.heap.size + 2 by omega)).trans (Fr.set _ (w.heap.size + 1) 0 (.int .i64 (T : Nat)) (show w.heap.size + 1 < w.heap.size + 2 by omega))
      exact ⟨h2.1, h2.2⟩
    have e1 : Boxed W9 w.heap.size 28 (.slice o5 L.length c5) := by rw [← hW9]; exact (b1.set _).other (B' := w.heap.size + 1) (by omega) _
    have e2 : Boxed W9 (w.heap.size + 1) 3 (.int .i64 (T : Nat)) := by rw [← hW9]; exact (b2.other (B' := w.heap.size) (by omega) _).set _
    have hB9 : Below w.heap.size w W9 := by rw [← hW9]; exact ((hB1.setCell (p := ⟨w.heap.size, 0, none⟩) (by simp) _).setCell (p := ⟨w.heap.size + 1, 0, none⟩) (by simp) _).drew
    have hz9 : rdz (w.heap.size + 2) W9 L (.slice o5 L.length c5) := hz5.fr _ (fun k h => h) hF9
    have k1 := (Boxed.kept e1 (grownBy_putObj' W9 D (.deferred none)) (by intro e; cases e; omega)).cell
    have k2 := (Boxed.kept e2 (grownBy_putObj' W9 D (.deferred none)) (by intro e; cases e; omega)).cell
    have QD : Hid (rdz w.heap.size (W9.putObj D (.deferred none)) L (.slice o5 L.length c5) ∧ Below w.heap.size w (W9.putObj D (.deferred none))) := Lib.hid ⟨(hz9.keep (fun a c h => cell_put hK9 rfl a c h)).mono (by omega), hB9.trans (belowK_b (w := w) (Nat.le_refl _) W9 D _ _ (by omega) hK9 rfl rfl)⟩
    have HK9 := Lib.hid hK9
    clear b1 b2 hB1 hK hz5 hT hS hK9 hF9 e1 e2 hB9 hz9 hDz
    have hmx : Try.prog.follows .mixedOrders = true := by kernel_rfl
    have HW9 := Lib.hid hW9
    clear hW9
    gi_wp2_with fail
    gi_region_with_o (fail)
    all_goals
      rw [HW9.out]
      clear f1 c1 f2 c2 hmx
      gi_wp2_with fail
      refine ⟨by simp, .inl ⟨_, _, rfl, run_takeDeferred HK9.out, ?_⟩⟩
      exact ⟨.tuple #[.slice o5 L.length c5, .int .i64 (T : Nat)], by simp [results, Try.results48, go_sem, k1, k2], o5, c5, rfl, QD⟩
  case stop =>
    rintro D c pre W hD hS h
    exact h.elim
end Go.Proofs.Ytbjdbphnccdpbaa
