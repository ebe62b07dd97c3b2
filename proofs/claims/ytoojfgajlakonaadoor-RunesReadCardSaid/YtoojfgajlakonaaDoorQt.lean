/-
  The contract of runes.Quote.
-/
import Derived.Test.YtoojfgajlakonaaDoorCnt
import Derived.Test.YtoojfgajlakonaaDoorMap
import Derived.Test.YtoojfgajlakonaaDoorBld
set_option linter.unusedVariables false
namespace Go.Proofs.YtoojfgajlakonaaDoor
open Go.RowKit Go.Shelf Go.Maps
attribute [local go_sem] Oper.semAt_some

theorem bld_kept {T e : TypeId} {B b : Nat} {bs : List Value} {w w' : World} {row : Option Nat} (h : Lib.IsBuilderF T e B b bs w) (hg : w.grownBy w' row)
    (hr : ∀ r, row = some r → ∀ c fz, w.heap[r]? ≠ some (.cells c e fz) ∧ w.heap[r]? ≠ some (.cells c T fz)) : Lib.IsBuilderF T e B b bs w' := by
  have one : ∀ p, Lib.BuilderAtF T e B b p bs w → Lib.BuilderAtF T e B b p bs w' := by
    intro p h
    have hlt := h.lt
    obtain ⟨hB, v, hb, hown, hne⟩ := h
    refine ⟨hB, v, (hg.block b hlt ?_).trans hb, hown.kept hg ?_, hne⟩
    · intro e1
      exact (hr b e1.symm _ _).2 hb
    · cases hv : v.ownBlock with
      | none => exact .inl rfl
      | some g =>
        refine .inr ?_
        intro e1
        obtain ⟨c, fz, hc⟩ := Lib.ownsRowF_kind hown g hv
        exact (hr g e1.symm _ _).1 hc
  exact h.elim (fun x => .inl (one _ x)) (fun x => .inr (one _ x))
theorem grown_of_below {w w' : World} (h : Below w.heap.size w w') : w.grownBy w' none := ⟨h.os, h.tape, h.output, h.size, fun k hk _ => h.block k hk⟩
theorem bld_below {T e : TypeId} {B b : Nat} {bs : List Value} {w w' : World} (h : Lib.IsBuilderF T e B b bs w) (hb : Below w.heap.size w w') : Lib.IsBuilderF T e B b bs w' :=
  bld_kept h (grown_of_below hb) (fun _ e => by cases e)
theorem bld_box {T e t : TypeId} {B b N : Nat} {v u : Value} {bs : List Value} {w : World} (h : Lib.IsBuilderF T e B b bs w) (hN : Boxed w N t v) (h1 : t ≠ e) (h2 : t ≠ T) : Lib.IsBuilderF T e B b bs (w.setCell ⟨N, 0, none⟩ u) :=
  bld_kept h (grownBy_setCell' w N u) (fun r e1 c fz => by cases e1; rw [show w.heap[N]? = _ from hN]; exact ⟨(fun e2 => by cases e2; exact h1 rfl), (fun e2 => by cases e2; exact h2 rfl)⟩)
theorem bld_own {β : Type} {T e : TypeId} {B b : Nat} (f : β → List Value) : Own (fun s W => Lib.IsBuilderF T e B b (f s) W) := fun s X Y row hs hg hr =>
  bld_kept hs hg (fun r e1 c fz => by
    obtain ⟨o, ho, hc⟩ := hr r e1
    rw [ho]
    exact ⟨(fun e2 => by cases e2; cases hc), (fun e2 => by cases e2; cases hc)⟩)
theorem keepsOthers_of_kept {e : TypeId} {b : Nat} {w w' : World} (h : Lib.OthersKept e (some b) w w') (hz : w.heap.size ≤ w'.heap.size) (hb : ∃ c t fz, w.heap[b]? = some (.cells c t fz)) : KeepsOthers w w' :=
  ⟨hz, fun k o hk ho => h k o hk (fun e1 => by obtain ⟨c, t, fz, hc⟩ := hb; cases e1; rw [hk] at hc; cases hc; cases ho) (fun c fz e1 => by rw [e1] at ho; cases ho)⟩
theorem bld_cells {T e : TypeId} {B b : Nat} {bs : List Value} {w : World} (h : Lib.IsBuilderF T e B b bs w) : ∃ c t fz, w.heap[b]? = some (.cells c t fz) := by
  rcases h with ⟨_, v, hb, _⟩ | ⟨_, v, hb, _⟩ <;> exact ⟨_, _, _, hb⟩
theorem boxed_others {e t : TypeId} {b N : Nat} {v : Value} {w w' : World} (h : Lib.OthersKept e (some b) w w') (hN : Boxed w N t v) (ht : t ≠ e) (hne : N ≠ b) : Boxed w' N t v :=
  h N _ hN (fun e1 => by cases e1; exact hne rfl) (fun c fz e1 => by cases e1; exact ht rfl)
theorem map_others {e k : TypeId} {b bm n : Nat} {D : DataW Unit} {P : Program} {R : Value → Option (DataW Unit × List MemPlace)} {w w' : World} (h : Lib.OthersKept e (some b) w w') (hm : w.ownsMap P k R bm n D) (hb : ∃ c t fz, w.heap[b]? = some (.cells c t fz)) : w'.ownsMap P k R bm n D := by
  obtain ⟨es, clock, he, rest⟩ := hm
  exact ⟨es, clock, h bm _ he (fun e1 => by obtain ⟨c, t, fz, hc⟩ := hb; cases e1; rw [he] at hc; cases hc) (fun c fz e1 => by cases e1), rest⟩

/-- The letter of a rune's short escape; 0: it has none. -/
def shortN (r : Nat) : Nat := if r = 8 then 98 else if r = 9 then 116 else if r = 10 then 110 else if r = 12 then 102 else if r = 13 then 114 else if r = 34 then 34 else if r = 92 then 92 else 0
def hexd (n : Nat) : UInt8 := if n < 10 then (48 + n).toUInt8 else (87 + n).toUInt8
/-- How a rune is written. -/
def qRune (r : Nat) : List UInt8 := if shortN r ≠ 0 then [92, (shortN r).toUInt8] else if r < 32 then [92, 117, 48, 48, hexd (r / 16), hexd (r % 16)] else Lib.encodeRune r
/-- How a text is written. -/
def quoteL (l : List UInt8) : List UInt8 := 34 :: ((steps l).flatMap fun x => qRune x.2) ++ [34]

theorem look_letters {W : World} {b n : Nat} (h : W.ownsMap Tryd.prog 3 (plainElem Tryd.prog 5) b n lettersD) (r : Nat) (hr : r ≤ 1114111) :
    (Instr.lookup 41 (.map (some b)) (.int .i64 r) true).run Tryd.prog W = .ok (.tuple #[.int .u8 (shortN r), .bool (decide (shortN r ≠ 0))]) W := by
  have hat := lettersD_at r
  have hz : (zeroValue 5).run Tryd.prog W = .ok (.int .u8 0) W := by kernel_rfl
  have hkey : keyOf Tryd.prog 3 (.int .i64 r) = some (.int .i64 r) := keyOf_int_mk Tryd.underlying3 (WalkArith.wf_i64 (by omega))
  have hlk := look_ok h law3 Tryd.underlying41 Tryd.underlying5 hz hkey
  rw [hat] at hlk
  have hc : ∀ k : Nat, ((r : Int) = (k : Int)) = (r = k) := fun k => propext Int.ofNat_inj
  have h8 : ((r : Int) = 8) = (r = 8) := hc 8
  have h9 : ((r : Int) = 9) = (r = 9) := hc 9
  have h10 : ((r : Int) = 10) = (r = 10) := hc 10
  have h12 : ((r : Int) = 12) = (r = 12) := hc 12
  have h13 : ((r : Int) = 13) = (r = 13) := hc 13
  have h34 : ((r : Int) = 34) = (r = 34) := hc 34
  have h92 : ((r : Int) = 92) = (r = 92) := hc 92
  simp only [h8, h9, h10, h12, h13, h34, h92] at hlk
  unfold shortN
  repeat' split at hlk
  all_goals (rcases hlk with ⟨e, hrun⟩ | ⟨c, e, hrun⟩)
  all_goals first | (cases e; done) | (cases e; rw [hrun]; simp [*])

theorem hexIdx (k : Nat) (h : k < 16) : (⟨#[48, 49, 50, 51, 52, 53, 54, 55, 56, 57, 97, 98, 99, 100, 101, 102]⟩ : ByteArray)[k]'(by exact h) = hexd k := by
  match k, h with
  | 0, _ => rfl
  | 1, _ => rfl
  | 2, _ => rfl
  | 3, _ => rfl
  | 4, _ => rfl
  | 5, _ => rfl
  | 6, _ => rfl
  | 7, _ => rfl
  | 8, _ => rfl
  | 9, _ => rfl
  | 10, _ => rfl
  | 11, _ => rfl
  | 12, _ => rfl
  | 13, _ => rfl
  | 14, _ => rfl
  | 15, _ => rfl
  | n + 16, h => exact absurd h (by omega)
theorem and15 : ∀ X : Fin 32, bits .and .i64 ((X.val : Nat) : Int) 15 = ((X.val % 16 : Nat) : Int) := by decide
theorem quoteL_of {l : List UInt8} {xs : List (Stp l)} (h : xs.map (·.1) = steps l) : quoteL l = 34 :: (xs.flatMap fun x => qRune x.1.2) ++ [34] := by
  have e : (xs.map (·.1)).flatMap (fun x => qRune x.2) = xs.flatMap fun x => qRune x.1.2 := List.flatMap_map ..
  rw [h] at e
  unfold quoteL
  rw [e]

/-- What lies in memory between two rounds of Quote's loop: the builder (block N1), the box of the letters' map (N2), the map (M), the iterator's text (B). -/
def QI (w : World) (s : ByteArray) (N1 N2 M B : Nat) (cs : List Value) (W : World) : Prop :=
  (Lib.IsBuilderF 40 5 w.heap.size N1 cs W ∧ Boxed W N2 41 (.map (some M)) ∧ Boxed W B 9 (.string s)) ∧
    (W.ownsMap Tryd.prog 3 (plainElem Tryd.prog 5) M 7 lettersD ∧ Below w.heap.size w W)
theorem QI_own {β : Type} {w : World} {s : ByteArray} {N1 N2 M B z : Nat} (f : β → List Value) (hM : M < z) (hz : w.heap.size ≤ z) : OwnFrom z (fun x W => QI w s N1 N2 M B (f x) W) := by
  refine OwnFrom.and (Own.from (fun x A C row hs hg hr => ⟨bld_own (fun _ : Unit => f x) () A C row hs.1 hg hr, boxed_own _ _ (fun _ : Unit => _) () A C row hs.2.1 hg hr, boxed_own _ _ (fun _ : Unit => _) () A C row hs.2.2 hg hr⟩) _) (OwnFrom.and ?_ (ownFrom_below (Nat.le_refl _) hz))
  intro x A C row hs hg hr
  exact hs.kept hg (fun e => by have := (hr _ e.symm).1; omega)
/-- One write of the builder, between two rounds. -/
theorem QI_step {w : World} {s : ByteArray} {N1 N2 M B : Nat} {cs cs' : List Value} {W W4 : World} {p : Value} (h : QI w s N1 N2 M B cs W) (hp : p = .pointer (some ⟨N1, 0, none⟩)) (h2 : N2 ≠ N1) (hB : B ≠ N1)
    (bd : Lib.BuilderAtF 40 5 w.heap.size N1 p cs' W4) (hb : Below w.heap.size W W4) (hk : Lib.OthersKept 5 (some N1) W W4) :
    QI w s N1 N2 M B cs' W4 ∧ KeepsOthers W W4 ∧ KpB w.heap.size B W W4 := by
  subst hp
  have hB4 := boxed_others hk h.1.2.2 (by decide) hB
  exact ⟨⟨⟨.inr bd, boxed_others hk h.1.2.1 (by decide) h2, hB4⟩, map_others hk h.2.1 (bld_cells h.1.1), h.2.2.trans hb⟩, keepsOthers_of_kept hk hb.size (bld_cells h.1.1), hb, hB4.trans h.1.2.2.symm⟩
theorem shortN_lt (r : Nat) : shortN r < 256 := by
  unfold shortN
  repeat' split
  all_goals decide
theorem byteCells_append (a b : List UInt8) : Lib.byteCells (a ++ b) = Lib.byteCells a ++ Lib.byteCells b := by simp [Lib.byteCells]
theorem byteCells_length (a : List UInt8) : (Lib.byteCells a).length = a.length := by simp [Lib.byteCells]
theorem qRune_le (r : Nat) : (qRune r).length ≤ 6 := by
  unfold qRune
  split
  · simp
  · split
    · simp
    · have := Lib.runeCells_le r
      rw [Lib.runeCells_length] at this
      omega
theorem flat_le {α : Type} (f : α → List UInt8) (k : Nat) (h : ∀ x, (f x).length ≤ k) : ∀ l : List α, (l.flatMap f).length ≤ k * l.length
  | [] => by simp
  | x :: l => by
    have := flat_le f k h l
    have := h x
    simp only [List.flatMap_cons, List.length_append, List.length_cons, Nat.mul_add]
    omega

set_option maxRecDepth 100000 in
set_option maxHeartbeats 1000000 in
theorem quote_no (s : ByteArray) (w : World) (hvd : Lib.validD s.data.toList = false) (hs : s.size ≤ maxLen) (hT : Lib.Utf8Tabs 0 1 w) :
    Calls Tryd.prog 10 #[.string s] w fun e w' => e = .returned (.tuple #[.string ⟨#[]⟩, .int .i64 10]) ∧ Below w.heap.size w w' := by
  have hv := valid_any s w hs hT
  rw [hvd] at hv
  have HV := Lib.hid hv
  clear hvd hs hv
  refine (callsIn_wide (n := 9)).1 ?_
  refine callsIn_of_wp_marks Tryd.func10 rfl trivial ?_ rfl
  simp only [Tryd.ntmps10, List.size_toArray, List.length_cons, List.length_nil, Nat.reduceAdd, Nat.reduceSub, Array.replicate_succ, Array.replicate_zero, List.push_toArray, List.append_toArray, List.nil_append, List.cons_append]
  gi_wp2_with fail
  refine ⟨trivial, ?_⟩
  refine (callsIn_wide.2 HV.out).mono ?_
  rintro e w1 ⟨rfl, hb1⟩
  gi_wp2_with fail
  exact ⟨_, by simp [results, Tryd.results10, go_sem], rfl, hb1⟩

set_option maxRecDepth 100000 in
set_option maxHeartbeats 1000000 in
theorem quote_yes (s : ByteArray) (w : World) (hvd : Lib.validD s.data.toList = true) (hs : s.size ≤ 4294967296) (h2 : 2 ≤ w.heap.size) (hT : Lib.Utf8Tabs 0 1 w) :
    Calls Tryd.prog 10 #[.string s] w fun e w' => e = .returned (.tuple #[.string ⟨(quoteL s.data.toList).toArray⟩, .int .i64 0]) ∧ Below w.heap.size w w' := by
  have hsM : s.size ≤ maxLen := by unfold maxLen; omega
  have hv := valid_any s w hsM hT
  rw [hvd] at hv
  have hsl := steps_length s.data.toList
  rw [show s.data.toList.length = s.size by rw [Array.length_toList]; rfl] at hsl
  have hS := Lib.hid hsM
  have HV := Lib.hid hv
  clear hsM hvd hv
  refine (callsIn_wide (n := 9)).1 ?_
  refine callsIn_of_wp_marks Tryd.func10 rfl trivial ?_ rfl
  simp only [Tryd.ntmps10, List.size_toArray, List.length_cons, List.length_nil, Nat.reduceAdd, Nat.reduceSub, Array.replicate_succ, Array.replicate_zero, List.push_toArray, List.append_toArray, List.nil_append, List.cons_append]
  gi_wp2_with fail
  refine ⟨trivial, ?_⟩
  refine (callsIn_wide.2 HV.out).mono ?_
  rintro e w1 ⟨rfl, hb1⟩
  have hsz1 := hb1.size
  gi_wp2_with fail
  refine ⟨trivial, ?_⟩
  refine (callsIn_wide.2 (letters_any _)).mono ?_
  rintro e w2 ⟨rfl, om, hb2⟩
  gi_wp2_with fail
  have z2 : w1.heap.size + 2 ≤ w2.heap.size := by
    have a1 := om.lt
    simp at a1
    omega
  have om' : w2.ownsMap Tryd.prog 3 (plainElem Tryd.prog 5) (w1.heap.size + 1) 7 lettersD := by simpa using om
  have bd1 : Lib.IsBuilderF 40 5 w.heap.size w1.heap.size [] (w1.alloc (.cells #[.pointer none, .slice none 0 0] 40)) :=
    .inl ⟨hsz1, _, World.alloc_heap_new _ _, World.ownsRowF_nil _ _ _ _, by simp [Value.ownBlock]⟩
  have bel2 : Below w.heap.size w w2 := (hb1.alloc (by omega) _).trans (hb2.mono (by simp; omega))
  have bd2 := bld_below (bld_below bd1 hb2) ((Below.refl _ w2).alloc (Nat.le_refl _) (.cells #[.map (some (w1.heap.size + 1))] 41))
  have bx2 := Boxed.new w2 41 (.map (some (w1.heap.size + 1)))
  have om2 := om'.alloc (.cells #[.map (some (w1.heap.size + 1))] 41)
  have bel3 := bel2.alloc (by omega) (.cells #[.map (some (w1.heap.size + 1))] 41)
  clear bd1 om om' bel2 hb2 HV
  refine ⟨trivial, ?_⟩
  refine (callsIn_wide.2 (writeByte_k w.heap.size w1.heap.size [] 34 _ bd2 (by simp) (by simp; omega))).mono ?_
  rintro e w3 ⟨rfl, bd3, hb3, hk3⟩
  have bx3 := boxed_others hk3 bx2 (by decide) (by omega)
  have om3 := map_others hk3 om2 (bld_cells bd2)
  have bel4 := bel3.trans hb3
  have z3 : w2.heap.size + 1 ≤ w3.heap.size := by have := hb3.size; simpa using this
  have bd3' : Lib.IsBuilderF 40 5 w.heap.size w1.heap.size (Lib.byteCells [34]) w3 := .inr bd3
  clear bd2 bd3 bx2 om2 bel3 hb3 hk3
  gi_wp2_with fail
  refine ⟨trivial, ?_⟩
  refine (all_in _ s _).mono ?_
  rintro e w' ⟨rfl, rfl⟩
  gi_wp2_with fail
  have bB := Boxed.new w3 9 (.string s)
  have hT3 := tabs_below hT bel4 h2
  refine wpIn_rangeFunc_ownG rfl (by omega) (gf := 37) (lb := #[.pointer (some ⟨w3.heap.size, 0, none⟩)]) rfl trivial (enters_of Tryd.func37 (by kernel_rfl) rfl)
    (all_stops 8 (by omega) s hS.out w3.heap.size w.heap.size _ ?cB h2 ?cm bB.cell ?cT) kpB_t (kpB_b ?d1 ?d2) (Below.refl _ _) (fun _ => rfl)
    (fun pre W => QI w s w1.heap.size w2.heap.size (w1.heap.size + 1) w3.heap.size (Lib.byteCells (34 :: pre.flatMap fun x => qRune x.1.2)) W)
    (fun _ _ _ => False) ?hI (fun _ _ _ _ _ hs _ _ => hs) ?h0
    (fun x => { tmps := #[.string s, undef, .string ⟨#[]⟩, .int .i64 0, .pointer (some ⟨w1.heap.size, 0, none⟩), .pointer (some ⟨w2.heap.size, 0, none⟩), undef, .int .i64 x.1.2, undef, undef, .string s, .bool true, .bool false, .map (some (w1.heap.size + 1)), .nilIface, .string s, .func (.func 37) #[] #[.pointer (some ⟨w3.heap.size, 0, none⟩)], .int .i64 x.1.1, .int .i64 x.1.2, undef, undef, undef, undef, undef, undef, undef, undef, undef, undef, undef, undef, undef, undef, undef, undef, undef, undef, undef, undef, undef, undef, undef, undef, undef, undef, undef, undef], defers := [] }) ?assign ?body ?done ?stop
  case cB => simp
  case cm => simp; omega
  case cT => exact tabs_below hT3 ((Below.refl w3.heap.size w3).alloc (Nat.le_refl _) _) (by omega)
  case d1 => simp; omega
  case d2 => simp
  case hI =>
    refine QI_own (fun pre : List (Stp s.data.toList) => Lib.byteCells (34 :: pre.flatMap fun x => qRune x.1.2)) ?_ ?_
    · rw [World.size_alloc]; omega
    · rw [World.size_alloc]; omega
  case h0 => exact ⟨⟨bld_below bd3' ((Below.refl _ w3).alloc (Nat.le_refl _) _), bx3.alloc _, bB⟩, om3.alloc _, bel4.alloc (by omega) _⟩
  case assign =>
    intro l x W K hK
    unfold encStp
    gi_wp2_with fail
    simpa using hK
  case body =>
    rintro l pre x W hI hlen
    have hr := (steps_mem x.2).2.1
    have hlk := look_letters hI.2.1 x.1.2 hr
    have hbx := hI.1.2.1.cell
    have hcl : (Lib.byteCells (34 :: pre.flatMap fun x => qRune x.1.2)).length ≤ 1 + 6 * pre.length := by
      rw [byteCells_length]
      have := flat_le (fun x : Stp s.data.toList => qRune x.1.2) 6 (fun x => qRune_le _) pre
      simp only [List.length_cons]
      omega
    have hfin : Lib.byteCells (34 :: (pre ++ [x]).flatMap fun x => qRune x.1.2) = Lib.byteCells (34 :: pre.flatMap fun x => qRune x.1.2) ++ Lib.byteCells (qRune x.1.2) := by
      rw [← byteCells_append]; simp
    have HF := Lib.hid hfin
    clear hfin
    have z5 := hI.2.2.size
    obtain ⟨r, hrr⟩ : ∃ r, x.1.2 = r := ⟨_, rfl⟩
    by_cases h1 : shortN x.1.2 ≠ 0
    · rw [decide_eq_true h1] at hlk
      have HQ := Lib.hid (show qRune x.1.2 = [92, (shortN x.1.2).toUInt8] by unfold qRune; rw [if_pos h1])
      clear hrr h1
      gi_wp2_with fail
      refine ⟨trivial, ?_⟩
      refine (CallsIn.inRound l (callsIn_wide.2 (writeByte_k w.heap.size w1.heap.size _ 92 _ hI.1.1 (by omega) (by omega)))).mono ?_
      rintro e w4 ⟨rfl, bd4, hb4, hk4⟩
      obtain ⟨hI4, ko4, kb4⟩ := QI_step hI rfl (by omega) (by omega) bd4 hb4 hk4
      gi_wp2_with fail
      refine ⟨trivial, ?_⟩
      refine (CallsIn.inRound l (callsIn_wide.2 (writeByte_k w.heap.size w1.heap.size _ _ _ hI4.1.1 (by simp; omega) (by have := hb4.size; omega)))).mono ?_
      rintro e w5 ⟨rfl, bd5, hb5, hk5⟩
      obtain ⟨hI5, ko5, kb5⟩ := QI_step hI4 rfl (by omega) (by omega) bd5 hb5 hk5
      gi_wp2_with fail
      refine ⟨(ko4.trans ko5).from _, kpB_t kb4 kb5, ?_⟩
      show QI _ _ _ _ _ _ (Lib.byteCells (34 :: (pre ++ [x]).flatMap fun x => qRune x.1.2)) w5
      rw [HF.out, HQ.out]
      have e3 : shortN x.1.2 < 256 := shortN_lt _
      simpa [Lib.byteCells, Nat.mod_eq_of_lt e3] using hI5
    have h1' : shortN x.1.2 = 0 := Decidable.not_not.1 h1
    rw [h1', decide_eq_false (by simp)] at hlk
    by_cases h32 : x.1.2 < 32
    · have HQ := Lib.hid (show qRune x.1.2 = [92, 117, 48, 48, hexd (x.1.2 / 16), hexd (x.1.2 % 16)] by unfold qRune; rw [if_neg h1, if_pos h32])
      clear h1 h1' hrr
      have hlt : (x.1.2 : Int) < 32 := by omega
      have hand := and15 ⟨x.1.2, h32⟩
      dsimp only at hand
      gi_wp2_with fail
      refine ⟨trivial, ?_⟩
      refine (CallsIn.inRound l (callsIn_wide.2 (writeString_k w.heap.size w1.heap.size _ _ _ hI.1.1 (by show _ + 4 ≤ _; omega) (by omega)))).mono ?_
      rintro e w4 ⟨rfl, bd4, hb4, hk4⟩
      obtain ⟨hI4, ko4, kb4⟩ := QI_step hI rfl (by omega) (by omega) bd4 hb4 hk4
      have z6 := hb4.size
      have e4 : (Lib.strCells ⟨#[92, 117, 48, 48]⟩).length = 4 := rfl
      have E4 := Lib.hid e4
      have hc4 : (Lib.byteCells (34 :: pre.flatMap fun x => qRune x.1.2) ++ Lib.strCells ⟨#[92, 117, 48, 48]⟩).length ≤ 5 + 6 * pre.length := by rw [List.length_append, e4]; omega
      clear e4
      gi_wp2_with fail
      refine ⟨trivial, ?_⟩
      refine (CallsIn.inRound l (callsIn_wide.2 (writeByte_k w.heap.size w1.heap.size _ _ _ hI4.1.1 (by omega) (by omega)))).mono ?_
      rintro e w5 ⟨rfl, bd5, hb5, hk5⟩
      obtain ⟨hI5, ko5, kb5⟩ := QI_step hI4 rfl (by omega) (by omega) bd5 hb5 hk5
      have z7 := hb5.size
      gi_wp2_with fail
      refine ⟨trivial, ?_⟩
      refine (CallsIn.inRound l (callsIn_wide.2 (writeByte_k w.heap.size w1.heap.size _ _ _ hI5.1.1 (by rw [List.length_append]; simp only [List.length_cons, List.length_nil]; omega) (by omega)))).mono ?_
      rintro e w6 ⟨rfl, bd6, hb6, hk6⟩
      obtain ⟨hI6, ko6, kb6⟩ := QI_step hI5 rfl (by omega) (by omega) bd6 hb6 hk6
      gi_wp2_with fail
      refine ⟨((ko4.trans ko5).trans ko6).from _, kpB_t (kpB_t kb4 kb5) kb6, ?_⟩
      show QI _ _ _ _ _ _ (Lib.byteCells (34 :: (pre ++ [x]).flatMap fun x => qRune x.1.2)) w6
      rw [HF.out, HQ.out]
      rw [hexIdx (x.1.2 / 16) (by omega), hexIdx (x.1.2 % 16) (by omega)] at hI6
      simpa [Lib.byteCells, Lib.strCells] using hI6
    · have HQ := Lib.hid (show qRune x.1.2 = Lib.encodeRune x.1.2 by unfold qRune; rw [if_neg h1, if_neg h32])
      clear h1 h1' hrr
      have hge : ¬ (x.1.2 : Int) < 32 := by omega
      gi_wp2_with fail
      refine ⟨trivial, ?_⟩
      refine (CallsIn.inRound l (callsIn_wide.2 (writeRune_k w.heap.size w1.heap.size _ _ (by omega) (by omega) _ hI.1.1 (by omega) (by omega)))).mono ?_
      rintro e w4 ⟨rfl, bd4, hb4, hk4⟩
      obtain ⟨hI4, ko4, kb4⟩ := QI_step hI rfl (by omega) (by omega) bd4 hb4 hk4
      gi_wp2_with fail
      refine ⟨ko4.from _, kb4, ?_⟩
      show QI _ _ _ _ _ _ (Lib.byteCells (34 :: (pre ++ [x]).flatMap fun x => qRune x.1.2)) w4
      rw [HF.out, HQ.out, Lib.byteCells_encodeRune]
      exact hI4
  case stop =>
    rintro D c pre W _ _ h _
    exact h.elim
  case done =>
    rintro D xs W hD hxs hI hK
    have hlx : xs.length = (steps s.data.toList).length := by rw [← hxs]; simp
    have hcl : (Lib.byteCells (34 :: xs.flatMap fun x => qRune x.1.2)).length ≤ 1 + 6 * xs.length := by
      rw [byteCells_length]
      have := flat_le (fun x : Stp s.data.toList => qRune x.1.2) 6 (fun x => qRune_le _) xs
      simp only [List.length_cons]
      omega
    have hq := quoteL_of hxs
    have HQ := Lib.hid hq
    have z5 := hI.2.2.size
    have hlt1 : w1.heap.size < W.heap.size := by
      obtain ⟨c, t, fz, hc⟩ := bld_cells hI.1.1
      exact (Array.getElem?_eq_some_iff.1 hc).1
    clear hq hxs
    gi_wp2_with fail
    refine ⟨trivial, ?_⟩
    refine (callsIn_wide.2 (writeByte_k w.heap.size w1.heap.size _ 34 _ hI.1.1 (by omega) (by omega))).mono ?_
    rintro e w4 ⟨rfl, bd4, hb4, hk4⟩
    obtain ⟨hI4, ko4, kb4⟩ := QI_step hI rfl (by omega) (by omega) bd4 hb4 hk4
    have hK4 := ko4.same D _ hK rfl
    have z6 := hb4.size
    have hcs : Lib.byteCells (34 :: xs.flatMap fun x => qRune x.1.2) ++ [Value.int .u8 34] = Lib.byteCells (quoteL s.data.toList) := by
      rw [HQ.out, byteCells_append]; rfl
    rw [hcs] at hI4
    clear hcs hcl hK
    gi_wp2_with fail
    refine ⟨trivial, ?_⟩
    refine (callsIn_wide.2 (Tryd.Builder_String_any_k w.heap.size w1.heap.size _ _ hI4.1.1 (by omega))).mono ?_
    rintro e w5 ⟨rfl, bd5, hb5, hk5⟩
    have ko5 := keepsOthers_of_kept hk5 hb5.size (bld_cells hI4.1.1)
    have hK5 := ko5.same D _ hK4 rfl
    gi_wp2_with fail
    refine ⟨by simp, .inl ⟨_, _, rfl, run_takeDeferred hK5, ?_⟩⟩
    exact ⟨_, by simp [results, Tryd.results10, go_sem], rfl, (hI4.2.2.trans hb5).trans (belowK_b (w := w) (Nat.le_refl _) w5 D _ _ (by simp at hD; omega) hK5 rfl rfl)⟩
end Go.Proofs.YtoojfgajlakonaaDoor
