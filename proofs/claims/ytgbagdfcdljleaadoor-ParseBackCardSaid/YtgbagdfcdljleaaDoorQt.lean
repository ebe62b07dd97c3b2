/-
  The contract of runes.Quote.
-/
import Derived.Test.YtgbagdfcdljleaaDoorCnt
import Derived.Test.YtgbagdfcdljleaaDoorMap
import Derived.Test.YtgbagdfcdljleaaDoorBld
set_option linter.unusedVariables false
namespace Go.Proofs.YtgbagdfcdljleaaDoor.Ru
open Go.RowKit Go.Shelf Go.Maps
attribute [local go_sem] Oper.semAt_some

theorem bld_kept {T e : TypeId} {B b : Nat} {bs : List Value} {w w' : World} {row : Option Nat} (h : Lib.IsBuilderF T e B b bs w) (hg : w.grownBy w' row)
    (hr : ∀ r, row = some r → ∀ c fz, w.heap[r]? ≠ some (.cells c e fz) ∧ w.heap[r]? ≠ some (.cells c T fz)) : Lib.IsBuilderF T e B b bs w' := by
  have one : ∀ p, Lib.BuilderAtF T e B b p bs w → Lib.BuilderAtF T e B b p bs w' := by
    intro p h
    have hlt := h.lt
    obtain ⟨hB, v, hb, hown, hne⟩ := h
    refine ⟨hB, v, (hg.block b hlt ?_).trans hb, hown.kept hg ?_, hne⟩
    · intro e1
      exact (hr b e1.symm _ _).2 hb
    · cases hv : v.ownBlock with
      | none => exact .inl rfl
      | some g =>
        refine .inr ?_
        intro e1
        obtain ⟨c, fz, hc⟩ := Lib.ownsRowF_kind hown g hv
        exact (hr g e1.symm _ _).1 hc
  exact h.elim (fun x => .inl (one _ x)) (fun x => .inr (one _ x))
theorem grown_of_below {w w' : World} (h : Below w.heap.size w w') : w.grownBy w' none := ⟨h.os, h.tape, h.output, h.size, fun k hk _ => h.block k hk⟩
theorem bld_below {T e : TypeId} {B b : Nat} {bs : List Value} {w w' : World} (h : Lib.IsBuilderF T e B b bs w) (hb : Below w.heap.size w w') : Lib.IsBuilderF T e B b bs w' :=
  bld_kept h (grown_of_below hb) (fun _ e => by cases e)
theorem bld_box {T e t : TypeId} {B b N : Nat} {v u : Value} {bs : List Value} {w : World} (h : Lib.IsBuilderF T e B b bs w) (hN : Boxed w N t v) (h1 : t ≠ e) (h2 : t ≠ T) : Lib.IsBuilderF T e B b bs (w.setCell ⟨N, 0, none⟩ u) :=
  bld_kept h (grownBy_setCell' w N u) (fun r e1 c fz => by cases e1; rw [show w.heap[N]? = _ from hN]; exact ⟨(fun e2 => by cases e2; exact h1 rfl), (fun e2 => by cases e2; exact h2 rfl)⟩)
theorem bld_own {β : Type} {T e : TypeId} {B b : Nat} (f : β → List Value) : Own (fun s W => Lib.IsBuilderF T e B b (f s) W) := fun s X Y row hs hg hr =>
  bld_kept hs hg (fun r e1 c fz => by
    obtain ⟨o, ho, hc⟩ := hr r e1
    rw [ho]
    exact ⟨(fun e2 => by cases e2; cases hc), (fun e2 => by cases e2; cases hc)⟩)
theorem keepsOthers_of_kept {e : TypeId} {b : Nat} {w w' : World} (h : Lib.OthersKept e (some b) w w') (hz : w.heap.size ≤ w'.heap.size) (hb : ∃ c t fz, w.heap[b]? = some (.cells c t fz)) : KeepsOthers w w' :=
  ⟨hz, fun k o hk ho => h k o hk (fun e1 => by obtain ⟨c, t, fz, hc⟩ := hb; cases e1; rw [hk] at hc; cases hc; cases ho) (fun c fz e1 => by rw [e1] at ho; cases ho)⟩
theorem bld_cells {T e : TypeId} {B b : Nat} {bs : List Value} {w : World} (h : Lib.IsBuilderF T e B b bs w) : ∃ c t fz, w.heap[b]? = some (.cells c t fz) := by
  rcases h with ⟨_, v, hb, _⟩ | ⟨_, v, hb, _⟩ <;> exact ⟨_, _, _, hb⟩
theorem boxed_others {e t : TypeId} {b N : Nat} {v : Value} {w w' : World} (h : Lib.OthersKept e (some b) w w') (hN : Boxed w N t v) (ht : t ≠ e) (hne : N ≠ b) : Boxed w' N t v :=
  h N _ hN (fun e1 => by cases e1; exact hne rfl) (fun c fz e1 => by cases e1; exact ht rfl)
theorem map_others {e k : TypeId} {b bm n : Nat} {D : DataW Unit} {P : Program} {R : Value → Option (DataW Unit × List MemPlace)} {w w' : World} (h : Lib.OthersKept e (some b) w w') (hm : w.ownsMap P k R bm n D) (hb : ∃ c t fz, w.heap[b]? = some (.cells c t fz)) : w'.ownsMap P k R bm n D := by
  obtain ⟨es, clock, he, rest⟩ := hm
  exact ⟨es, clock, h bm _ he (fun e1 => by obtain ⟨c, t, fz, hc⟩ := hb; cases e1; rw [he] at hc; cases hc) (fun c fz e1 => by cases e1), rest⟩

/-- The letter of a rune's short escape; 0: it has none. -/
def shortN (r : Nat) : Nat := if r = 8 then 98 else if r = 9 then 116 else if r = 10 then 110 else if r = 12 then 102 else if r = 13 then 114 else if r = 34 then 34 else if r = 92 then 92 else 0
def hexd (n : Nat) : UInt8 := if n < 10 then (48 + n).toUInt8 else (87 + n).toUInt8
/-- How a rune is written. -/
def qRune (r : Nat) : List UInt8 := if shortN r ≠ 0 then [92, (shortN r).toUInt8] else if r < 32 then [92, 117, 48, 48, hexd (r / 16), hexd (r % 16)] else Lib.encodeRune r
/-- How a text is written. -/
def quoteL (l : List UInt8) : List UInt8 := 34 :: ((steps l).flatMap fun x => qRune x.2) ++ [34]

theorem look_letters {W : World} {b n : Nat} (h : W.ownsMap Tryd.prog 3 (plainElem Tryd.prog 5) b n lettersD) (r : Nat) (hr : r ≤ 1114111) :
    (Instr.lookup 104 (.map (some b)) (.int .i64 r) true).run Tryd.prog W = .ok (.tuple #[.int .u8 (shortN r), .bool (decide (shortN r ≠ 0))]) W := by
  have hat := lettersD_at r
  have hz : (zeroValue 5).run Tryd.prog W = .ok (.int .u8 0) W := by kernel_rfl
  have hkey : keyOf Tryd.prog 3 (.int .i64 r) = some (.int .i64 r) := keyOf_int_mk Tryd.underlying3 (WalkArith.wf_i64 (by omega))
  have hlk := look_ok h law3 Tryd.underlying104 Tryd.underlying5 hz hkey
  rw [hat] at hlk
  have hc : ∀ k : Nat, ((r : Int) = (k : Int)) = (r = k) := fun k => propext Int.ofNat_inj
  have h8 : ((r : Int) = 8) = (r = 8) := hc 8
  have h9 : ((r : Int) = 9) = (r = 9) := hc 9
  have h10 : ((r : Int) = 10) = (r = 10) := hc 10
  have h12 : ((r : Int) = 12) = (r = 12) := hc 12
  have h13 : ((r : Int) = 13) = (r = 13) := hc 13
  have h34 : ((r : Int) = 34) = (r = 34) := hc 34
  have h92 : ((r : Int) = 92) = (r = 92) := hc 92
  simp only [h8, h9, h10, h12, h13, h34, h92] at hlk
  unfold shortN
  repeat' split at hlk
  all_goals (rcases hlk with ⟨e, hrun⟩ | ⟨c, e, hrun⟩)
  all_goals first | (cases e; done) | (cases e; rw [hrun]; simp [*])

theorem hexIdx (k : Nat) (h : k < 16) : (⟨#[48, 49, 50, 51, 52, 53, 54, 55, 56, 57, 97, 98, 99, 100, 101, 102]⟩ : ByteArray)[k]'(by exact h) = hexd k := by
  match k, h with
  | 0, _ => rfl
  | 1, _ => rfl
  | 2, _ => rfl
  | 3, _ => rfl
  | 4, _ => rfl
  | 5, _ => rfl
  | 6, _ => rfl
  | 7, _ => rfl
  | 8, _ => rfl
  | 9, _ => rfl
  | 10, _ => rfl
  | 11, _ => rfl
  | 12, _ => rfl
  | 13, _ => rfl
  | 14, _ => rfl
  | 15, _ => rfl
  | n + 16, h => exact absurd h (by omega)
theorem and15 : ∀ X : Fin 32, bits .and .i64 ((X.val : Nat) : Int) 15 = ((X.val % 16 : Nat) : Int) := by decide
theorem quoteL_of {l : List UInt8} {xs : List (Stp l)} (h : xs.map (·.1) = steps l) : quoteL l = 34 :: (xs.flatMap fun x => qRune x.1.2) ++ [34] := by
  have e : (xs.map (·.1)).flatMap (fun x => qRune x.2) = xs.flatMap fun x => qRune x.1.2 := List.flatMap_map ..
  rw [h] at e
  unfold quoteL
  rw [e]

/-- What lies in memory between two rounds of Quote's loop: the builder (block N1), the box of the letters' map (N2), the map (M), the iterator's text (B). -/
def QI (w : World) (s : ByteArray) (N1 N2 M B : Nat) (cs : List Value) (W : World) : Prop :=
  (Lib.IsBuilderF 91 5 w.heap.size N1 cs W ∧ Boxed W N2 104 (.map (some M)) ∧ Boxed W B 9 (.string s)) ∧
    (W.ownsMap Tryd.prog 3 (plainElem Tryd.prog 5) M 7 lettersD ∧ Below w.heap.size w W)
theorem QI_own {β : Type} {w : World} {s : ByteArray} {N1 N2 M B z : Nat} (f : β → List Value) (hM : M < z) (hz : w.heap.size ≤ z) : OwnFrom z (fun x W => QI w s N1 N2 M B (f x) W) := by
  refine OwnFrom.and (Own.from (fun x A C row hs hg hr => ⟨bld_own (fun _ : Unit => f x) () A C row hs.1 hg hr, boxed_own _ _ (fun _ : Unit => _) () A C row hs.2.1 hg hr, boxed_own _ _ (fun _ : Unit => _) () A C row hs.2.2 hg hr⟩) _) (OwnFrom.and ?_ (ownFrom_below (Nat.le_refl _) hz))
  intro x A C row hs hg hr
  exact hs.kept hg (fun e => by have := (hr _ e.symm).1; omega)
/-- One write of the builder, between two rounds. -/
theorem QI_step {w : World} {s : ByteArray} {N1 N2 M B : Nat} {cs cs' : List Value} {W W4 : World} {p : Value} (h : QI w s N1 N2 M B cs W) (hp : p = .pointer (some ⟨N1, 0, none⟩)) (h2 : N2 ≠ N1) (hB : B ≠ N1)
    (bd : Lib.BuilderAtF 91 5 w.heap.size N1 p cs' W4) (hb : Below w.heap.size W W4) (hk : Lib.OthersKept 5 (some N1) W W4) :
    QI w s N1 N2 M B cs' W4 ∧ KeepsOthers W W4 ∧ KpB w.heap.size B W W4 := by
  subst hp
  have hB4 := boxed_others hk h.1.2.2 (by decide) hB
  exact ⟨⟨⟨.inr bd, boxed_others hk h.1.2.1 (by decide) h2, hB4⟩, map_others hk h.2.1 (bld_cells h.1.1), h.2.2.trans hb⟩, keepsOthers_of_kept hk hb.size (bld_cells h.1.1), hb, hB4.trans h.1.2.2.symm⟩
theorem shortN_lt (r : Nat) : shortN r < 256 := by
  unfold shortN
  repeat' split
  all_goals decide
theorem byteCells_append (a b : List UInt8) : Lib.byteCells (a ++ b) = Lib.byteCells a ++ Lib.byteCells b := by simp [Lib.byteCells]
theorem byteCells_length (a : List UInt8) : (Lib.byteCells a).length = a.length := by simp [Lib.byteCells]
theorem qRune_le (r : Nat) : (qRune r).length ≤ 6 := by
  unfold qRune
  split
  · simp
  · split
    · simp
    · have := Lib.runeCells_le r
      rw [Lib.runeCells_length] at this
      omega
theorem flat_le {α : Type} (f : α → List UInt8) (k : Nat) (h : ∀ x, (f x).length ≤ k) : ∀ l : List α, (l.flatMap f).length ≤ k * l.length
  | [] => by simp
  | x :: l => by
    have := flat_le f k h l
    have := h x
    simp only [List.flatMap_cons, List.length_append, List.length_cons, Nat.mul_add]
    omega

end Go.Proofs.YtgbagdfcdljleaaDoor.Ru
