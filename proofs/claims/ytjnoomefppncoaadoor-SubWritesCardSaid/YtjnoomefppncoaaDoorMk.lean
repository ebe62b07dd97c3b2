/-
  putText and put of package sub.
-/
import Derived.Test.YtjnoomefppncoaaDoorMj
import Derived.Test.YtjnoomefppncoaaDoorMh
import Derived.Test.YtjnoomefppncoaaDoorLb
import Derived.Lib.AppendIntMem
import Derived.Deep.Cut
set_option linter.unusedVariables false
namespace Go.Proofs.YtjnoomefppncoaaDoor
open Go.RowKit Go.Shelf

theorem bld_kept {T e : TypeId} {B b : Nat} {bs : List Value} {w w' : World} {row : Option Nat} (h : Lib.IsBuilderF T e B b bs w) (hg : w.grownBy w' row)
    (hr : ∀ r, row = some r → ∀ c fz, w.heap[r]? ≠ some (.cells c e fz) ∧ w.heap[r]? ≠ some (.cells c T fz)) : Lib.IsBuilderF T e B b bs w' := by
  have one : ∀ p, Lib.BuilderAtF T e B b p bs w → Lib.BuilderAtF T e B b p bs w' := by
    intro p h
    have hlt := h.lt
    obtain ⟨hB, v, hb, hown, hne⟩ := h
    refine ⟨hB, v, (hg.block b hlt ?_).trans hb, hown.kept hg ?_, hne⟩
    · intro e1
      exact (hr b e1.symm _ _).2 hb
    · cases hv : v.ownBlock with
      | none => exact .inl rfl
      | some g =>
        refine .inr ?_
        intro e1
        obtain ⟨c, fz, hc⟩ := Lib.ownsRowF_kind hown g hv
        exact (hr g e1.symm _ _).1 hc
  exact h.elim (fun x => .inl (one _ x)) (fun x => .inr (one _ x))
theorem grown_of_below {w w' : World} (h : Below w.heap.size w w') : w.grownBy w' none := ⟨h.os, h.tape, h.output, h.size, fun k hk _ => h.block k hk⟩
theorem bld_below {T e : TypeId} {B b : Nat} {bs : List Value} {w w' : World} (h : Lib.IsBuilderF T e B b bs w) (hb : Below w.heap.size w w') : Lib.IsBuilderF T e B b bs w' :=
  bld_kept h (grown_of_below hb) (fun _ e => by cases e)

theorem index_two : ∀ (l : List UInt8), Lib.index l [36, 123] = match cutO l with
    | none => -1
    | some (x, _) => (x.length : Int)
  | [] => rfl
  | c :: t => by
    have ih := index_two t
    unfold Lib.index cutO
    by_cases hc : c = 36 ∧ t.head? = some 123
    · have : ([36, 123] : List UInt8).isPrefixOf (c :: t) = true := by
        obtain ⟨rfl, ht⟩ := hc
        cases t with
        | nil => cases ht
        | cons a b => simp only [List.head?_cons, Option.some.injEq] at ht; subst ht; simp [List.isPrefixOf]
      rw [this, if_pos hc]; rfl
    · have : ([36, 123] : List UInt8).isPrefixOf (c :: t) = false := by
        cases hp : ([36, 123] : List UInt8).isPrefixOf (c :: t) with
        | false => rfl
        | true =>
          obtain ⟨y, hy⟩ := List.isPrefixOf_iff_prefix.1 hp
          cases hy
          exact absurd ⟨rfl, rfl⟩ hc
      rw [this, if_neg hc, ih]
      cases cutO t with
      | none => simp
      | some p =>
        obtain ⟨x, y⟩ := p
        have : ((x.length : Int) == -1) = false := beq_eq_false_iff_ne.2 (by omega)
        simp [this]
theorem cut_two (l : List UInt8) : Lib.cut l [36, 123] = match cutO l with
    | none => (l, [], false)
    | some (x, y) => (x, y, true) := by
  unfold Lib.cut
  rw [index_two]
  cases hc : cutO l with
  | none => simp
  | some p =>
    obtain ⟨x, y⟩ := p
    have := cutO_some hc
    subst this
    simp
theorem cut2_any (l : List UInt8) (w : World) (hE : Env w) (hs : l.length < 4294967281) :
    Calls Tryd.prog 52 #[.string (bs l), .string ⟨#[36, 123]⟩] w fun e w' => (match cutO l with
      | none => e = .returned (.tuple #[.string (bs l), .string ⟨#[]⟩, .bool false])
      | some (x, y) => e = .returned (.tuple #[.string (bs x), .string (bs y), .bool true])) ∧ Below w.heap.size w w' := by
  obtain ⟨m, hm⟩ := hE.2.2
  refine (Tryd.strings_Cut (bs l) ⟨#[36, 123]⟩ m w (by rw [bs_size]; exact hs) hm).mono ?_
  rintro e w' ⟨rfl, n, rfl⟩
  refine ⟨?_, below_drewN (Below.refl _ _) n⟩
  have : (⟨#[36, 123]⟩ : ByteArray).data.toList = [36, 123] := rfl
  rw [this, bs_list, cut_two]
  cases hc : cutO l with
  | none => rfl
  | some p => obtain ⟨x, y⟩ := p; rfl
theorem cut1_any (l : List UInt8) (w : World) (hE : Env w) (hs : l.length < 4294967281) :
    Calls Tryd.prog 52 #[.string (bs l), .string ⟨#[125]⟩] w fun e w' => (match cutB 125 l with
      | none => e = .returned (.tuple #[.string (bs l), .string ⟨#[]⟩, .bool false])
      | some (x, y) => e = .returned (.tuple #[.string (bs x), .string (bs y), .bool true])) ∧ Below w.heap.size w w' := by
  refine (cut_any (bs l) 125 w hE (by rw [bs_size]; exact hs)).mono ?_
  rintro e w' ⟨h, n, rfl⟩
  rw [bs_list] at h
  exact ⟨h, below_drewN (Below.refl _ _) n⟩

/-- A builder at b that holds these bytes; its row lies at b or above. -/
def BQ (b : Nat) (acc : List UInt8) (w : World) : Prop := Lib.IsBuilderF 47 5 b b (Lib.byteCells acc) w
theorem BQ.below {b : Nat} {acc : List UInt8} {w w' : World} (h : BQ b acc w) (hb : Below w.heap.size w w') : BQ b acc w' := bld_below h hb
theorem BQ.lt {b : Nat} {acc : List UInt8} {w : World} (h : BQ b acc w) : b < w.heap.size := by
  rcases h with h | h <;> exact h.lt
theorem bcells_len (l : List UInt8) : (Lib.byteCells l).length = l.length := by simp [Lib.byteCells]
theorem bcells_app (a b : List UInt8) : Lib.byteCells (a ++ b) = Lib.byteCells a ++ Lib.byteCells b := by simp [Lib.byteCells]
theorem write_any (b : Nat) (acc : List UInt8) (s : ByteArray) (w : World) (h : BQ b acc w) (hlen : acc.length + s.size ≤ 140737488355328) :
    Calls Tryd.prog 49 #[.pointer (some ⟨b, 0, none⟩), .string s] w fun e w' => e = .returned (.tuple #[.int .i64 s.size, .nilIface]) ∧ BQ b (acc ++ s.data.toList) w' ∧ Below b w w' := by
  refine (writeString_k b b (Lib.byteCells acc) s w h (by rw [bcells_len]; exact hlen) (Nat.le_of_lt h.lt)).mono ?_
  rintro e w' ⟨rfl, h1, h2, _⟩
  refine ⟨rfl, ?_, h2⟩
  unfold BQ
  rw [bcells_app]
  exact .inr h1

/-- What putText tells. -/
def PutR (b : Nat) (acc : List UInt8) (z : Option (List UInt8)) (w : World) (e : Ending) (w' : World) : Prop :=
  match z with
  | none => e = .returned (.bool false) ∧ Below b w w'
  | some z => e = .returned (.bool true) ∧ BQ b (acc ++ z) w' ∧ Below b w w'
/-- What is left to write. -/
def PX (R : Option (List UInt8)) (acc a l : List UInt8) : Prop :=
  match R with
  | none => wrT l = none
  | some z => ∃ y, wrT l = some y ∧ acc ++ z = a ++ y
def strLen (v : Value) : Nat := match v with | .string s => s.size | _ => 0

set_option maxRecDepth 100000 in
set_option maxHeartbeats 4000000 in
theorem putText_any (b : Nat) (s acc : List UInt8) (w : World) (hE : Env w) (hb3 : 3 ≤ b) (h : BQ b acc w) (hs : s.length ≤ 1000000) (ha : acc.length ≤ 100000000) :
    Calls Tryd.prog 48 #[.pointer (some ⟨b, 0, none⟩), .string (bs s)] w (PutR b acc (wrT s) w) := by
  have HH := Lib.hid h
  have HE := Lib.hid hE
  obtain ⟨R, hR⟩ : ∃ R, wrT s = R := ⟨_, rfl⟩
  rw [hR]
  have HR := Lib.hid hR
  clear h hE hR
  go_enter Tryd.func48, Tryd.ntmps48
  go_wp2_with fail
  go_loopw [1] (fun sv wr => ∃ (l a : List UInt8), sv = .string (bs l) ∧ l.length ≤ s.length ∧ a.length + 2 * l.length ≤ acc.length + 2 * s.length ∧ Hid (BQ b a wr) ∧ Hid (Below b w wr) ∧ Hid (PX R acc a l)) (fun sv _ => strLen sv)
  case atStart =>
    refine ⟨s, acc, rfl, Nat.le_refl _, Nat.le_refl _, HH, Lib.hid (Below.refl _ _), Lib.hid ?_⟩
    have := HR.out
    cases R with
    | none => exact this
    | some z => exact ⟨z, this, rfl⟩
  case round =>
    obtain ⟨l, a, rfl, hl, hal, hQ, hB, hX⟩ := hrel
    have hEr : Hid (Env wr) := Lib.hid (HE.out.below hB.out hb3)
    have hbr : b ≤ wr.heap.size := Nat.le_of_lt hQ.out.lt
    have hC := Lib.hid (cut2_any l wr hEr.out (by omega))
    clear HH HR
    cases hc : cutO l with
    | none =>
      rw [hc] at hC
      simp only at hC
      have hw := wrT_none hc
      have HF : Hid (∀ w' : World, BQ b (a ++ (bs l).data.toList) w' → Below b w w' → PutR b acc R w (.returned (.bool true)) w') := Lib.hid fun w' h1 h2 => by
        have hx := hX.out
        unfold PX at hx
        rw [hw] at hx
        rw [bs_list] at h1
        cases R with
        | none => cases hx
        | some z =>
          obtain ⟨y, hy, he⟩ := hx
          cases hy
          exact ⟨rfl, by rw [he]; exact h1, h2⟩
      have HWR : Hid (∀ W, Below wr.heap.size wr W → Calls Tryd.prog 49 #[.pointer (some ⟨b, 0, none⟩), .string (bs l)] W fun e w' => e = .returned (.tuple #[.int .i64 (bs l).size, .nilIface]) ∧ BQ b (a ++ (bs l).data.toList) w' ∧ Below b W w') := Lib.hid fun W hb => write_any b a (bs l) W (hQ.out.below hb) (by rw [bs_size]; omega)
      clear hw hc hX
      generalize bs l = S at *
      go_wp2_with (first | (go_at_call 52; refine hC.out.mono ?_; rintro e w5 ⟨rfl, hb5⟩) | (go_at_call 49; refine (HWR.out _ hb5).mono ?_; rintro e w6 ⟨rfl, hq6, hb6⟩))
      go_ret
      exact HF.out _ hq6 ((hB.out.trans (hb5.mono hbr)).trans hb6)
    | some q =>
      obtain ⟨x, r⟩ := q
      have hlen := cutO_len hc
      rw [hc] at hC
      simp only at hC
      have hw := wrT_some hc
      have HWR : Hid (∀ W, Below wr.heap.size wr W → Calls Tryd.prog 49 #[.pointer (some ⟨b, 0, none⟩), .string (bs x)] W fun e w' => e = .returned (.tuple #[.int .i64 (bs x).size, .nilIface]) ∧ BQ b (a ++ (bs x).data.toList) w' ∧ Below b W w') := Lib.hid fun W hb => write_any b a (bs x) W (hQ.out.below hb) (by rw [bs_size]; omega)
      have hC2 : Hid (∀ W, Below b wr W → _) := Lib.hid fun W hb => cut1_any r W (hEr.out.below hb hb3) (by omega)
      cases hb2 : cutB 125 r with
      | none =>
        rw [hb2] at hC2 hw
        simp only at hC2 hw
        have HF : Hid (∀ w' : World, Below b w w' → PutR b acc R w (.returned (.bool false)) w') := Lib.hid fun w' h2 => by
          have hx := hX.out
          unfold PX at hx
          rw [hw] at hx
          cases R with
          | none => exact ⟨rfl, h2⟩
          | some z => obtain ⟨y, hy, _⟩ := hx; cases hy
        clear hw hc hX hb2
        go_upto_region 2 with (go_at_call 52; refine hC.out.mono ?_; rintro e w5 ⟨rfl, hb5⟩)
        go_upto_region 5 with (go_at_call 49; refine (HWR.out _ hb5).mono ?_; rintro e w6 ⟨rfl, hq6, hb6⟩)
        go_wp2_with (go_at_call 52; refine (hC2.out _ ((hb5.mono hbr).trans hb6)).mono ?_; rintro e w7 ⟨rfl, hb7⟩)
        go_ret
        exact HF.out _ (((hB.out.trans (hb5.mono hbr)).trans hb6).trans (hb7.mono (Nat.le_of_lt hq6.lt)))
      | some q2 =>
        obtain ⟨i, y⟩ := q2
        have hlen2 := cutB_len hb2
        rw [hb2] at hC2 hw
        simp only at hC2 hw
        have hxl : (bs i).size ≤ 1000000 := by rw [bs_size]; omega
        have HW2 : Hid (∀ W, BQ b (a ++ (bs x).data.toList) W → Calls Tryd.prog 49 #[.pointer (some ⟨b, 0, none⟩), .string ((⟨#[36, 123, 33]⟩ : ByteArray) ++ bs i ++ (⟨#[125]⟩ : ByteArray))] W fun e w' => e = .returned (.tuple #[.int .i64 ((⟨#[36, 123, 33]⟩ : ByteArray) ++ bs i ++ (⟨#[125]⟩ : ByteArray)).size, .nilIface]) ∧ BQ b ((a ++ (bs x).data.toList) ++ ((⟨#[36, 123, 33]⟩ : ByteArray) ++ bs i ++ (⟨#[125]⟩ : ByteArray)).data.toList) w' ∧ Below b W w') := Lib.hid fun W hq => write_any b _ _ W hq (by
          have hsz : ((⟨#[36, 123, 33]⟩ : ByteArray) ++ bs i ++ (⟨#[125]⟩ : ByteArray)).size = 3 + i.length + 1 := by rw [ByteArray.size_append, ByteArray.size_append, bs_size]; rfl
          rw [List.length_append, bs_list, hsz]
          omega)
        have hdat : ((⟨#[36, 123, 33]⟩ : ByteArray) ++ bs i ++ (⟨#[125]⟩ : ByteArray)).data.toList = 36 :: 123 :: 33 :: (i ++ [125]) := by simp
        have HD := Lib.hid hdat
        have HX2 : Hid (PX R acc ((a ++ x) ++ 36 :: 123 :: 33 :: (i ++ [125])) y) := Lib.hid (by
          have hx := hX.out
          unfold PX at hx
          rw [hw] at hx
          unfold PX
          cases R with
          | none =>
            cases hy : wrT y with
            | none => rfl
            | some v => simp only [hy] at hx; cases hx
          | some z =>
            obtain ⟨v, hv, he⟩ := hx
            cases hy : wrT y with
            | none => rw [hy] at hv; cases hv
            | some u =>
              rw [hy] at hv
              simp only [Option.some.injEq] at hv
              exact ⟨u, rfl, by rw [he, ← hv]; simp⟩)
        have hmeas : y.length < l.length := by omega
        clear hw hc hX hb2 hdat
        go_upto_region 2 with (go_at_call 52; refine hC.out.mono ?_; rintro e w5 ⟨rfl, hb5⟩)
        go_upto_region 5 with (go_at_call 49; refine (HWR.out _ hb5).mono ?_; rintro e w6 ⟨rfl, hq6, hb6⟩)
        go_upto_region 8 with (go_at_call 52; refine (hC2.out _ ((hb5.mono hbr).trans hb6)).mono ?_; rintro e w7 ⟨rfl, hb7⟩)
        go_wp2_with (go_at_call 49; refine (HW2.out _ (hq6.below hb7)).mono ?_; rintro e w8 ⟨rfl, hq8, hb8⟩)
        have hq9 : BQ b ((a ++ x) ++ 36 :: 123 :: 33 :: (i ++ [125])) w8 := by rw [HD.out] at hq8; first | exact hq8 | (rw [bs_list] at hq8; exact hq8)
        go_roundw
        case rel => exact ⟨y, _, rfl, by omega, by simp only [List.length_append, List.length_cons, List.length_nil]; omega, Lib.hid hq9, Lib.hid ((((hB.out.trans (hb5.mono hbr)).trans hb6).trans (hb7.mono (Nat.le_of_lt hq6.lt))).trans hb8), HX2⟩
        case measure => show (bs y).size < (bs l).size; rw [bs_size, bs_size]; exact hmeas
end Go.Proofs.YtjnoomefppncoaaDoor
