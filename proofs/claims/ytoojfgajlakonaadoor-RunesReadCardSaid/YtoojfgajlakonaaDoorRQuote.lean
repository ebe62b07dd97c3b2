/-
  The contract of the reference's Quote.
-/
import Derived.Test.YtoojfgajlakonaaDoorRQuoteP
import Derived.Test.YtoojfgajlakonaaDoorWk
import Derived.Test.YtoojfgajlakonaaDoorBld
import Derived.Deep.AppendLies
import Derived.Laws.IdiomStrings
import Derived.Laws.OwnMore
set_option linter.unusedVariables false
namespace Go.Proofs.YtoojfgajlakonaaDoor
open Go.RowKit Go.Shelf

def accL (l : List UInt8) (k : Nat) : List UInt8 := 34 :: (l.take k).flatMap qB
theorem accL_snoc (s : ByteArray) (k : Nat) (h : k < s.size) : accL s.data.toList (k + 1) = accL s.data.toList k ++ qB s[k] := by
  unfold accL
  rw [take_snoc s k h, List.flatMap_append]
  simp
theorem shortN_none {r : Nat} (h1 : r ≠ 34) (h2 : r ≠ 92) (h3 : r ≠ 8) (h4 : r ≠ 9) (h5 : r ≠ 10) (h6 : r ≠ 12) (h7 : r ≠ 13) : shortN r = 0 := by
  unfold shortN
  rw [if_neg h3, if_neg h4, if_neg h5, if_neg h6, if_neg h7, if_neg h1, if_neg h2]
theorem qB_len (c : UInt8) : (qB c).length ≤ 6 := by
  unfold qB
  split
  · simp
  · split <;> simp
theorem accL_len (l : List UInt8) (k : Nat) : (accL l k).length ≤ 1 + 6 * k := by
  unfold accL
  rw [List.length_cons]
  have := flat_le qB 6 qB_len (l.take k)
  rw [List.length_take] at this
  have h2 : 6 * min k l.length ≤ 6 * k := Nat.mul_le_mul_left 6 (Nat.min_le_left _ _)
  omega
/-- Between two rounds: the row of bytes, and what lay below. -/
def RQ (w : World) (A : List UInt8) (v : Value) (W : World) : Prop := W.ownsRow w.heap.size 5 1 v A.length (Lib.byteCells A) ∧ Below w.heap.size w W
theorem RQ.step {w W W' : World} {A news : List UInt8} {v v' : Value} {o : Obj} {n : Nat} {cs : List Value} (h : RQ w A v W) (hown : W'.ownsRow w.heap.size 5 1 v' (A.length + n) (Lib.byteCells A ++ cs)) (hg : (W.alloc o).grownBy W' v.ownBlock)
    (hn : news.length = n) (hc : Lib.byteCells news = cs) : RQ w (A ++ news) v' W' := by
  refine ⟨?_, ?_⟩
  · rw [List.length_append, byteCells_append, hn, hc]
    exact hown
  · exact (h.2.alloc (by have := h.2.size; omega) _).grown hg (by have := h.2.size; simp; omega) (fun k hk => (h.1.lt k hk).1)

set_option maxHeartbeats 1000000 in
theorem rquote_no (s : ByteArray) (w : World) (hvd : Lib.validD s.data.toList = false) (hs : s.size ≤ 2000) :
    Calls Tryd.prog 11 #[.string s] w fun e w' => e = .returned (quoteR s.data.toList) ∧ Below w.heap.size w w' := by
  have hv := rvalid_any s w (by omega)
  rw [hvd] at hv
  have hq : quoteR s.data.toList = .tuple #[.string ⟨#[]⟩, .int .i64 10] := by unfold quoteR; rw [hvd]; rfl
  rw [hq]
  have HV := Lib.hid hv
  clear hv hvd hq
  go_enter Tryd.func11, Tryd.ntmps11
  go_wp2_with (go_at_call 13; refine HV.out.mono ?_; rintro e w' ⟨rfl, rfl⟩)
  go_ret2
  exact ⟨rfl, Below.refl _ _⟩

set_option maxRecDepth 100000 in
set_option maxHeartbeats 4000000 in
theorem rquote_yes (s : ByteArray) (w : World) (hvd : Lib.validD s.data.toList = true) (hs : s.size ≤ 2000) :
    Calls Tryd.prog 11 #[.string s] w fun e w' => e = .returned (quoteR s.data.toList) ∧ Below w.heap.size w w' := by
  have hv := rvalid_any s w (by omega)
  rw [hvd] at hv
  have hq : quoteR s.data.toList = .tuple #[.string ⟨(accL s.data.toList s.size ++ [34]).toArray⟩, .int .i64 0] := by
    unfold quoteR accL
    rw [hvd, if_pos rfl, quoteL_body, List.take_of_length_le (by rw [toList_length]; omega), quoteB hvd]
    rfl
  rw [hq]
  have HV := Lib.hid hv
  have HL := Lib.hid (accL_len s.data.toList)
  clear hv hvd hq
  obtain ⟨i0, hi, hz0, hz1, hz2⟩ := info_parts infoByte
  go_enter Tryd.func11, Tryd.ntmps11
  go_wp2_with (go_at_call 13; refine HV.out.mono ?_; rintro e w' ⟨rfl, rfl⟩)
  go_loopw [4, 5] (fun v i wr => ∃ k : Nat, k ≤ s.size ∧ i = .int .i64 k ∧ RQ w (accL s.data.toList k) v wr) (fun v i _ => s.size - (intOf i).toNat)
  case atStart =>
    refine ⟨0, Nat.zero_le _, rfl, ?_, by go_grown⟩
    have := World.ownsRow_lit (base := w.heap.size) (e := 5) (size := 1) w #[.int .u8 34] 1 (Nat.le_refl _) (by unfold maxLen; omega) rfl
    exact this
  case round =>
    obtain ⟨k, hk, rfl, hown⟩ := hrel
    have hlen := HL.out k
    by_cases hlt : k < s.size
    · have hsn := accL_snoc s k hlt
      generalize accL s.data.toList k = A at *
      obtain ⟨c, hc⟩ : ∃ c, s[k] = c := ⟨_, rfl⟩
      rw [hc] at hsn
      by_cases e34 : c.toNat = 34
      · have hcc : s[k].toNat = 34 := by rw [hc]; exact e34
        have HS := Lib.hid (show accL s.data.toList (k + 1) = A ++ [92, 34] by rw [hsn]; congr 1; unfold qB; rw [e34]; rfl)
        have HC := Lib.hid (show Lib.byteCells [92, 34] = [.int .u8 92, .int .u8 34] by rfl)
        clear hsn hc e34
        go_wp2_with (at_builtin; refine wpList_append_own _ rfl _ _ 38 rfl w.heap.size 5 i0 (.int .u8 0) 1 1 Tryd.underlying38 hi hz0 hz1 hz2 rfl (by decide) _ _ _ rfl (hown.1.alloc _) ⟨wr.heap.size, 0, none⟩ 2 2 [.int .u8 92, .int .u8 34] rfl rfl ?c1 ?c2 ?c3 ?c4 ?c5 ?_)
        case c1 =>
          intro j u hj
          match j, hj with
          | 0, hj => simp at hj; subst hj; simp [Addr.add]
          | 1, hj => simp at hj; subst hj; simp [Addr.add]
        case c2 => intro u hu; simp at hu; rcases hu with rfl | rfl <;> rfl
        case c3 => unfold maxLen; omega
        case c4 => omega
        case c5 => have := hown.2.size; simp; omega
        intro v' w1 hown' hgrow _
        have hR := hown.step (news := [92, 34]) hown' hgrow rfl HC.out
        clear hown' hgrow hown
        go_wp2_with fail
        go_roundw
        case rel => exact ⟨k + 1, by omega, by go_num, by rw [HS.out]; exact hR⟩
        case measure => simp [intOf]; omega
      by_cases e92 : c.toNat = 92
      · have hcc : s[k].toNat = 92 := by rw [hc]; exact e92
        have HS := Lib.hid (show accL s.data.toList (k + 1) = A ++ [92, 92] by rw [hsn]; congr 1; unfold qB; rw [e92]; rfl)
        have HC := Lib.hid (show Lib.byteCells [92, 92] = [.int .u8 92, .int .u8 92] by rfl)
        clear hsn hc e92
        go_wp2_with (at_builtin; refine wpList_append_own _ rfl _ _ 38 rfl w.heap.size 5 i0 (.int .u8 0) 1 1 Tryd.underlying38 hi hz0 hz1 hz2 rfl (by decide) _ _ _ rfl (hown.1.alloc _) ⟨wr.heap.size, 0, none⟩ 2 2 [.int .u8 92, .int .u8 92] rfl rfl ?c1 ?c2 ?c3 ?c4 ?c5 ?_)
        case c1 =>
          intro j u hj
          match j, hj with
          | 0, hj => simp at hj; subst hj; simp [Addr.add]
          | 1, hj => simp at hj; subst hj; simp [Addr.add]
        case c2 => intro u hu; simp at hu; rcases hu with rfl | rfl <;> rfl
        case c3 => unfold maxLen; omega
        case c4 => omega
        case c5 => have := hown.2.size; simp; omega
        intro v' w1 hown' hgrow _
        have hR := hown.step (news := [92, 92]) hown' hgrow rfl HC.out
        clear hown' hgrow hown
        go_wp2_with fail
        go_roundw
        case rel => exact ⟨k + 1, by omega, by go_num, by rw [HS.out]; exact hR⟩
        case measure => simp [intOf]; omega
      by_cases e8 : c.toNat = 8
      · have hcc : s[k].toNat = 8 := by rw [hc]; exact e8
        have HS := Lib.hid (show accL s.data.toList (k + 1) = A ++ [92, 98] by rw [hsn]; congr 1; unfold qB; rw [e8]; rfl)
        have HC := Lib.hid (show Lib.byteCells [92, 98] = [.int .u8 92, .int .u8 98] by rfl)
        clear hsn hc e8
        go_wp2_with (at_builtin; refine wpList_append_own _ rfl _ _ 38 rfl w.heap.size 5 i0 (.int .u8 0) 1 1 Tryd.underlying38 hi hz0 hz1 hz2 rfl (by decide) _ _ _ rfl (hown.1.alloc _) ⟨wr.heap.size, 0, none⟩ 2 2 [.int .u8 92, .int .u8 98] rfl rfl ?c1 ?c2 ?c3 ?c4 ?c5 ?_)
        case c1 =>
          intro j u hj
          match j, hj with
          | 0, hj => simp at hj; subst hj; simp [Addr.add]
          | 1, hj => simp at hj; subst hj; simp [Addr.add]
        case c2 => intro u hu; simp at hu; rcases hu with rfl | rfl <;> rfl
        case c3 => unfold maxLen; omega
        case c4 => omega
        case c5 => have := hown.2.size; simp; omega
        intro v' w1 hown' hgrow _
        have hR := hown.step (news := [92, 98]) hown' hgrow rfl HC.out
        clear hown' hgrow hown
        go_wp2_with fail
        go_roundw
        case rel => exact ⟨k + 1, by omega, by go_num, by rw [HS.out]; exact hR⟩
        case measure => simp [intOf]; omega
      by_cases e9 : c.toNat = 9
      · have hcc : s[k].toNat = 9 := by rw [hc]; exact e9
        have HS := Lib.hid (show accL s.data.toList (k + 1) = A ++ [92, 116] by rw [hsn]; congr 1; unfold qB; rw [e9]; rfl)
        have HC := Lib.hid (show Lib.byteCells [92, 116] = [.int .u8 92, .int .u8 116] by rfl)
        clear hsn hc e9
        go_wp2_with (at_builtin; refine wpList_append_own _ rfl _ _ 38 rfl w.heap.size 5 i0 (.int .u8 0) 1 1 Tryd.underlying38 hi hz0 hz1 hz2 rfl (by decide) _ _ _ rfl (hown.1.alloc _) ⟨wr.heap.size, 0, none⟩ 2 2 [.int .u8 92, .int .u8 116] rfl rfl ?c1 ?c2 ?c3 ?c4 ?c5 ?_)
        case c1 =>
          intro j u hj
          match j, hj with
          | 0, hj => simp at hj; subst hj; simp [Addr.add]
          | 1, hj => simp at hj; subst hj; simp [Addr.add]
        case c2 => intro u hu; simp at hu; rcases hu with rfl | rfl <;> rfl
        case c3 => unfold maxLen; omega
        case c4 => omega
        case c5 => have := hown.2.size; simp; omega
        intro v' w1 hown' hgrow _
        have hR := hown.step (news := [92, 116]) hown' hgrow rfl HC.out
        clear hown' hgrow hown
        go_wp2_with fail
        go_roundw
        case rel => exact ⟨k + 1, by omega, by go_num, by rw [HS.out]; exact hR⟩
        case measure => simp [intOf]; omega
      by_cases e10 : c.toNat = 10
      · have hcc : s[k].toNat = 10 := by rw [hc]; exact e10
        have HS := Lib.hid (show accL s.data.toList (k + 1) = A ++ [92, 110] by rw [hsn]; congr 1; unfold qB; rw [e10]; rfl)
        have HC := Lib.hid (show Lib.byteCells [92, 110] = [.int .u8 92, .int .u8 110] by rfl)
        clear hsn hc e10
        go_wp2_with (at_builtin; refine wpList_append_own _ rfl _ _ 38 rfl w.heap.size 5 i0 (.int .u8 0) 1 1 Tryd.underlying38 hi hz0 hz1 hz2 rfl (by decide) _ _ _ rfl (hown.1.alloc _) ⟨wr.heap.size, 0, none⟩ 2 2 [.int .u8 92, .int .u8 110] rfl rfl ?c1 ?c2 ?c3 ?c4 ?c5 ?_)
        case c1 =>
          intro j u hj
          match j, hj with
          | 0, hj => simp at hj; subst hj; simp [Addr.add]
          | 1, hj => simp at hj; subst hj; simp [Addr.add]
        case c2 => intro u hu; simp at hu; rcases hu with rfl | rfl <;> rfl
        case c3 => unfold maxLen; omega
        case c4 => omega
        case c5 => have := hown.2.size; simp; omega
        intro v' w1 hown' hgrow _
        have hR := hown.step (news := [92, 110]) hown' hgrow rfl HC.out
        clear hown' hgrow hown
        go_wp2_with fail
        go_roundw
        case rel => exact ⟨k + 1, by omega, by go_num, by rw [HS.out]; exact hR⟩
        case measure => simp [intOf]; omega
      by_cases e12 : c.toNat = 12
      · have hcc : s[k].toNat = 12 := by rw [hc]; exact e12
        have HS := Lib.hid (show accL s.data.toList (k + 1) = A ++ [92, 102] by rw [hsn]; congr 1; unfold qB; rw [e12]; rfl)
        have HC := Lib.hid (show Lib.byteCells [92, 102] = [.int .u8 92, .int .u8 102] by rfl)
        clear hsn hc e12
        go_wp2_with (at_builtin; refine wpList_append_own _ rfl _ _ 38 rfl w.heap.size 5 i0 (.int .u8 0) 1 1 Tryd.underlying38 hi hz0 hz1 hz2 rfl (by decide) _ _ _ rfl (hown.1.alloc _) ⟨wr.heap.size, 0, none⟩ 2 2 [.int .u8 92, .int .u8 102] rfl rfl ?c1 ?c2 ?c3 ?c4 ?c5 ?_)
        case c1 =>
          intro j u hj
          match j, hj with
          | 0, hj => simp at hj; subst hj; simp [Addr.add]
          | 1, hj => simp at hj; subst hj; simp [Addr.add]
        case c2 => intro u hu; simp at hu; rcases hu with rfl | rfl <;> rfl
        case c3 => unfold maxLen; omega
        case c4 => omega
        case c5 => have := hown.2.size; simp; omega
        intro v' w1 hown' hgrow _
        have hR := hown.step (news := [92, 102]) hown' hgrow rfl HC.out
        clear hown' hgrow hown
        go_wp2_with fail
        go_roundw
        case rel => exact ⟨k + 1, by omega, by go_num, by rw [HS.out]; exact hR⟩
        case measure => simp [intOf]; omega
      by_cases e13 : c.toNat = 13
      · have hcc : s[k].toNat = 13 := by rw [hc]; exact e13
        have HS := Lib.hid (show accL s.data.toList (k + 1) = A ++ [92, 114] by rw [hsn]; congr 1; unfold qB; rw [e13]; rfl)
        have HC := Lib.hid (show Lib.byteCells [92, 114] = [.int .u8 92, .int .u8 114] by rfl)
        clear hsn hc e13
        go_wp2_with (at_builtin; refine wpList_append_own _ rfl _ _ 38 rfl w.heap.size 5 i0 (.int .u8 0) 1 1 Tryd.underlying38 hi hz0 hz1 hz2 rfl (by decide) _ _ _ rfl (hown.1.alloc _) ⟨wr.heap.size, 0, none⟩ 2 2 [.int .u8 92, .int .u8 114] rfl rfl ?c1 ?c2 ?c3 ?c4 ?c5 ?_)
        case c1 =>
          intro j u hj
          match j, hj with
          | 0, hj => simp at hj; subst hj; simp [Addr.add]
          | 1, hj => simp at hj; subst hj; simp [Addr.add]
        case c2 => intro u hu; simp at hu; rcases hu with rfl | rfl <;> rfl
        case c3 => unfold maxLen; omega
        case c4 => omega
        case c5 => have := hown.2.size; simp; omega
        intro v' w1 hown' hgrow _
        have hR := hown.step (news := [92, 114]) hown' hgrow rfl HC.out
        clear hown' hgrow hown
        go_wp2_with fail
        go_roundw
        case rel => exact ⟨k + 1, by omega, by go_num, by rw [HS.out]; exact hR⟩
        case measure => simp [intOf]; omega
      have hsh := shortN_none e34 e92 e8 e9 e10 e12 e13
      have n34 : ((c.toNat : Int) == 34) = false := by rw [beq_eq_false_iff_ne]; omega
      have n92 : ((c.toNat : Int) == 92) = false := by rw [beq_eq_false_iff_ne]; omega
      have n8 : ((c.toNat : Int) == 8) = false := by rw [beq_eq_false_iff_ne]; omega
      have n9 : ((c.toNat : Int) == 9) = false := by rw [beq_eq_false_iff_ne]; omega
      have n10 : ((c.toNat : Int) == 10) = false := by rw [beq_eq_false_iff_ne]; omega
      have n12 : ((c.toNat : Int) == 12) = false := by rw [beq_eq_false_iff_ne]; omega
      have n13 : ((c.toNat : Int) == 13) = false := by rw [beq_eq_false_iff_ne]; omega
      clear e34 e92 e8 e9 e10 e12 e13
      by_cases e32 : c.toNat < 32
      · have HS := Lib.hid (show accL s.data.toList (k + 1) = A ++ [92, 117, 48, 48, hexd (c.toNat / 16), hexd (c.toNat % 16)] by rw [hsn]; congr 1; unfold qB; rw [if_neg (by rw [hsh]; simp), if_pos e32])
        have HC := Lib.hid (show Lib.byteCells [92, 117, 48, 48, hexd (c.toNat / 16), hexd (c.toNat % 16)] = [.int .u8 92, .int .u8 117, .int .u8 48, .int .u8 48, .int .u8 (hexd (c.toNat / 16)).toNat, .int .u8 (hexd (c.toNat % 16)).toNat] by rfl)
        have H1 : Hid (∀ w1, Calls Tryd.prog 27 #[.int .i64 ((c.toNat : Int) / 16)] w1 fun e w' => e = .returned (.int .u8 (hexd (c.toNat / 16)).toNat) ∧ w1 = w') := Lib.hid fun w1 => by have := rhex_any (c.toNat / 16) (by omega) w1; rw [show ((c.toNat / 16 : Nat) : Int) = (c.toNat : Int) / 16 by omega] at this; exact this
        have H2 : Hid (∀ w1, Calls Tryd.prog 27 #[.int .i64 ((c.toNat : Int) % 16)] w1 fun e w' => e = .returned (.int .u8 (hexd (c.toNat % 16)).toNat) ∧ w1 = w') := Lib.hid fun w1 => by have := rhex_any (c.toNat % 16) (by omega) w1; rw [show ((c.toNat % 16 : Nat) : Int) = (c.toNat : Int) % 16 by omega] at this; exact this
        clear hsn hsh
        go_wp2_with fail
        refine (H1.out _).mono ?_
        rintro e w' ⟨rfl, rfl⟩
        go_wp2_with fail
        refine (H2.out _).mono ?_
        rintro e w' ⟨rfl, rfl⟩
        go_wp2_with (at_builtin; refine wpList_append_own _ rfl _ _ 38 rfl w.heap.size 5 i0 (.int .u8 0) 1 1 Tryd.underlying38 hi hz0 hz1 hz2 rfl (by decide) _ _ _ rfl (hown.1.alloc _) ⟨wr.heap.size, 0, none⟩ 6 6 [.int .u8 92, .int .u8 117, .int .u8 48, .int .u8 48, .int .u8 (hexd (c.toNat / 16)).toNat, .int .u8 (hexd (c.toNat % 16)).toNat] rfl rfl ?c1 ?c2 ?c3 ?c4 ?c5 ?_)
        case c1 =>
          intro j u hj
          match j, hj with
          | 0, hj => simp at hj; subst hj; simp [Addr.add]
          | 1, hj => simp at hj; subst hj; simp [Addr.add]
          | 2, hj => simp at hj; subst hj; simp [Addr.add]
          | 3, hj => simp at hj; subst hj; simp [Addr.add]
          | 4, hj => simp at hj; subst hj; simp [Addr.add]
          | 5, hj => simp at hj; subst hj; simp [Addr.add]
        case c2 => intro u hu; simp at hu; rcases hu with rfl | rfl | rfl | rfl | rfl | rfl <;> rfl
        case c3 => unfold maxLen; omega
        case c4 => omega
        case c5 => have := hown.2.size; simp; omega
        intro v' w1 hown' hgrow _
        have hR := hown.step (news := [92, 117, 48, 48, hexd (c.toNat / 16), hexd (c.toNat % 16)]) hown' hgrow rfl HC.out
        clear hown' hgrow hown
        go_wp2_with fail
        go_roundw
        case rel => exact ⟨k + 1, by omega, by go_num, by rw [HS.out]; exact hR⟩
        case measure => simp [intOf]; omega
      · have HS := Lib.hid (show accL s.data.toList (k + 1) = A ++ [c] by rw [hsn]; congr 1; unfold qB; rw [if_neg (by rw [hsh]; simp), if_neg e32])
        have HC := Lib.hid (show Lib.byteCells [c] = [.int .u8 c.toNat] by rfl)
        clear hsn hsh
        go_wp2_with (at_builtin; refine wpList_append_own _ rfl _ _ 38 rfl w.heap.size 5 i0 (.int .u8 0) 1 1 Tryd.underlying38 hi hz0 hz1 hz2 rfl (by decide) _ _ _ rfl (hown.1.alloc _) ⟨wr.heap.size, 0, none⟩ 1 1 [.int .u8 c.toNat] rfl rfl ?c1 ?c2 ?c3 ?c4 ?c5 ?_)
        case c1 =>
          intro j u hj
          match j, hj with
          | 0, hj => simp at hj; subst hj; simp [Addr.add]
        case c2 => intro u hu; simp at hu; subst hu; rfl
        case c3 => unfold maxLen; omega
        case c4 => omega
        case c5 => have := hown.2.size; simp; omega
        intro v' w1 hown' hgrow _
        have hR := hown.step (news := [c]) hown' hgrow rfl HC.out
        clear hown' hgrow hown
        go_wp2_with fail
        go_roundw
        case rel => exact ⟨k + 1, by omega, by go_num, by rw [HS.out]; exact hR⟩
        case measure => simp [intOf]; omega

    · have hke : k = s.size := by omega
      subst hke
      obtain ⟨A, hA⟩ : ∃ A, accL s.data.toList s.size = A := ⟨_, rfl⟩
      rw [hA] at hown hlen
      have HA := Lib.hid hA
      clear hA
      go_wp2_with (at_builtin; refine wpList_append_own _ rfl _ _ 38 rfl w.heap.size 5 i0 (.int .u8 0) 1 1 Tryd.underlying38 hi hz0 hz1 hz2 rfl (by decide) _ _ _ rfl (hown.1.alloc _) ⟨wr.heap.size, 0, none⟩ 1 1 [.int .u8 34] rfl rfl ?c1 ?c2 ?c3 ?c4 ?c5 ?_)
      case c1 =>
        intro j u hj
        match j, hj with
        | 0, hj => simp at hj; subst hj; simp [Addr.add]
      case c2 => intro u hu; simp at hu; subst hu; rfl
      case c3 => unfold maxLen; omega
      case c4 => omega
      case c5 => have := hown.2.size; simp; omega
      intro v' w1 hown' hgrow _
      have hR := hown.step (news := [34]) hown' hgrow rfl rfl
      clear hown' hgrow hown
      obtain ⟨g, cap, rfl, hg, hgl⟩ := hR.1.form (by simp)
      have hcv := run_convert_bytes_back (P := Tryd.prog) w1 38 9 5 ⟨g, 0, none⟩ cap (A ++ [34]) Tryd.underlying38 Tryd.underlying5 Tryd.underlying9 (fun j hj => by
        have := hR.1.cells (g := g) rfl j _ (List.getElem?_eq_getElem (by simpa [Lib.byteCells] using hj))
        rw [this]
        simp only [Lib.byteCells, List.getElem_map])
      obtain ⟨n, hn⟩ : ∃ n, (A ++ [34]).length = n := ⟨_, rfl⟩
      rw [hn] at hcv ⊢
      clear hn
      have HB := Lib.hid hR.2
      clear hR
      go_wp2_with fail
      go_ret2
      exact ⟨by rw [HA.out]; rfl, HB.out⟩

theorem rquote_any (s : ByteArray) (w : World) (hs : s.size ≤ 2000) :
    Calls Tryd.prog 11 #[.string s] w fun e w' => e = .returned (quoteR s.data.toList) ∧ Below w.heap.size w w' := by
  cases hv : Lib.validD s.data.toList with
  | false => exact rquote_no s w hv hs
  | true => exact rquote_yes s w hv hs
end Go.Proofs.YtoojfgajlakonaaDoor
