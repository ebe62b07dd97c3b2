/-
  The closure of number.Text that writes the digits one behind another, by a contract of its own; the digits of the reference.
-/
import Derived.Test.YtgbbbcojeaolbaaProg
import Derived.Test.YtgbbbcojeaolbaaNM
import Derived.WalkKit
import Derived.ProofKit
import Derived.Below
import Derived.Handy
import Derived.Deep.QuietTactic
import Derived.BigQuiet
import Derived.Lib.Hide
import Derived.Laws.IdiomStrings
import Derived.Laws.OwnMore
import Derived.Lib.AppendIntMem
set_option linter.unusedVariables false
namespace Go.Proofs.Ytgbbbcojeaolbaa
open Go.RowKit

theorem infoByte : (Try.prog.info? 5).map (fun i => (i.zero, i.size, i.bytes)) = some (some (.int .u8 0), 1, 1) := by kernel_rfl
theorem byteCells_app (a b : List UInt8) : Lib.byteCells (a ++ b) = Lib.byteCells a ++ Lib.byteCells b := by simp [Lib.byteCells]
theorem byteCell_digit {d : Nat} (h : d < 10) : Lib.byteCells [UInt8.ofNat (48 + d)] = [.int .u8 (48 + (d : Int))] := by
  simp only [Lib.byteCells, List.map_cons, List.map_nil]
  rw [ofD h]; rfl

def fv (N : Nat) : Value := .func (.func 20) #[] #[.pointer (some ⟨N + 1, 0, none⟩), .pointer (some ⟨N, 0, none⟩)]
/-- The memory of one call of Text: the closure, and the row of bytes. -/
structure PS (N : Nat) (A : List UInt8) (w : World) : Prop where
  put : w.heap[N + 1]? = some (.cells #[fv N] 38 (0, 0))
  b : ∃ v, w.heap[N]? = some (.cells #[v] 37 (0, 0)) ∧ w.ownsRow (N + 2) 5 1 v A.length (Lib.byteCells A)

theorem ps_push {N : Nat} {A news : List UInt8} {cs : List Value} {w w1 : World} {v v' : Value} (tmp : Obj) {m : Nat} (h : PS N A w)
    (hv : w.heap[N]? = some (.cells #[v] 37 (0, 0))) (hown : w.ownsRow (N + 2) 5 1 v A.length (Lib.byteCells A))
    (hown' : w1.ownsRow (N + 2) 5 1 v' (A.length + m) (Lib.byteCells A ++ cs)) (hgrow : (w.alloc tmp).grownBy w1 v.ownBlock) (hm : news.length = m) (hm0 : 0 < m) (hc : Lib.byteCells news = cs) :
    (∃ g' cap', v' = .slice (some ⟨g', 0, none⟩) (A.length + m) cap') ∧ w1.cell? ⟨N, 0, none⟩ = some v ∧ w1.frozen? ⟨N, 0, none⟩ = false ∧ PS N (A ++ news) (w1.setCell ⟨N, 0, none⟩ v') ∧ Below N w (w1.setCell ⟨N, 0, none⟩ v') := by
  have hN := lt_of_block hv
  have hne : ∀ k, k < N + 2 → some k ≠ v.ownBlock := fun k hk e => by
    rcases hown.2 with ⟨rfl, _⟩ | ⟨g, cap, cur, rfl, hg, hh, _⟩
    · simp [Value.ownBlock] at e
    · simp only [Value.ownBlock, Option.some.injEq] at e
      omega
  have keep : ∀ k, k < w.heap.size → k < N + 2 → w1.heap[k]? = w.heap[k]? := fun k hk hk' =>
    (hgrow.block k (by simp; omega) (hne k hk')).trans (Below.heap_alloc _ _ _ hk)
  have hv1 : w1.heap[N]? = some (.cells #[v] 37 (0, 0)) := (keep N hN (by omega)).trans hv
  have hp1 : w1.heap[N + 1]? = some (.cells #[fv N] 38 (0, 0)) := (keep (N + 1) (lt_of_block h.put) (by omega)).trans h.put
  have hne' : v'.ownBlock ≠ some N := fun e => by
    rcases hown'.2 with ⟨rfl, _⟩ | ⟨g, cap, cur, rfl, hg, hh, _⟩
    · simp [Value.ownBlock] at e
    · simp only [Value.ownBlock, Option.some.injEq] at e
      omega
  have hex : ∃ g' cap', v' = .slice (some ⟨g', 0, none⟩) (A.length + m) cap' := by
    rcases hown'.2 with ⟨_, h0⟩ | ⟨g', cap', _, h, _⟩
    · omega
    · exact ⟨g', cap', h⟩
  refine ⟨hex, cell_of_one hv1, free_of_one hv1, ⟨?_, ⟨_, one_setCell hv1, ?_⟩⟩, ?_⟩
  · exact (Below.heap_setCell _ _ _ _ (by show N + 1 ≠ N; omega)).trans hp1
  · have := ownsRow_setCell_other hown' (a := ⟨N, 0, none⟩) hne' v'
    rw [List.length_append, byteCells_app, hm, hc]
    exact this
  · exact (((Below.refl N w).alloc (by omega) _).grown hgrow (by simp; omega) (fun j hj => by have := (hown.lt j hj).1; omega)).setCell (by show N ≤ N; omega) _

set_option maxRecDepth 100000 in
set_option maxHeartbeats 2000000 in
theorem put_one (N n : Nat) (A : List UInt8) (w : World) (hn : n < 10) (hA : A.length ≤ 100) (h : PS N A w) :
    Calls Try.prog 20 #[.int .i64 n, .pointer (some ⟨N + 1, 0, none⟩), .pointer (some ⟨N, 0, none⟩)] w fun e w' => e = .returned (.tuple #[]) ∧ PS N (A ++ digs n) w' ∧ Below N w w' := by
  obtain ⟨i0, hi, hz0, hz1, hz2⟩ := info_parts infoByte
  have h0 := h
  obtain ⟨hp, v, hv, hown⟩ := h
  have cB := cell_of_one hv
  have fB := free_of_one hv
  have hN := lt_of_block hv
  have cP := cell_of_one hp
  have HD := Lib.hid (digs_lt hn)
  have hm : (n : Int) % 10 = n := by omega
  have hN2 := lt_of_block hp
  clear hp
  go_enter Try.func20, Try.ntmps20
  go_wp2_with (at_builtin; refine wpList_append_own _ rfl _ _ 37 rfl (N + 2) 5 i0 (.int .u8 0) 1 1 Try.underlying37 hi hz0 hz1 hz2 rfl (by decide) _ _ _ rfl (hown.alloc _) ⟨w.heap.size, 0, none⟩ 1 1 [.int .u8 (48 + (n : Int))] rfl rfl ?c1 ?c2 ?c3 ?c4 ?c5 ?_)
  case c1 =>
    intro j u hj
    match j, hj with
    | 0, hj => simp at hj; subst hj; simp [Addr.add]
  case c2 => intro u hu; simp at hu; subst hu; rfl
  case c3 => unfold maxLen; omega
  case c4 => omega
  case c5 => simp; omega
  intro v' w1 hown' hgrow _
  obtain ⟨⟨g', cap', rfl⟩, cW, fW, hps, hbel⟩ := ps_push (news := digs n) _ h0 hv hown hown' hgrow (by rw [HD.out]; rfl) (by decide) (by rw [HD.out, byteCell_digit hn])
  clear hown' hgrow hown h0 hv
  go_wp2_with fail
  go_end0
  exact ⟨rfl, hps, hbel⟩

set_option maxRecDepth 100000 in
set_option maxHeartbeats 2000000 in
theorem put_any (N : Nat) (k : Nat) : ∀ (n : Nat) (A : List UInt8) (w : World), n ≤ k → n ≤ 9007199254740992 → A.length + (digs n).length ≤ 100 → PS N A w →
    Calls Try.prog 20 #[.int .i64 n, .pointer (some ⟨N + 1, 0, none⟩), .pointer (some ⟨N, 0, none⟩)] w fun e w' => e = .returned (.tuple #[]) ∧ PS N (A ++ digs n) w' ∧ Below N w w' := by
  induction k with
  | zero => intro n A w hk hn hA h; exact put_one N n A w (by omega) (by omega) h
  | succ k ih =>
    intro n A w hk hn hA h
    by_cases h10 : n < 10
    · exact put_one N n A w h10 (by omega) h
    obtain ⟨i0, hi, hz0, hz1, hz2⟩ := info_parts infoByte
    have HD := Lib.hid (digs_ge h10)
    have hl := congrArg List.length HD.out
    rw [List.length_append, List.length_singleton] at hl
    have HI := Lib.hid (ih (n / 10) A w (by omega) (by omega) (by omega) h)
    have cP : w.cell? ⟨N + 1, 0, none⟩ = some (.func (.func 20) #[] #[.pointer (some ⟨N + 1, 0, none⟩), .pointer (some ⟨N, 0, none⟩)]) := cell_of_one h.put
    have hN := lt_of_block h.put
    have h9 : 9 < (n : Int) := by omega
    clear ih
    obtain ⟨q, hqq⟩ : ∃ q, q = n / 10 := ⟨_, rfl⟩
    have hq : (n : Int) / 10 = (q : Int) := by omega
    rw [← hqq] at HD HI
    obtain ⟨d, hd⟩ : ∃ d, d = n % 10 := ⟨_, rfl⟩
    have hm : (n : Int) % 10 = (d : Int) := by omega
    have hd10 : d < 10 := by omega
    rw [← hd] at HD
    have hA' : (A ++ digs q).length ≤ 99 := by rw [List.length_append, hqq]; omega
    have hn0 : 0 ≤ (n : Int) := by omega
    have hn1 : (n : Int) ≤ 9007199254740992 := by omega
    have HE : Hid (A ++ digs n = A ++ digs q ++ [UInt8.ofNat (48 + d)]) := Lib.hid (by rw [HD.out, List.append_assoc])
    clear hl hd h10 hA hk h hqq HD
    generalize A ++ digs n = A3 at *
    generalize A ++ digs q = A2 at *
    go_enter Try.func20, Try.ntmps20
    go_wp2_with (go_at_call 20; refine HI.out.mono ?_)
    rintro e w2 ⟨rfl, h, hbel2⟩
    have h0 := h
    obtain ⟨hp, v, hv, hown⟩ := h
    have cB := cell_of_one hv
    have fB := free_of_one hv
    have hN := lt_of_block hv
    have hN2 := lt_of_block hp
    have HB := Lib.hid hbel2
    clear hp hbel2
    go_wp2_with (at_builtin; refine wpList_append_own _ rfl _ _ 37 rfl (N + 2) 5 i0 (.int .u8 0) 1 1 Try.underlying37 hi hz0 hz1 hz2 rfl (by decide) _ _ _ rfl (hown.alloc _) ⟨w2.heap.size, 0, none⟩ 1 1 [.int .u8 (48 + (d : Int))] rfl rfl ?c1 ?c2 ?c3 ?c4 ?c5 ?_)
    case c1 =>
      intro j u hj
      match j, hj with
      | 0, hj => simp at hj; subst hj; simp [Addr.add]
    case c2 => intro u hu; simp at hu; subst hu; rfl
    case c3 => unfold maxLen; omega
    case c4 => omega
    case c5 => simp; omega
    intro v' w1 hown' hgrow _
    obtain ⟨⟨g', cap', rfl⟩, cW, fW, hps, hbel⟩ := ps_push (news := [UInt8.ofNat (48 + d)]) _ h0 hv hown hown' hgrow rfl (by decide) (byteCell_digit hd10)
    clear hown' hgrow hown h0 hv
    go_wp2_with fail
    go_end0
    exact ⟨rfl, by rw [HE.out]; exact hps, HB.out.trans hbel⟩
end Go.Proofs.Ytgbbbcojeaolbaa
