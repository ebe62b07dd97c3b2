/-
  The plain mathematics of numbers as texts: digits, their value, what a scan answers; lists and integers alone. · The closure of number.Text that writes the digits one behind another, by a contract of its own; the digits of the reference. · Contracts of Fits, Digit, Text, Len, of package number.
-/
import Derived.Test.YtllkcldckehipaaGreatDoorProg
import Derived.WalkKit
import Derived.ProofKit
import Derived.Below
import Derived.Handy
import Derived.Deep.QuietTactic
import Derived.BigQuiet
import Derived.Lib.Hide
import Derived.Laws.IdiomStrings
import Derived.Laws.OwnMore
import Derived.Lib.AppendIntMem
import Derived.Laws.EntriesVeiled
import Derived.IntWalk
set_option linter.unusedVariables false
set_option linter.unusedSimpArgs false
namespace Go.Proofs.YtllkcldckehipaaGreatDoor.Nu

def isD (c : UInt8) : Bool := decide (48 ≤ c.toNat) && decide (c.toNat ≤ 57)
def digs (n : Nat) : List UInt8 := if h : n < 10 then [UInt8.ofNat (48 + n)] else digs (n / 10) ++ [UInt8.ofNat (48 + n % 10)]
termination_by n
decreasing_by omega
theorem digs_lt {n : Nat} (h : n < 10) : digs n = [UInt8.ofNat (48 + n)] := by rw [digs, dif_pos h]
theorem digs_ge {n : Nat} (h : ¬ n < 10) : digs n = digs (n / 10) ++ [UInt8.ofNat (48 + n % 10)] := by rw [digs, dif_neg h]

/-- The value of digits behind a beginning worth `a`. -/
def valA (a : Nat) (l : List UInt8) : Nat := l.foldl (fun x c => x * 10 + (c.toNat - 48)) a
def val (l : List UInt8) : Nat := valA 0 l
theorem valA_nil (a : Nat) : valA a [] = a := rfl
theorem valA_cons (a : Nat) (c : UInt8) (l : List UInt8) : valA a (c :: l) = valA (a * 10 + (c.toNat - 48)) l := by unfold valA; rw [List.foldl_cons]
theorem valA_app (a : Nat) (l m : List UInt8) : valA a (l ++ m) = valA (valA a l) m := by simp [valA]
theorem val_snoc (l : List UInt8) (c : UInt8) : val (l ++ [c]) = val l * 10 + (c.toNat - 48) := by simp [val, valA]
theorem valA_ge : ∀ (l : List UInt8) (a : Nat), a ≤ valA a l
  | [], a => Nat.le_refl _
  | c :: l, a => by rw [valA_cons]; exact Nat.le_trans (by omega) (valA_ge l _)
theorem val_take_le (l : List UInt8) (k : Nat) : val (l.take k) ≤ val l := by
  have h : val l = valA (val (l.take k)) (l.drop k) := by rw [val, val, ← valA_app, List.take_append_drop]
  rw [h]; exact valA_ge _ _
theorem valA_eq : ∀ (l : List UInt8) (a : Nat), valA a l = a * 10 ^ l.length + val l
  | [], a => by simp [valA, val]
  | c :: l, a => by
    rw [valA_cons, valA_eq l, show val (c :: l) = valA (0 * 10 + (c.toNat - 48)) l from valA_cons 0 c l, valA_eq l (0 * 10 + _), List.length_cons, Nat.pow_succ]
    rw [Nat.add_mul, Nat.mul_assoc, Nat.mul_comm 10]
    simp; omega
theorem val_cons (c : UInt8) (l : List UInt8) : val (c :: l) = (c.toNat - 48) * 10 ^ l.length + val l := by
  rw [val, valA_cons, valA_eq]; simp

theorem ofD {d : Nat} (h : d < 10) : (UInt8.ofNat (48 + d)).toNat = 48 + d := by
  rw [UInt8.toNat_ofNat']; omega
theorem isD_iff {c : UInt8} : isD c = true ↔ 48 ≤ c.toNat ∧ c.toNat ≤ 57 := by simp [isD]
theorem isD_ofD {d : Nat} (h : d < 10) : isD (UInt8.ofNat (48 + d)) = true := by rw [isD_iff, ofD h]; omega

theorem val_digs (n : Nat) : val (digs n) = n := by
  induction n using Nat.strongRecOn with
  | _ n ih =>
    by_cases h : n < 10
    · rw [digs_lt h]; simp only [val, valA, List.foldl]; rw [ofD h]; omega
    · rw [digs_ge h, val_snoc, ih _ (by omega), ofD (by omega)]; omega
theorem digs_all (n : Nat) : (digs n).all isD = true := by
  induction n using Nat.strongRecOn with
  | _ n ih =>
    by_cases h : n < 10
    · rw [digs_lt h, List.all_cons, isD_ofD h]; rfl
    · rw [digs_ge h, List.all_append, ih _ (by omega), List.all_cons, isD_ofD (show n % 10 < 10 by omega)]; rfl
theorem digs_pos (n : Nat) : 1 ≤ (digs n).length := by
  by_cases h : n < 10
  · rw [digs_lt h]; simp
  · rw [digs_ge h]; simp
theorem digs_head (n : Nat) (h0 : 1 ≤ n) : ∃ c t, digs n = c :: t ∧ c ≠ 48 := by
  induction n using Nat.strongRecOn with
  | _ n ih =>
    by_cases h : n < 10
    · refine ⟨_, [], digs_lt h, fun e => ?_⟩
      have := congrArg UInt8.toNat e
      rw [ofD h] at this; have h48 : (48 : UInt8).toNat = 48 := rfl
      omega
    · obtain ⟨c, t, e, hc⟩ := ih (n / 10) (by omega) (by omega)
      exact ⟨c, t ++ [UInt8.ofNat (48 + n % 10)], by rw [digs_ge h, e]; rfl, hc⟩
theorem digs_len (n k : Nat) (h0 : 1 ≤ k) (h : n < 10 ^ k) : (digs n).length ≤ k := by
  induction n using Nat.strongRecOn generalizing k with
  | _ n ih =>
    by_cases h1 : n < 10
    · rw [digs_lt h1]; simpa using h0
    · rw [digs_ge h1]
      match k, h0, h with
      | 1, _, h => exact absurd (by simpa using h) h1
      | k + 2, _, h =>
        have := ih (n / 10) (by omega) (k + 1) (by omega) (by rw [Nat.pow_succ] at h; omega)
        simp; omega
theorem digs_len_ge (n k : Nat) (h : 10 ^ k ≤ n) : k + 1 ≤ (digs n).length := by
  induction n using Nat.strongRecOn generalizing k with
  | _ n ih =>
    match k, h with
    | 0, _ => exact digs_pos n
    | k + 1, h =>
      have hp : 0 < 10 ^ k := Nat.pow_pos (by decide)
      rw [Nat.pow_succ] at h
      rw [digs_ge (by omega)]
      have := ih (n / 10) (by omega) k (by omega)
      simp; omega
theorem digs_mono {n m : Nat} (h : n ≤ m) : (digs n).length ≤ (digs m).length := by
  match hk : (digs n).length, digs_pos n with
  | k + 1, _ =>
    by_cases h1 : 10 ^ k ≤ m
    · exact digs_len_ge m k h1
    · by_cases k0 : k = 0
      · subst k0; exact digs_pos m
      have := digs_len n k (by omega) (by omega)
      omega
theorem digs_inj {n m : Nat} (h : digs n = digs m) : n = m := by rw [← val_digs n, h, val_digs]
theorem val_lt : ∀ (l : List UInt8), l.all isD = true → val l < 10 ^ l.length
  | [], _ => by simp [val, valA]
  | c :: l, h => by
    rw [List.all_cons, Bool.and_eq_true] at h
    have := val_lt l h.2
    have hc := isD_iff.1 h.1
    rw [val_cons, List.length_cons, Nat.pow_succ]
    have h9 : (c.toNat - 48) * 10 ^ l.length ≤ 9 * 10 ^ l.length := Nat.mul_le_mul_right _ (by omega)
    omega
/-- Digits with no needless 0 ahead are the digits of their value. -/
theorem digs_val_aux : ∀ (n : Nat) (l : List UInt8), l.length = n → l ≠ [] → l.all isD = true → (1 < l.length → l.head? ≠ some 48) → digs (val l) = l
  | 0, [], _, h, _, _ => absurd rfl h
  | n + 1, l, hl, h, ha, hh => by
    have hs : l = l.dropLast ++ [l.getLast h] := (List.dropLast_concat_getLast h).symm
    generalize hx : l.dropLast = xs at hs
    generalize l.getLast h = c at hs
    subst hs
    clear hx
    rw [List.all_append, Bool.and_eq_true] at ha
    have hc : isD c = true := by simpa using ha.2
    have hc' := isD_iff.1 hc
    have hof : UInt8.ofNat (48 + (c.toNat - 48)) = c := by
      apply UInt8.toNat_inj.1
      rw [ofD (by omega)]; omega
    rw [val_snoc]
    match xs, hl, hh, ha with
    | [], _, _, _ =>
      rw [show val [] = 0 from rfl, digs_lt (by omega)]
      simp [hof]
    | x :: t, hl, hh, ha =>
      have hx48 : x ≠ 48 := fun e => hh (by simp) (by simp [e])
      have ih := digs_val_aux n (x :: t) (by simp at hl ⊢; omega) (by simp) ha.1 (fun _ => by simpa using hx48)
      have hx := isD_iff.1 (by have := ha.1; rw [List.all_cons, Bool.and_eq_true] at this; exact this.1)
      have hx1 : 1 ≤ x.toNat - 48 := by
        have : x.toNat ≠ 48 := fun e => hx48 (UInt8.toNat_inj.1 e)
        omega
      have hv : 1 ≤ val (x :: t) := by
        rw [val_cons]
        have hp : 0 < 10 ^ t.length := Nat.pow_pos (by decide)
        have : 1 * 1 ≤ (x.toNat - 48) * 10 ^ t.length := Nat.mul_le_mul hx1 hp
        omega
      rw [digs_ge (by omega)]
      rw [show (val (x :: t) * 10 + (c.toNat - 48)) / 10 = val (x :: t) by omega, show (val (x :: t) * 10 + (c.toNat - 48)) % 10 = c.toNat - 48 by omega, ih, hof]
theorem digs_val {l : List UInt8} (h : l ≠ []) (ha : l.all isD = true) (hh : 1 < l.length → l.head? ≠ some 48) : digs (val l) = l := digs_val_aux _ l rfl h ha hh

/-- Of as many digits the greater number's are the greater ones. -/
theorem lex_val : ∀ (a b : List UInt8), a.length = b.length → a.all isD = true → b.all isD = true → (a < b ↔ val a < val b)
  | [], [], _, _, _ => by simp
  | c :: a, d :: b, hl, ha, hb => by
    rw [List.all_cons, Bool.and_eq_true] at ha hb
    have ih := lex_val a b (by simpa using hl) ha.2 hb.2
    have hla : a.length = b.length := by simpa using hl
    have va := val_lt a ha.2
    have vb := val_lt b hb.2
    have hc := isD_iff.1 ha.1
    have hd := isD_iff.1 hb.1
    rw [val_cons, val_cons, List.cons_lt_cons_iff]
    rw [hla] at va ⊢
    generalize 10 ^ b.length = p at va vb ⊢
    by_cases e : c = d
    · subst e
      simp [ih, UInt8.lt_irrefl]
    · have ne : c.toNat ≠ d.toNat := fun h => e (UInt8.toNat_inj.1 h)
      simp only [e, false_and, or_false, UInt8.lt_iff_toNat_lt]
      constructor
      · intro h
        have : (c.toNat - 48 + 1) * p ≤ (d.toNat - 48) * p := Nat.mul_le_mul_right _ (by omega)
        rw [Nat.add_mul] at this
        omega
      · intro h
        refine Classical.byContradiction fun h' => ?_
        have : (d.toNat - 48 + 1) * p ≤ (c.toNat - 48) * p := Nat.mul_le_mul_right _ (by omega)
        rw [Nat.add_mul] at this
        omega

/-- May the number be? -/
def fitB (n : Int) : Bool := decide (-9007199254740992 ≤ n) && decide (n ≤ 9007199254740992)
theorem fitB_iff {n : Int} : fitB n = true ↔ -9007199254740992 ≤ n ∧ n ≤ 9007199254740992 := by simp [fitB]
/-- A number's text; none, if it may not be. -/
def txt (n : Int) : List UInt8 := if fitB n then (if n < 0 then 45 :: digs n.natAbs else digs n.natAbs) else []
theorem txt_neg {n : Int} (h : fitB n = true) (h0 : n < 0) : txt n = 45 :: digs n.natAbs := by rw [txt, if_pos h, if_pos h0]
theorem txt_pos {n : Int} (h : fitB n = true) (h0 : ¬ n < 0) : txt n = digs n.natAbs := by rw [txt, if_pos h, if_neg h0]
theorem txt_no {n : Int} (h : fitB n = false) : txt n = [] := by rw [txt, h]; rfl
theorem txt_len (n : Int) : (txt n).length ≤ 17 := by
  unfold txt
  split
  · rename_i h
    have h' := fitB_iff.1 h
    have := digs_len n.natAbs 16 (by decide) (by omega)
    split
    · simp; omega
    · omega
  · simp

/-- Behind digits it can't stand. -/
def stopB (c : UInt8) : Bool := c == 46 || c == 101 || c == 69
/-- The digits that stand in l from k on. -/
def dig (l : List UInt8) (k : Nat) : List UInt8 := (l.drop k).takeWhile isD
/-- The place of the first byte that can't stand with the digits (as many as d) of l from first on. -/
def misL (l : List UInt8) (first d : Nat) : Int × Bool :=
  if d = 0 then (first, true)
  else if l.getD first 0 = 48 ∧ 1 < d then (first + 1, true)
  else if stopB (l.getD (first + d) 0) then (first + d, true)
  else (0, false)
/-- The number that digits tell, if it may be. -/
def wL (ds : List UInt8) : Int × Bool := if val ds ≤ 9007199254740992 then (val ds, true) else (0, false)
/-- The answer behind the sign: l, the place of the whole, whether a - stands there, the place of the digits. -/
def scanB (l : List UInt8) (k : Nat) (minus : Bool) (first : Nat) : Int × Int × Int :=
  if (misL l first (dig l first).length).2 then (0, (misL l first (dig l first).length).1, 20)
  else if 9007199254740992 < val (dig l first) ∨ minus = true ∧ val (dig l first) = 0 then (0, k, 20)
  else (if minus then -(val (dig l first) : Int) else val (dig l first), first + (dig l first).length, 0)
def scanN (l : List UInt8) (k : Nat) : Int × Int × Int :=
  if l.getD k 0 = 45 then scanB l k true (k + 1) else scanB l k false k
def scanL (l : List UInt8) (at_ : Int) : Int × Int × Int := if at_ < 0 ∨ (l.length : Int) < at_ then (0, 0, 2) else scanN l at_.toNat
def readL (l : List UInt8) : Int × Int := if (scanL l 0).2.2 = 0 ∧ (scanL l 0).2.1 = l.length then ((scanL l 0).1, 0) else (0, 20)

theorem dig_le (l : List UInt8) (k : Nat) : (dig l k).length ≤ l.length - k := by
  have h := (List.takeWhile_sublist (p := isD) (l := l.drop k)).length_le
  rw [List.length_drop] at h; exact h
theorem dig_all (l : List UInt8) (k : Nat) : (dig l k).all isD = true := by
  unfold dig; exact List.all_takeWhile
theorem dig_take (l : List UInt8) (k : Nat) : dig l k = (l.drop k).take (dig l k).length := by
  have h := List.takeWhile_append_dropWhile (p := isD) (l := l.drop k)
  unfold dig
  exact (List.take_left' rfl ▸ congrArg (List.take (List.takeWhile isD (l.drop k)).length) h : _ = _)
theorem dig_at (l : List UInt8) (k j : Nat) (h : j < (dig l k).length) : isD (l.getD (k + j) 0) = true := by
  have hm := List.all_eq_true.1 (dig_all l k) _ (List.getElem_mem h)
  have e : (dig l k)[j] = l.getD (k + j) 0 := by
    have h1 : (dig l k)[j]? = l[k + j]? := by
      rw [dig_take, List.getElem?_take, if_pos h, List.getElem?_drop]
    rw [List.getElem?_eq_getElem h] at h1
    rw [List.getD, ← h1]; rfl
  rw [← e]; exact hm
theorem dig_end (l : List UInt8) (k : Nat) (h : k + (dig l k).length < l.length) : isD (l.getD (k + (dig l k).length) 0) = false := by
  have hd := List.takeWhile_append_dropWhile (p := isD) (l := l.drop k)
  match e : (l.drop k).dropWhile isD with
  | [] =>
    rw [e, List.append_nil] at hd
    have h2 : (dig l k).length = l.length - k := by rw [dig, hd, List.length_drop]
    omega
  | c :: t =>
    have hc : isD c = false := by
      have := List.head?_dropWhile_not isD (l.drop k)
      rw [e] at this; simpa using this
    have h1 : l[k + (dig l k).length]? = some c := by
      rw [← List.getElem?_drop, ← hd, e]
      unfold dig
      rw [List.getElem?_append_right (Nat.le_refl _)]; simp
    rw [List.getD, h1]; exact hc
theorem dig_of {l : List UInt8} {k : Nat} (ds rest : List UInt8) (h : l.drop k = ds ++ rest) (ha : ds.all isD = true) (hr : ∀ c t, rest = c :: t → isD c = false) : dig l k = ds := by
  unfold dig
  rw [h, List.takeWhile_append_of_pos (by simpa using ha)]
  match rest, hr with
  | [], _ => simp
  | c :: t, hr => rw [List.takeWhile_cons, hr c t rfl]; simp
theorem getD_drop (l : List UInt8) (k j : Nat) : (l.drop k).getD j 0 = l.getD (k + j) 0 := by
  simp [List.getD, List.getElem?_drop]
end Go.Proofs.YtllkcldckehipaaGreatDoor.Nu

namespace Go.Proofs.YtllkcldckehipaaGreatDoor.Nu
open Go.RowKit

theorem infoByte : (Tryz.prog.info? 5).map (fun i => (i.zero, i.size, i.bytes)) = some (some (.int .u8 0), 1, 1) := by kernel_rfl
theorem byteCells_app (a b : List UInt8) : Lib.byteCells (a ++ b) = Lib.byteCells a ++ Lib.byteCells b := by simp [Lib.byteCells]
theorem byteCell_digit {d : Nat} (h : d < 10) : Lib.byteCells [UInt8.ofNat (48 + d)] = [.int .u8 (48 + (d : Int))] := by
  simp only [Lib.byteCells, List.map_cons, List.map_nil]
  rw [ofD h]; rfl

def fv (N : Nat) : Value := .func (.func 98) #[] #[.pointer (some ⟨N + 1, 0, none⟩), .pointer (some ⟨N, 0, none⟩)]
/-- The memory of one call of Text: the closure, and the row of bytes. -/
structure PS (N : Nat) (A : List UInt8) (w : World) : Prop where
  put : w.heap[N + 1]? = some (.cells #[fv N] 70 (0, 0))
  b : ∃ v, w.heap[N]? = some (.cells #[v] 37 (0, 0)) ∧ w.ownsRow (N + 2) 5 1 v A.length (Lib.byteCells A)

theorem ps_push {N : Nat} {A news : List UInt8} {cs : List Value} {w w1 : World} {v v' : Value} (tmp : Obj) {m : Nat} (h : PS N A w)
    (hv : w.heap[N]? = some (.cells #[v] 37 (0, 0))) (hown : w.ownsRow (N + 2) 5 1 v A.length (Lib.byteCells A))
    (hown' : w1.ownsRow (N + 2) 5 1 v' (A.length + m) (Lib.byteCells A ++ cs)) (hgrow : (w.alloc tmp).grownBy w1 v.ownBlock) (hm : news.length = m) (hm0 : 0 < m) (hc : Lib.byteCells news = cs) :
    (∃ g' cap', v' = .slice (some ⟨g', 0, none⟩) (A.length + m) cap') ∧ w1.cell? ⟨N, 0, none⟩ = some v ∧ w1.frozen? ⟨N, 0, none⟩ = false ∧ PS N (A ++ news) (w1.setCell ⟨N, 0, none⟩ v') ∧ Below N w (w1.setCell ⟨N, 0, none⟩ v') := by
  have hN := lt_of_block hv
  have hne : ∀ k, k < N + 2 → some k ≠ v.ownBlock := fun k hk e => by
    rcases hown.2 with ⟨rfl, _⟩ | ⟨g, cap, cur, rfl, hg, hh, _⟩
    · simp [Value.ownBlock] at e
    · simp only [Value.ownBlock, Option.some.injEq] at e
      omega
  have keep : ∀ k, k < w.heap.size → k < N + 2 → w1.heap[k]? = w.heap[k]? := fun k hk hk' =>
    (hgrow.block k (by simp; omega) (hne k hk')).trans (Below.heap_alloc _ _ _ hk)
  have hv1 : w1.heap[N]? = some (.cells #[v] 37 (0, 0)) := (keep N hN (by omega)).trans hv
  have hp1 : w1.heap[N + 1]? = some (.cells #[fv N] 70 (0, 0)) := (keep (N + 1) (lt_of_block h.put) (by omega)).trans h.put
  have hne' : v'.ownBlock ≠ some N := fun e => by
    rcases hown'.2 with ⟨rfl, _⟩ | ⟨g, cap, cur, rfl, hg, hh, _⟩
    · simp [Value.ownBlock] at e
    · simp only [Value.ownBlock, Option.some.injEq] at e
      omega
  have hex : ∃ g' cap', v' = .slice (some ⟨g', 0, none⟩) (A.length + m) cap' := by
    rcases hown'.2 with ⟨_, h0⟩ | ⟨g', cap', _, h, _⟩
    · omega
    · exact ⟨g', cap', h⟩
  refine ⟨hex, cell_of_one hv1, free_of_one hv1, ⟨?_, ⟨_, one_setCell hv1, ?_⟩⟩, ?_⟩
  · exact (Below.heap_setCell _ _ _ _ (by show N + 1 ≠ N; omega)).trans hp1
  · have := ownsRow_setCell_other hown' (a := ⟨N, 0, none⟩) hne' v'
    rw [List.length_append, byteCells_app, hm, hc]
    exact this
  · exact (((Below.refl N w).alloc (by omega) _).grown hgrow (by simp; omega) (fun j hj => by have := (hown.lt j hj).1; omega)).setCell (by show N ≤ N; omega) _

set_option maxRecDepth 100000 in
set_option maxHeartbeats 2000000 in
theorem put_one (N n : Nat) (A : List UInt8) (w : World) (hn : n < 10) (hA : A.length ≤ 100) (h : PS N A w) :
    Calls Tryz.prog 98 #[.int .i64 n, .pointer (some ⟨N + 1, 0, none⟩), .pointer (some ⟨N, 0, none⟩)] w fun e w' => e = .returned (.tuple #[]) ∧ PS N (A ++ digs n) w' ∧ Below N w w' := by
  obtain ⟨i0, hi, hz0, hz1, hz2⟩ := info_parts infoByte
  have h0 := h
  obtain ⟨hp, v, hv, hown⟩ := h
  have cB := cell_of_one hv
  have fB := free_of_one hv
  have hN := lt_of_block hv
  have cP := cell_of_one hp
  have HD := Lib.hid (digs_lt hn)
  have hm : (n : Int) % 10 = n := by omega
  have hN2 := lt_of_block hp
  clear hp
  go_enter Tryz.func98, Tryz.ntmps98
  go_wp2_with (at_builtin; refine wpList_append_own _ rfl _ _ 37 rfl (N + 2) 5 i0 (.int .u8 0) 1 1 Tryz.underlying37 hi hz0 hz1 hz2 rfl (by decide) _ _ _ rfl (hown.alloc _) ⟨w.heap.size, 0, none⟩ 1 1 [.int .u8 (48 + (n : Int))] rfl rfl ?c1 ?c2 ?c3 ?c4 ?c5 ?_)
  case c1 =>
    intro j u hj
    match j, hj with
    | 0, hj => simp at hj; subst hj; simp [Addr.add]
  case c2 => intro u hu; simp at hu; subst hu; rfl
  case c3 => unfold maxLen; omega
  case c4 => omega
  case c5 => simp; omega
  intro v' w1 hown' hgrow _
  obtain ⟨⟨g', cap', rfl⟩, cW, fW, hps, hbel⟩ := ps_push (news := digs n) _ h0 hv hown hown' hgrow (by rw [HD.out]; rfl) (by decide) (by rw [HD.out, byteCell_digit hn])
  clear hown' hgrow hown h0 hv
  go_wp2_with fail
  go_end0
  exact ⟨rfl, hps, hbel⟩

set_option maxRecDepth 100000 in
set_option maxHeartbeats 2000000 in
theorem put_any (N : Nat) (k : Nat) : ∀ (n : Nat) (A : List UInt8) (w : World), n ≤ k → n ≤ 9007199254740992 → A.length + (digs n).length ≤ 100 → PS N A w →
    Calls Tryz.prog 98 #[.int .i64 n, .pointer (some ⟨N + 1, 0, none⟩), .pointer (some ⟨N, 0, none⟩)] w fun e w' => e = .returned (.tuple #[]) ∧ PS N (A ++ digs n) w' ∧ Below N w w' := by
  induction k with
  | zero => intro n A w hk hn hA h; exact put_one N n A w (by omega) (by omega) h
  | succ k ih =>
    intro n A w hk hn hA h
    by_cases h10 : n < 10
    · exact put_one N n A w h10 (by omega) h
    obtain ⟨i0, hi, hz0, hz1, hz2⟩ := info_parts infoByte
    have HD := Lib.hid (digs_ge h10)
    have hl := congrArg List.length HD.out
    rw [List.length_append, List.length_singleton] at hl
    have HI := Lib.hid (ih (n / 10) A w (by omega) (by omega) (by omega) h)
    have cP : w.cell? ⟨N + 1, 0, none⟩ = some (.func (.func 98) #[] #[.pointer (some ⟨N + 1, 0, none⟩), .pointer (some ⟨N, 0, none⟩)]) := cell_of_one h.put
    have hN := lt_of_block h.put
    have h9 : 9 < (n : Int) := by omega
    clear ih
    obtain ⟨q, hqq⟩ : ∃ q, q = n / 10 := ⟨_, rfl⟩
    have hq : (n : Int) / 10 = (q : Int) := by omega
    rw [← hqq] at HD HI
    obtain ⟨d, hd⟩ : ∃ d, d = n % 10 := ⟨_, rfl⟩
    have hm : (n : Int) % 10 = (d : Int) := by omega
    have hd10 : d < 10 := by omega
    rw [← hd] at HD
    have hA' : (A ++ digs q).length ≤ 99 := by rw [List.length_append, hqq]; omega
    have hn0 : 0 ≤ (n : Int) := by omega
    have hn1 : (n : Int) ≤ 9007199254740992 := by omega
    have HE : Hid (A ++ digs n = A ++ digs q ++ [UInt8.ofNat (48 + d)]) := Lib.hid (by rw [HD.out, List.append_assoc])
    clear hl hd h10 hA hk h hqq HD
    generalize A ++ digs n = A3 at *
    generalize A ++ digs q = A2 at *
    go_enter Tryz.func98, Tryz.ntmps98
    go_wp2_with (go_at_call 98; refine HI.out.mono ?_)
    rintro e w2 ⟨rfl, h, hbel2⟩
    have h0 := h
    obtain ⟨hp, v, hv, hown⟩ := h
    have cB := cell_of_one hv
    have fB := free_of_one hv
    have hN := lt_of_block hv
    have hN2 := lt_of_block hp
    have HB := Lib.hid hbel2
    clear hp hbel2
    go_wp2_with (at_builtin; refine wpList_append_own _ rfl _ _ 37 rfl (N + 2) 5 i0 (.int .u8 0) 1 1 Tryz.underlying37 hi hz0 hz1 hz2 rfl (by decide) _ _ _ rfl (hown.alloc _) ⟨w2.heap.size, 0, none⟩ 1 1 [.int .u8 (48 + (d : Int))] rfl rfl ?c1 ?c2 ?c3 ?c4 ?c5 ?_)
    case c1 =>
      intro j u hj
      match j, hj with
      | 0, hj => simp at hj; subst hj; simp [Addr.add]
    case c2 => intro u hu; simp at hu; subst hu; rfl
    case c3 => unfold maxLen; omega
    case c4 => omega
    case c5 => simp; omega
    intro v' w1 hown' hgrow _
    obtain ⟨⟨g', cap', rfl⟩, cW, fW, hps, hbel⟩ := ps_push (news := [UInt8.ofNat (48 + d)]) _ h0 hv hown hown' hgrow rfl (by decide) (byteCell_digit hd10)
    clear hown' hgrow hown h0 hv
    go_wp2_with fail
    go_end0
    exact ⟨rfl, by rw [HE.out]; exact hps, HB.out.trans hbel⟩
end Go.Proofs.YtllkcldckehipaaGreatDoor.Nu

namespace Go.Proofs.YtllkcldckehipaaGreatDoor.Nu
open Go.RowKit

theorem fits_yes (n : Int) (h : fitB n = true) (w : World) : Calls Tryz.prog 80 #[.int .i64 n] w fun e w' => e = .returned (.bool true) ∧ w = w' := by
  obtain ⟨h1, h2⟩ := fitB_iff.1 h
  clear h
  go_enter Tryz.func80, Tryz.ntmps80
  go_wp2
  go_ret
  exact ⟨by simp <;> omega, rfl⟩
theorem fits_no (n : Int) (h : fitB n = false) (w : World) : Calls Tryz.prog 80 #[.int .i64 n] w fun e w' => e = .returned (.bool false) ∧ w = w' := by
  have h' : ¬ (-9007199254740992 ≤ n ∧ n ≤ 9007199254740992) := fun e => by rw [fitB_iff.2 e] at h; cases h
  clear h
  by_cases h1 : -9007199254740992 ≤ n <;> by_cases h2 : n ≤ 9007199254740992 <;> first | (exfalso; omega) | skip
  all_goals
    clear h'
    go_enter Tryz.func80, Tryz.ntmps80
    go_wp2
    go_ret
    exact ⟨by simp <;> omega, rfl⟩
theorem ps_conv {N : Nat} {A : List UInt8} {w : World} (h : PS N A w) (hA : 0 < A.length) :
    ∃ g cap, w.cell? ⟨N, 0, none⟩ = some (.slice (some ⟨g, 0, none⟩) A.length cap) ∧ (convert 37 9 (.slice (some ⟨g, 0, none⟩) A.length cap)).run Tryz.prog w = .ok (.string ⟨A.toArray⟩) w := by
  obtain ⟨hp, v, hv, hown⟩ := h
  have hown0 := hown
  rcases hown.2 with ⟨rfl, h0⟩ | ⟨g, cap, cur, rfl, hg, hh, hnc, hcp, hcs, htake⟩
  · omega
  · refine ⟨g, cap, cell_of_one hv, run_convert_bytes_back (P := Tryz.prog) w 37 9 5 ⟨g, 0, none⟩ cap A Tryz.underlying37 Tryz.underlying5 Tryz.underlying9 (fun j hj => ?_)⟩
    rw [Addr.add_lit, Nat.zero_add, hown0.cellAt j (by omega)]
    simp [Lib.byteCells, hj]

set_option maxRecDepth 100000 in
set_option maxHeartbeats 2000000 in
theorem text_no (n : Int) (h : fitB n = false) (w : World) :
    Calls Tryz.prog 85 #[.int .i64 n] w fun e w' => e = .returned (.tuple #[.string ⟨#[]⟩, .int .i64 20]) ∧ w = w' := by
  have H := Lib.hid h
  clear h
  go_enter Tryz.func85, Tryz.ntmps85
  go_wp2_with (go_at_call 80; refine (fits_no _ H.out _).mono ?_; rintro e w' ⟨rfl, rfl⟩)
  go_ret2
  exact ⟨rfl, rfl⟩
theorem ps_start (w : World) : PS w.heap.size [] ((w.alloc (.cells #[.slice none 0 0] 37)).alloc (.cells #[fv w.heap.size] 70)) := by
  refine ⟨?_, .slice none 0 0, ?_, World.ownsRow_nil _ _ _ _⟩
  · have := heap_alloc_new (w.alloc (.cells #[.slice none 0 0] 37)) (.cells #[fv w.heap.size] 70)
    simpa using this
  · exact (Below.heap_alloc _ _ _ (by simp)).trans (heap_alloc_new w _)

set_option maxRecDepth 100000 in
set_option maxHeartbeats 2000000 in
theorem text_pos (n : Int) (h : fitB n = true) (h0 : ¬ n < 0) (w : World) :
    Calls Tryz.prog 85 #[.int .i64 n] w fun e w' => e = .returned (.tuple #[.string ⟨(txt n).toArray⟩, .int .i64 0]) ∧ Below w.heap.size w w' := by
  have HT := Lib.hid (txt_pos h h0)
  have hf := fitB_iff.1 h
  obtain ⟨k, hk⟩ : ∃ k : Nat, n = (k : Int) := ⟨n.toNat, by omega⟩
  subst hk
  have hk1 : k ≤ 9007199254740992 := by omega
  have hd := digs_len k 16 (by decide) (by omega)
  have hd0 := digs_pos k
  have H := Lib.hid h
  have HP := Lib.hid (put_any w.heap.size k k [] _ (Nat.le_refl _) hk1 (by simp; omega) (ps_start w))
  unfold fv at HP
  have HB : Hid (Below w.heap.size w ((w.alloc (.cells #[.slice none 0 0] 37)).alloc (.cells #[fv w.heap.size] 70))) := Lib.hid (((Below.refl _ _).alloc (Nat.le_refl _) _).alloc (by simp) _)
  unfold fv at HB
  clear h hf
  go_enter Tryz.func85, Tryz.ntmps85
  go_wp2_with (first | (go_at_call 80; refine (fits_yes _ H.out _).mono ?_; rintro e w' ⟨rfl, rfl⟩) | (go_at_call 98; refine HP.out.mono ?_))
  rintro e w2 ⟨rfl, hps, hbel⟩
  rw [List.nil_append] at hps
  obtain ⟨g, cap, cB, hcv⟩ := ps_conv hps (by omega)
  have HB2 := Lib.hid hbel
  clear hps hbel HP
  go_wp2_with fail
  go_ret2
  exact ⟨by rw [HT.out]; rfl, HB.out.trans HB2.out⟩
theorem ps_start_b (w : World) : ((w.alloc (.cells #[.slice none 0 0] 37)).alloc (.cells #[fv w.heap.size] 70)).heap[w.heap.size]? = some (.cells #[.slice none 0 0] 37 (0, 0)) :=
  (Below.heap_alloc _ _ _ (by simp)).trans (heap_alloc_new w _)
set_option maxRecDepth 100000 in
set_option maxHeartbeats 2000000 in
theorem text_neg (n : Int) (h : fitB n = true) (h0 : n < 0) (w : World) :
    Calls Tryz.prog 85 #[.int .i64 n] w fun e w' => e = .returned (.tuple #[.string ⟨(txt n).toArray⟩, .int .i64 0]) ∧ Below w.heap.size w w' := by
  obtain ⟨i0, hi, hz0, hz1, hz2⟩ := info_parts infoByte
  have HT := Lib.hid (txt_neg h h0)
  have hf := fitB_iff.1 h
  obtain ⟨k, hk⟩ : ∃ k : Nat, n = -(k : Int) := ⟨(-n).toNat, by omega⟩
  subst hk
  have hk1 : k ≤ 9007199254740992 := by omega
  have hd := digs_len k 16 (by decide) (by omega)
  have hd0 := digs_pos k
  have H := Lib.hid h
  have hneg : wrap64 (-(-(k : Int))) = (k : Int) := by rw [Int.neg_neg]; unfold wrap64; omega
  have h1 : IntKind.i64.wrap (-(-(k : Int))) = (k : Int) := by rw [Int.neg_neg]; exact IntWalk.i64_in _ (by omega)
  have h0k : 0 < k := by omega
  have hps0 := ps_start w
  have hpb0 := ps_start_b w
  have HB : Hid (Below w.heap.size w ((w.alloc (.cells #[.slice none 0 0] 37)).alloc (.cells #[fv w.heap.size] 70))) := Lib.hid (((Below.refl _ _).alloc (Nat.le_refl _) _).alloc (by simp) _)
  have HPS := Lib.hid hps0
  have HPB := Lib.hid hpb0
  have HO := Lib.hid ((World.ownsRow_nil ((w.alloc (.cells #[.slice none 0 0] 37)).alloc (.cells #[fv w.heap.size] 70)) (w.heap.size + 2) 5 1).alloc (.cells #[.int .u8 45] 5))
  unfold fv at HB HPS HPB HO
  clear h hf hps0 hpb0 h0
  go_enter Tryz.func85, Tryz.ntmps85
  go_wp2_with (first | (go_at_call 80; refine (fits_yes _ H.out _).mono ?_; rintro e w' ⟨rfl, rfl⟩) | (at_builtin; refine wpList_append_own _ rfl _ _ 37 rfl (w.heap.size + 2) 5 i0 (.int .u8 0) 1 1 Tryz.underlying37 hi hz0 hz1 hz2 rfl (by decide) _ _ _ rfl HO.out ⟨w.heap.size + 1 + 1, 0, none⟩ 1 1 [.int .u8 45] rfl rfl ?c1 ?c2 ?c3 ?c4 ?c5 ?_))
  case c1 =>
    intro j u hj
    match j, hj with
    | 0, hj =>
      simp at hj; subst hj
      have := cell_of_one (heap_alloc_new ((w.alloc (.cells #[.slice none 0 0] 37)).alloc (.cells #[.func (.func 98) #[] #[.pointer (some ⟨w.heap.size + 1, 0, none⟩), .pointer (some ⟨w.heap.size, 0, none⟩)]] 70)) (.cells #[.int .u8 45] 5))
      simpa [Addr.add] using this
  case c2 => intro u hu; simp at hu; subst hu; rfl
  case c3 => unfold maxLen; omega
  case c4 => omega
  case c5 => simp
  intro v' w1 hown' hgrow _
  obtain ⟨⟨g', cap', rfl⟩, cW, fW, hps, hbel⟩ := ps_push (N := w.heap.size) (A := []) (news := [45]) _ HPS.out HPB.out (World.ownsRow_nil _ _ _ _) hown' hgrow rfl (by decide) rfl
  have hps : PS w.heap.size [45] (w1.setCell ⟨w.heap.size, 0, none⟩ (.slice (some ⟨g', 0, none⟩) 1 cap')) := hps
  have HP := Lib.hid (put_any w.heap.size k k [45] _ (Nat.le_refl _) hk1 (by simp; omega) hps)
  have cP : (w1.setCell ⟨w.heap.size, 0, none⟩ (.slice (some ⟨g', 0, none⟩) 1 cap')).cell? ⟨w.heap.size + 1, 0, none⟩ = some (.func (.func 98) #[] #[.pointer (some ⟨w.heap.size + 1, 0, none⟩), .pointer (some ⟨w.heap.size, 0, none⟩)]) := cell_of_one hps.put
  have HB1 := Lib.hid (HB.out.trans hbel)
  clear hown' hgrow hps hbel HO HPS HPB
  go_wp2_with (go_at_call 98; refine HP.out.mono ?_)
  rintro e w2 ⟨rfl, hps, hbel⟩
  obtain ⟨A, hA⟩ : ∃ A, A = [45] ++ digs k := ⟨_, rfl⟩
  rw [← hA] at hps
  obtain ⟨g, cap, cB, hcv⟩ := ps_conv hps (by rw [hA]; simp)
  have HA := Lib.hid hA
  clear hA
  have HB2 := Lib.hid hbel
  clear hps hbel HP
  go_wp2_with fail
  go_ret2
  exact ⟨by rw [HT.out, HA.out, Int.natAbs_neg]; rfl, HB1.out.trans HB2.out⟩

/-- What Text answers. -/
def errN (b : Bool) : Int := if b then 0 else 20
theorem text_any (n : Int) (w : World) :
    Calls Tryz.prog 85 #[.int .i64 n] w fun e w' => e = .returned (.tuple #[.string ⟨(txt n).toArray⟩, .int .i64 (errN (fitB n))]) ∧ Below w.heap.size w w' := by
  cases h : fitB n with
  | false =>
    refine (text_no n h w).mono ?_
    rintro e w' ⟨rfl, rfl⟩
    exact ⟨by rw [txt_no h]; rfl, Below.refl _ _⟩
  | true =>
    by_cases h0 : n < 0
    · exact text_neg n h h0 w
    · exact text_pos n h h0 w
theorem size_arr (l : List UInt8) : ByteArray.size ⟨l.toArray⟩ = l.length := by simp [ByteArray.size]
end Go.Proofs.YtllkcldckehipaaGreatDoor.Nu
