/-
  What follows, in plain mathematics: a number's text is read as it, wherever it stands; what is read has just that text; the texts' order.
-/
import Derived.Test.YtgbagdfcdljleaaDoorNM
namespace Go.Proofs.YtgbagdfcdljleaaDoor.Nu

theorem txt_head_pos {n : Int} (h : fitB n = true) (h0 : ¬ n < 0) : ∃ c t, txt n = c :: t ∧ isD c = true ∧ (c = 48 → t = []) := by
  rw [txt_pos h h0]
  have ha := digs_all n.natAbs
  by_cases hz : n.natAbs = 0
  · rw [hz, digs_lt (by omega)]
    exact ⟨_, [], rfl, isD_ofD (by omega), fun _ => rfl⟩
  · obtain ⟨c, t, e, hc⟩ := digs_head n.natAbs (by omega)
    rw [e] at ha ⊢
    rw [List.all_cons, Bool.and_eq_true] at ha
    exact ⟨c, t, rfl, ha.1, fun x => absurd x hc⟩
theorem isD_not45 {c : UInt8} (h : isD c = true) : c ≠ 45 := by
  rintro rfl
  exact absurd h (by decide)
theorem drop_pre (a b : List UInt8) : (a ++ b).drop a.length = b := by simp
theorem getD_pre (a b : List UInt8) (j : Nat) : (a ++ b).getD (a.length + j) 0 = b.getD j 0 := by
  rw [← getD_drop, drop_pre]
/-- Behind it a number's text may end. -/
def freeB (rest : List UInt8) : Bool := match rest with
  | [] => true
  | c :: _ => !isD c && !stopB c
theorem freeB_stop {rest : List UInt8} (h : freeB rest = true) : stopB (rest.getD 0 0) = false ∧ ∀ c t, rest = c :: t → isD c = false := by
  match rest, h with
  | [], _ => exact ⟨by decide, fun c t e => by cases e⟩
  | c :: t, h =>
    unfold freeB at h
    rw [Bool.and_eq_true, Bool.not_eq_true', Bool.not_eq_true'] at h
    exact ⟨h.2, fun c' t' e => by cases e; exact h.1⟩
/-- Digits of a number, with no needless 0, read behind a beginning. -/
theorem scanB_digs (pre ds rest : List UInt8) (k m : Nat) (minus : Bool) (hds : ds = digs m) (hm : m ≤ 9007199254740992) (hz : minus = true → m ≠ 0) (hr : freeB rest = true) :
    scanB (pre ++ ds ++ rest) k minus pre.length = (if minus then -(m : Int) else m, ((pre.length + ds.length : Nat) : Int), 0) := by
  obtain ⟨hst, hnd⟩ := freeB_stop hr
  have hd : dig (pre ++ ds ++ rest) pre.length = ds := by
    refine dig_of ds rest ?_ (by rw [hds]; exact digs_all m) hnd
    rw [List.append_assoc, drop_pre]
  have hpos : 1 ≤ ds.length := by rw [hds]; exact digs_pos m
  have hval : val ds = m := by rw [hds, val_digs]
  have hlead : ¬ ((pre ++ ds ++ rest).getD pre.length 0 = 48 ∧ 1 < ds.length) := by
    rintro ⟨h48, h1⟩
    rw [List.append_assoc, ← Nat.add_zero pre.length, getD_pre] at h48
    by_cases h0 : m = 0
    · rw [hds, h0, digs_lt (by omega)] at h1
      simp at h1
    · obtain ⟨c, t, e, hc⟩ := digs_head m (by omega)
      rw [hds, e] at h48
      exact hc (by simpa using h48)
  have hend : (pre ++ ds ++ rest).getD (pre.length + ds.length) 0 = rest.getD 0 0 := by
    have := getD_pre (pre ++ ds) rest 0
    rw [List.length_append, Nat.add_zero] at this
    exact this
  unfold scanB misL
  rw [hd, if_neg (by omega : ¬ ds.length = 0), if_neg hlead, hend, hst, hval]
  have hno : ¬ (9007199254740992 < m ∨ minus = true ∧ m = 0) := by
    rintro (h | ⟨h, h2⟩)
    · omega
    · exact hz h h2
  rw [if_neg (by simp), if_neg hno, Int.natCast_add]
theorem scan_text (n : Int) (h : fitB n = true) (ahead behind : List UInt8) (hr : freeB behind = true) :
    scanN (ahead ++ txt n ++ behind) ahead.length = (n, ((ahead.length + (txt n).length : Nat) : Int), 0) := by
  have hf := fitB_iff.1 h
  by_cases h0 : n < 0
  · have e : ahead ++ txt n ++ behind = (ahead ++ [45]) ++ digs n.natAbs ++ behind := by
      rw [txt_neg h h0]; simp
    have h45 : (ahead ++ txt n ++ behind).getD ahead.length 0 = 45 := by
      rw [txt_neg h h0, List.append_assoc, ← Nat.add_zero ahead.length, getD_pre]; simp
    unfold scanN
    rw [if_pos h45, e]
    have := scanB_digs (ahead ++ [45]) (digs n.natAbs) behind ahead.length n.natAbs true rfl (by omega) (fun _ => by omega) hr
    rw [List.length_append, List.length_singleton] at this
    rw [this, if_pos rfl, txt_neg h h0, List.length_cons, show -(n.natAbs : Int) = n by omega, show ahead.length + 1 + (digs n.natAbs).length = ahead.length + ((digs n.natAbs).length + 1) by omega]
  · obtain ⟨c, t, e, hc, _⟩ := txt_head_pos h h0
    have h45 : ¬ (ahead ++ txt n ++ behind).getD ahead.length 0 = 45 := by
      rw [e, List.append_assoc, ← Nat.add_zero ahead.length, getD_pre]
      simpa using isD_not45 hc
    unfold scanN
    rw [if_neg h45, txt_pos h h0]
    have := scanB_digs ahead (digs n.natAbs) behind ahead.length n.natAbs false rfl (by omega) (fun e => by cases e) hr
    rw [this, if_neg (by simp), show (n.natAbs : Int) = n by omega]
theorem scanL_nat (l : List UInt8) (k : Nat) (h : k ≤ l.length) : scanL l k = scanN l k := by
  unfold scanL
  rw [if_neg (by omega)]; rfl
theorem read_text (n : Int) (h : fitB n = true) : readL (txt n) = (n, 0) := by
  have h1 := scan_text n h [] [] rfl
  rw [List.nil_append, List.append_nil, List.length_nil, Nat.zero_add] at h1
  have h2 : scanL (txt n) 0 = (n, ((txt n).length : Int), 0) := by
    rw [show (0 : Int) = ((0 : Nat) : Int) from rfl, scanL_nat _ _ (Nat.zero_le _), h1]; rfl
  unfold readL
  rw [h2, if_pos ⟨rfl, rfl⟩]

theorem dig_full {l : List UInt8} {k : Nat} (h : k + (dig l k).length = l.length) : dig l k = l.drop k := by
  rw [dig_take, List.take_of_length_le]
  rw [List.length_drop]; omega
theorem scanB_ok {l : List UInt8} {k first : Nat} {minus : Bool} {n en : Int} (hs : scanB l k minus first = (n, en, 0)) :
    1 ≤ (dig l first).length ∧ (1 < (dig l first).length → l.getD first 0 ≠ 48) ∧ val (dig l first) ≤ 9007199254740992 ∧ (minus = true → val (dig l first) ≠ 0) ∧ n = (if minus then -(val (dig l first) : Int) else val (dig l first)) ∧ en = ((first + (dig l first).length : Nat) : Int) := by
  unfold scanB at hs
  by_cases h0 : (dig l first).length = 0
  · have e : misL l first (dig l first).length = ((first : Int), true) := by unfold misL; rw [if_pos h0]
    rw [e, if_pos rfl] at hs
    cases hs
  by_cases h1 : l.getD first 0 = 48 ∧ 1 < (dig l first).length
  · have e : misL l first (dig l first).length = ((first : Int) + 1, true) := by unfold misL; rw [if_neg h0, if_pos h1]
    rw [e, if_pos rfl] at hs
    cases hs
  by_cases h3 : (misL l first (dig l first).length).2 = true
  · rw [if_pos h3] at hs; cases hs
  rw [if_neg h3] at hs
  by_cases h2 : 9007199254740992 < val (dig l first) ∨ minus = true ∧ val (dig l first) = 0
  · rw [if_pos h2] at hs; cases hs
  rw [if_neg h2] at hs
  have a := congrArg (fun x : Int × Int × Int => x.1) hs
  have b := congrArg (fun x : Int × Int × Int => x.2.1) hs
  refine ⟨by omega, fun hx h48 => h1 ⟨h48, hx⟩, by omega, fun hm0 h => h2 (.inr ⟨hm0, h⟩), a.symm, ?_⟩
  exact b.symm.trans (by simp)
theorem text_read (l : List UInt8) (n : Int) (h : readL l = (n, 0)) : fitB n = true ∧ txt n = l := by
  unfold readL at h
  split at h
  · rename_i hc
    obtain ⟨h1, h2⟩ := hc
    have hn : (scanL l 0).1 = n := congrArg Prod.fst h
    have hs : scanN l 0 = (n, (l.length : Int), 0) := by
      rw [← scanL_nat l 0 (Nat.zero_le _)]
      exact Prod.ext hn (Prod.ext h2 h1)
    clear h h1 h2 hn
    unfold scanN at hs
    split at hs
    · rename_i h45
      obtain ⟨a, b, c, d, e, f⟩ := scanB_ok hs
      rw [if_pos rfl] at e
      have hl := dig_full (l := l) (k := 0 + 1) (by omega)
      have hv0 := d rfl
      have hfit : fitB n = true := fitB_iff.2 (by omega)
      refine ⟨hfit, ?_⟩
      have hlne : l ≠ [] := by
        rintro rfl
        exact absurd h45 (by decide)
      obtain ⟨x, t, rfl⟩ := List.exists_cons_of_ne_nil hlne
      have hx : x = 45 := by simpa using h45
      subst hx
      have hlt : dig (45 :: t) (0 + 1) = t := by rw [hl]; rfl
      rw [hlt] at a b c e hv0
      rw [txt_neg hfit (by omega), show n.natAbs = val t by omega]
      congr 1
      refine digs_val (by intro e0; rw [e0] at a; simp at a) (by rw [← hlt]; exact dig_all _ _) (fun h1 h2 => b h1 ?_)
      match t, h2 with
      | y :: t', h2 => simpa using h2
    · rename_i h45
      obtain ⟨a, b, c, d, e, f⟩ := scanB_ok hs
      rw [if_neg (by simp)] at e
      have hl := dig_full (l := l) (k := 0) (by omega)
      rw [List.drop_zero] at hl
      have hfit : fitB n = true := fitB_iff.2 (by omega)
      refine ⟨hfit, ?_⟩
      rw [hl] at a b c e
      rw [txt_pos hfit (by omega), show n.natAbs = val l by omega]
      refine digs_val (by intro e0; rw [e0] at a; simp at a) (by rw [← hl]; exact dig_all _ _) (fun h1 h2 => b h1 ?_)
      match l, h2 with
      | y :: t', h2 => simpa using h2
  · cases h
theorem txt_ne (n : Int) (h : fitB n = true) : txt n ≠ [] := by
  intro e
  by_cases h0 : n < 0
  · rw [txt_neg h h0] at e; cases e
  · rw [txt_pos h h0] at e
    have := digs_pos n.natAbs
    rw [e] at this; simp at this
theorem txt_inj {n m : Int} (hn : fitB n = true) (hm : fitB m = true) : (txt n = txt m) ↔ n = m := by
  constructor
  · intro e
    have h1 := read_text n hn
    rw [e, read_text m hm] at h1
    exact (congrArg Prod.fst h1).symm
  · rintro rfl; rfl
theorem txt_len_pos {n m : Int} (hn : fitB n = true) (hm : fitB m = true) (h0 : ¬ n < 0) (h1 : ¬ m < 0) (hl : (txt n).length ≠ (txt m).length) :
    (txt n).length < (txt m).length ↔ n < m := by
  rw [txt_pos hn h0, txt_pos hm h1] at *
  constructor
  · intro h
    refine Classical.byContradiction fun h2 => ?_
    have := digs_mono (n := m.natAbs) (m := n.natAbs) (by omega)
    omega
  · intro h
    have := digs_mono (n := n.natAbs) (m := m.natAbs) (by omega)
    omega
theorem txt_len_neg {n m : Int} (hn : fitB n = true) (hm : fitB m = true) (h0 : n < 0) (h1 : m < 0) (hl : (txt n).length ≠ (txt m).length) :
    (txt n).length < (txt m).length ↔ ¬ n < m := by
  rw [txt_neg hn h0, txt_neg hm h1] at *
  simp only [List.length_cons] at *
  constructor
  · intro h h2
    have := digs_mono (n := m.natAbs) (m := n.natAbs) (by omega)
    omega
  · intro h
    have := digs_mono (n := n.natAbs) (m := m.natAbs) (by omega)
    omega
theorem txt_lt_pos {n m : Int} (hn : fitB n = true) (hm : fitB m = true) (h0 : ¬ n < 0) (h1 : ¬ m < 0) (hl : (txt n).length = (txt m).length) : txt n < txt m ↔ n < m := by
  rw [txt_pos hn h0, txt_pos hm h1] at *
  rw [lex_val _ _ hl (digs_all _) (digs_all _), val_digs, val_digs]
  omega
theorem txt_lt_neg {n m : Int} (hn : fitB n = true) (hm : fitB m = true) (h0 : n < 0) (h1 : m < 0) (hl : (txt n).length = (txt m).length) : txt n < txt m ↔ m < n := by
  rw [txt_neg hn h0, txt_neg hm h1] at *
  rw [List.cons_lt_cons_iff]
  simp only [List.length_cons, Nat.add_right_cancel_iff] at hl
  rw [lex_val _ _ hl (digs_all _) (digs_all _), val_digs, val_digs]
  constructor
  · rintro (h | ⟨_, h⟩)
    · exact absurd h (UInt8.lt_irrefl _)
    · omega
  · intro h
    exact .inr ⟨rfl, by omega⟩
end Go.Proofs.YtgbagdfcdljleaaDoor.Nu
