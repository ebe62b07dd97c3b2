/-
  The plain mathematics of numbers as texts: digits, their value, what a scan answers; lists and integers alone. · What follows, in plain mathematics: a number's text is read as it, wherever it stands; what is read has just that text; the texts' order.
-/
set_option linter.unusedVariables false
set_option linter.unusedSimpArgs false
namespace Go.Proofs.YtgbagdfcdljleaaGreatDoor.Nu

def isD (c : UInt8) : Bool := decide (48 ≤ c.toNat) && decide (c.toNat ≤ 57)
def digs (n : Nat) : List UInt8 := if h : n < 10 then [UInt8.ofNat (48 + n)] else digs (n / 10) ++ [UInt8.ofNat (48 + n % 10)]
termination_by n
decreasing_by omega
theorem digs_lt {n : Nat} (h : n < 10) : digs n = [UInt8.ofNat (48 + n)] := by rw [digs, dif_pos h]
theorem digs_ge {n : Nat} (h : ¬ n < 10) : digs n = digs (n / 10) ++ [UInt8.ofNat (48 + n % 10)] := by rw [digs, dif_neg h]

/-- The value of digits behind a beginning worth `a`. -/
def valA (a : Nat) (l : List UInt8) : Nat := l.foldl (fun x c => x * 10 + (c.toNat - 48)) a
def val (l : List UInt8) : Nat := valA 0 l
theorem valA_nil (a : Nat) : valA a [] = a := rfl
theorem valA_cons (a : Nat) (c : UInt8) (l : List UInt8) : valA a (c :: l) = valA (a * 10 + (c.toNat - 48)) l := by unfold valA; rw [List.foldl_cons]
theorem valA_app (a : Nat) (l m : List UInt8) : valA a (l ++ m) = valA (valA a l) m := by simp [valA]
theorem val_snoc (l : List UInt8) (c : UInt8) : val (l ++ [c]) = val l * 10 + (c.toNat - 48) := by simp [val, valA]
theorem valA_ge : ∀ (l : List UInt8) (a : Nat), a ≤ valA a l
  | [], a => Nat.le_refl _
  | c :: l, a => by rw [valA_cons]; exact Nat.le_trans (by omega) (valA_ge l _)
theorem val_take_le (l : List UInt8) (k : Nat) : val (l.take k) ≤ val l := by
  have h : val l = valA (val (l.take k)) (l.drop k) := by rw [val, val, ← valA_app, List.take_append_drop]
  rw [h]; exact valA_ge _ _
theorem valA_eq : ∀ (l : List UInt8) (a : Nat), valA a l = a * 10 ^ l.length + val l
  | [], a => by simp [valA, val]
  | c :: l, a => by
    rw [valA_cons, valA_eq l, show val (c :: l) = valA (0 * 10 + (c.toNat - 48)) l from valA_cons 0 c l, valA_eq l (0 * 10 + _), List.length_cons, Nat.pow_succ]
    rw [Nat.add_mul, Nat.mul_assoc, Nat.mul_comm 10]
    simp; omega
theorem val_cons (c : UInt8) (l : List UInt8) : val (c :: l) = (c.toNat - 48) * 10 ^ l.length + val l := by
  rw [val, valA_cons, valA_eq]; simp

theorem ofD {d : Nat} (h : d < 10) : (UInt8.ofNat (48 + d)).toNat = 48 + d := by
  rw [UInt8.toNat_ofNat']; omega
theorem isD_iff {c : UInt8} : isD c = true ↔ 48 ≤ c.toNat ∧ c.toNat ≤ 57 := by simp [isD]
theorem isD_ofD {d : Nat} (h : d < 10) : isD (UInt8.ofNat (48 + d)) = true := by rw [isD_iff, ofD h]; omega

theorem val_digs (n : Nat) : val (digs n) = n := by
  induction n using Nat.strongRecOn with
  | _ n ih =>
    by_cases h : n < 10
    · rw [digs_lt h]; simp only [val, valA, List.foldl]; rw [ofD h]; omega
    · rw [digs_ge h, val_snoc, ih _ (by omega), ofD (by omega)]; omega
theorem digs_all (n : Nat) : (digs n).all isD = true := by
  induction n using Nat.strongRecOn with
  | _ n ih =>
    by_cases h : n < 10
    · rw [digs_lt h, List.all_cons, isD_ofD h]; rfl
    · rw [digs_ge h, List.all_append, ih _ (by omega), List.all_cons, isD_ofD (show n % 10 < 10 by omega)]; rfl
theorem digs_pos (n : Nat) : 1 ≤ (digs n).length := by
  by_cases h : n < 10
  · rw [digs_lt h]; simp
  · rw [digs_ge h]; simp
theorem digs_head (n : Nat) (h0 : 1 ≤ n) : ∃ c t, digs n = c :: t ∧ c ≠ 48 := by
  induction n using Nat.strongRecOn with
  | _ n ih =>
    by_cases h : n < 10
    · refine ⟨_, [], digs_lt h, fun e => ?_⟩
      have := congrArg UInt8.toNat e
      rw [ofD h] at this; have h48 : (48 : UInt8).toNat = 48 := rfl
      omega
    · obtain ⟨c, t, e, hc⟩ := ih (n / 10) (by omega) (by omega)
      exact ⟨c, t ++ [UInt8.ofNat (48 + n % 10)], by rw [digs_ge h, e]; rfl, hc⟩
theorem digs_len (n k : Nat) (h0 : 1 ≤ k) (h : n < 10 ^ k) : (digs n).length ≤ k := by
  induction n using Nat.strongRecOn generalizing k with
  | _ n ih =>
    by_cases h1 : n < 10
    · rw [digs_lt h1]; simpa using h0
    · rw [digs_ge h1]
      match k, h0, h with
      | 1, _, h => exact absurd (by simpa using h) h1
      | k + 2, _, h =>
        have := ih (n / 10) (by omega) (k + 1) (by omega) (by rw [Nat.pow_succ] at h; omega)
        simp; omega
theorem digs_len_ge (n k : Nat) (h : 10 ^ k ≤ n) : k + 1 ≤ (digs n).length := by
  induction n using Nat.strongRecOn generalizing k with
  | _ n ih =>
    match k, h with
    | 0, _ => exact digs_pos n
    | k + 1, h =>
      have hp : 0 < 10 ^ k := Nat.pow_pos (by decide)
      rw [Nat.pow_succ] at h
      rw [digs_ge (by omega)]
      have := ih (n / 10) (by omega) k (by omega)
      simp; omega
theorem digs_mono {n m : Nat} (h : n ≤ m) : (digs n).length ≤ (digs m).length := by
  match hk : (digs n).length, digs_pos n with
  | k + 1, _ =>
    by_cases h1 : 10 ^ k ≤ m
    · exact digs_len_ge m k h1
    · by_cases k0 : k = 0
      · subst k0; exact digs_pos m
      have := digs_len n k (by omega) (by omega)
      omega
theorem digs_inj {n m : Nat} (h : digs n = digs m) : n = m := by rw [← val_digs n, h, val_digs]
theorem val_lt : ∀ (l : List UInt8), l.all isD = true → val l < 10 ^ l.length
  | [], _ => by simp [val, valA]
  | c :: l, h => by
    rw [List.all_cons, Bool.and_eq_true] at h
    have := val_lt l h.2
    have hc := isD_iff.1 h.1
    rw [val_cons, List.length_cons, Nat.pow_succ]
    have h9 : (c.toNat - 48) * 10 ^ l.length ≤ 9 * 10 ^ l.length := Nat.mul_le_mul_right _ (by omega)
    omega
/-- Digits with no needless 0 ahead are the digits of their value. -/
theorem digs_val_aux : ∀ (n : Nat) (l : List UInt8), l.length = n → l ≠ [] → l.all isD = true → (1 < l.length → l.head? ≠ some 48) → digs (val l) = l
  | 0, [], _, h, _, _ => absurd rfl h
  | n + 1, l, hl, h, ha, hh => by
    have hs : l = l.dropLast ++ [l.getLast h] := (List.dropLast_concat_getLast h).symm
    generalize hx : l.dropLast = xs at hs
    generalize l.getLast h = c at hs
    subst hs
    clear hx
    rw [List.all_append, Bool.and_eq_true] at ha
    have hc : isD c = true := by simpa using ha.2
    have hc' := isD_iff.1 hc
    have hof : UInt8.ofNat (48 + (c.toNat - 48)) = c := by
      apply UInt8.toNat_inj.1
      rw [ofD (by omega)]; omega
    rw [val_snoc]
    match xs, hl, hh, ha with
    | [], _, _, _ =>
      rw [show val [] = 0 from rfl, digs_lt (by omega)]
      simp [hof]
    | x :: t, hl, hh, ha =>
      have hx48 : x ≠ 48 := fun e => hh (by simp) (by simp [e])
      have ih := digs_val_aux n (x :: t) (by simp at hl ⊢; omega) (by simp) ha.1 (fun _ => by simpa using hx48)
      have hx := isD_iff.1 (by have := ha.1; rw [List.all_cons, Bool.and_eq_true] at this; exact this.1)
      have hx1 : 1 ≤ x.toNat - 48 := by
        have : x.toNat ≠ 48 := fun e => hx48 (UInt8.toNat_inj.1 e)
        omega
      have hv : 1 ≤ val (x :: t) := by
        rw [val_cons]
        have hp : 0 < 10 ^ t.length := Nat.pow_pos (by decide)
        have : 1 * 1 ≤ (x.toNat - 48) * 10 ^ t.length := Nat.mul_le_mul hx1 hp
        omega
      rw [digs_ge (by omega)]
      rw [show (val (x :: t) * 10 + (c.toNat - 48)) / 10 = val (x :: t) by omega, show (val (x :: t) * 10 + (c.toNat - 48)) % 10 = c.toNat - 48 by omega, ih, hof]
theorem digs_val {l : List UInt8} (h : l ≠ []) (ha : l.all isD = true) (hh : 1 < l.length → l.head? ≠ some 48) : digs (val l) = l := digs_val_aux _ l rfl h ha hh

/-- Of as many digits the greater number's are the greater ones. -/
theorem lex_val : ∀ (a b : List UInt8), a.length = b.length → a.all isD = true → b.all isD = true → (a < b ↔ val a < val b)
  | [], [], _, _, _ => by simp
  | c :: a, d :: b, hl, ha, hb => by
    rw [List.all_cons, Bool.and_eq_true] at ha hb
    have ih := lex_val a b (by simpa using hl) ha.2 hb.2
    have hla : a.length = b.length := by simpa using hl
    have va := val_lt a ha.2
    have vb := val_lt b hb.2
    have hc := isD_iff.1 ha.1
    have hd := isD_iff.1 hb.1
    rw [val_cons, val_cons, List.cons_lt_cons_iff]
    rw [hla] at va ⊢
    generalize 10 ^ b.length = p at va vb ⊢
    by_cases e : c = d
    · subst e
      simp [ih, UInt8.lt_irrefl]
    · have ne : c.toNat ≠ d.toNat := fun h => e (UInt8.toNat_inj.1 h)
      simp only [e, false_and, or_false, UInt8.lt_iff_toNat_lt]
      constructor
      · intro h
        have : (c.toNat - 48 + 1) * p ≤ (d.toNat - 48) * p := Nat.mul_le_mul_right _ (by omega)
        rw [Nat.add_mul] at this
        omega
      · intro h
        refine Classical.byContradiction fun h' => ?_
        have : (d.toNat - 48 + 1) * p ≤ (c.toNat - 48) * p := Nat.mul_le_mul_right _ (by omega)
        rw [Nat.add_mul] at this
        omega

/-- May the number be? -/
def fitB (n : Int) : Bool := decide (-9007199254740992 ≤ n) && decide (n ≤ 9007199254740992)
theorem fitB_iff {n : Int} : fitB n = true ↔ -9007199254740992 ≤ n ∧ n ≤ 9007199254740992 := by simp [fitB]
/-- A number's text; none, if it may not be. -/
def txt (n : Int) : List UInt8 := if fitB n then (if n < 0 then 45 :: digs n.natAbs else digs n.natAbs) else []
theorem txt_neg {n : Int} (h : fitB n = true) (h0 : n < 0) : txt n = 45 :: digs n.natAbs := by rw [txt, if_pos h, if_pos h0]
theorem txt_pos {n : Int} (h : fitB n = true) (h0 : ¬ n < 0) : txt n = digs n.natAbs := by rw [txt, if_pos h, if_neg h0]
theorem txt_no {n : Int} (h : fitB n = false) : txt n = [] := by rw [txt, h]; rfl
theorem txt_len (n : Int) : (txt n).length ≤ 17 := by
  unfold txt
  split
  · rename_i h
    have h' := fitB_iff.1 h
    have := digs_len n.natAbs 16 (by decide) (by omega)
    split
    · simp; omega
    · omega
  · simp

/-- Behind digits it can't stand. -/
def stopB (c : UInt8) : Bool := c == 46 || c == 101 || c == 69
/-- The digits that stand in l from k on. -/
def dig (l : List UInt8) (k : Nat) : List UInt8 := (l.drop k).takeWhile isD
/-- The place of the first byte that can't stand with the digits (as many as d) of l from first on. -/
def misL (l : List UInt8) (first d : Nat) : Int × Bool :=
  if d = 0 then (first, true)
  else if l.getD first 0 = 48 ∧ 1 < d then (first + 1, true)
  else if stopB (l.getD (first + d) 0) then (first + d, true)
  else (0, false)
/-- The number that digits tell, if it may be. -/
def wL (ds : List UInt8) : Int × Bool := if val ds ≤ 9007199254740992 then (val ds, true) else (0, false)
/-- The answer behind the sign: l, the place of the whole, whether a - stands there, the place of the digits. -/
def scanB (l : List UInt8) (k : Nat) (minus : Bool) (first : Nat) : Int × Int × Int :=
  if (misL l first (dig l first).length).2 then (0, (misL l first (dig l first).length).1, 20)
  else if 9007199254740992 < val (dig l first) ∨ minus = true ∧ val (dig l first) = 0 then (0, k, 20)
  else (if minus then -(val (dig l first) : Int) else val (dig l first), first + (dig l first).length, 0)
def scanN (l : List UInt8) (k : Nat) : Int × Int × Int :=
  if l.getD k 0 = 45 then scanB l k true (k + 1) else scanB l k false k
def scanL (l : List UInt8) (at_ : Int) : Int × Int × Int := if at_ < 0 ∨ (l.length : Int) < at_ then (0, 0, 2) else scanN l at_.toNat
def readL (l : List UInt8) : Int × Int := if (scanL l 0).2.2 = 0 ∧ (scanL l 0).2.1 = l.length then ((scanL l 0).1, 0) else (0, 20)

theorem dig_le (l : List UInt8) (k : Nat) : (dig l k).length ≤ l.length - k := by
  have h := (List.takeWhile_sublist (p := isD) (l := l.drop k)).length_le
  rw [List.length_drop] at h; exact h
theorem dig_all (l : List UInt8) (k : Nat) : (dig l k).all isD = true := by
  unfold dig; exact List.all_takeWhile
theorem dig_take (l : List UInt8) (k : Nat) : dig l k = (l.drop k).take (dig l k).length := by
  have h := List.takeWhile_append_dropWhile (p := isD) (l := l.drop k)
  unfold dig
  exact (List.take_left' rfl ▸ congrArg (List.take (List.takeWhile isD (l.drop k)).length) h : _ = _)
theorem dig_at (l : List UInt8) (k j : Nat) (h : j < (dig l k).length) : isD (l.getD (k + j) 0) = true := by
  have hm := List.all_eq_true.1 (dig_all l k) _ (List.getElem_mem h)
  have e : (dig l k)[j] = l.getD (k + j) 0 := by
    have h1 : (dig l k)[j]? = l[k + j]? := by
      rw [dig_take, List.getElem?_take, if_pos h, List.getElem?_drop]
    rw [List.getElem?_eq_getElem h] at h1
    rw [List.getD, ← h1]; rfl
  rw [← e]; exact hm
theorem dig_end (l : List UInt8) (k : Nat) (h : k + (dig l k).length < l.length) : isD (l.getD (k + (dig l k).length) 0) = false := by
  have hd := List.takeWhile_append_dropWhile (p := isD) (l := l.drop k)
  match e : (l.drop k).dropWhile isD with
  | [] =>
    rw [e, List.append_nil] at hd
    have h2 : (dig l k).length = l.length - k := by rw [dig, hd, List.length_drop]
    omega
  | c :: t =>
    have hc : isD c = false := by
      have := List.head?_dropWhile_not isD (l.drop k)
      rw [e] at this; simpa using this
    have h1 : l[k + (dig l k).length]? = some c := by
      rw [← List.getElem?_drop, ← hd, e]
      unfold dig
      rw [List.getElem?_append_right (Nat.le_refl _)]; simp
    rw [List.getD, h1]; exact hc
theorem dig_of {l : List UInt8} {k : Nat} (ds rest : List UInt8) (h : l.drop k = ds ++ rest) (ha : ds.all isD = true) (hr : ∀ c t, rest = c :: t → isD c = false) : dig l k = ds := by
  unfold dig
  rw [h, List.takeWhile_append_of_pos (by simpa using ha)]
  match rest, hr with
  | [], _ => simp
  | c :: t, hr => rw [List.takeWhile_cons, hr c t rfl]; simp
theorem getD_drop (l : List UInt8) (k j : Nat) : (l.drop k).getD j 0 = l.getD (k + j) 0 := by
  simp [List.getD, List.getElem?_drop]
end Go.Proofs.YtgbagdfcdljleaaGreatDoor.Nu

namespace Go.Proofs.YtgbagdfcdljleaaGreatDoor.Nu

theorem txt_head_pos {n : Int} (h : fitB n = true) (h0 : ¬ n < 0) : ∃ c t, txt n = c :: t ∧ isD c = true ∧ (c = 48 → t = []) := by
  rw [txt_pos h h0]
  have ha := digs_all n.natAbs
  by_cases hz : n.natAbs = 0
  · rw [hz, digs_lt (by omega)]
    exact ⟨_, [], rfl, isD_ofD (by omega), fun _ => rfl⟩
  · obtain ⟨c, t, e, hc⟩ := digs_head n.natAbs (by omega)
    rw [e] at ha ⊢
    rw [List.all_cons, Bool.and_eq_true] at ha
    exact ⟨c, t, rfl, ha.1, fun x => absurd x hc⟩
theorem isD_not45 {c : UInt8} (h : isD c = true) : c ≠ 45 := by
  rintro rfl
  exact absurd h (by decide)
theorem drop_pre (a b : List UInt8) : (a ++ b).drop a.length = b := by simp
theorem getD_pre (a b : List UInt8) (j : Nat) : (a ++ b).getD (a.length + j) 0 = b.getD j 0 := by
  rw [← getD_drop, drop_pre]
/-- Behind it a number's text may end. -/
def freeB (rest : List UInt8) : Bool := match rest with
  | [] => true
  | c :: _ => !isD c && !stopB c
theorem freeB_stop {rest : List UInt8} (h : freeB rest = true) : stopB (rest.getD 0 0) = false ∧ ∀ c t, rest = c :: t → isD c = false := by
  match rest, h with
  | [], _ => exact ⟨by decide, fun c t e => by cases e⟩
  | c :: t, h =>
    unfold freeB at h
    rw [Bool.and_eq_true, Bool.not_eq_true', Bool.not_eq_true'] at h
    exact ⟨h.2, fun c' t' e => by cases e; exact h.1⟩
/-- Digits of a number, with no needless 0, read behind a beginning. -/
theorem scanB_digs (pre ds rest : List UInt8) (k m : Nat) (minus : Bool) (hds : ds = digs m) (hm : m ≤ 9007199254740992) (hz : minus = true → m ≠ 0) (hr : freeB rest = true) :
    scanB (pre ++ ds ++ rest) k minus pre.length = (if minus then -(m : Int) else m, ((pre.length + ds.length : Nat) : Int), 0) := by
  obtain ⟨hst, hnd⟩ := freeB_stop hr
  have hd : dig (pre ++ ds ++ rest) pre.length = ds := by
    refine dig_of ds rest ?_ (by rw [hds]; exact digs_all m) hnd
    rw [List.append_assoc, drop_pre]
  have hpos : 1 ≤ ds.length := by rw [hds]; exact digs_pos m
  have hval : val ds = m := by rw [hds, val_digs]
  have hlead : ¬ ((pre ++ ds ++ rest).getD pre.length 0 = 48 ∧ 1 < ds.length) := by
    rintro ⟨h48, h1⟩
    rw [List.append_assoc, ← Nat.add_zero pre.length, getD_pre] at h48
    by_cases h0 : m = 0
    · rw [hds, h0, digs_lt (by omega)] at h1
      simp at h1
    · obtain ⟨c, t, e, hc⟩ := digs_head m (by omega)
      rw [hds, e] at h48
      exact hc (by simpa using h48)
  have hend : (pre ++ ds ++ rest).getD (pre.length + ds.length) 0 = rest.getD 0 0 := by
    have := getD_pre (pre ++ ds) rest 0
    rw [List.length_append, Nat.add_zero] at this
    exact this
  unfold scanB misL
  rw [hd, if_neg (by omega : ¬ ds.length = 0), if_neg hlead, hend, hst, hval]
  have hno : ¬ (9007199254740992 < m ∨ minus = true ∧ m = 0) := by
    rintro (h | ⟨h, h2⟩)
    · omega
    · exact hz h h2
  rw [if_neg (by simp), if_neg hno, Int.natCast_add]
theorem scan_text (n : Int) (h : fitB n = true) (ahead behind : List UInt8) (hr : freeB behind = true) :
    scanN (ahead ++ txt n ++ behind) ahead.length = (n, ((ahead.length + (txt n).length : Nat) : Int), 0) := by
  have hf := fitB_iff.1 h
  by_cases h0 : n < 0
  · have e : ahead ++ txt n ++ behind = (ahead ++ [45]) ++ digs n.natAbs ++ behind := by
      rw [txt_neg h h0]; simp
    have h45 : (ahead ++ txt n ++ behind).getD ahead.length 0 = 45 := by
      rw [txt_neg h h0, List.append_assoc, ← Nat.add_zero ahead.length, getD_pre]; simp
    unfold scanN
    rw [if_pos h45, e]
    have := scanB_digs (ahead ++ [45]) (digs n.natAbs) behind ahead.length n.natAbs true rfl (by omega) (fun _ => by omega) hr
    rw [List.length_append, List.length_singleton] at this
    rw [this, if_pos rfl, txt_neg h h0, List.length_cons, show -(n.natAbs : Int) = n by omega, show ahead.length + 1 + (digs n.natAbs).length = ahead.length + ((digs n.natAbs).length + 1) by omega]
  · obtain ⟨c, t, e, hc, _⟩ := txt_head_pos h h0
    have h45 : ¬ (ahead ++ txt n ++ behind).getD ahead.length 0 = 45 := by
      rw [e, List.append_assoc, ← Nat.add_zero ahead.length, getD_pre]
      simpa using isD_not45 hc
    unfold scanN
    rw [if_neg h45, txt_pos h h0]
    have := scanB_digs ahead (digs n.natAbs) behind ahead.length n.natAbs false rfl (by omega) (fun e => by cases e) hr
    rw [this, if_neg (by simp), show (n.natAbs : Int) = n by omega]
theorem scanL_nat (l : List UInt8) (k : Nat) (h : k ≤ l.length) : scanL l k = scanN l k := by
  unfold scanL
  rw [if_neg (by omega)]; rfl
theorem read_text (n : Int) (h : fitB n = true) : readL (txt n) = (n, 0) := by
  have h1 := scan_text n h [] [] rfl
  rw [List.nil_append, List.append_nil, List.length_nil, Nat.zero_add] at h1
  have h2 : scanL (txt n) 0 = (n, ((txt n).length : Int), 0) := by
    rw [show (0 : Int) = ((0 : Nat) : Int) from rfl, scanL_nat _ _ (Nat.zero_le _), h1]; rfl
  unfold readL
  rw [h2, if_pos ⟨rfl, rfl⟩]

theorem dig_full {l : List UInt8} {k : Nat} (h : k + (dig l k).length = l.length) : dig l k = l.drop k := by
  rw [dig_take, List.take_of_length_le]
  rw [List.length_drop]; omega
theorem scanB_ok {l : List UInt8} {k first : Nat} {minus : Bool} {n en : Int} (hs : scanB l k minus first = (n, en, 0)) :
    1 ≤ (dig l first).length ∧ (1 < (dig l first).length → l.getD first 0 ≠ 48) ∧ val (dig l first) ≤ 9007199254740992 ∧ (minus = true → val (dig l first) ≠ 0) ∧ n = (if minus then -(val (dig l first) : Int) else val (dig l first)) ∧ en = ((first + (dig l first).length : Nat) : Int) := by
  unfold scanB at hs
  by_cases h0 : (dig l first).length = 0
  · have e : misL l first (dig l first).length = ((first : Int), true) := by unfold misL; rw [if_pos h0]
    rw [e, if_pos rfl] at hs
    cases hs
  by_cases h1 : l.getD first 0 = 48 ∧ 1 < (dig l first).length
  · have e : misL l first (dig l first).length = ((first : Int) + 1, true) := by unfold misL; rw [if_neg h0, if_pos h1]
    rw [e, if_pos rfl] at hs
    cases hs
  by_cases h3 : (misL l first (dig l first).length).2 = true
  · rw [if_pos h3] at hs; cases hs
  rw [if_neg h3] at hs
  by_cases h2 : 9007199254740992 < val (dig l first) ∨ minus = true ∧ val (dig l first) = 0
  · rw [if_pos h2] at hs; cases hs
  rw [if_neg h2] at hs
  have a := congrArg (fun x : Int × Int × Int => x.1) hs
  have b := congrArg (fun x : Int × Int × Int => x.2.1) hs
  refine ⟨by omega, fun hx h48 => h1 ⟨h48, hx⟩, by omega, fun hm0 h => h2 (.inr ⟨hm0, h⟩), a.symm, ?_⟩
  exact b.symm.trans (by simp)
theorem text_read (l : List UInt8) (n : Int) (h : readL l = (n, 0)) : fitB n = true ∧ txt n = l := by
  unfold readL at h
  split at h
  · rename_i hc
    obtain ⟨h1, h2⟩ := hc
    have hn : (scanL l 0).1 = n := congrArg Prod.fst h
    have hs : scanN l 0 = (n, (l.length : Int), 0) := by
      rw [← scanL_nat l 0 (Nat.zero_le _)]
      exact Prod.ext hn (Prod.ext h2 h1)
    clear h h1 h2 hn
    unfold scanN at hs
    split at hs
    · rename_i h45
      obtain ⟨a, b, c, d, e, f⟩ := scanB_ok hs
      rw [if_pos rfl] at e
      have hl := dig_full (l := l) (k := 0 + 1) (by omega)
      have hv0 := d rfl
      have hfit : fitB n = true := fitB_iff.2 (by omega)
      refine ⟨hfit, ?_⟩
      have hlne : l ≠ [] := by
        rintro rfl
        exact absurd h45 (by decide)
      obtain ⟨x, t, rfl⟩ := List.exists_cons_of_ne_nil hlne
      have hx : x = 45 := by simpa using h45
      subst hx
      have hlt : dig (45 :: t) (0 + 1) = t := by rw [hl]; rfl
      rw [hlt] at a b c e hv0
      rw [txt_neg hfit (by omega), show n.natAbs = val t by omega]
      congr 1
      refine digs_val (by intro e0; rw [e0] at a; simp at a) (by rw [← hlt]; exact dig_all _ _) (fun h1 h2 => b h1 ?_)
      match t, h2 with
      | y :: t', h2 => simpa using h2
    · rename_i h45
      obtain ⟨a, b, c, d, e, f⟩ := scanB_ok hs
      rw [if_neg (by simp)] at e
      have hl := dig_full (l := l) (k := 0) (by omega)
      rw [List.drop_zero] at hl
      have hfit : fitB n = true := fitB_iff.2 (by omega)
      refine ⟨hfit, ?_⟩
      rw [hl] at a b c e
      rw [txt_pos hfit (by omega), show n.natAbs = val l by omega]
      refine digs_val (by intro e0; rw [e0] at a; simp at a) (by rw [← hl]; exact dig_all _ _) (fun h1 h2 => b h1 ?_)
      match l, h2 with
      | y :: t', h2 => simpa using h2
  · cases h
theorem txt_ne (n : Int) (h : fitB n = true) : txt n ≠ [] := by
  intro e
  by_cases h0 : n < 0
  · rw [txt_neg h h0] at e; cases e
  · rw [txt_pos h h0] at e
    have := digs_pos n.natAbs
    rw [e] at this; simp at this
theorem txt_inj {n m : Int} (hn : fitB n = true) (hm : fitB m = true) : (txt n = txt m) ↔ n = m := by
  constructor
  · intro e
    have h1 := read_text n hn
    rw [e, read_text m hm] at h1
    exact (congrArg Prod.fst h1).symm
  · rintro rfl; rfl
theorem txt_len_pos {n m : Int} (hn : fitB n = true) (hm : fitB m = true) (h0 : ¬ n < 0) (h1 : ¬ m < 0) (hl : (txt n).length ≠ (txt m).length) :
    (txt n).length < (txt m).length ↔ n < m := by
  rw [txt_pos hn h0, txt_pos hm h1] at *
  constructor
  · intro h
    refine Classical.byContradiction fun h2 => ?_
    have := digs_mono (n := m.natAbs) (m := n.natAbs) (by omega)
    omega
  · intro h
    have := digs_mono (n := n.natAbs) (m := m.natAbs) (by omega)
    omega
theorem txt_len_neg {n m : Int} (hn : fitB n = true) (hm : fitB m = true) (h0 : n < 0) (h1 : m < 0) (hl : (txt n).length ≠ (txt m).length) :
    (txt n).length < (txt m).length ↔ ¬ n < m := by
  rw [txt_neg hn h0, txt_neg hm h1] at *
  simp only [List.length_cons] at *
  constructor
  · intro h h2
    have := digs_mono (n := m.natAbs) (m := n.natAbs) (by omega)
    omega
  · intro h
    have := digs_mono (n := n.natAbs) (m := m.natAbs) (by omega)
    omega
theorem txt_lt_pos {n m : Int} (hn : fitB n = true) (hm : fitB m = true) (h0 : ¬ n < 0) (h1 : ¬ m < 0) (hl : (txt n).length = (txt m).length) : txt n < txt m ↔ n < m := by
  rw [txt_pos hn h0, txt_pos hm h1] at *
  rw [lex_val _ _ hl (digs_all _) (digs_all _), val_digs, val_digs]
  omega
theorem txt_lt_neg {n m : Int} (hn : fitB n = true) (hm : fitB m = true) (h0 : n < 0) (h1 : m < 0) (hl : (txt n).length = (txt m).length) : txt n < txt m ↔ m < n := by
  rw [txt_neg hn h0, txt_neg hm h1] at *
  rw [List.cons_lt_cons_iff]
  simp only [List.length_cons, Nat.add_right_cancel_iff] at hl
  rw [lex_val _ _ hl (digs_all _) (digs_all _), val_digs, val_digs]
  constructor
  · rintro (h | ⟨_, h⟩)
    · exact absurd h (UInt8.lt_irrefl _)
    · omega
  · intro h
    exact .inr ⟨rfl, by omega⟩
end Go.Proofs.YtgbagdfcdljleaaGreatDoor.Nu
