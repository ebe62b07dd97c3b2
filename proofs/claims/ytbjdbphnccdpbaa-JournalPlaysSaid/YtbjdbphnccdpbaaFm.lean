/-
  Frames, plain: what bytes scan as; a frame; frames one behind the other; beginnings.
-/
import Derived.Below
set_option linter.unusedVariables false
namespace Go.Proofs.Ytbjdbphnccdpbaa

def be4 (a b c d : UInt8) : Nat := a.toNat * 16777216 + b.toNat * 65536 + c.toNat * 256 + d.toNat
/-- How many bytes the first load has, if bytes begin with a whole frame. -/
def headN : List UInt8 → Option Nat
  | a :: b :: c :: d :: t => if 1 ≤ be4 a b c d ∧ be4 a b c d ≤ 524288 ∧ be4 a b c d ≤ t.length then some (be4 a b c d) else none
  | _ => none
def scanF : Nat → List UInt8 → List (List UInt8) × Nat
  | 0, l => ([], l.length)
  | k + 1, l => match headN l with
    | some n => ((l.drop 4).take n :: (scanF k (l.drop (4 + n))).1, (scanF k (l.drop (4 + n))).2)
    | none => ([], l.length)
/-- What bytes scan as: the loads, how many bytes are torn. -/
def scanL (l : List UInt8) : List (List UInt8) × Nat := scanF l.length l
theorem headN_some {l : List UInt8} {n : Nat} (h : headN l = some n) : 1 ≤ n ∧ n ≤ 524288 ∧ 4 + n ≤ l.length := by
  unfold headN at h
  split at h
  · split at h
    · rename_i hh
      cases h
      simp only [List.length_cons]
      omega
    · cases h
  · cases h
theorem headN_form {l : List UInt8} {n : Nat} (h : headN l = some n) : ∃ a b c d t, l = a :: b :: c :: d :: t ∧ be4 a b c d = n ∧ 1 ≤ n ∧ n ≤ 524288 ∧ n ≤ t.length := by
  unfold headN at h
  split at h
  · split at h
    · rename_i a b c d t hh
      cases h
      exact ⟨a, b, c, d, t, rfl, rfl, hh⟩
    · cases h
  · cases h
theorem headN_mk {a b c d : UInt8} {t : List UInt8} {n : Nat} (h : be4 a b c d = n) (h1 : 1 ≤ n) (h2 : n ≤ 524288) (h3 : n ≤ t.length) : headN (a :: b :: c :: d :: t) = some n := by
  subst h
  unfold headN
  exact if_pos ⟨h1, h2, h3⟩
theorem scanF_fuel : ∀ (k k' : Nat) (l : List UInt8), l.length ≤ k → l.length ≤ k' → scanF k l = scanF k' l
  | 0, 0, l, _, _ => rfl
  | 0, k' + 1, l, h, _ => by
    obtain rfl : l = [] := List.eq_nil_of_length_eq_zero (by omega)
    rfl
  | k + 1, 0, l, _, h => by
    obtain rfl : l = [] := List.eq_nil_of_length_eq_zero (by omega)
    rfl
  | k + 1, k' + 1, l, h, h' => by
    unfold scanF
    cases hh : headN l with
    | none => rfl
    | some n =>
      have h1 := headN_some hh
      have := scanF_fuel k k' (l.drop (4 + n)) (by rw [List.length_drop]; omega) (by rw [List.length_drop]; omega)
      simp only [this]
theorem scan_none {l : List UInt8} (h : headN l = none) : scanL l = ([], l.length) := by
  unfold scanL
  cases hl : l.length with
  | zero => unfold scanF; rw [hl]
  | succ k => unfold scanF; rw [h, hl]
theorem scan_some {l : List UInt8} {n : Nat} (h : headN l = some n) : scanL l = ((l.drop 4).take n :: (scanL (l.drop (4 + n))).1, (scanL (l.drop (4 + n))).2) := by
  have h1 := headN_some h
  unfold scanL
  cases hl : l.length with
  | zero => omega
  | succ k =>
    rw [scanF, h]
    have := scanF_fuel k (l.drop (4 + n)).length (l.drop (4 + n)) (by rw [List.length_drop]; omega) (Nat.le_refl _)
    simp only [this]
theorem scan_torn (l : List UInt8) : (scanL l).2 ≤ l.length := by
  suffices h : ∀ k (l : List UInt8), l.length ≤ k → (scanL l).2 ≤ l.length from h l.length l (Nat.le_refl _)
  intro k
  induction k with
  | zero =>
    intro l hl
    rw [scan_none (by obtain rfl : l = [] := List.eq_nil_of_length_eq_zero (by omega); rfl)]
    exact Nat.le_refl _
  | succ k ih =>
    intro l hl
    cases h : headN l with
    | none => rw [scan_none h]; exact Nat.le_refl _
    | some n =>
      have h1 := headN_some h
      rw [scan_some h]
      have := ih (l.drop (4 + n)) (by rw [List.length_drop]; omega)
      rw [List.length_drop] at this
      show (scanL (l.drop (4 + n))).2 ≤ _
      omega

/-- A number's four bytes. -/
def num4 (n : Nat) : List UInt8 := [UInt8.ofNat (n / 16777216), UInt8.ofNat (n / 65536), UInt8.ofNat (n / 256), UInt8.ofNat n]
def frameL (x : List UInt8) : List UInt8 := num4 x.length ++ x
def goodL (x : List UInt8) : Prop := 1 ≤ x.length ∧ x.length ≤ 524288
theorem be4_num (n : Nat) (h : n < 4294967296) : be4 (UInt8.ofNat (n / 16777216)) (UInt8.ofNat (n / 65536)) (UInt8.ofNat (n / 256)) (UInt8.ofNat n) = n := by
  unfold be4
  simp only [UInt8.toNat_ofNat']
  omega
theorem frame_length (x : List UInt8) : (frameL x).length = 4 + x.length := by simp [frameL, num4]; omega
theorem head_frame {x : List UInt8} (h : goodL x) (r : List UInt8) : headN (frameL x ++ r) = some x.length := by
  unfold frameL num4
  simp only [List.cons_append, List.nil_append, headN, be4_num x.length (by have := h.2; omega), List.length_append]
  rw [if_pos ⟨h.1, h.2, by omega⟩]
theorem scan_frame {x : List UInt8} (h : goodL x) (r : List UInt8) : scanL (frameL x ++ r) = (x :: (scanL r).1, (scanL r).2) := by
  have hd : (frameL x ++ r).drop (4 + x.length) = r := by
    rw [← frame_length x]
    exact List.drop_left
  have ht : ((frameL x ++ r).drop 4).take x.length = x := by
    unfold frameL num4
    simp
  rw [scan_some (head_frame h r), hd, ht]
/-- Frames one behind the other. -/
def framesL : List (List UInt8) → List UInt8
  | [] => []
  | x :: t => frameL x ++ framesL t
theorem scan_frames : ∀ (ls : List (List UInt8)), (∀ x ∈ ls, goodL x) → scanL (framesL ls) = (ls, 0)
  | [], _ => rfl
  | x :: t, h => by
    unfold framesL
    rw [scan_frame (h x (by simp)), scan_frames t (fun y hy => h y (by simp [hy]))]
theorem frames_append : ∀ (a b : List (List UInt8)), framesL (a ++ b) = framesL a ++ framesL b
  | [], b => rfl
  | x :: t, b => by
    show frameL x ++ framesL (t ++ b) = (frameL x ++ framesL t) ++ framesL b
    rw [frames_append t b, List.append_assoc]
/-- Of a beginning of frames: how many loads are whole in it, and where the last of them ends. -/
def wholeL : List (List UInt8) → Nat → Nat × Nat
  | [], _ => (0, 0)
  | x :: t, c => if 4 + x.length ≤ c then ((wholeL t (c - (4 + x.length))).1 + 1, (wholeL t (c - (4 + x.length))).2 + (4 + x.length)) else (0, 0)
theorem whole_le : ∀ (ls : List (List UInt8)) (c : Nat), (wholeL ls c).2 ≤ c
  | [], c => Nat.zero_le _
  | x :: t, c => by
    unfold wholeL
    split
    · have := whole_le t (c - (4 + x.length))
      show (wholeL t (c - (4 + x.length))).2 + (4 + x.length) ≤ c
      omega
    · exact Nat.zero_le _
theorem scan_cut : ∀ (ls : List (List UInt8)) (c : Nat), (∀ x ∈ ls, goodL x) → c ≤ (framesL ls).length → scanL ((framesL ls).take c) = (ls.take (wholeL ls c).1, c - (wholeL ls c).2)
  | [], c, _, h => by
    obtain rfl : c = 0 := by simpa [framesL] using h
    rfl
  | x :: t, c, hg, h => by
    have hx := hg x (by simp)
    unfold framesL at h ⊢
    rw [List.length_append, frame_length] at h
    unfold wholeL
    by_cases hc : 4 + x.length ≤ c
    · rw [if_pos hc]
      have e : (frameL x ++ framesL t).take c = frameL x ++ (framesL t).take (c - (4 + x.length)) := by
        rw [List.take_append, frame_length, List.take_of_length_le (by rw [frame_length]; exact hc)]
      have h2 := whole_le t (c - (4 + x.length))
      rw [e, scan_frame hx, scan_cut t (c - (4 + x.length)) (fun y hy => hg y (by simp [hy])) (by omega), List.take_succ_cons]
      show (_, c - (4 + x.length) - (wholeL t (c - (4 + x.length))).2) = (_, c - ((wholeL t (c - (4 + x.length))).2 + (4 + x.length)))
      rw [show c - (4 + x.length) - (wholeL t (c - (4 + x.length))).2 = c - ((wholeL t (c - (4 + x.length))).2 + (4 + x.length)) by omega]
    · rw [if_neg hc]
      have hl : ((frameL x ++ framesL t).take c).length = c := by rw [List.length_take, List.length_append, frame_length]; omega
      have hn : headN ((frameL x ++ framesL t).take c) = none := by
        unfold frameL num4
        match c, hc with
        | 0, _ => rfl
        | 1, _ => rfl
        | 2, _ => rfl
        | 3, _ => rfl
        | c + 4, hc =>
          simp only [List.cons_append, List.nil_append, List.take_succ_cons, headN, be4_num x.length (by have := hx.2; omega), List.length_take]
          rw [if_neg (by omega)]
      rw [scan_none hn, hl]
      rfl
/-- Bytes behind those of which nothing is torn. -/
theorem scan_join (b : List UInt8) : ∀ (k : Nat) (a : List UInt8), a.length ≤ k → scanL (a.take (a.length - (scanL a).2) ++ b) = ((scanL a).1 ++ (scanL b).1, (scanL b).2) := by
  intro k
  induction k with
  | zero =>
    intro a ha
    obtain rfl : a = [] := List.eq_nil_of_length_eq_zero (by omega)
    rfl
  | succ k ih =>
    intro a ha
    cases h : headN a with
    | none => rw [scan_none h]; simp
    | some n =>
      have h1 := headN_some h
      have h2 := scan_torn (a.drop (4 + n))
      have h3 := ih (a.drop (4 + n)) (by rw [List.length_drop]; omega)
      rw [List.length_drop] at h2 h3
      have e := scan_some h
      have e2 : (scanL a).2 = (scanL (a.drop (4 + n))).2 := by rw [e]
      have e1 : (scanL a).1 = (a.drop 4).take n :: (scanL (a.drop (4 + n))).1 := by rw [e]
      have sp : a.take (a.length - (scanL a).2) ++ b = a.take (4 + n) ++ ((a.drop (4 + n)).take (a.length - (4 + n) - (scanL (a.drop (4 + n))).2) ++ b) := by
        rw [e2, ← List.append_assoc]
        congr 1
        rw [show a.length - (scanL (a.drop (4 + n))).2 = (4 + n) + (a.length - (4 + n) - (scanL (a.drop (4 + n))).2) by omega, List.take_add]
      have hh : headN (a.take (4 + n) ++ ((a.drop (4 + n)).take (a.length - (4 + n) - (scanL (a.drop (4 + n))).2) ++ b)) = some n := by
        obtain ⟨p, q, r, u, t, rfl, hb, hn1, hn2, hn3⟩ := headN_form h
        rw [show 4 + n = n + 1 + 1 + 1 + 1 by omega]
        simp only [List.take_succ_cons, List.cons_append]
        refine headN_mk hb hn1 hn2 ?_
        rw [List.length_append, List.length_take]
        omega
      have hlen : (a.take (4 + n)).length = 4 + n := by rw [List.length_take]; omega
      have hd : (a.take (4 + n) ++ ((a.drop (4 + n)).take (a.length - (4 + n) - (scanL (a.drop (4 + n))).2) ++ b)).drop (4 + n) = (a.drop (4 + n)).take (a.length - (4 + n) - (scanL (a.drop (4 + n))).2) ++ b := by
        generalize (a.drop (4 + n)).take (a.length - (4 + n) - (scanL (a.drop (4 + n))).2) ++ b = Z
        generalize a.take (4 + n) = Y at hlen
        rw [← hlen]
        exact List.drop_left
      have ht : ((a.take (4 + n) ++ ((a.drop (4 + n)).take (a.length - (4 + n) - (scanL (a.drop (4 + n))).2) ++ b)).drop 4).take n = (a.drop 4).take n := by
        rw [List.drop_append_of_le_length (by rw [hlen]; omega), List.take_append_of_le_length (by rw [List.length_drop, hlen]; omega), List.drop_take, show 4 + n - 4 = n by omega, List.take_take, Nat.min_self]
      rw [sp, scan_some hh, hd, ht, h3, e1]
      rfl
end Go.Proofs.Ytbjdbphnccdpbaa
