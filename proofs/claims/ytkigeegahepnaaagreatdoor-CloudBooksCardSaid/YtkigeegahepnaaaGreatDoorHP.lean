/-
  CloudBooks, plain: what is there is what was created, less what was deleted. · CloudBooks: the book, while it is made; calls that are read stay. · CloudBooks: counting while a map is gone through.
-/
import Derived.Test.YtkigeegahepnaaaGreatDoorHJ
set_option linter.unusedVariables false
set_option linter.unusedSimpArgs false
namespace Go.Proofs.YtkigeegahepnaaaGreatDoor
open Go.RowKit

def crD (q : Cl × An) (p : ByteArray) : Int := (if q.2.ok = true ∧ q.1.kd = 0 ∧ q.2.ph = p then 1 else 0) - (if q.2.ok = true ∧ q.1.kd = 2 ∧ q.1.ph = p then 1 else 0)
def mkD (q : Cl × An) : Int := if q.2.ok = true ∧ q.1.kd = 0 then 1 else 0
def balD : List (Cl × An) → ByteArray → Int
  | [], _ => 0
  | q :: t, p => crD q p + balD t p
def madeD : List (Cl × An) → Int
  | [] => 0
  | q :: t => mkD q + madeD t
theorem balD_append (L M : List (Cl × An)) (p : ByteArray) : balD (L ++ M) p = balD L p + balD M p := by
  induction L with
  | nil => simp [balD]
  | cons q t ih => simp only [List.cons_append, balD, ih]; omega
theorem madeD_append (L M : List (Cl × An)) : madeD (L ++ M) = madeD L + madeD M := by
  induction L with
  | nil => simp [madeD]
  | cons q t ih => simp only [List.cons_append, madeD, ih]; omega
theorem balD_setA {L : List (Cl × An)} {z : Int} {x : Cl} {a0 a : An} (h : findC L z = some (x, a0)) (p : ByteArray) : balD (setA L z a) p = balD L p - crD (x, a0) p + crD (x, a) p := by
  induction L with
  | nil => cases h
  | cons q t ih =>
    unfold findC at h
    unfold setA
    by_cases e : q.1.tok = z
    · rw [if_pos e] at h ⊢
      cases h
      simp only [balD]
      omega
    · rw [if_neg e] at h ⊢
      simp only [balD, ih h]
      omega
theorem madeD_setA {L : List (Cl × An)} {z : Int} {x : Cl} {a0 a : An} (h : findC L z = some (x, a0)) : madeD (setA L z a) = madeD L - mkD (x, a0) + mkD (x, a) := by
  induction L with
  | nil => cases h
  | cons q t ih =>
    unfold findC at h
    unfold setA
    by_cases e : q.1.tok = z
    · rw [if_pos e] at h ⊢
      cases h
      simp only [madeD]
      omega
    · rw [if_neg e] at h ⊢
      simp only [madeD, ih h]
      omega
theorem crD_zero (x : Cl) (e : Bool) (ph p : ByteArray) : crD (x, ⟨e, false, ph⟩) p = 0 := by simp [crD]
theorem mkD_zero (x : Cl) (e : Bool) (ph : ByteArray) : mkD (x, ⟨e, false, ph⟩) = 0 := by simp [mkD]
/-- The books of a cloud. -/
structure BK (c : CSt) : Prop where
  bal : ∀ p, balD c.L p = if (∃ t ∈ c.s.l, t.ph = p) then 1 else 0
  made : madeD c.L = c.s.made
theorem BK.zero : BK zC := ⟨fun p => by rw [if_neg (fun ⟨t, h, _⟩ => by cases h)]; rfl, rfl⟩
theorem BK.submit {c : CSt} (h : BK c) (x : Cl) : BK (submitC c x).1 := by
  unfold submitC
  split
  · split
    · exact h
    · refine ⟨fun p => ?_, ?_⟩
      · show balD (c.L ++ [(x, zAn)]) p = _
        rw [balD_append, h.bal p]
        show _ + (crD (x, zAn) p + 0) = _
        rw [show zAn = ⟨false, false, ⟨#[]⟩⟩ from rfl, crD_zero]
        show (if (∃ t ∈ c.s.l, t.ph = p) then (1 : Int) else 0) + (0 + 0) = if (∃ t ∈ c.s.l, t.ph = p) then 1 else 0
        rw [Int.add_zero, Int.add_zero]
      · show madeD (c.L ++ [(x, zAn)]) = _
        rw [madeD_append, h.made]
        show _ + (mkD (x, zAn) + 0) = _
        rw [show zAn = ⟨false, false, ⟨#[]⟩⟩ from rfl, mkD_zero]
        show c.s.made + (0 + 0) = c.s.made
        omega
  · exact h
theorem ite_iff {P Q : Prop} [Decidable P] [Decidable Q] (h : P ↔ Q) : (if P then (1 : Int) else 0) = if Q then 1 else 0 := by
  by_cases hp : P
  · rw [if_pos hp, if_pos (h.1 hp)]
  · rw [if_neg hp, if_neg (fun hq => hp (h.2 hq))]
theorem BK.endg {c : CSt} {n : Nat} (hn : n ≤ 1000) (h : BK c) (hg : goodC c n) {i : Nat} (hi : i < c.fl.length) (well : Bool) : BK (endC c i well).1 := by
  classical
  obtain ⟨x, hx, htk, hm, hf, hw⟩ := hg.at hi
  rw [endC_good hg hi well hx]
  have hs0 : ∀ p, crD (x, zAn) p = 0 := fun p => crD_zero x false ⟨#[]⟩ p
  have hm0 : mkD (x, zAn) = 0 := mkD_zero x false ⟨#[]⟩
  have hbal : ∀ a p, balD (setA c.L c.fl[i] a) p = balD c.L p + crD (x, a) p := fun a p => by rw [balD_setA hx, hs0]; omega
  have hmd : ∀ a, madeD (setA c.L c.fl[i] a) = madeD c.L + mkD (x, a) := fun a => by rw [madeD_setA hx, hm0]; omega
  have key : (∀ p, balD c.L p + crD (x, (endA c.s x well).2) p = if (∃ t ∈ (endA c.s x well).1.l, t.ph = p) then 1 else 0) ∧ madeD c.L + mkD (x, (endA c.s x well).2) = (endA c.s x well).1.made := by
    have none : ∀ e : Bool, (∀ p, balD c.L p + crD (x, ⟨e, false, ⟨#[]⟩⟩) p = if (∃ t ∈ c.s.l, t.ph = p) then 1 else 0) ∧ madeD c.L + mkD (x, ⟨e, false, ⟨#[]⟩⟩) = c.s.made := fun e => ⟨fun p => by rw [crD_zero, h.bal p]; omega, by rw [mkD_zero, h.made]; omega⟩
    unfold endA
    split
    · unfold takeL
      split
      · rename_i he
        unfold effectL at he ⊢
        split
        · rename_i hk
          rw [if_pos hk] at he
          obtain ⟨h1, -, h3, h4, h5⟩ := create_ok he
          rw [h4]
          have hnew : ∀ t ∈ c.s.l, t.ph ≠ physS (c.s.made + 1) := fun t ht e => by
            have hN : numL (physS (c.s.made + 1)) = (c.s.made + 1, true) := num_phys (by have := h1.1.1; omega) (by have := h1.1.2; omega)
            have h6 := (h1.2.1 t ht).2.1
            unfold Nt at h6
            rw [e, hN] at h6
            dsimp only at h6
            omega
          refine ⟨fun p => ?_, ?_⟩
          · rw [h.bal p]
            have hc : crD (x, ⟨true, true, physS (c.s.made + 1)⟩) p = if physS (c.s.made + 1) = p then 1 else 0 := by
              unfold crD
              dsimp only
              rw [hk]
              simp
            rw [hc]
            by_cases hp : physS (c.s.made + 1) = p
            · rw [if_pos hp, if_neg (fun ⟨t, ht, e⟩ => hnew t ht (e.trans hp.symm)), if_pos ⟨_, List.mem_append_right _ (List.mem_singleton.2 rfl), hp⟩]
              rfl
            · rw [if_neg hp, Int.add_zero]
              refine ite_iff ⟨fun ⟨t, ht, e⟩ => ⟨t, List.mem_append_left _ ht, e⟩, fun ⟨t, ht, e⟩ => ?_⟩
              rcases List.mem_append.1 ht with ht | ht
              · exact ⟨t, ht, e⟩
              · rw [List.mem_singleton.1 ht] at e; exact absurd e hp
          · have hc : mkD (x, ⟨true, true, physS (c.s.made + 1)⟩) = 1 := by
              unfold mkD
              rw [if_pos ⟨rfl, hk⟩]
            rw [hc, h.made]
        · rename_i hk
          rw [if_neg hk] at he
          split
          · rename_i hk1
            rw [if_pos hk1] at he
            obtain ⟨h1, j, h2, hj, h3, -, -, -, h7, h8⟩ := update_ok he
            rw [h7]
            have hc : ∀ p, crD (x, ⟨true, true, ⟨#[]⟩⟩) p = 0 := fun p => by unfold crD; dsimp only; rw [hk1]; simp
            have hc2 : mkD (x, ⟨true, true, ⟨#[]⟩⟩) = 0 := by unfold mkD; rw [if_neg (fun h => hk h.2)]
            refine ⟨fun p => ?_, by rw [hc2, h.made]; show c.s.made + 0 = c.s.made; omega⟩
            rw [hc, h.bal p, Int.add_zero]
            refine ite_iff ⟨fun ⟨t, ht, e⟩ => ?_, fun ⟨t, ht, e⟩ => ?_⟩
            · obtain ⟨q, hq, rfl⟩ := List.getElem_of_mem ht
              by_cases hqj : q = j
              · subst hqj
                exact ⟨⟨c.s.l[q].ph, c.s.l[q].ty, x.ps⟩, List.mem_of_getElem? (show (c.s.l.set q ⟨c.s.l[q].ph, c.s.l[q].ty, x.ps⟩)[q]? = some _ by rw [List.getElem?_set_self (by simpa using hq)]), e⟩
              · exact ⟨c.s.l[q], List.mem_of_getElem? (show (c.s.l.set j ⟨c.s.l[j].ph, c.s.l[j].ty, x.ps⟩)[q]? = some _ by rw [List.getElem?_set_ne (fun h => hqj h.symm), List.getElem?_eq_getElem hq]), e⟩
            · rcases List.mem_or_eq_of_mem_set ht with ht | rfl
              · exact ⟨t, ht, e⟩
              · exact ⟨c.s.l[j], List.getElem_mem hj, e⟩
          · rename_i hk1
            rw [if_neg hk1] at he
            have hk2 : x.kd = 2 := by
              unfold wrongC at hw
              split at hw
              · exact absurd hw (by decide)
              · rename_i hmn
                have hmn' : mayNotB x = false := by simpa using hmn
                unfold mayNotB at hmn'
                simp only [Bool.or_eq_false_iff, Bool.not_eq_false', Bool.and_eq_true, decide_eq_true_eq] at hmn'
                omega
            obtain ⟨h1, j, h2, hj, h3, h4, h5, h6, h7⟩ := delete_ok he
            rw [h4]
            have hc2 : mkD (x, ⟨true, true, ⟨#[]⟩⟩) = 0 := by unfold mkD; rw [if_neg (fun h => hk h.2)]
            refine ⟨fun p => ?_, by rw [hc2, h.made]; show c.s.made + 0 = c.s.made; omega⟩
            have hc : crD (x, ⟨true, true, ⟨#[]⟩⟩) p = if x.ph = p then -1 else 0 := by
              unfold crD
              dsimp only
              rw [hk2]
              by_cases hp : x.ph = p
              · simp [hp]
              · simp [hp]
            rw [hc, h.bal p]
            by_cases hp : x.ph = p
            · rw [if_pos hp, if_pos ⟨c.s.l[j], List.getElem_mem hj, h3.trans hp⟩, if_neg (fun ⟨t, ht, e⟩ => h6 t ht (e.trans hp.symm))]
              rfl
            · rw [if_neg hp, Int.add_zero]
              refine ite_iff ⟨fun ⟨t, ht, e⟩ => ⟨t, h7 t ht (fun e2 => hp (e2.symm.trans e)), e⟩, fun ⟨t, ht, e⟩ => ?_⟩
              rcases List.mem_append.1 ht with ht | ht
              · exact ⟨t, List.mem_of_mem_take ht, e⟩
              · exact ⟨t, List.mem_of_mem_drop ht, e⟩
      · exact none true
    · exact none true
  exact ⟨fun p => by rw [show balD _ p = _ from hbal _ p]; exact key.1 p, by rw [show madeD _ = _ from hmd _]; exact key.2⟩
theorem BK.step {c : CSt} {n : Nat} (hn : n ≤ 1000) (h : BK c) (hg : goodC c n) (y : Ac) : BK (stepA c y) := by
  have hend : ∀ (k : Int) (well : Bool), BK (endC c k well).1 := fun k well => by
    by_cases hk : 0 ≤ k ∧ k < c.fl.length
    · obtain ⟨i, rfl⟩ : ∃ i : Nat, k = i := ⟨k.toNat, by omega⟩
      exact h.endg hn hg (by omega) well
    · rw [endC_bad hk]
      exact h
  unfold stepA
  split
  · exact h.submit y.x
  · split
    · exact hend _ _
    · split
      · exact hend _ _
      · exact h
theorem BK.run {L : List Ac} (hL : L.length ≤ 100) (h : ∀ y ∈ L, fineX y.x) : ∀ j, j ≤ L.length → BK (runA (L.take j))
  | 0, _ => by
    rw [List.take_zero]
    exact BK.zero
  | j + 1, hj => by
    rw [runA_succ (by omega)]
    exact (BK.run hL h j (by omega)).step (n := j) (by omega) (good_run hL h j (by omega)) _
end Go.Proofs.YtkigeegahepnaaaGreatDoor

namespace Go.Proofs.YtkigeegahepnaaaGreatDoor
open Go.RowKit Go.Maps

/-- Does a call's answer stand in the book under p? -/
def touchD (q : Cl × An) (p : ByteArray) : Bool := q.2.ok && ((decide (q.1.kd = 0) && decide (q.2.ph = p)) || (decide (q.1.kd = 2) && decide (q.1.ph = p)))
def fB (M : List (Cl × An)) (p : ByteArray) : Option Value := if M.any (fun q => touchD q p) = true then some (.int .i64 (balD M p)) else none
theorem crD_untouched {q : Cl × An} {p : ByteArray} (h : touchD q p = false) : crD q p = 0 := by
  unfold touchD at h
  unfold crD
  cases ho : q.2.ok with
  | false => simp
  | true =>
    rw [ho, Bool.true_and, Bool.or_eq_false_iff] at h
    have h1 : ¬ (q.1.kd = 0 ∧ q.2.ph = p) := fun hh => by
      have := h.1
      rw [hh.1, hh.2] at this
      simp at this
    have h2 : ¬ (q.1.kd = 2 ∧ q.1.ph = p) := fun hh => by
      have := h.2
      rw [hh.1, hh.2] at this
      simp at this
    rw [if_neg (fun hh => h1 hh.2), if_neg (fun hh => h2 hh.2)]
    rfl
theorem balD_untouched {M : List (Cl × An)} {p : ByteArray} (h : M.any (fun q => touchD q p) = false) : balD M p = 0 := by
  induction M with
  | nil => rfl
  | cons q t ih =>
    rw [List.any_cons, Bool.or_eq_false_iff] at h
    show crD q p + balD t p = 0
    rw [crD_untouched h.1, ih h.2]
    rfl
theorem fB_look (M : List (Cl × An)) (p : ByteArray) : (fB M p).getD (.int .i64 0) = .int .i64 (balD M p) := by
  unfold fB
  cases h : M.any (fun q => touchD q p) with
  | true => rfl
  | false => rw [balD_untouched h]; rfl
theorem fB_none {M : List (Cl × An)} {q : Cl × An} (h : ∀ p, touchD q p = false) : fB (M ++ [q]) = fB M := by
  funext p
  unfold fB
  rw [List.any_append, List.any_cons, List.any_nil, h p, balD_append]
  simp only [Bool.or_false, balD, crD_untouched (h p), Int.add_zero]
theorem fB_one {M : List (Cl × An)} {q : Cl × An} {p0 : ByteArray} {d : Int} (h1 : ∀ p, touchD q p = decide (p0 = p)) (h2 : crD q p0 = d) : fB (M ++ [q]) = fun p => if p = p0 then some (.int .i64 (balD M p0 + d)) else fB M p := by
  funext p
  unfold fB
  rw [List.any_append, List.any_cons, List.any_nil, h1 p, balD_append]
  by_cases e : p = p0
  · subst e
    rw [if_pos rfl, decide_eq_true rfl, if_pos (by simp)]
    simp only [balD, h2, Int.add_zero]
  · have hd : decide (p0 = p) = false := decide_eq_false (fun h => e h.symm)
    rw [if_neg e, hd]
    simp only [Bool.or_false, balD, crD_untouched (show touchD q p = false by rw [h1 p, hd]), Int.add_zero]
theorem fB_create {M : List (Cl × An)} {q : Cl × An} (ho : q.2.ok = true) (hk : q.1.kd = 0) : fB (M ++ [q]) = fun p => if p = q.2.ph then some (.int .i64 (balD M q.2.ph + 1)) else fB M p :=
  fB_one (fun p => by unfold touchD; rw [ho, hk]; simp) (by unfold crD; rw [ho, hk]; simp)
theorem fB_delete {M : List (Cl × An)} {q : Cl × An} (ho : q.2.ok = true) (hk : q.1.kd = 2) : fB (M ++ [q]) = fun p => if p = q.1.ph then some (.int .i64 (balD M q.1.ph + -1)) else fB M p :=
  fB_one (fun p => by unfold touchD; rw [ho, hk]; simp) (by unfold crD; rw [ho, hk]; simp)
theorem fB_bad {M : List (Cl × An)} {q : Cl × An} (ho : q.2.ok = false) : fB (M ++ [q]) = fB M := fB_none fun p => by unfold touchD; rw [ho]; rfl
theorem fB_upd {M : List (Cl × An)} {q : Cl × An} (h0 : q.1.kd ≠ 0) (h2 : q.1.kd ≠ 2) : fB (M ++ [q]) = fB M := fB_none fun p => by unfold touchD; rw [decide_eq_false h0, decide_eq_false h2]; simp
/-- The numbers are small. -/
theorem balD_le (M : List (Cl × An)) (p : ByteArray) : -(M.length : Int) ≤ balD M p ∧ balD M p ≤ M.length := by
  induction M with
  | nil => simp [balD]
  | cons q t ih =>
    have h : -1 ≤ crD q p ∧ crD q p ≤ 1 := by unfold crD; split <;> split <;> omega
    simp only [balD, List.length_cons]
    omega
theorem madeD_le (M : List (Cl × An)) : 0 ≤ madeD M ∧ madeD M ≤ M.length := by
  induction M with
  | nil => simp [madeD]
  | cons q t ih =>
    have h : 0 ≤ mkD q ∧ mkD q ≤ 1 := by unfold mkD; split <;> omega
    simp only [madeD, List.length_cons]
    omega
/-- Calls that are read stay while a block with no texts is written. -/
theorem isXs_fr {W W' : World} {B : Nat → Prop} (hB : NoS W B) (hF : Fr B W W') {L : List Cl} {v : Value} (h : isXs W L v) : isXs W' L v := by
  obtain ⟨a, cap, h1, h2⟩ := h
  refine ⟨a, cap, h1, fun i hi => ?_⟩
  obtain ⟨pv, g0, g1, g2, g3, g4, hg, hok⟩ := h2 i hi
  have hb : ¬ B (a.add (i * 5)).block := by
    have h := hB _ _ g2
    exact h
  have hk : ∀ (b : Addr) c, b.block = (a.add (i * 5)).block → W.cell? b = some c → W'.cell? b = some c := fun b c e hc => hF.cell b c (by rw [e]; exact hb) hc
  exact ⟨pv, hk _ _ rfl g0, hk _ _ rfl g1, hk _ _ rfl g2, hk _ _ rfl g3, hk _ _ rfl g4, isGs_fr hB hF hg, hok⟩
/-- Answers' ids are short. -/
theorem phs_end {c : CSt} {n : Nat} (hn : n ≤ 1000) (hg : goodC c n) (h : ∀ q ∈ c.L, q.2.ph.size ≤ maxLen) (k : Int) (well : Bool) : ∀ q ∈ (endC c k well).1.L, q.2.ph.size ≤ maxLen := by
  by_cases hk : 0 ≤ k ∧ k < c.fl.length
  · obtain ⟨i, rfl⟩ : ∃ i : Nat, k = i := ⟨k.toNat, by omega⟩
    have hi : i < c.fl.length := by omega
    obtain ⟨x, hx, htk, hm, hf, hw⟩ := hg.at hi
    rw [endC_good hg hi well hx]
    intro q hq
    rcases (mem_setA hg.uniq).1 (show q ∈ setA c.L c.fl[i] (endA c.s x well).2 from hq) with ⟨h1, -⟩ | ⟨-, h1, -⟩
    · exact h q h1
    · rw [h1]
      have h0 : (⟨#[]⟩ : ByteArray).size ≤ maxLen := by show 0 ≤ maxLen; omega
      unfold endA
      split
      · unfold takeL
        split
        · unfold effectL
          split
          · rename_i he hk
            obtain ⟨-, -, -, h4, -⟩ := create_ok (show (createL c.s x.ty x.ps).2.2 = 0 by unfold effectL at he; rwa [if_pos hk] at he)
            rw [h4]
            have h5 := Nu.txt_len (c.s.made + 1)
            have h6 : (physS (c.s.made + 1)).size = (Nu.txt (c.s.made + 1)).length + 1 := by unfold physS; rw [Nu.size_arr]; rfl
            show (physS (c.s.made + 1)).size ≤ maxLen
            unfold maxLen
            omega
          · split
            · exact h0
            · exact h0
        · exact h0
      · exact h0
  · rw [endC_bad hk]
    exact h
theorem phs_run {L : List Ac} (hL : L.length ≤ 100) (h : ∀ y ∈ L, fineX y.x) : ∀ j, j ≤ L.length → ∀ q ∈ (runA (L.take j)).L, q.2.ph.size ≤ maxLen
  | 0, _ => fun q hq => by rw [List.take_zero] at hq; cases hq
  | j + 1, hj => by
    have ih := phs_run hL h j (by omega)
    have hg := good_run hL h j (by omega)
    rw [runA_succ (by omega)]
    unfold stepA
    split
    · unfold submitC
      split
      · split
        · exact ih
        · intro q hq
          rcases List.mem_append.1 hq with hq | hq
          · exact ih q hq
          · rw [List.mem_singleton.1 hq]; show 0 ≤ maxLen; omega
      · exact ih
    · split
      · exact phs_end (n := j) (by omega) hg ih _ _
      · split
        · exact phs_end (n := j) (by omega) hg ih _ _
        · exact ih
end Go.Proofs.YtkigeegahepnaaaGreatDoor

namespace Go.Proofs.YtkigeegahepnaaaGreatDoor
open Go.RowKit

def cntL : List Th → (ByteArray → Bool) → Int
  | [], _ => 0
  | t :: r, left => (if left t.ph = true then 0 else 1) + cntL r left
theorem cntL_zero {l : List Th} {left : ByteArray → Bool} (h : ∀ t ∈ l, left t.ph = true) : cntL l left = 0 := by
  induction l with
  | nil => rfl
  | cons t r ih =>
    unfold cntL
    rw [if_pos (h t (by simp)), ih (fun t' ht => h t' (List.mem_cons_of_mem _ ht))]
    rfl
theorem cntL_all {l : List Th} {left : ByteArray → Bool} (h : ∀ t ∈ l, left t.ph = false) : cntL l left = l.length := by
  induction l with
  | nil => rfl
  | cons t r ih =>
    unfold cntL
    rw [if_neg (by rw [h t (by simp)]; decide), ih (fun t' ht => h t' (List.mem_cons_of_mem _ ht))]
    simp only [List.length_cons]
    omega
theorem cntL_le (l : List Th) (left : ByteArray → Bool) : 0 ≤ cntL l left ∧ cntL l left ≤ l.length := by
  induction l with
  | nil => exact ⟨Int.le_refl _, Int.le_refl _⟩
  | cons t r ih =>
    unfold cntL
    simp only [List.length_cons]
    split <;> omega
theorem cntL_other {l : List Th} {left : ByteArray → Bool} {s : ByteArray} (h : ∀ t ∈ l, t.ph ≠ s) : cntL l (fun z => left z && !decide (z = s)) = cntL l left := by
  induction l with
  | nil => rfl
  | cons t r ih =>
    unfold cntL
    rw [ih (fun t' ht => h t' (List.mem_cons_of_mem _ ht))]
    have hh : (left t.ph && !decide (t.ph = s)) = left t.ph := by rw [decide_eq_false (h t (by simp))]; simp
    show (if (left t.ph && !decide (t.ph = s)) = true then (0 : Int) else 1) + cntL r left = _
    simp only [hh]
theorem cntL_step {l : List Th} (hu : l.Pairwise (fun a b => a.ph ≠ b.ph)) {left : ByteArray → Bool} {s : ByteArray} (hl : left s = true) : cntL l (fun z => left z && !decide (z = s)) = cntL l left + (if (∃ t ∈ l, t.ph = s) then 1 else 0) := by
  classical
  induction l with
  | nil => simp [cntL]
  | cons t r ih =>
    obtain ⟨h1, h2⟩ := List.pairwise_cons.1 hu
    unfold cntL
    by_cases e : t.ph = s
    · have hr : ∀ t' ∈ r, t'.ph ≠ s := fun t' ht e' => h1 t' ht (e.trans e'.symm)
      rw [cntL_other hr, if_pos (⟨t, by simp, e⟩ : ∃ t' ∈ t :: r, t'.ph = s), e, hl]
      simp
      omega
    · rw [ih h2]
      have hh : (left t.ph && !decide (t.ph = s)) = left t.ph := by rw [decide_eq_false e]; simp
      show (if (left t.ph && !decide (t.ph = s)) = true then (0 : Int) else 1) + _ = _
      simp only [hh]
      have : (∃ t' ∈ t :: r, t'.ph = s) ↔ ∃ t' ∈ r, t'.ph = s := ⟨fun ⟨t', h, e'⟩ => by
        rcases List.mem_cons.1 h with rfl | h
        · exact absurd e' e
        · exact ⟨t', h, e'⟩, fun ⟨t', h, e'⟩ => ⟨t', List.mem_cons_of_mem _ h, e'⟩⟩
      rw [ite_iff this]
      omega
theorem uniq_ph {s : St} (h : okS s) : s.l.Pairwise (fun a b => a.ph ≠ b.ph) := by
  rw [List.pairwise_iff_getElem]
  intro i j hi hj hij e
  have := okS_uniq h hi hj e
  omega
/-- A key's number. -/
theorem fB_key {c : CSt} (hb : BK c) {s : ByteArray} {v : Value} (h : fB c.L s = some v) : v = .int .i64 (if (∃ t ∈ c.s.l, t.ph = s) then 1 else 0) := by
  unfold fB at h
  split at h
  · cases h
    rw [hb.bal s]
  · cases h
theorem fB_there {c : CSt} (hb : BK c) {t : Th} (ht : t ∈ c.s.l) : fB c.L t.ph = some (.int .i64 1) := by
  have h1 := hb.bal t.ph
  rw [if_pos ⟨t, ht, rfl⟩] at h1
  unfold fB
  cases h : c.L.any (fun q => touchD q t.ph) with
  | true => rw [if_pos rfl, h1]
  | false =>
    rw [balD_untouched h] at h1
    exact absurd h1 (by decide)
end Go.Proofs.YtkigeegahepnaaaGreatDoor
