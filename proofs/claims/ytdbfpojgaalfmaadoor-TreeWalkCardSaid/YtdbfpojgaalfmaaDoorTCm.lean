/-
  The order of two trees, in plain mathematics.
-/
import Derived.Test.YtdbfpojgaalfmaaDoorTK2
set_option linter.unusedVariables false
namespace Go.Proofs.YtdbfpojgaalfmaaDoor
open Go.RowKit

def bl (s s' : ByteArray) : Bool := Op.bytesLess s.toList s'.toList
def ltI (c : Bool) : Int := if c then -1 else 1
def E0 : ByteArray := ⟨#[]⟩
open Classical in
mutual
/-- The order of two trees: -1, 0, 1. -/
noncomputable def cmpV : V → V → Int
  | .mk k b n s l ks, y => if k ≠ y.kind then ltI (decide (k < y.kind)) else if b ≠ y.bool then ltI y.bool else if n ≠ y.num then ltI (decide (n < y.num)) else if s ≠ y.text then ltI (bl s y.text) else cmpVs k l ks y.list y.keys
noncomputable def cmpVs (k : Int) : List V → List ByteArray → List V → List ByteArray → Int
  | [], _, l', _ => if l'.length = 0 then 0 else -1
  | _ :: _, _, [], _ => 1
  | x :: t, ks, y :: t', ks' => if k = 5 ∧ ks.headD E0 ≠ ks'.headD E0 then ltI (bl (ks.headD E0) (ks'.headD E0)) else if cmpV x y ≠ 0 then cmpV x y else cmpVs k t ks.tail t' ks'.tail
end
mutual
/-- Objects have as many keys as parts, at every depth. -/
def okV : V → Prop | .mk k b n s l ks => (k = 5 → ks.length = l.length) ∧ okVs l
def okVs : List V → Prop | [] => True | x :: t => okV x ∧ okVs t
end
theorem okVs_get : ∀ (l : List V) (j : Nat) (h : j < l.length), okVs l → okV l[j]
  | x :: t, 0, _, h => by unfold okVs at h; exact h.1
  | x :: t, j + 1, hj, h => by unfold okVs at h; exact okVs_get t j (by simpa using hj) h.2
mutual
theorem ok_of_wrong : ∀ x : V, wrongV x = 0 → okV x
  | .mk k b n s l ks, h => by
    have ho : ownW (.mk k b n s l ks) = 0 := by
      refine Classical.byContradiction fun hc => ?_
      rw [wrongV, if_neg hc] at h
      exact hc h
    rw [wrongV, if_pos ho] at h
    have hp : plainB (.mk k b n s l ks) = true := by
      cases e : plainB (.mk k b n s l ks) with
      | true => rfl
      | false => rw [ownW_mk, e, if_pos rfl] at ho; omega
    unfold okV
    exact ⟨(plain_eq hp).2.2.2.2.2.1, oks_of_wrong l h⟩
theorem oks_of_wrong : ∀ l : List V, wrongVs l = 0 → okVs l
  | [], _ => by unfold okVs; trivial
  | x :: t, h => by
    have h1 : wrongV x = 0 := by
      refine Classical.byContradiction fun hc => ?_
      rw [wrongVs, if_neg hc] at h
      exact hc h
    rw [wrongVs, if_pos h1] at h
    unfold okVs
    exact ⟨ok_of_wrong x h1, oks_of_wrong t h⟩
end
theorem cmpV_mk (k k' : Int) (b b' : Bool) (n n' : Int) (s s' : ByteArray) (l l' : List V) (ks ks' : List ByteArray) : cmpV (.mk k b n s l ks) (.mk k' b' n' s' l' ks') = if k ≠ k' then ltI (decide (k < k')) else if b ≠ b' then ltI b' else if n ≠ n' then ltI (decide (n < n')) else @ite _ (s ≠ s') (Classical.propDecidable _) (ltI (bl s s')) (cmpVs k l ks l' ks') := by
  rw [cmpV]
  simp only [V.kind, V.bool, V.num, V.text, V.list, V.keys]
  congr
theorem headD_drop (ks : List ByteArray) (j : Nat) : (ks.drop j).headD E0 = ks.getD j E0 := by
  simp [List.headD_eq_head?_getD, List.head?_drop, List.getD]
theorem cmpVs_at (k : Int) (l l' : List V) (ks ks' : List ByteArray) (j : Nat) (h : j < l.length) (h' : j < l'.length) :
    cmpVs k (l.drop j) (ks.drop j) (l'.drop j) (ks'.drop j) = @ite _ (k = 5 ∧ ks.getD j E0 ≠ ks'.getD j E0) (Classical.propDecidable _) (ltI (bl (ks.getD j E0) (ks'.getD j E0))) (if cmpV l[j] l'[j] ≠ 0 then cmpV l[j] l'[j] else cmpVs k (l.drop (j + 1)) (ks.drop (j + 1)) (l'.drop (j + 1)) (ks'.drop (j + 1))) := by
  rw [List.drop_eq_getElem_cons h, List.drop_eq_getElem_cons h', cmpVs, headD_drop, headD_drop, List.tail_drop, List.tail_drop]
  congr
theorem cmpVs_end1 (k : Int) (l l' : List V) (ks ks' : List ByteArray) (j : Nat) (h : l.length ≤ j) : cmpVs k (l.drop j) (ks.drop j) (l'.drop j) (ks'.drop j) = if l'.length ≤ j then 0 else -1 := by
  rw [List.drop_eq_nil_of_le h, cmpVs, List.length_drop]
  by_cases h2 : l'.length ≤ j
  · rw [if_pos h2, if_pos (by omega)]
  · rw [if_neg h2, if_neg (by omega)]
theorem cmpVs_end2 (k : Int) (l l' : List V) (ks ks' : List ByteArray) (j : Nat) (h : j < l.length) (h' : l'.length ≤ j) : cmpVs k (l.drop j) (ks.drop j) (l'.drop j) (ks'.drop j) = 1 := by
  rw [List.drop_eq_getElem_cons h, List.drop_eq_nil_of_le h', cmpVs]
end Go.Proofs.YtdbfpojgaalfmaaDoor
