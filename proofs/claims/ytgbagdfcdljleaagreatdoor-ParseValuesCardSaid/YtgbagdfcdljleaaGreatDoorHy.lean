/-
  Parse's walk: the beginning of a value, whatever stands there; what holds of all states of a run.
-/
import Derived.Test.YtgbagdfcdljleaaGreatDoorHx
import Derived.Test.YtgbagdfcdljleaaGreatDoorHb
set_option linter.unusedVariables false
set_option linter.unusedSimpArgs false
namespace Go.Proofs.YtgbagdfcdljleaaGreatDoor
open Go.RowKit Go.Maps

section
variable {W0 W W' : World} {b : Nat} {s : ByteArray} {d : Int} {k : Nat} {op : List Fm} {ov : Value} {ys : List Value} {B : Nat → Prop}
theorem begin_any (h : PW W0 b s d k op ov ys B W) (hE : Ru.Env W0) (hop : op.length < 100000) (hd1 : -9223372036854775808 ≤ d) (hd2 : d + (op.length : Int) ≤ 9223372036854775807) (hs : s.size ≤ 200000) :
    Calls Tryz.prog 26 #[.pointer (some ⟨b, 0, none⟩)] W fun e W' => StepR W0 b s d ov B W (begM s.data.toList d k op) e W' := by
  rcases Nat.lt_or_ge k s.size with hk | hk
  · have hg : s.data.toList.getD k 0 = s[k] := by rw [List.getD, toList_getElem s k hk]; rfl
    have h0 : ¬ s.data.toList.length ≤ k := by rw [toList_length]; omega
    unfold begM
    rw [if_neg h0, hg]
    by_cases hdp : 24 < d + (op.length : Int)
    · rw [if_pos hdp]
      exact begin_deep h hk hdp hd1 hd2 hs
    rw [if_neg hdp]
    have hdp' : d + (op.length : Int) ≤ 24 := by omega
    by_cases c1 : s[k] = 110
    · rw [if_pos c1]
      exact begin_n h hk hdp' c1 hd1 hd2 hs
    rw [if_neg c1]
    by_cases c2 : s[k] = 102
    · rw [if_pos c2]
      exact begin_f h hk hdp' c2 hd1 hd2 hs
    rw [if_neg c2]
    by_cases c3 : s[k] = 116
    · rw [if_pos c3]
      exact begin_t h hk hdp' c3 hd1 hd2 hs
    rw [if_neg c3]
    by_cases c4 : s[k] = 45
    · rw [if_pos (by unfold numB; rw [c4]; rfl)]
      exact begin_m h hk hdp' c4 hd1 hd2 hs
    cases hd : Nu.isD s[k] with
    | true =>
      rw [if_pos (by unfold numB; rw [hd]; simp)]
      exact begin_d h hk hdp' hd hd1 hd2 hs
    | false =>
      rw [if_neg (by unfold numB; rw [hd, Bool.or_false, beq_iff_eq]; exact c4)]
      by_cases c5 : s[k] = 34
      · rw [if_pos c5]
        exact begin_q h hk hdp' hE c5 hd1 hd2 hs
      rw [if_neg c5]
      by_cases c6 : s[k] = 91
      · rw [if_pos c6]
        exact begin_l h hk hdp' hE hop c6 hd1 hd2 hs
      rw [if_neg c6]
      by_cases c7 : s[k] = 123
      · rw [if_pos c7]
        exact begin_o h hk hdp' hE hop c7 hd1 hd2 hs
      rw [if_neg c7]
      exact begin_x h hk hdp' hd c1 c2 c3 c4 c5 c6 c7 hd1 hd2 hs
  · have e : begM s.data.toList d k op = .error (s.size, 40) := by
      unfold begM
      rw [if_pos (by rw [toList_length]; exact hk), toList_length]
    rw [e]
    exact begin_eof h hk hd1 hd2 hs
end
/-- What holds of all states of a run. -/
def okOp (k : Nat) (op : List Fm) : Prop := op.length ≤ k ∧ ∀ f ∈ op, f.vs.length ≤ k ∧ f.ks.length ≤ k
theorem okOp.mono {k k' : Nat} {op : List Fm} (h : okOp k op) (hk : k ≤ k') : okOp k' op := ⟨Nat.le_trans h.1 hk, fun f hf => ⟨Nat.le_trans (h.2 f hf).1 hk, Nat.le_trans (h.2 f hf).2 hk⟩⟩
theorem keyM_ok {s : List UInt8} {k k' : Nat} {f f' : Fm} (h : keyM s k f = .ok (k', f')) : f'.vs = f.vs ∧ f'.ks.length ≤ f.ks.length + 1 := by
  unfold keyM at h
  split at h
  · cases h; exact ⟨rfl, by omega⟩
  split at h
  · cases h
  split at h
  · cases h
  split at h
  · cases h
  split at h
  · cases h
  cases h
  exact ⟨rfl, by simp⟩
theorem putM_okOp {s : List UInt8} {v : V} {k : Nat} {f : Fm} {op : List Fm} {st : St} (hk : k ≤ s.length) (h : putM s v k f op = .ok st) (ho : okOp k (f :: op)) : okOp st.pl st.op := by
  have hp := putM_end hk h
  unfold putM at h
  have h1 := ho.1
  simp only [List.length_cons] at h1
  split at h
  · cases h
    refine ⟨by show op.length ≤ _; exact Nat.le_trans (by omega) (Nat.le_of_lt hp.1), fun g hg => ?_⟩
    have := ho.2 g (List.mem_cons_of_mem _ hg)
    exact ⟨Nat.le_trans this.1 (Nat.le_of_lt hp.1), Nat.le_trans this.2 (Nat.le_of_lt hp.1)⟩
  split at h
  · cases h
  · split at h
    · cases h
    · rename_i k' f' hkm
      cases h
      obtain ⟨e1, e2⟩ := keyM_ok hkm
      have hlt : k < k' := hp.1
      refine ⟨by show (f' :: op).length ≤ k'; simp only [List.length_cons]; omega, fun g hg => ?_⟩
      rcases List.mem_cons.1 hg with rfl | hg
      · have h3 := ho.2 f (List.mem_cons_self ..)
        rw [e1]
        simp only [List.length_append, List.length_cons, List.length_nil] at e2 ⊢
        show _ ≤ k' ∧ _ ≤ k'
        omega
      · have := ho.2 g (List.mem_cons_of_mem _ hg)
        show _ ≤ k' ∧ _ ≤ k'
        omega
theorem enterM_okOp {s : List UInt8} {k : Nat} {f : Fm} {op : List Fm} {st : St} (hk : k < s.length) (h : enterM s k op f = .ok st) (hv : f.vs = []) (hks : f.ks = []) (ho : okOp k op) : okOp st.pl st.op := by
  have hp := enterM_end hk h
  unfold enterM at h
  split at h
  · cases h
    exact ho.mono (Nat.le_of_lt hp.1)
  · split at h
    · cases h
    · rename_i k' f' hkm
      cases h
      obtain ⟨e1, e2⟩ := keyM_ok hkm
      have hlt : k < k' := hp.1
      have h1 := ho.1
      refine ⟨by show (f' :: op).length ≤ k'; simp only [List.length_cons]; omega, fun g hg => ?_⟩
      rcases List.mem_cons.1 hg with rfl | hg
      · rw [e1, hv]
        rw [hks] at e2
        simp only [List.length_nil] at e2 ⊢
        show 0 ≤ k' ∧ _ ≤ k'
        omega
      · have := ho.2 g hg
        show _ ≤ k' ∧ _ ≤ k'
        omega
theorem begM_okOp {s : List UInt8} {d : Int} {k : Nat} {op : List Fm} {st : St} (h : begM s d k op = .ok st) (ho : okOp k op) : okOp st.pl st.op := by
  have hp := begM_end h
  have hw : ∀ {w v}, wordM s k op w v = .ok st → okOp st.pl st.op := fun {w v} h => by
    unfold wordM at h
    split at h
    · cases h; exact ho.mono (Nat.le_of_lt hp.1)
    · cases h
  unfold begM at h
  split at h
  · cases h
  split at h
  · cases h
  rename_i hk _
  split at h
  · exact hw h
  split at h
  · exact hw h
  split at h
  · exact hw h
  split at h
  · unfold numM at h
    split at h
    · cases h; exact ho.mono (Nat.le_of_lt hp.1)
    · cases h
  split at h
  · unfold texM at h
    split at h
    · cases h; exact ho.mono (Nat.le_of_lt hp.1)
    · cases h
  split at h
  · exact enterM_okOp (by omega) h rfl rfl ho
  split at h
  · exact enterM_okOp (by omega) h rfl rfl ho
  · cases h
end Go.Proofs.YtgbagdfcdljleaaGreatDoor
